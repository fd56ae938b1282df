/-
  Chapter 9: decimal numerals, as the laws write them and as the program reads them.
  Chapter 9: a number of a rest, out of its decimal numeral.
  Chapter 9: a rest of one number.
  Chapter 9: what a line prints that asks for one number.
-/
import Derived.Test.YtmpbbflolbakhaaGreatDoorLeaf
import Derived.Test.YtmpbbflolbakhaaGreatDoorRow
import Derived.Laws.IdiomStrings
import Derived.Lib.ItoaLen
import Derived.Laws.Concat
import Derived.Test.YtmpbbflolbakhaaGreatDoorShelf
import Derived.Lib.ConvBytes
import Derived.Lib.SplitLaws
import Derived.Lib.AppendIntMem
namespace Go.Proofs.YtmpbbflolbakhaaGreatDoor
open Go.RowKit

/-- One byte, made a string. -/
theorem byte_str (w : World) (b : UInt8) (t : TypeId) : (convert 22 9 (.slice (some ⟨w.heap.size, 0, none⟩) 1 1)).run Tryz.prog (w.alloc (.cells #[.int .u8 (b.toNat : Int)] t)) = .ok (.string ⟨#[b]⟩) (w.alloc (.cells #[.int .u8 (b.toNat : Int)] t)) := by
  refine run_convert_bytes_back (w.alloc (.cells #[.int .u8 (b.toNat : Int)] t)) 22 9 5 ⟨w.heap.size, 0, none⟩ 1 [b] Tryz.underlying22 Tryz.underlying5 Tryz.underlying9 (fun j hj => ?_)
  obtain rfl : j = 0 := by simp at hj; omega
  exact cell_one_new w (.int .u8 (b.toNat : Int)) t 0 _ rfl
theorem byte_in {w w' : World} {x : Int} {c : UInt8} {t : TypeId} (hx : Hid ((c.toNat : Int) = x)) (hb : Below ((w.alloc (.cells #[.int .u8 x] t)).drew).heap.size ((w.alloc (.cells #[.int .u8 x] t)).drew) w') :
    (convert 22 9 (.slice (some ⟨w.heap.size, 0, none⟩) 1 1)).run Tryz.prog w' = .ok (.string ⟨#[c]⟩) w' := by
  have hx := hx.out
  subst hx
  refine run_convert_bytes_back w' 22 9 5 ⟨w.heap.size, 0, none⟩ 1 [c] Tryz.underlying22 Tryz.underlying5 Tryz.underlying9 (fun j hj => ?_)
  obtain rfl : j = 0 := by simp at hj; omega
  have h1 : w.heap.size < ((w.alloc (.cells #[.int .u8 (c.toNat : Int)] t)).drew).heap.size := by show w.heap.size < (w.alloc (.cells #[.int .u8 (c.toNat : Int)] t)).heap.size; simp
  have h2 := hb.block _ h1
  rw [World.cell?_of_block (a := (⟨w.heap.size, 0, none⟩ : Addr).add 0) h2]
  exact cell_one_new w (.int .u8 (c.toNat : Int)) t 0 _ rfl
theorem str_add (a b : List UInt8) (ha : a.length ≤ 8388608) (hb : b.length ≤ 8388608) (w : World) : (Op.stringOp .add ⟨a.toArray⟩ ⟨b.toArray⟩).run Tryz.prog w = .ok (.string ⟨(a ++ b).toArray⟩) w :=
  run_string_add_lists w a b (by omega) (by omega)
theorem dec_len (n : Nat) (h : n ≤ 1000000) : (Lib.decDigits n).length ≤ 20 := by rw [Lib.decDigits_length]; exact Lib.nDigits_le20 n (by omega)
theorem byte_nat {k : Nat} (hk : k ≤ 9) : ((UInt8.ofNat (48 + k)).toNat : Int) = 48 + k := by
  have : (UInt8.ofNat (48 + k)).toNat = 48 + k := by rw [UInt8.toNat_ofNat']; exact Nat.mod_eq_of_lt (by omega)
  rw [this]; omega

set_option maxRecDepth 100000 in
set_option maxHeartbeats 1000000 in
theorem digits_any (n : Nat) : ∀ (w : World), n ≤ 1000000 → Calls Tryz.prog 10 #[.int .i64 n] w fun e w' => e = .returned (.string ⟨(Lib.decDigits n).toArray⟩) ∧ Below w.heap.size w w' := by
  induction n using Nat.strongRecOn with
  | _ n ih =>
    intro w hn
    by_cases h : n < 10
    · obtain ⟨c, hc⟩ : ∃ c : UInt8, UInt8.ofNat (48 + n) = c := ⟨_, rfl⟩
      have hb := byte_str w c
      rw [← hc, byte_nat (by omega), hc] at hb
      have hd : Lib.decDigits n = [c] := by rw [Lib.decDigits, dif_pos h, hc]
      have hlt : ((n : Int) < 10) := by omega
      rw [hd]
      clear ih hd hc
      go_enter Tryz.func10, Tryz.ntmps10
      go_wp2_with fail
      go_ret
      exact ⟨rfl, (Below.refl _ _).alloc (Nat.le_refl _) _⟩
    · obtain ⟨c, hc⟩ : ∃ c : UInt8, UInt8.ofNat (48 + n % 10) = c := ⟨_, rfl⟩
      have hb := fun w => byte_str w c
      have hcn : ((c.toNat : Nat) : Int) = 48 + ((n % 10 : Nat) : Int) := by rw [← hc, byte_nat (by omega)]
      rw [hcn] at hb
      have hd : Lib.decDigits n = Lib.decDigits (n / 10) ++ [c] := by rw [Lib.decDigits, dif_neg h, hc]
      have hlt : ¬ ((n : Int) < 10) := by omega
      have IH := Lib.hid (fun w => ih (n / 10) (by omega) w (by omega))
      have hq : Int.tdiv (n : Int) 10 = ((n / 10 : Nat) : Int) := by rw [Int.tdiv_eq_ediv_of_nonneg (by omega)]; omega
      have hr : Int.tmod (n : Int) 10 = ((n % 10 : Nat) : Int) := by rw [Int.tmod_eq_emod_of_nonneg (by omega)]; omega
      have hm : n % 10 < 10 := Nat.mod_lt _ (by omega)
      have hqn : n / 10 ≤ 1000000 := by omega
      rw [hd]
      have HX := Lib.hid hcn
      have hb2 := fun (w : World) (t : TypeId) => byte_in (w := w) (t := t) HX (Below.refl _ _)
      clear ih hd hc hcn
      have hl := dec_len (n / 10) (by omega)
      generalize Lib.decDigits (n / 10) = D at IH hl ⊢
      have hadd : ∀ w, (Op.stringOp .add ⟨D.toArray⟩ ⟨#[c]⟩).run Tryz.prog w = .ok (.string ⟨(D ++ [c]).toArray⟩) w := fun w => str_add D [c] (by omega) (by simp) w
      generalize hE : D ++ [c] = E at hadd ⊢
      clear hE hl
      generalize n / 10 = Q at hq IH hqn
      generalize n % 10 = R at hr hb hb2 hm HX
      have hw1 : IntKind.i64.wrap (Q : Int) = Q := IntWalk.i64_in _ (by omega)
      have hw2 : IntKind.i64.wrap (48 + (R : Int)) = 48 + R := IntWalk.i64_in _ (by omega)
      have hw3 : IntKind.u8.wrap (48 + (R : Int)) = 48 + R := by unfold IntKind.wrap; simp [IntKind.bits, IntKind.signed]; omega
      go_enter Tryz.func10, Tryz.ntmps10
      go_wp2_with fail
      go_region_with (go_at_call 10; with_reducible refine Calls.mono (IH.out _) ?_; rintro e w' ⟨rfl, hb1⟩; try have hcv := byte_in HX hb1)
      all_goals (
        go_wp2_with fail
        go_ret
        refine ⟨rfl, ?_⟩
        first
          | exact ((Below.refl w.heap.size w).drew.trans hb1).alloc ((Below.refl w.heap.size w).drew.trans hb1).size _
          | exact (((Below.refl w.heap.size w).alloc (Nat.le_refl _) _).drew).trans (hb1.mono (by show w.heap.size ≤ (World.alloc _ _).heap.size; simp)))

end Go.Proofs.YtmpbbflolbakhaaGreatDoor

namespace Go.Proofs.YtmpbbflolbakhaaGreatDoor
open Go.RowKit

/-- The number that decimal digits tell. -/
def numV (l : List UInt8) : Nat := l.foldl (fun a b => a * 10 + (b.toNat - 48)) 0
theorem numV_snoc (l : List UInt8) (b : UInt8) : numV (l ++ [b]) = numV l * 10 + (b.toNat - 48) := by unfold numV; rw [List.foldl_append]; rfl
theorem dec_snoc {n : Nat} (h : ¬ n < 10) : Lib.decDigits n = Lib.decDigits (n / 10) ++ [UInt8.ofNat (48 + n % 10)] := by rw [Lib.decDigits, dif_neg h]
theorem dec_one {n : Nat} (h : n < 10) : Lib.decDigits n = [UInt8.ofNat (48 + n)] := by rw [Lib.decDigits, dif_pos h]
theorem ofNat_dig {k : Nat} (h : k < 10) : (UInt8.ofNat (48 + k)).toNat = 48 + k := by rw [UInt8.toNat_ofNat']; exact Nat.mod_eq_of_lt (by omega)
theorem numV_dec (n : Nat) : numV (Lib.decDigits n) = n := by
  induction n using Nat.strongRecOn with
  | _ n ih =>
    by_cases h : n < 10
    · rw [dec_one h]
      show 0 * 10 + ((UInt8.ofNat (48 + n)).toNat - 48) = n
      rw [ofNat_dig h]; omega
    · rw [dec_snoc h, numV_snoc, ih (n / 10) (by omega), ofNat_dig (Nat.mod_lt _ (by omega))]; omega
theorem dec_dig (n : Nat) : ∀ b ∈ Lib.decDigits n, 48 ≤ b.toNat ∧ b.toNat ≤ 57 := by
  induction n using Nat.strongRecOn with
  | _ n ih =>
    intro b hb
    by_cases h : n < 10
    · rw [dec_one h] at hb
      rw [List.mem_singleton.1 hb, ofNat_dig h]; omega
    · rw [dec_snoc h] at hb
      rcases List.mem_append.1 hb with hb | hb
      · exact ih _ (by omega) b hb
      · have := Nat.mod_lt n (show 0 < 10 by omega)
        rw [List.mem_singleton.1 hb, ofNat_dig this]; omega
theorem dec_short : ∀ (k n : Nat), n < 10 ^ (k + 1) → (Lib.decDigits n).length ≤ k + 1 := by
  intro k
  induction k with
  | zero => intro n h; rw [dec_one (by omega)]; exact Nat.le_refl _
  | succ k ih =>
    intro n h
    by_cases h2 : n < 10
    · rw [dec_one h2]; simp
    · rw [dec_snoc h2, List.length_append]
      have := ih (n / 10) (by rw [Nat.pow_succ] at h; omega)
      simp; omega
theorem dec_pos (n : Nat) : 0 < (Lib.decDigits n).length := by
  by_cases h : n < 10
  · rw [dec_one h]; simp
  · rw [dec_snoc h, List.length_append]; simp
theorem snoc_ind {α : Type} {p : List α → Prop} (k : List α) (nil : p []) (snoc : ∀ k x, p k → p (k ++ [x])) : p k := by
  have : ∀ m (k : List α), k.length = m → p k := fun m => by
    induction m with
    | zero => intro k hk; rw [List.length_eq_zero_iff.1 hk]; exact nil
    | succ m ih =>
      intro k hk
      have hne : k ≠ [] := fun e => by rw [e] at hk; cases hk
      rw [← List.dropLast_concat_getLast hne]
      exact snoc _ _ (ih _ (by rw [List.length_dropLast, hk]; rfl))
  exact this _ k rfl
theorem numV_lt {l : List UInt8} (h : ∀ b ∈ l, b.toNat ≤ 57) : numV l < 10 ^ l.length := by
  refine snoc_ind (p := fun l => (∀ b ∈ l, b.toNat ≤ 57) → numV l < 10 ^ l.length) l (fun _ => by simp [numV]) (fun l b ih h => ?_) h
  have h1 := ih fun x hx => h x (List.mem_append_left _ hx)
  have h2 := h b (List.mem_append_right _ (List.mem_singleton.2 rfl))
  rw [numV_snoc, List.length_append, Nat.pow_add]
  show _ < 10 ^ l.length * 10 ^ 1
  omega

/-- A string's bytes, as a row of one's own. -/
theorem str_bytes (D : List UInt8) (w : World) : ∃ c W1, (convert 9 22 (.string ⟨D.toArray⟩)).run Tryz.prog w = .ok (.slice (some ⟨w.heap.size, 0, none⟩) D.length c) W1 ∧
    (∀ j b, D[j]? = some b → W1.cell? ⟨w.heap.size, j, none⟩ = some (.int .u8 (b.toNat : Int))) ∧ Below w.heap.size w W1 := by
  refine ⟨_, _, Lib.run_convert_string_bytes w 9 22 5 ⟨D.toArray⟩ Tryz.underlying9 Tryz.underlying22 Tryz.underlying5, fun j b hj => ?_, ?_⟩
  · have hl : j < D.length := (List.getElem?_eq_some_iff.1 hj).1
    rw [Lib.bytesWorld_cell w _ _ j (by show j < D.toArray.size; simpa using hl)]
    show some (Value.int .u8 ((D.getD j 0).toNat : Int)) = _
    rw [List.getD_eq_getElem?_getD, hj]; rfl
  · exact ⟨rfl, rfl, rfl, by rw [Lib.bytesWorld_size]; omega, fun k hk => Lib.bytesWorld_at_old w _ _ k hk⟩

set_option maxRecDepth 100000 in
set_option maxHeartbeats 1000000 in
theorem restNumber_dec (n : Nat) (w : World) (hn : n ≤ 99999) :
    Calls Tryz.prog 92 #[.string ⟨(Lib.decDigits n).toArray⟩] w fun e w' => e = .returned (.int .i64 n) ∧ Below w.heap.size w w' := by
  have hV := numV_dec n
  have hD := dec_dig n
  have hL := dec_short 4 n (by omega)
  have hP := dec_pos n
  generalize Lib.decDigits n = D at hV hD hL hP ⊢
  have hp1 : Lib.hasPrefix D [45] = false := by
    cases D with
    | nil => simp at hP
    | cons d D =>
      have := hD d (List.mem_cons_self ..)
      have hne : ¬ d = 45 := fun e => by rw [e] at this; simp at this
      show [45].isPrefixOf (d :: D) = false
      simp [List.isPrefixOf, Ne.symm hne]
  have hp2 : Lib.trimPrefix D [45] = D := by unfold Lib.trimPrefix; rw [hp1]; rfl
  have hn0 : ((D.length : Int) == 0) = false := beq_eq_false_iff_ne.2 (by omega)
  have hn5 : decide (5 < (D.length : Int)) = false := by simp; omega
  obtain ⟨c1, W1, hcv, hcells, hb1⟩ := str_bytes D w
  go_enter Tryz.func92, Tryz.ntmps92
  go_wp2_with (go_at_call 129; refine (Tryz.strings_CutPrefix ⟨D.toArray⟩ ⟨#[45]⟩ _).mono ?_; rintro e w' ⟨rfl, rfl⟩)
  go_loop [5, 7, 25] (fun s _ i => ∃ k : Nat, k ≤ D.length ∧ i = .int .i64 k ∧ s = .int .i64 (numV (D.take k))) (fun _ _ i => D.length - (intOf i).toNat)
  case atStart => exact ⟨0, by omega, rfl, rfl⟩
  case round =>
    obtain ⟨k, hk, rfl, rfl⟩ := hrel
    by_cases hlt : k < D.length
    · have hi : decide ((k : Int) < (D.length : Int)) = true := by simp; omega
      obtain ⟨b, hb⟩ : ∃ b, D[k]? = some b := ⟨D[k]'hlt, List.getElem?_eq_getElem hlt⟩
      have hc := hcells k b hb
      obtain ⟨h48, h57⟩ := hD b (List.mem_of_getElem? hb)
      have hs : numV (D.take (k + 1)) = numV (D.take k) * 10 + (b.toNat - 48) := by rw [List.take_add_one, hb]; exact numV_snoc _ _
      have hv : numV (D.take k) < 10 ^ 5 := by
        have h1 := numV_lt (l := D.take k) fun x hx => (hD x (List.mem_of_mem_take hx)).2
        have h2 : (D.take k).length ≤ 5 := by rw [List.length_take]; omega
        exact Nat.lt_of_lt_of_le h1 (Nat.pow_le_pow_right (by omega) h2)
      have HS := Lib.hid hs
      clear hs hD hcells
      generalize numV (D.take k) = V at hv HS ⊢
      generalize b.toNat = B at hc h48 h57 HS
      have i1 : decide ((B : Int) < 48) = false := by simp; omega
      have i2 : decide (57 < (B : Int)) = false := by simp; omega
      have hw1 : IntKind.u8.wrap ((B : Int) - 48) = (B : Int) - 48 := by unfold IntKind.wrap; simp [IntKind.bits, IntKind.signed]; omega
      go_wp2_with fail
      refine ⟨⟨k + 1, by omega, by simp, ?_⟩, by simp [intOf]; omega⟩
      rw [HS.out]
      congr 1
      omega
    · obtain rfl : k = D.length := by omega
      have hi : decide ((D.length : Int) < (D.length : Int)) = false := by simp
      go_wp2_with fail
      go_ret
      exact ⟨rfl, hb1⟩

end Go.Proofs.YtmpbbflolbakhaaGreatDoor

namespace Go.Proofs.YtmpbbflolbakhaaGreatDoor
open Go.RowKit

/-- A string without the sign between: one piece. -/
theorem split_none (D : List UInt8) (c : UInt8) (h : c ∉ D) (hl : D.length ≤ 1000) (m : Int) (W : World) (hm : W.cell? ⟨0, 0, none⟩ = some (.int .i64 m)) :
    Calls Tryz.prog 20 #[.string ⟨D.toArray⟩, .string ⟨#[c]⟩] W fun e w' => e = .returned (.slice (some ⟨W.heap.size, 0, none⟩) 1 1) ∧ w' = W.alloc (.cells #[.string ⟨D.toArray⟩] 9) := by
  have hc : Lib.countB ⟨D.toArray⟩ ⟨#[c]⟩ = 0 := by
    show Lib.count D [c] = 0
    rw [Lib.count_one]; exact List.count_eq_zero.2 h
  have hs := Tryz.strings_Split ⟨D.toArray⟩ ⟨#[c]⟩ m W (by show D.toArray.size < _; simp; omega) hm (by show 1 ≤ (#[c] : Array UInt8).size; simp)
  rw [hc] at hs
  exact hs

theorem make_one (w : World) : (Instr.makeSlice 27 (.int .i64 1) (.int .i64 1)).run Tryz.prog w = .ok (.slice (some ⟨w.heap.size, 0, none⟩) 1 1) (w.alloc (.cells #[.int .i64 0] 3)) := by
  obtain ⟨i0, hi, hz0, hz1, hz2⟩ := info_parts infoInt
  have hr := run_make (P := Tryz.prog) w 27 3 i0 (.int .i64 0) Tryz.underlying27 hi hz0 .i64 .i64 1 1 (by omega) (by omega) (by rw [hz2]; omega) (by omega)
  rw [hz1] at hr
  have e : madeCells #[Value.int .i64 0] 1 = #[Value.int .i64 0] := by
    apply Array.toList_inj.1
    rw [toList_madeCells_one]; rfl
  rw [← e]
  exact hr
set_option maxRecDepth 100000 in
set_option maxHeartbeats 2000000 in
theorem restNumbers_one (n : Nat) (m : Int) (w : World) (hn : n ≤ 99999) (hm : w.cell? ⟨0, 0, none⟩ = some (.int .i64 m)) :
    Calls Tryz.prog 47 #[.string ⟨(Lib.decDigits n).toArray⟩, .int .i64 1] w fun e w' => ∃ g, e = .returned (.slice (some ⟨g, 0, none⟩) 1 1) ∧ w.heap.size ≤ g ∧ g < w'.heap.size ∧ w'.cell? ⟨g, 0, none⟩ = some (.int .i64 n) ∧ Below w.heap.size w w' := by
  have hD := dec_dig n
  have hL := dec_short 4 n (by omega)
  have hS := fun W => split_none (Lib.decDigits n) 32 (fun h => by have := hD 32 h; simp at this) (by omega) m W
  have HN := Lib.hid (fun W => restNumber_dec n W hn)
  clear hD hL
  generalize Lib.decDigits n = D at hS HN ⊢
  have hmk := make_one
  go_enter Tryz.func47, Tryz.ntmps47
  go_wp2_with (go_at_call 20; refine (hS _ hm).mono ?_; rintro e w' ⟨rfl, rfl⟩)
  clear hS hmk
  obtain ⟨W0, hW0⟩ : ∃ W0, (w.alloc (.cells #[.string ⟨D.toArray⟩] 9)).alloc (.cells #[.int .i64 0] 3) = W0 := ⟨_, rfl⟩
  have hz0 : W0.heap.size = w.heap.size + 2 := by rw [← hW0]; simp
  have hb0 : Below w.heap.size w W0 := by rw [← hW0]; exact ((Below.refl _ _).alloc (Nat.le_refl _) _).alloc (by simp) _
  have hx0 : W0.cell? ⟨w.heap.size, 0, none⟩ = some (.string ⟨D.toArray⟩) := by
    rw [← hW0, World.cell?_of_block (a := ⟨w.heap.size, 0, none⟩) (Below.heap_alloc _ _ w.heap.size (by simp))]
    exact cell_one_new w _ _ 0 _ rfl
  have hy0 : W0.heap[w.heap.size + 1]? = some (.cells #[.int .i64 0] 3 (0, 0)) := by
    rw [← hW0]
    have := heap_alloc_new (w.alloc (.cells #[.string ⟨D.toArray⟩] 9)) (.cells #[.int .i64 0] 3)
    simpa using this
  rw [hW0]
  clear hW0
  go_loopw [7, 8, 20] (fun _ _ x wr => ∃ q : Nat, q ≤ 1 ∧ x = .int .i64 q ∧ wr.heap.size ≥ w.heap.size + 2 ∧ wr.cell? ⟨w.heap.size, 0, none⟩ = some (.string ⟨D.toArray⟩) ∧ Hid (wr.heap[w.heap.size + 1]? = some (.cells #[.int .i64 ((q * n : Nat) : Int)] 3 (0, 0))) ∧ Hid (Below w.heap.size w wr)) (fun _ _ x _ => 1 - (intOf x).toNat)
  case atStart => exact ⟨0, by omega, rfl, by omega, hx0, by rw [Nat.zero_mul]; exact hy0, hb0⟩
  case round =>
    obtain ⟨q, hq, rfl, hsz, hx, hy, hb⟩ := hrel
    by_cases hlt : q = 0
    · subst hlt
      clear hx0 hy0 hb0 hz0
      go_wp2_with fail
      refine (HN.out _).mono ?_
      rintro e w1 ⟨rfl, hb1⟩
      have hy1 : w1.heap[w.heap.size + 1]? = some (.cells #[.int .i64 0] 3 (0, 0)) := (hb1.block _ (by omega)).trans (by have := hy.out; rwa [Nat.zero_mul] at this)
      have hc1 : w1.cell? ⟨w.heap.size + 1, 0, none⟩ = some (.int .i64 0) := by simp [World.cell?, hy1]
      have hf1 : w1.frozen? ⟨w.heap.size + 1, 0, none⟩ = false := by simp [World.frozen?, hy1]
      have hx1 : w1.cell? ⟨w.heap.size, 0, none⟩ = some (.string ⟨D.toArray⟩) := by rw [World.cell?_of_block (a := ⟨w.heap.size, 0, none⟩) (hb1.block _ (by show w.heap.size < _; omega))]; exact hx
      have hB1 := hb.out.trans (hb1.mono hb.out.size)
      have hs1 := hb1.size
      have HY := Lib.hid hy1
      have HB := Lib.hid hB1
      clear hy1 hB1 hb1 hb hy hx
      go_wp2_with fail
      refine ⟨⟨1, by omega, rfl, by simp; omega, ?_, ?_, ?_⟩, by simp [intOf]⟩
      · have hne : (⟨w.heap.size + 1, 0, none⟩ : Addr) ≠ ⟨w.heap.size, 0, none⟩ := by simp
        rw [World.cell?_setCell_other _ _ _ _ hne]; exact hx1
      · have := heap_setCell_same w1 (w.heap.size + 1) 0 #[.int .i64 0] 3 (.int .i64 (n : Int)) HY.out
        show _ = _
        rw [this, Nat.one_mul]; rfl
      · exact HB.out.setCell (by show w.heap.size ≤ w.heap.size + 1; omega) _
    · obtain rfl : q = 1 := by omega
      go_wp2_with fail
      go_ret
      exact ⟨_, rfl, by omega, by omega, by have := hy.out; simp [World.cell?, this], hb.out⟩

end Go.Proofs.YtmpbbflolbakhaaGreatDoor

namespace Go.Proofs.YtmpbbflolbakhaaGreatDoor
open Go.RowKit

set_option maxRecDepth 100000 in
set_option maxHeartbeats 1000000 in
theorem listOutput_one (D sep : List UInt8) (g c : Nat) (w : World) (hl : D.length ≤ 1000) (hg : g < w.heap.size) (hc1 : 1 ≤ c) (hc : w.cell? ⟨g, 0, none⟩ = some (.string ⟨D.toArray⟩)) :
    Calls Tryz.prog 140 #[.slice (some ⟨g, 0, none⟩) 1 c, .string ⟨sep.toArray⟩, .bool true] w fun e w' => e = .returned (.string ⟨D.toArray⟩) ∧ Below w.heap.size w w' := by
  have hj := Tryz.strings_Join g 0 c [⟨D.toArray⟩] ⟨sep.toArray⟩ w (fun j x h => by
    cases j with
    | zero => simp at h; subst h; exact hc
    | succ j => simp at h) hg (by simp) (by simpa using hc1) (by simp [Lib.join, List.intercalate]; omega)
  have e : Lib.join (List.map (fun x => x.data.toList) [(⟨D.toArray⟩ : ByteArray)]) sep = D := by simp [Lib.join, List.intercalate]
  rw [e] at hj
  go_enter Tryz.func140, Tryz.ntmps140
  go_wp2_with (go_at_call 170; refine hj.mono ?_; rintro e w' ⟨rfl, hb⟩)
  go_ret
  exact ⟨rfl, hb⟩

theorem owns_kept1 {w w' : World} {base : Nat} {e : TypeId} {size : Nat} {v : Value} {n : Nat} {xs : List Value} (h : w.ownsRow base e size v n xs) (hb : Below w.heap.size w w') : w'.ownsRow base e size v n xs := by
  refine ⟨h.1, h.2.imp id ?_⟩
  rintro ⟨g', cap', cur', e1, e2, e3, e4⟩
  exact ⟨g', cap', cur', e1, e2, (hb.block g' (Array.getElem?_eq_some_iff.1 e3).1).trans e3, e4⟩
theorem infoStr : (Tryz.prog.info? 9).map (fun i => (i.zero, i.size, i.bytes)) = some (some (.string ⟨#[]⟩), 1, 16) := by kernel_rfl
set_option maxRecDepth 100000 in
set_option maxHeartbeats 2000000 in
theorem numOut_one (k g : Nat) (w : World) (hk : k ≤ 1000000) (hg : g < w.heap.size) (hc : w.cell? ⟨g, 0, none⟩ = some (.int .i64 k))
    (htab : Lib.TabBelow Tryz.prog w.heap.size w "internal/strconv.uint64pow10" .u64 Lib.pow10Tab) :
    Calls Tryz.prog 104 #[.slice (some ⟨g, 0, none⟩) 1 1, .bool true] w fun e w' => e = .returned (.string ⟨(Lib.decDigits k).toArray⟩) ∧ Below w.heap.size w w' := by
  have hI : Hid (∀ W, Below w.heap.size w W → Calls Tryz.prog 23 #[.int .i64 k] W fun e w' => e = .returned (.string ⟨(Lib.decDigits k).toArray⟩) ∧ Below W.heap.size W w') := fun W hb => by
    refine (Tryz.strconv_Itoa k (by omega) (by omega) W (htab W hb)).mono ?_
    rintro e w' ⟨rfl, q, os, rfl⟩
    rw [Lib.itoa_nonneg]
    exact ⟨rfl, Lib.below_grow _ W (Nat.le_refl _) q os⟩
  have hl := dec_len k hk
  generalize Lib.decDigits k = D at hI hl ⊢
  clear htab
  obtain ⟨i0, hi, hz0, hz1, hz2⟩ := info_parts infoStr
  go_enter Tryz.func104, Tryz.ntmps104
  go_wp2_with fail
  go_loopw [5, 7, 11] (fun v _ x wr => ∃ q : Nat, q ≤ 1 ∧ x = .int .i64 q ∧ wr.ownsRow w.heap.size 9 1 v q (List.replicate q (Value.string ⟨D.toArray⟩)) ∧ Below w.heap.size w wr) (fun _ _ x _ => 1 - (intOf x).toNat)
  case atStart =>
    refine ⟨0, by omega, rfl, ?_, (Below.refl _ _).alloc (Nat.le_refl _) _⟩
    exact World.ownsRow_made (base := w.heap.size) (e := 9) (size := 1) w #[] 0 (Nat.le_refl _) (by simp) (by simp)
  case round =>
    obtain ⟨q, hq, rfl, hown, hbel⟩ := hrel
    have HW := Lib.hid hown
    have HB := Lib.hid hbel
    have hwsz := hbel.size
    by_cases hlt : q = 0
    · subst hlt
      have hc2 : wr.cell? ⟨g, 0, none⟩ = some (.int .i64 k) := by rw [World.cell?_of_block (a := ⟨g, 0, none⟩) (hbel.block g hg)]; exact hc
      clear hown hbel
      go_wp2_with fail
      refine (hI.out _ HB.out).mono ?_
      rintro e w1 ⟨rfl, hb1⟩
      have hB1 := HB.out.trans (hb1.mono HB.out.size)
      have HW1 := Lib.hid (owns_kept1 HW.out hb1)
      have HB1 := Lib.hid hB1
      have hwsz1 := hB1.size
      clear hB1 hb1 HW HB
      go_wp2_with (at_builtin; refine wpList_append_own_at _ rfl _ _ 45 rfl w.heap.size 9 i0 (.string ⟨#[]⟩) 1 16 Tryz.underlying45 hi hz0 hz1 hz2 rfl (by decide) _ _ _ rfl (HW1.out.alloc _) ⟨w1.heap.size, 0, none⟩ 1 1 [.string ⟨D.toArray⟩] rfl rfl ?c1 ?c2 ?c3 ?c4 ?c5 ?_)
      case c1 => exact cell_one_new _ _ _
      case c2 => simp [Value.oneCell']
      case c3 => unfold maxLen; omega
      case c4 => omega
      case c5 => (try simp); omega
      intro v' w3 hown' hgrow _ _
      have hb3 := (HB1.out.alloc HB1.out.size (.cells #[.string ⟨D.toArray⟩] 9)).grown hgrow (by simp; omega) (fun q e => by
        rcases HW1.out.2 with ⟨rfl, _⟩ | ⟨g', cap', cur', rfl, hb, _⟩
        · cases e
        · cases e; exact hb)
      have HW3 := Lib.hid hown'
      clear hown' hgrow HW1
      go_wp2_with fail
      exact ⟨⟨1, by omega, rfl, HW3.out, hb3⟩, by simp [intOf]⟩
    · obtain rfl : q = 1 := by omega
      obtain ⟨g1, c1, rfl⟩ : ∃ g1 c1, u5 = .slice (some ⟨g1, 0, none⟩) 1 c1 := by
        rcases hown.2 with ⟨_, h⟩ | ⟨g1, c1, _, h, _⟩
        · omega
        · exact ⟨g1, c1, h⟩
      have hcap : 1 ≤ c1 := by
        rcases hown.2 with ⟨h, _⟩ | ⟨g', cap', cur', h, _, _, h2, _⟩
        · cases h
        · cases h; exact h2
      have hlt1 := (hown.lt g1 rfl).2
      have hcell := hown.cellAt 0 (by omega)
      have hO : Hid (∀ W, W = wr → Calls Tryz.prog 140 #[.slice (some ⟨g1, 0, none⟩) 1 c1, .string ⟨#[32]⟩, .bool true] W fun e w' => e = .returned (.string ⟨D.toArray⟩) ∧ Below W.heap.size W w') := fun W e => by
        subst e
        exact listOutput_one D [32] g1 c1 W (by omega) hlt1 hcap hcell
      clear hown hbel hcell
      go_wp2_with fail
      refine (hO.out _ rfl).mono ?_
      rintro e w1 ⟨rfl, hb1⟩
      go_wp2_with fail
      go_ret
      exact ⟨rfl, HB.out.trans (hb1.mono HB.out.size)⟩

end Go.Proofs.YtmpbbflolbakhaaGreatDoor
