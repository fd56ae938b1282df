/-
  Chapter 9: a number of a rest, out of its decimal numeral.
-/
import Derived.Test.YtmpbbflolbakhaaGreatDoorCmdD
import Derived.Lib.ConvBytes
namespace Go.Proofs.YtmpbbflolbakhaaGreatDoor
open Go.RowKit

/-- The number that decimal digits tell. -/
def numV (l : List UInt8) : Nat := l.foldl (fun a b => a * 10 + (b.toNat - 48)) 0
theorem numV_snoc (l : List UInt8) (b : UInt8) : numV (l ++ [b]) = numV l * 10 + (b.toNat - 48) := by unfold numV; rw [List.foldl_append]; rfl
theorem dec_snoc {n : Nat} (h : ¬ n < 10) : Lib.decDigits n = Lib.decDigits (n / 10) ++ [UInt8.ofNat (48 + n % 10)] := by rw [Lib.decDigits, dif_neg h]
theorem dec_one {n : Nat} (h : n < 10) : Lib.decDigits n = [UInt8.ofNat (48 + n)] := by rw [Lib.decDigits, dif_pos h]
theorem ofNat_dig {k : Nat} (h : k < 10) : (UInt8.ofNat (48 + k)).toNat = 48 + k := by rw [UInt8.toNat_ofNat']; exact Nat.mod_eq_of_lt (by omega)
theorem numV_dec (n : Nat) : numV (Lib.decDigits n) = n := by
  induction n using Nat.strongRecOn with
  | _ n ih =>
    by_cases h : n < 10
    · rw [dec_one h]
      show 0 * 10 + ((UInt8.ofNat (48 + n)).toNat - 48) = n
      rw [ofNat_dig h]; omega
    · rw [dec_snoc h, numV_snoc, ih (n / 10) (by omega), ofNat_dig (Nat.mod_lt _ (by omega))]; omega
theorem dec_dig (n : Nat) : ∀ b ∈ Lib.decDigits n, 48 ≤ b.toNat ∧ b.toNat ≤ 57 := by
  induction n using Nat.strongRecOn with
  | _ n ih =>
    intro b hb
    by_cases h : n < 10
    · rw [dec_one h] at hb
      rw [List.mem_singleton.1 hb, ofNat_dig h]; omega
    · rw [dec_snoc h] at hb
      rcases List.mem_append.1 hb with hb | hb
      · exact ih _ (by omega) b hb
      · have := Nat.mod_lt n (show 0 < 10 by omega)
        rw [List.mem_singleton.1 hb, ofNat_dig this]; omega
theorem dec_short : ∀ (k n : Nat), n < 10 ^ (k + 1) → (Lib.decDigits n).length ≤ k + 1 := by
  intro k
  induction k with
  | zero => intro n h; rw [dec_one (by omega)]; exact Nat.le_refl _
  | succ k ih =>
    intro n h
    by_cases h2 : n < 10
    · rw [dec_one h2]; simp
    · rw [dec_snoc h2, List.length_append]
      have := ih (n / 10) (by rw [Nat.pow_succ] at h; omega)
      simp; omega
theorem dec_pos (n : Nat) : 0 < (Lib.decDigits n).length := by
  by_cases h : n < 10
  · rw [dec_one h]; simp
  · rw [dec_snoc h, List.length_append]; simp
theorem snoc_ind {α : Type} {p : List α → Prop} (k : List α) (nil : p []) (snoc : ∀ k x, p k → p (k ++ [x])) : p k := by
  have : ∀ m (k : List α), k.length = m → p k := fun m => by
    induction m with
    | zero => intro k hk; rw [List.length_eq_zero_iff.1 hk]; exact nil
    | succ m ih =>
      intro k hk
      have hne : k ≠ [] := fun e => by rw [e] at hk; cases hk
      rw [← List.dropLast_concat_getLast hne]
      exact snoc _ _ (ih _ (by rw [List.length_dropLast, hk]; rfl))
  exact this _ k rfl
theorem numV_lt {l : List UInt8} (h : ∀ b ∈ l, b.toNat ≤ 57) : numV l < 10 ^ l.length := by
  refine snoc_ind (p := fun l => (∀ b ∈ l, b.toNat ≤ 57) → numV l < 10 ^ l.length) l (fun _ => by simp [numV]) (fun l b ih h => ?_) h
  have h1 := ih fun x hx => h x (List.mem_append_left _ hx)
  have h2 := h b (List.mem_append_right _ (List.mem_singleton.2 rfl))
  rw [numV_snoc, List.length_append, Nat.pow_add]
  show _ < 10 ^ l.length * 10 ^ 1
  omega

/-- A string's bytes, as a row of one's own. -/
theorem str_bytes (D : List UInt8) (w : World) : ∃ c W1, (convert 9 22 (.string ⟨D.toArray⟩)).run Tryz.prog w = .ok (.slice (some ⟨w.heap.size, 0, none⟩) D.length c) W1 ∧
    (∀ j b, D[j]? = some b → W1.cell? ⟨w.heap.size, j, none⟩ = some (.int .u8 (b.toNat : Int))) ∧ Below w.heap.size w W1 := by
  refine ⟨_, _, Lib.run_convert_string_bytes w 9 22 5 ⟨D.toArray⟩ Tryz.underlying9 Tryz.underlying22 Tryz.underlying5, fun j b hj => ?_, ?_⟩
  · have hl : j < D.length := (List.getElem?_eq_some_iff.1 hj).1
    rw [Lib.bytesWorld_cell w _ _ j (by show j < D.toArray.size; simpa using hl)]
    show some (Value.int .u8 ((D.getD j 0).toNat : Int)) = _
    rw [List.getD_eq_getElem?_getD, hj]; rfl
  · exact ⟨rfl, rfl, rfl, by rw [Lib.bytesWorld_size]; omega, fun k hk => Lib.bytesWorld_at_old w _ _ k hk⟩

set_option maxRecDepth 100000 in
set_option maxHeartbeats 1000000 in
theorem restNumber_dec (n : Nat) (w : World) (hn : n ≤ 99999) :
    Calls Tryz.prog 92 #[.string ⟨(Lib.decDigits n).toArray⟩] w fun e w' => e = .returned (.int .i64 n) ∧ Below w.heap.size w w' := by
  have hV := numV_dec n
  have hD := dec_dig n
  have hL := dec_short 4 n (by omega)
  have hP := dec_pos n
  generalize Lib.decDigits n = D at hV hD hL hP ⊢
  have hp1 : Lib.hasPrefix D [45] = false := by
    cases D with
    | nil => simp at hP
    | cons d D =>
      have := hD d (List.mem_cons_self ..)
      have hne : ¬ d = 45 := fun e => by rw [e] at this; simp at this
      show [45].isPrefixOf (d :: D) = false
      simp [List.isPrefixOf, Ne.symm hne]
  have hp2 : Lib.trimPrefix D [45] = D := by unfold Lib.trimPrefix; rw [hp1]; rfl
  have hn0 : ((D.length : Int) == 0) = false := beq_eq_false_iff_ne.2 (by omega)
  have hn5 : decide (5 < (D.length : Int)) = false := by simp; omega
  obtain ⟨c1, W1, hcv, hcells, hb1⟩ := str_bytes D w
  go_enter Tryz.func92, Tryz.ntmps92
  go_wp2_with (go_at_call 129; refine (Tryz.strings_CutPrefix ⟨D.toArray⟩ ⟨#[45]⟩ _).mono ?_; rintro e w' ⟨rfl, rfl⟩)
  go_loop [5, 7, 25] (fun s _ i => ∃ k : Nat, k ≤ D.length ∧ i = .int .i64 k ∧ s = .int .i64 (numV (D.take k))) (fun _ _ i => D.length - (intOf i).toNat)
  case atStart => exact ⟨0, by omega, rfl, rfl⟩
  case round =>
    obtain ⟨k, hk, rfl, rfl⟩ := hrel
    by_cases hlt : k < D.length
    · have hi : decide ((k : Int) < (D.length : Int)) = true := by simp; omega
      obtain ⟨b, hb⟩ : ∃ b, D[k]? = some b := ⟨D[k]'hlt, List.getElem?_eq_getElem hlt⟩
      have hc := hcells k b hb
      obtain ⟨h48, h57⟩ := hD b (List.mem_of_getElem? hb)
      have hs : numV (D.take (k + 1)) = numV (D.take k) * 10 + (b.toNat - 48) := by rw [List.take_add_one, hb]; exact numV_snoc _ _
      have hv : numV (D.take k) < 10 ^ 5 := by
        have h1 := numV_lt (l := D.take k) fun x hx => (hD x (List.mem_of_mem_take hx)).2
        have h2 : (D.take k).length ≤ 5 := by rw [List.length_take]; omega
        exact Nat.lt_of_lt_of_le h1 (Nat.pow_le_pow_right (by omega) h2)
      have HS := Lib.hid hs
      clear hs hD hcells
      generalize numV (D.take k) = V at hv HS ⊢
      generalize b.toNat = B at hc h48 h57 HS
      have i1 : decide ((B : Int) < 48) = false := by simp; omega
      have i2 : decide (57 < (B : Int)) = false := by simp; omega
      have hw1 : IntKind.u8.wrap ((B : Int) - 48) = (B : Int) - 48 := by unfold IntKind.wrap; simp [IntKind.bits, IntKind.signed]; omega
      go_wp2_with fail
      refine ⟨⟨k + 1, by omega, by simp, ?_⟩, by simp [intOf]; omega⟩
      rw [HS.out]
      congr 1
      omega
    · obtain rfl : k = D.length := by omega
      have hi : decide ((D.length : Int) < (D.length : Int)) = false := by simp
      go_wp2_with fail
      go_ret
      exact ⟨rfl, hb1⟩

end Go.Proofs.YtmpbbflolbakhaaGreatDoor
