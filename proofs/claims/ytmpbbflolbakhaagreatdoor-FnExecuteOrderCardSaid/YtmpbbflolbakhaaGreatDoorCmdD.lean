/-
  Chapter 9: decimal numerals, as the laws write them and as the program reads them.
-/
import Derived.Test.YtmpbbflolbakhaaGreatDoorLeaf
import Derived.Test.YtmpbbflolbakhaaGreatDoorRow
import Derived.Laws.IdiomStrings
import Derived.Lib.ItoaLen
import Derived.Laws.Concat
import Derived.Test.YtmpbbflolbakhaaGreatDoorShelf
namespace Go.Proofs.YtmpbbflolbakhaaGreatDoor
open Go.RowKit

/-- One byte, made a string. -/
theorem byte_str (w : World) (b : UInt8) (t : TypeId) : (convert 22 9 (.slice (some ⟨w.heap.size, 0, none⟩) 1 1)).run Tryz.prog (w.alloc (.cells #[.int .u8 (b.toNat : Int)] t)) = .ok (.string ⟨#[b]⟩) (w.alloc (.cells #[.int .u8 (b.toNat : Int)] t)) := by
  refine run_convert_bytes_back (w.alloc (.cells #[.int .u8 (b.toNat : Int)] t)) 22 9 5 ⟨w.heap.size, 0, none⟩ 1 [b] Tryz.underlying22 Tryz.underlying5 Tryz.underlying9 (fun j hj => ?_)
  obtain rfl : j = 0 := by simp at hj; omega
  exact cell_one_new w (.int .u8 (b.toNat : Int)) t 0 _ rfl
theorem byte_in {w w' : World} {x : Int} {c : UInt8} {t : TypeId} (hx : Hid ((c.toNat : Int) = x)) (hb : Below ((w.alloc (.cells #[.int .u8 x] t)).drew).heap.size ((w.alloc (.cells #[.int .u8 x] t)).drew) w') :
    (convert 22 9 (.slice (some ⟨w.heap.size, 0, none⟩) 1 1)).run Tryz.prog w' = .ok (.string ⟨#[c]⟩) w' := by
  have hx := hx.out
  subst hx
  refine run_convert_bytes_back w' 22 9 5 ⟨w.heap.size, 0, none⟩ 1 [c] Tryz.underlying22 Tryz.underlying5 Tryz.underlying9 (fun j hj => ?_)
  obtain rfl : j = 0 := by simp at hj; omega
  have h1 : w.heap.size < ((w.alloc (.cells #[.int .u8 (c.toNat : Int)] t)).drew).heap.size := by show w.heap.size < (w.alloc (.cells #[.int .u8 (c.toNat : Int)] t)).heap.size; simp
  have h2 := hb.block _ h1
  rw [World.cell?_of_block (a := (⟨w.heap.size, 0, none⟩ : Addr).add 0) h2]
  exact cell_one_new w (.int .u8 (c.toNat : Int)) t 0 _ rfl
theorem str_add (a b : List UInt8) (ha : a.length ≤ 8388608) (hb : b.length ≤ 8388608) (w : World) : (Op.stringOp .add ⟨a.toArray⟩ ⟨b.toArray⟩).run Tryz.prog w = .ok (.string ⟨(a ++ b).toArray⟩) w :=
  run_string_add_lists w a b (by omega) (by omega)
theorem dec_len (n : Nat) (h : n ≤ 1000000) : (Lib.decDigits n).length ≤ 20 := by rw [Lib.decDigits_length]; exact Lib.nDigits_le20 n (by omega)
theorem byte_nat {k : Nat} (hk : k ≤ 9) : ((UInt8.ofNat (48 + k)).toNat : Int) = 48 + k := by
  have : (UInt8.ofNat (48 + k)).toNat = 48 + k := by rw [UInt8.toNat_ofNat']; exact Nat.mod_eq_of_lt (by omega)
  rw [this]; omega

set_option maxRecDepth 100000 in
set_option maxHeartbeats 1000000 in
theorem digits_any (n : Nat) : ∀ (w : World), n ≤ 1000000 → Calls Tryz.prog 10 #[.int .i64 n] w fun e w' => e = .returned (.string ⟨(Lib.decDigits n).toArray⟩) ∧ Below w.heap.size w w' := by
  induction n using Nat.strongRecOn with
  | _ n ih =>
    intro w hn
    by_cases h : n < 10
    · obtain ⟨c, hc⟩ : ∃ c : UInt8, UInt8.ofNat (48 + n) = c := ⟨_, rfl⟩
      have hb := byte_str w c
      rw [← hc, byte_nat (by omega), hc] at hb
      have hd : Lib.decDigits n = [c] := by rw [Lib.decDigits, dif_pos h, hc]
      have hlt : ((n : Int) < 10) := by omega
      rw [hd]
      clear ih hd hc
      go_enter Tryz.func10, Tryz.ntmps10
      go_wp2_with fail
      go_ret
      exact ⟨rfl, (Below.refl _ _).alloc (Nat.le_refl _) _⟩
    · obtain ⟨c, hc⟩ : ∃ c : UInt8, UInt8.ofNat (48 + n % 10) = c := ⟨_, rfl⟩
      have hb := fun w => byte_str w c
      have hcn : ((c.toNat : Nat) : Int) = 48 + ((n % 10 : Nat) : Int) := by rw [← hc, byte_nat (by omega)]
      rw [hcn] at hb
      have hd : Lib.decDigits n = Lib.decDigits (n / 10) ++ [c] := by rw [Lib.decDigits, dif_neg h, hc]
      have hlt : ¬ ((n : Int) < 10) := by omega
      have IH := Lib.hid (fun w => ih (n / 10) (by omega) w (by omega))
      have hq : Int.tdiv (n : Int) 10 = ((n / 10 : Nat) : Int) := by rw [Int.tdiv_eq_ediv_of_nonneg (by omega)]; omega
      have hr : Int.tmod (n : Int) 10 = ((n % 10 : Nat) : Int) := by rw [Int.tmod_eq_emod_of_nonneg (by omega)]; omega
      have hm : n % 10 < 10 := Nat.mod_lt _ (by omega)
      have hqn : n / 10 ≤ 1000000 := by omega
      rw [hd]
      have HX := Lib.hid hcn
      have hb2 := fun (w : World) (t : TypeId) => byte_in (w := w) (t := t) HX (Below.refl _ _)
      clear ih hd hc hcn
      have hl := dec_len (n / 10) (by omega)
      generalize Lib.decDigits (n / 10) = D at IH hl ⊢
      have hadd : ∀ w, (Op.stringOp .add ⟨D.toArray⟩ ⟨#[c]⟩).run Tryz.prog w = .ok (.string ⟨(D ++ [c]).toArray⟩) w := fun w => str_add D [c] (by omega) (by simp) w
      generalize hE : D ++ [c] = E at hadd ⊢
      clear hE hl
      generalize n / 10 = Q at hq IH hqn
      generalize n % 10 = R at hr hb hb2 hm HX
      have hw1 : IntKind.i64.wrap (Q : Int) = Q := IntWalk.i64_in _ (by omega)
      have hw2 : IntKind.i64.wrap (48 + (R : Int)) = 48 + R := IntWalk.i64_in _ (by omega)
      have hw3 : IntKind.u8.wrap (48 + (R : Int)) = 48 + R := by unfold IntKind.wrap; simp [IntKind.bits, IntKind.signed]; omega
      go_enter Tryz.func10, Tryz.ntmps10
      go_wp2_with fail
      go_region_with (go_at_call 10; with_reducible refine Calls.mono (IH.out _) ?_; rintro e w' ⟨rfl, hb1⟩; try have hcv := byte_in HX hb1)
      all_goals (
        go_wp2_with fail
        go_ret
        refine ⟨rfl, ?_⟩
        first
          | exact ((Below.refl w.heap.size w).drew.trans hb1).alloc ((Below.refl w.heap.size w).drew.trans hb1).size _
          | exact (((Below.refl w.heap.size w).alloc (Nat.le_refl _) _).drew).trans (hb1.mono (by show w.heap.size ≤ (World.alloc _ _).heap.size; simp)))

end Go.Proofs.YtmpbbflolbakhaaGreatDoor
