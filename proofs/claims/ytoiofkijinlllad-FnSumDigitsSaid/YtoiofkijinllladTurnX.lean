/-
  Chapter 5, the program's side: what a ring is, lists put behind each other, turned rings.
-/
import Derived.Test.YtoiofkijinllladTurnB
import Derived.Test.YtoiofkijinllladEq
import Derived.Test.YtoiofkijinllladStepA
import Derived.Maps.AppendAt
import Derived.Lib.AppendZerosOnto
import Derived.Deep.RegionWith
import Derived.Deep.RegionLaw
import Derived.BigRegion
namespace Go.Proofs.Ytoiofkijinlllad
open Go.RowKit

set_option maxHeartbeats 1000000 in
theorem ringIn_any (n₀ : Nat) (b : Int) (v : Value) (d : List Int) (w : World) (hv : Slc n₀ w v d) (hl : d.length ≤ 1048576) :
    Calls Try.prog 61 #[.int .i64 b, v] w fun e w' => e = .returned (.bool (rngB b d)) ∧ w = w' := by
  have DG := Lib.hid (digitsIn_any n₀ b v d w hv hl)
  obtain ⟨a, c, rfl⟩ := slc_form hv
  clear hv
  by_cases h1 : 2 ≤ b ∧ b ≤ 16
  · have j1 : decide (2 ≤ b ∧ b ≤ 16) = true := by simpa using h1
    by_cases h2 : 0 < d.length
    · have k2 : decide (0 < d.length) = true := by simpa using h2
      by_cases h3 : d.length ≤ 250
      · have k3 : decide ((d.length : Int) ≤ 250) = true := by simp; omega
        have HF : Hid (rngB b d = digB b d) := by unfold Hid rngB; rw [j1, decide_eq_true (show 1 ≤ d.length ∧ d.length ≤ 250 from ⟨h2, h3⟩), Bool.true_and, Bool.true_and]
        clear h1 h3
        go_enter Try.func61, Try.ntmps61
        go_wp2_with (first | (go_at_call 25; refine (baseIn_any _ _).mono ?_; rintro e w' ⟨rfl, rfl⟩) | (go_at_call 62; refine DG.out.mono ?_; rintro e w' ⟨rfl, rfl⟩))
        go_ret
        exact ⟨ret_bool HF.out.symm, rfl⟩
      · have k3 : decide ((d.length : Int) ≤ 250) = false := by simp; omega
        have HF : Hid (rngB b d = false) := by unfold Hid rngB; rw [decide_eq_false (show ¬ (1 ≤ d.length ∧ d.length ≤ 250) by omega), Bool.false_and, Bool.and_false]
        clear h1 h3
        go_enter Try.func61, Try.ntmps61
        go_wp2_with (go_at_call 25; refine (baseIn_any _ _).mono ?_; rintro e w' ⟨rfl, rfl⟩)
        go_ret
        exact ⟨ret_bool HF.out.symm, rfl⟩
    · have k2 : decide (0 < d.length) = false := by simpa using h2
      have HF : Hid (rngB b d = false) := by unfold Hid rngB; rw [decide_eq_false (show ¬ (1 ≤ d.length ∧ d.length ≤ 250) by omega), Bool.false_and, Bool.and_false]
      clear h1
      go_enter Try.func61, Try.ntmps61
      go_wp2_with (go_at_call 25; refine (baseIn_any _ _).mono ?_; rintro e w' ⟨rfl, rfl⟩)
      go_ret
      exact ⟨ret_bool HF.out.symm, rfl⟩
  · have j1 : decide (2 ≤ b ∧ b ≤ 16) = false := by simpa using h1
    have HF : Hid (rngB b d = false) := by unfold Hid rngB; rw [j1, Bool.false_and]
    clear h1
    go_enter Try.func61, Try.ntmps61
    go_wp2_with (go_at_call 25; refine (baseIn_any _ _).mono ?_; rintro e w' ⟨rfl, rfl⟩)
    go_ret
    exact ⟨ret_bool HF.out.symm, rfl⟩





end Go.Proofs.Ytoiofkijinlllad
