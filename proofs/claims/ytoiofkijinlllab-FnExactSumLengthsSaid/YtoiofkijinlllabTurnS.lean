/-
  Rings: the model's side.
-/
import Derived.Test.YtoiofkijinlllabTurnI
import Derived.Test.YtoiofkijinlllabStepA
import Derived.Test.YtoiofkijinlllabEq
import Derived.Deep.RegionLaw
import Derived.BigRegion
namespace Go.Proofs.Ytoiofkijinlllab
open Go.RowKit

set_option maxHeartbeats 1000000 in
theorem l5Ring_any (n₀ : Nat) (b : Int) (v : Value) (d : List Int) (w : World) (hv : Slc n₀ w v d) (hl : d.length ≤ 1048576) :
    Calls Try.prog 23 #[.int .i64 b, v] w fun e w' => e = .returned (.bool (rngB b d)) ∧ w = w' := by
  by_cases h1 : 2 ≤ b ∧ b ≤ 16
  · have j1 : decide (2 ≤ b ∧ b ≤ 16) = true := by simpa using h1
    have DG := Lib.hid (l1DigitsIn_any n₀ b v d w hv hl h1.1 h1.2)
    by_cases h2 : 1 ≤ d.length ∧ d.length ≤ 250
    · have j2 : decide (1 ≤ (d.length : Int) ∧ (d.length : Int) ≤ 250) = true := by simp; omega
      have HF : Hid (rngB b d = digB b d) := by unfold Hid rngB; rw [j1, decide_eq_true h2, Bool.true_and, Bool.true_and]
      obtain ⟨a, c, rfl⟩ := slc_form hv
      clear hv h2
      go_enter Try.func23, Try.ntmps23
      go_wp2_with (first | (go_at_call 39; refine (l6In_any _ _ _ _).mono ?_; rintro e w' ⟨rfl, rfl⟩) | (go_at_call 40; refine DG.out.mono ?_; rintro e w' ⟨rfl, rfl⟩))
      go_ret
      exact ⟨ret_bool HF.out.symm, rfl⟩
    · have j2 : decide (1 ≤ (d.length : Int) ∧ (d.length : Int) ≤ 250) = false := by simp; omega
      have HF : Hid (rngB b d = false) := by unfold Hid rngB; rw [j1, decide_eq_false h2, Bool.true_and, Bool.false_and]
      obtain ⟨a, c, rfl⟩ := slc_form hv
      clear hv h2 h1
      go_enter Try.func23, Try.ntmps23
      go_wp2_with (go_at_call 39; refine (l6In_any _ _ _ _).mono ?_; rintro e w' ⟨rfl, rfl⟩)
      go_ret
      exact ⟨ret_bool HF.out.symm, rfl⟩
  · have j1 : decide (2 ≤ b ∧ b ≤ 16) = false := by simpa using h1
    have HF : Hid (rngB b d = false) := by unfold Hid rngB; rw [j1, Bool.false_and]
    obtain ⟨a, c, rfl⟩ := slc_form hv
    clear hv h1
    go_enter Try.func23, Try.ntmps23
    go_wp2_with (go_at_call 39; refine (l6In_any _ _ _ _).mono ?_; rintro e w' ⟨rfl, rfl⟩)
    go_ret
    exact ⟨ret_bool HF.out.symm, rfl⟩

theorem rot_slc {xs : List Int} {k m base : Nat} {W : World} {v : Value} (hx : xs.length = m) (hk : k ≤ m)
    (h : W.ownsRow base 3 1 v (0 + (m - k) + k) ([] ++ (xs.drop k).map (Value.int .i64) ++ (xs.take k).map (Value.int .i64))) : Slc base W v (rotL xs k) := by
  refine Slc.of_owns ?_
  have e1 : (rotL xs k).length = 0 + (m - k) + k := by rw [rotL_len, hx]; omega
  rw [e1]
  simpa [rotL] using h



end Go.Proofs.Ytoiofkijinlllab
