/-
  Chapter 5, the program's side: rings turned by numbers.
-/
import Derived.Test.YtoiofkijinlllabTurnX
namespace Go.Proofs.Ytoiofkijinlllab
open Go.RowKit

set_option maxHeartbeats 1000000 in
theorem imTurnBy : ImTurnBy := by
  constructor
  · intro b k d hl h n₀ v w hv
    have RG := Lib.hid (ringIn_any n₀ b v d w hv hl)
    cases hr : rngB b d with
    | false =>
      rw [hr] at RG
      clear h hr
      go_enter Try.func18, Try.ntmps18
      go_wp2_with (go_at_call 35; refine RG.out.mono ?_; rintro e w' ⟨rfl, rfl⟩)
      go_ret2
      exact ⟨_, rfl, Slc.nil _ _, Below.refl _ _⟩
    | true =>
      rw [hr, Bool.true_and] at h
      rw [hr] at RG
      clear hr
      have h' := of_decide_eq_false h
      clear h
      by_cases h1 : k < 0
      · have j1 : decide (k < 0) = true := by simpa using h1
        go_enter Try.func18, Try.ntmps18
        go_wp2_with (go_at_call 35; refine RG.out.mono ?_; rintro e w' ⟨rfl, rfl⟩)
        go_ret2
        exact ⟨_, rfl, Slc.nil _ _, Below.refl _ _⟩
      · have j1 : decide (k < 0) = false := by simpa using h1
        have j2 : decide (k > 250) = true := by simp; omega
        have j3 : k > 250 := by omega
        go_enter Try.func18, Try.ntmps18
        go_wp2_with (go_at_call 35; refine RG.out.mono ?_; rintro e w' ⟨rfl, rfl⟩)
        go_ret2
        exact ⟨_, rfl, Slc.nil _ _, Below.refl _ _⟩
  · intro b k d h hk n₀ v w hv
    have h2 := h.l2
    have RG := Lib.hid (ringIn_any n₀ b v d w hv (by omega))
    have TD := Lib.hid (turned_any n₀ v d k w hv h.l1 (by omega))
    rw [h.told] at RG
    have j1 : decide ((k : Int) < 0) = false := by simp
    have j2 : decide ((k : Int) > 250) = false := by simp; omega
    have j3 : ¬ ((k : Int) > 250) := by omega
    go_enter Try.func18, Try.ntmps18
    go_wp2_with (go_at_call 35; refine RG.out.mono ?_; rintro e w' ⟨rfl, rfl⟩)
    refine TD.out.mono ?_
    rintro e w1 ⟨u, rfl, hu, hb⟩
    go_wp2_with fail
    go_ret2
    exact ⟨_, rfl, hu, hb⟩

end Go.Proofs.Ytoiofkijinlllab
