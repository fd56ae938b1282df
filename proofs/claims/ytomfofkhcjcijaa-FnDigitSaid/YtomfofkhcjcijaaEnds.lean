/-
  Fractions that end: both tests.
-/
import Derived.Test.YtomfofkhcjcijaaRound
import Derived.Test.YtomfofkhcjcijaaBegin
namespace Go.Proofs.Ytomfofkhcjcijaa
open Go.RowKit

set_option maxHeartbeats 1000000 in
theorem specFracEnds_no (b t n : Int) (w : World) (h : tldB b t n = false) :
    Calls Try.prog 13 #[.int .i64 b, .agg #[.int .i64 t, .int .i64 n]] w fun e w' => e = .returned (.bool false) ∧ Below w.heap.size w w' := by
  go_enter Try.func13, Try.ntmps13
  go_wp2_with (go_at_call 31; refine (l1Given_any _ _ _ _).mono ?_; rintro e w1 ⟨rfl, hb1⟩)
  go_ret
  exact ⟨rfl, ((Below.refl w.heap.size w).alloc (Nat.le_refl _) _).trans (hb1.mono (by simp))⟩

set_option maxHeartbeats 1000000 in
theorem specFracEnds_yes (b T B : Nat) (w : World) (h : tldB b T B = true) (hT : T < B) (hB : B ≤ 1000) (h3 : 2 ≤ b) (h4 : b ≤ 16) :
    Calls Try.prog 13 #[.int .i64 b, .agg #[.int .i64 T, .int .i64 B]] w fun e w' =>
      ∃ n m, IsLen b T B n m ∧ e = .returned (.bool (decide (m = 1 ∧ dig b T B n = 0))) ∧ Below w.heap.size w w' := by
  go_enter Try.func13, Try.ntmps13
  go_wp2_with fail
  refine (l1Given_any _ _ _ _).mono ?_
  rintro e w1 ⟨rfl, hb1⟩
  have q1 := (Box2.newAt (W := w) (T := 24) (x := .int .i64 T) (y := .int .i64 B) rfl).later hb1
  have k0 := q1.cell0
  have k1 := q1.cell1
  have hs1 := hb1.size
  go_wp2_with fail
  refine (l1Round_any b T B _ hT hB h3 h4).mono ?_
  rintro e w2 ⟨v, n, m, hnm, rfl, hv, hb2⟩
  have hbb := (((Below.refl w.heap.size w).alloc (Nat.le_refl _) (.cells #[.int .i64 T, .int .i64 B] 24)).trans (hb1.mono (by simp))).trans (hb2.mono (by simp at hs1; omega))
  have hp := hnm.pos
  have hl := rndL_len b T B n m
  have hv0 := hv
  rcases hv with ⟨rfl, hz⟩ | ⟨g, off, cap, cur, rfl, r1, r2, r3, r4, r5, r6⟩
  · rw [hz] at hl; simp at hl; omega
  rw [hl] at r3 r6 hv0 ⊢
  have kc := Slc.cell hl hv0 0 hp
  rw [Nat.add_zero, rndL_get _ _ _ _ _ _ hp, Nat.add_zero] at kc
  clear hv0 hl
  by_cases hm : m = 1
  · subst hm
    go_wp2_with fail
    go_ret
    refine ⟨n, 1, hnm, ret_bool ?_, hbb⟩
    rw [Bool.eq_iff_iff]; simp
  · have hm' : (((m : Nat) : Int) == 1) = false := by simp; omega
    go_wp2_with fail
    go_ret
    refine ⟨n, m, hnm, ret_bool ?_, hbb⟩
    rw [Bool.eq_iff_iff]; simp [hm]

end Go.Proofs.Ytomfofkhcjcijaa
