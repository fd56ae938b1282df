/-
  Sums of rings, and which fraction is less: the model's side.
-/
import Derived.Test.YtoiofkijinlllacSumI
import Derived.Test.YtoiofkijinlllacOther
import Derived.Test.YtoiofkijinlllacRow
import Derived.Test.YtoiofkijinlllacPMath
import Derived.Maps.AppendAt
import Derived.Deep.QuietTactic
import Derived.BigQuiet
namespace Go.Proofs.Ytoiofkijinlllac
open Go.RowKit

set_option maxHeartbeats 2000000 in
theorem specSumLess_no (b t n u m : Int) (h : (tldB b t n && tldB b u m) = false) : GivesB 16 #[.int .i64 b, .agg #[.int .i64 t, .int .i64 n], .agg #[.int .i64 u, .int .i64 m]] false := by
  intro w
  cases h1 : tldB b t n with
  | false =>
    clear h
    go_enter Try.func16, Try.ntmps16
    go_wp2_with fail
    refine (l1Given_any _ _ _ _).mono ?_
    rintro e w1 ⟨rfl, hb1⟩
    rw [h1]
    have hb := bel2' hb1
    go_wp2_with fail
    go_ret
    exact ⟨rfl, hb⟩
  | true =>
    rw [h1, Bool.true_and] at h
    go_enter Try.func16, Try.ntmps16
    go_wp2_with fail
    refine (l1Given_any _ _ _ _).mono ?_
    rintro e w1 ⟨rfl, hb1⟩
    rw [h1]
    have y1 : Box2 w1 (w.heap.size + 1) 24 (.int .i64 u) (.int .i64 m) := (Box2.newAt (by simp)).later hb1
    have y0 := y1.cell0
    have y1' := y1.cell1
    have hb := bel2' hb1
    clear hb1
    go_wp2_with fail
    refine (l1Given_any _ _ _ _).mono ?_
    rintro e w2 ⟨rfl, hb2⟩
    rw [h]
    have hbb := hb.trans (hb2.mono hb.size)
    go_wp2_with fail
    go_ret
    exact ⟨rfl, hbb⟩

set_option maxHeartbeats 2000000 in
theorem specSumLess_is (b T B U C : Nat) (p : Bool) (h3 : 2 ≤ b) (h4 : b ≤ 16) (h : FOk T B) (h' : FOk U C) (hp : decide ((T : Int) * C < (U : Int) * B) = p) :
    GivesB 16 #[.int .i64 b, .agg #[.int .i64 T, .int .i64 B], .agg #[.int .i64 U, .int .i64 C]] p := by
  intro w
  have t1 := h.told h3 h4
  have t2 := h'.told h3 h4
  have hT := h.lt; have hB := h.bot; have hU := h'.lt; have hC := h'.bot
  have htc : T * C ≤ 1000 * 1000 := Nat.mul_le_mul (by omega) hC
  have hub : U * B ≤ 1000 * 1000 := Nat.mul_le_mul (by omega) hB
  have i2 : ((T * C : Nat) : Int) = (T : Int) * C := by simp
  have i3 : ((U * B : Nat) : Int) = (U : Int) * B := by simp
  have i6 : (T : Int) * C ≤ 1000000 := by omega
  have i7 : (0 : Int) ≤ (T : Int) * C := by omega
  have i8 : (U : Int) * B ≤ 1000000 := by omega
  have i9 : (0 : Int) ≤ (U : Int) * B := by omega
  clear h h' i2 i3
  go_enter Try.func16, Try.ntmps16
  go_wp2_with fail
  refine (l1Given_any _ _ _ _).mono ?_
  rintro e w1 ⟨rfl, hb1⟩
  rw [t1]
  have x1 : Box2 w1 w.heap.size 24 (.int .i64 T) (.int .i64 B) := ((Box2.newAt rfl).alloc _).later hb1
  have y1 : Box2 w1 (w.heap.size + 1) 24 (.int .i64 U) (.int .i64 C) := (Box2.newAt (by simp)).later hb1
  have y0 := y1.cell0
  have y1' := y1.cell1
  have hb := bel2' hb1
  clear hb1
  go_wp2_with fail
  refine (l1Given_any _ _ _ _).mono ?_
  rintro e w2 ⟨rfl, hb2⟩
  rw [t2]
  have x2 := x1.later hb2
  have y2 := y1.later hb2
  have x0 := x2.cell0
  have x1' := x2.cell1
  have y0 := y2.cell0
  have y1' := y2.cell1
  have hbb := hb.trans (hb2.mono hb.size)
  clear hb2 hb t1 t2 x1 y1
  cases p with
  | true =>
    have hlt : (T : Int) * C < (U : Int) * B := of_decide_eq_true hp
    go_wp2_with fail
    go_ret
    exact ⟨rfl, hbb⟩
  | false =>
    have hlt : ¬ (T : Int) * C < (U : Int) * B := of_decide_eq_false hp
    go_wp2_with fail
    go_ret
    exact ⟨rfl, hbb⟩

theorem specSumLess_yes (b T B U C : Nat) (h3 : 2 ≤ b) (h4 : b ≤ 16) (h : FOk T B) (h' : FOk U C) :
    GivesB 16 #[.int .i64 b, .agg #[.int .i64 T, .int .i64 B], .agg #[.int .i64 U, .int .i64 C]] (decide (T * C < U * B)) :=
  specSumLess_is b T B U C _ h3 h4 h h' (by
    have i2 : ((T * C : Nat) : Int) = (T : Int) * C := by simp
    have i3 : ((U * B : Nat) : Int) = (U : Int) * B := by simp
    rw [← i2, ← i3]
    by_cases hlt : T * C < U * B
    · rw [decide_eq_true hlt]; exact decide_eq_true (by omega)
    · rw [decide_eq_false hlt]; exact decide_eq_false (by omega))


end Go.Proofs.Ytoiofkijinlllac
