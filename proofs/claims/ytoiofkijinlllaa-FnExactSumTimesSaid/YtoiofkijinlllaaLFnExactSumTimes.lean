/-
  The law FnExactSumTimes's walk.
-/
import Derived.Test.YtoiofkijinlllaaSumB
namespace Go.Proofs.Ytoiofkijinlllaa
open Go.RowKit

set_option maxHeartbeats 1000000 in
theorem lawSumTimes_any (H : ImSumTimes) (t n k : Int) (w : World) (_wt : (Lit.int .i64 t).wf = true) (_wn : (Lit.int .i64 n).wf = true) (_wk : (Lit.int .i64 k).wf = true) :
    Calls Try.prog 4 #[.agg #[.int .i64 t, .int .i64 n], .int .i64 k] w fun e w' => e = .returned (.bool true) ∧ Below w.heap.size w w' := by
  have q0 := Box2.new w 23 (.int .i64 t) (.int .i64 n)
  have hb0 := (Below.refl w.heap.size w).alloc (Nat.le_refl _) (.cells #[.int .i64 t, .int .i64 n] 23)
  obtain ⟨x, y, p, hs, hi⟩ := bothSumTimes H t n k
  have HS := Lib.hid hs; have HI := Lib.hid hi; clear hs hi
  go_enter Try.func4, Try.ntmps4
  go_wp2_with fail
  refine (toFrac_any _ _ _).mono ?_
  rintro e w1 ⟨rfl, b1⟩
  have q1 := q0.later b1
  have B1 := hb0.trans (b1.mono (by simp))
  go_wp2_with fail
  refine (HS.out _).mono ?_
  rintro e w2 ⟨rfl, b2⟩
  have B2 := (B1.trans (b2.mono B1.size)).alloc (B1.trans (b2.mono B1.size)).size (.cells #[.int .i64 x, .int .i64 y] 24)
  have q2 := (q1.later b2).alloc (.cells #[.int .i64 x, .int .i64 y] 24)
  have r2 := Box2.new w2 24 (.int .i64 x) (.int .i64 y)
  have k0 := q2.cell0
  have k1 := q2.cell1
  go_wp2_with fail
  refine (toFrac_any _ _ _).mono ?_
  rintro e w3 ⟨rfl, b3⟩
  have B3 := B2.trans (b3.mono B2.size)
  have r3 := r2.later b3
  go_wp2_with fail
  refine (HI.out _).mono ?_
  rintro e w4 ⟨rfl, b4⟩
  have B4 := (B3.trans (b4.mono B3.size)).alloc (B3.trans (b4.mono B3.size)).size (.cells #[.int .i64 x, .int .i64 y] 24)
  have r4 := (r3.later b4).alloc (.cells #[.int .i64 x, .int .i64 y] 24)
  have g4 := Box2.new w4 24 (.int .i64 x) (.int .i64 y)
  have kq0 := r4.cell0
  have kq1 := r4.cell1
  have kg0 := g4.cell0
  have kg1 := g4.cell1
  go_wp2_with fail
  refine (eqFr_any _ _ _).mono ?_
  rintro e w5 ⟨rfl, b5⟩
  have B5 := B4.trans (b5.mono B4.size)
  cases p <;> (go_wp2_with fail; go_ret; exact ⟨rfl, B5⟩)

end Go.Proofs.Ytoiofkijinlllaa
