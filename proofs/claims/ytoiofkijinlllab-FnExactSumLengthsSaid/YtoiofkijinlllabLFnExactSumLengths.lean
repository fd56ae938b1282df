/-
  The law FnExactSumLengths's walk.
-/
import Derived.Test.YtoiofkijinlllabSumB
import Derived.Deep.RegionWith
namespace Go.Proofs.Ytoiofkijinlllab
open Go.RowKit

set_option maxHeartbeats 8000000 in
theorem lawSumLengths_any (H : ImSumLengths) (b t n t2 n2 : Int) (w : World) (_wb : (Lit.int .i64 b).wf = true) (_wt : (Lit.int .i64 t).wf = true) (_wn : (Lit.int .i64 n).wf = true) (_wt2 : (Lit.int .i64 t2).wf = true) (_wn2 : (Lit.int .i64 n2).wf = true) :
    Calls Try.prog 4 #[.int .i64 b, .agg #[.int .i64 t, .int .i64 n], .agg #[.int .i64 t2, .int .i64 n2]] w fun e w' => e = .returned (.bool true) ∧ Below w.heap.size w w' := by
  obtain ⟨x, p, hs, hi⟩ := bothSumLengths H b t n t2 n2
  have HS : Hid (∀ wx : World, Calls Try.prog 13 #[.int .i64 b, .agg #[.int .i64 t, .int .i64 n], .agg #[.int .i64 t2, .int .i64 n2]] wx fun e w' => e = .returned (.tuple #[.int .i64 x, .bool p]) ∧ Below wx.heap.size wx w') := hs
  have HI : Hid (∀ wx : World, Calls Try.prog 15 #[.int .i64 b, .agg #[.int .i64 t, .int .i64 n], .agg #[.int .i64 t2, .int .i64 n2]] wx fun e w' => e = .returned (.tuple #[.int .i64 x, .bool p]) ∧ Below wx.heap.size wx w') := hi
  clear hs hi
  go_enter Try.func4, Try.ntmps4
  have q0 := (Box2.new w 30 (.int .i64 t) (.int .i64 n)).alloc (.cells #[.int .i64 t2, .int .i64 n2] 30)
  have r0 : Box2 _ (w.heap.size + 1) 30 (.int .i64 t2) (.int .i64 n2) := Box2.newAt (W := w.alloc (.cells #[.int .i64 t, .int .i64 n] 30)) (by simp)
  have B0 := ((Below.refl w.heap.size w).alloc (Nat.le_refl _) (.cells #[.int .i64 t, .int .i64 n] 30)).alloc (by simp) (.cells #[.int .i64 t2, .int .i64 n2] 30)
  go_wp2_with fail
  revert q0 r0 B0
  generalize (w.alloc (.cells #[.int .i64 t, .int .i64 n] 30)).alloc (.cells #[.int .i64 t2, .int .i64 n2] 30) = W0
  intro q0 r0 B0
  have qD : Box2 W0.drew w.heap.size 30 (.int .i64 t) (.int .i64 n) := q0
  have rD : Box2 W0.drew (w.heap.size + 1) 30 (.int .i64 t2) (.int .i64 n2) := r0
  have BD := B0.drew
  have kq0 := qD.cell0
  have kq1 := qD.cell1
  have kr0 := rD.cell0
  have kr1 := rD.cell1
  go_region_with (first
    | (go_at_call 14; with_reducible refine Calls.mono (toFrac_any t n W0.drew) ?_; rintro e w1 ⟨rfl, b1⟩; have q1 := qD.later b1; have r1 := rD.later b1; have B1 := BD.trans (b1.mono BD.size); have kr0' := r1.cell0; have kr1' := r1.cell1)
    | (go_at_call 14; with_reducible refine Calls.mono (toFrac_any t2 n2 w1) ?_; rintro e w2 ⟨rfl, b2⟩; have q2 := q1.later b2; have r2 := r1.later b2; have B2 := B1.trans (b2.mono B1.size))
    | (go_at_call 13; with_reducible refine Calls.mono (HS.out w2) ?_; rintro e w3 ⟨rfl, b3⟩; have q3 := q2.later b3; have r3 := r2.later b3; have B3 := B2.trans (b3.mono B2.size)))
  all_goals (
    clear kq0 kq1 kr0 kr1 kr0' kr1' qD rD BD b1 b2 b3 q0 r0 B0 q1 r1 B1 q2 r2 B2
    go_wp2_with fail
    have qE : Box2 w3.drew w.heap.size 30 (.int .i64 t) (.int .i64 n) := q3
    have rE : Box2 w3.drew (w.heap.size + 1) 30 (.int .i64 t2) (.int .i64 n2) := r3
    have BE := B3.drew
    have kq0 := qE.cell0
    have kq1 := qE.cell1
    have kr0 := rE.cell0
    have kr1 := rE.cell1
    go_region_with (first
      | (go_at_call 14; with_reducible refine Calls.mono (toFrac_any t n w3.drew) ?_; rintro e w4 ⟨rfl, b4⟩; have q4 := qE.later b4; have r4 := rE.later b4; have B4 := BE.trans (b4.mono BE.size); have kr0' := r4.cell0; have kr1' := r4.cell1)
      | (go_at_call 14; with_reducible refine Calls.mono (toFrac_any t2 n2 w4) ?_; rintro e w5 ⟨rfl, b5⟩; have B5 := B4.trans (b5.mono B4.size))
      | (go_at_call 15; with_reducible refine Calls.mono (HI.out w5) ?_; rintro e w6 ⟨rfl, b6⟩; have B6 := B5.trans (b6.mono B5.size)))
    all_goals (
      clear kq0 kq1 kr0 kr1 kr0' kr1' qE rE BE q3 r3 B3 q4 r4 B4 B5 b4 b5 b6
      cases p <;> (go_wp2; go_ret; exact ⟨rfl, B6⟩)))

end Go.Proofs.Ytoiofkijinlllab
