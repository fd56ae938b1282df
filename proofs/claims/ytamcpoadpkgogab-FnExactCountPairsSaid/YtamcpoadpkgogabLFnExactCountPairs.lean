/-
  The law FnExactCountPairs's walk, where the program answers what its sentence says.
-/
import Derived.Test.YtamcpoadpkgogabCntB
namespace Go.Proofs.Ytamcpoadpkgogab
open Go.RowKit

set_option maxHeartbeats 2000000 in
theorem lawCountPairs_any (H : ImCountPairs) (b t n : Int) (w : World) (_wb : (Lit.int .i64 b).wf = true) (_wt : (Lit.int .i64 t).wf = true) (_wn : (Lit.int .i64 n).wf = true) :
    Calls Try.prog 3 #[.int .i64 b, .agg #[.int .i64 t, .int .i64 n]] w fun e w' => e = .returned (.bool true) ∧ Below w.heap.size w w' := by
  obtain ⟨x, p, hs, hi⟩ := bothCountPairs H b t n
  have HS := Lib.hid hs; have HI := Lib.hid hi; clear hs hi
  have q0 := Box2.new w 23 (.int .i64 t) (.int .i64 n)
  have B0 := (Below.refl w.heap.size w).alloc (Nat.le_refl _) (.cells #[.int .i64 t, .int .i64 n] 23)
  go_enter Try.func3, Try.ntmps3
  go_wp2_with fail
  refine (toFrac_any _ _ _).mono ?_
  rintro e w1 ⟨rfl, hb1⟩
  have q1 := q0.later hb1
  have B1 := B0.trans (hb1.mono B0.size)
  go_wp2_with fail
  refine (HS.out _).mono ?_
  rintro e w2 ⟨rfl, hb2⟩
  have q2 := q1.later hb2
  have B2 := B1.trans (hb2.mono B1.size)
  have k0 := q2.cell0
  have k1 := q2.cell1
  go_wp2_with fail
  refine (toFrac_any _ _ _).mono ?_
  rintro e w3 ⟨rfl, hb3⟩
  have B3 := B2.trans (hb3.mono B2.size)
  go_wp2_with fail
  refine (HI.out _).mono ?_
  rintro e w4 ⟨rfl, hb4⟩
  have B4 := B3.trans (hb4.mono B3.size)
  cases p <;> (go_wp2_with fail; go_ret; exact ⟨rfl, B4⟩)

end Go.Proofs.Ytamcpoadpkgogab
