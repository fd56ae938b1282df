/-
  The law FnExactPartMultiple's walk, where the program answers what its sentence says.
-/
import Derived.Test.YtehpgcgdcoahnabDoorPartB
import Derived.Test.YtehpgcgdcoahnabDoorMulX
import Derived.Test.YtehpgcgdcoahnabDoorIn
namespace Go.Proofs.YtehpgcgdcoahnabDoor
open Go.RowKit

set_option maxHeartbeats 4000000 in
theorem lawPartMultiple_any (H : ImPartMultipleL) (b t n k : Int) (w : World) (_wb : (Lit.int .i64 b).wf = true) (_wt : (Lit.int .i64 t).wf = true) (_wn : (Lit.int .i64 n).wf = true) (_wk : (Lit.int .i64 k).wf = true) (hLd : Laid w) :
    Calls Tryd.prog 3 #[.int .i64 b, .agg #[.int .i64 t, .int .i64 n], .int .i64 k] w fun e w' => e = .returned (.bool true) ∧ Below w.heap.size w w' := by
  have q0 := Box2.new w 23 (.int .i64 t) (.int .i64 n)
  have hb0 := (Below.refl w.heap.size w).alloc (Nat.le_refl _) (.cells #[.int .i64 t, .int .i64 n] 23)
  obtain ⟨x, p, hs, hi⟩ := bothPartMultipleL H b t n k
  have HS := Lib.hid hs; have HI := Lib.hid hi; clear hs hi
  go_enter Tryd.func3, Tryd.ntmps3
  go_wp2_with fail
  refine (toFrac_any _ _ _).mono ?_
  rintro e w1 ⟨rfl, b1⟩
  have q1 := q0.later b1
  have B1 := hb0.trans (b1.mono (by simp))
  go_wp2_with fail
  refine (HS.out _).mono ?_
  rintro e w2 ⟨rfl, b2⟩
  have B2 := B1.trans (b2.mono B1.size)
  have q2 := q1.later b2
  have k0 := q2.cell0
  have k1 := q2.cell1
  go_wp2_with fail
  refine (toFrac_any _ _ _).mono ?_
  rintro e w3 ⟨rfl, b3⟩
  have B3 := B2.trans (b3.mono B2.size)
  go_wp2_with fail
  refine (HI.out _ (hLd.later B3)).mono ?_
  rintro e w4 ⟨rfl, b4⟩
  have B4 := B3.trans (b4.mono B3.size)
  cases p <;> (go_wp2_with fail; go_ret; exact ⟨rfl, B4⟩)

end Go.Proofs.YtehpgcgdcoahnabDoor
