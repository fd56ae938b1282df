/-
  The law FnExactRightWhole's walk, where the program answers what its sentence says.
-/
import Derived.Test.YtbgpdhnfaacenabRgtB
namespace Go.Proofs.Ytbgpdhnfaacenab
open Go.RowKit

set_option maxHeartbeats 2000000 in
theorem lawRightWhole_any (H : ImRightWhole) (b t n : Int) (w : World) (_wb : (Lit.int .i64 b).wf = true) (_wt : (Lit.int .i64 t).wf = true) (_wn : (Lit.int .i64 n).wf = true) :
    Calls Try.prog 4 #[.int .i64 b, .int .i64 t, .int .i64 n] w fun e w' => e = .returned (.bool true) ∧ Below w.heap.size w w' := by
  obtain ⟨p, hs, hi⟩ := bothRightWhole H b t n
  have HS := Lib.hid hs; have HI := Lib.hid hi; clear hs hi
  go_enter Try.func4, Try.ntmps4
  go_wp2_with fail
  refine (HS.out _).mono ?_
  rintro e w1 ⟨rfl, b1⟩
  go_wp2_with fail
  refine (HI.out _).mono ?_
  rintro e w2 ⟨rfl, b2⟩
  have B2 := b1.trans (b2.mono b1.size)
  cases p <;> (go_wp2_with fail; go_ret; exact ⟨rfl, B2⟩)

end Go.Proofs.Ytbgpdhnfaacenab
