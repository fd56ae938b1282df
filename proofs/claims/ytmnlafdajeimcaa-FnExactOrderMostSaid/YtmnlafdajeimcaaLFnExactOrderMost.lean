/-
  The law FnExactOrderMost's walk, where the program answers what its sentence says.
-/
import Derived.Test.YtmnlafdajeimcaaOrdB
import Derived.Test.YtmnlafdajeimcaaTq
namespace Go.Proofs.Ytmnlafdajeimcaa
open Go.RowKit

set_option maxHeartbeats 2000000 in
theorem lawOrderMost_any (H : ImMost) (n : Int) (w : World) (_wn : (Lit.int .i64 n).wf = true) :
    Calls Tryq.prog 3 #[.int .i64 n] w fun e w' => e = .returned (.bool true) ∧ Below w.heap.size w w' := by
  obtain ⟨x, p, hs, hi⟩ := bothMost H n
  have HS := Lib.hid hs; have HI := Lib.hid hi; clear hs hi
  go_enter Tryq.func3, Try.ntmps3
  go_wp2_with fail
  refine (HS.out _).mono ?_
  rintro e w1 ⟨rfl, b1⟩
  go_wp2_with fail
  refine (HI.out _).mono ?_
  rintro e w2 ⟨rfl, b2⟩
  have B2 := b1.trans (b2.mono b1.size)
  cases p <;> (go_wp2_with fail; go_ret; exact ⟨rfl, B2⟩)

end Go.Proofs.Ytmnlafdajeimcaa
