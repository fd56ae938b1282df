/-
  The law FnExactOrderSplit's walk, where the program answers what its sentence says.
-/
import Derived.Test.YthhbkhamhkbikaaOrdB
namespace Go.Proofs.Ythhbkhamhkbikaa
open Go.RowKit

set_option maxHeartbeats 2000000 in
theorem lawOrderSplit_any (H : ImSplit) (b n : Int) (w : World) (_wb : (Lit.int .i64 b).wf = true) (_wn : (Lit.int .i64 n).wf = true) :
    Calls Try.prog 6 #[.int .i64 b, .int .i64 n] w fun e w' => e = .returned (.bool true) ∧ Below w.heap.size w w' := by
  obtain ⟨x, y, p, hs, hi⟩ := bothSplit H b n
  have HS := Lib.hid hs; have HI := Lib.hid hi; clear hs hi
  go_enter Try.func6, Try.ntmps6
  go_wp2_with fail
  refine (HS.out _).mono ?_
  rintro e w1 ⟨rfl, b1⟩
  go_wp2_with fail
  refine (HI.out _).mono ?_
  rintro e w2 ⟨rfl, b2⟩
  have B2 := b1.trans (b2.mono b1.size)
  cases p <;> (go_wp2_with fail; go_ret; exact ⟨rfl, B2⟩)

end Go.Proofs.Ythhbkhamhkbikaa
