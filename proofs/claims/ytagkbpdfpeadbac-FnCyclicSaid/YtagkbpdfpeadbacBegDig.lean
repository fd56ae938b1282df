/-
  The digits of the beginning: the program's.
-/
import Derived.Test.YtagkbpdfpeadbacWalk
import Derived.Test.YtagkbpdfpeadbacGRnd
import Derived.Maps.OwnIn
import Derived.Shelf.Abstract
namespace Go.Proofs.Ytagkbpdfpeadbac
open Go.RowKit Go.Shelf

attribute [local go_sem] Oper.semAt_some

/-- What holds between two rounds of the beginning. -/
def BegInv (b T B : Nat) (w : World) (k : Nat) (W : World) : Prop :=
  (∀ j, j < k → ¬ trn b T B j) ∧ Boxed W (w.heap.size + 1) 3 (.int .i64 b) ∧ GrowRow (w.heap.size + 1 + 1) (w.heap.size + 1 + 1 + 1) (w.heap.size + 1 + 1 + 1 + 1 + 1) k (digL b T B k) W ∧
    Below w.heap.size w W ∧ w.heap.size + 6 ≤ W.heap.size

theorem BegInv.abide (b T B : Nat) (w : World) : Abide (okT 58) (w.heap.size + 6) (BegInv b T B w) := by
  rintro k W W' row ⟨h1, h2, h3, h4, h5⟩ hg hr
  exact ⟨h1, boxed_abide h2 (by omega) hg (fun r e => (hr r e).1), h3.abide (by omega) hg hr, h4.grown hg (by omega) (fun r e => by have := (hr r e).1; omega), by have := hg.size; omega⟩


end Go.Proofs.Ytagkbpdfpeadbac
