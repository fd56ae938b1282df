/-
  The first digits of a fraction: the program's.
-/
import Derived.Test.YthoaldiadgeonaaGWlk
import Derived.Test.YthoaldiadgeonaaTold
namespace Go.Proofs.Ythoaldiadgeonaa
open Go.RowKit Go.Shelf

attribute [local go_sem] Oper.semAt_some



/-- What holds between two rounds of the first digits. -/
def FstInv (b T B K : Nat) (w : World) (k : Nat) (W : World) : Prop :=
  k ≤ K ∧ GrowRow w.heap.size (w.heap.size + 1) (w.heap.size + 1 + 1 + 1) k (digL b T B k) W ∧ Below w.heap.size w W ∧ w.heap.size + 4 ≤ W.heap.size

theorem FstInv.abide (b T B K : Nat) (w : World) : Abide (okT 38) (w.heap.size + 4) (FstInv b T B K w) := by
  rintro k W W' row ⟨h1, h3, h4, h5⟩ hg hr
  exact ⟨h1, h3.abide (by omega) hg hr, h4.grown hg (by omega) (fun r e => by have := (hr r e).1; omega), by have := hg.size; omega⟩



end Go.Proofs.Ythoaldiadgeonaa
