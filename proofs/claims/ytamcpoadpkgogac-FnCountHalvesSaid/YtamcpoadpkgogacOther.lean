/-
  The other fraction: the program's and the model's.
-/
import Derived.Test.YtamcpoadpkgogacAns
import Derived.Test.YtamcpoadpkgogacTold
import Derived.RegionTactic
import Derived.Deep.RegionHeld3
namespace Go.Proofs.Ytamcpoadpkgogac
open Go.RowKit

theorem bel1' {w w1 : World} {o : Obj} (hb : Below (w.alloc o).heap.size (w.alloc o) w1) : Below w.heap.size w w1 := ((Below.refl w.heap.size w).alloc (Nat.le_refl _) o).trans (hb.mono (by simp))
theorem bel2' {w w1 : World} {o o' : Obj} (hb : Below ((w.alloc o).alloc o').heap.size ((w.alloc o).alloc o') w1) : Below w.heap.size w w1 := (((Below.refl w.heap.size w).alloc (Nat.le_refl _) o).alloc (by simp) o').trans (hb.mono (by simp; omega))
theorem Box2.set' {W : World} {B : Nat} {T : TypeId} {x y : Value} (h : Box2 W B T x y) (x' y' : Value) : Box2 ((W.setCell ⟨B, 0, none⟩ x').setCell ⟨B, 1, none⟩ y') B T x' y' := by
  unfold Box2 at h
  simp [Box2, World.setCell, Array.getElem?_modify, h]








end Go.Proofs.Ytamcpoadpkgogac
