/-
  What stays where one block alone has turned.
-/
import Derived.Test.YtmpbbflolbakhaaGreatDoorIn
namespace Go.Proofs.YtmpbbflolbakhaaGreatDoor
open Go.RowKit

theorem Box2.grown {W W' : World} {B : Nat} {T : TypeId} {x y : Value} {row : Option Nat} (h : Box2 W B T x y) (hg : W.grownBy W' row) (hne : some B ≠ row) : Box2 W' B T x y := (hg.block B h.lt hne).trans h

theorem grown_below {W W' : World} {row : Option Nat} (hb : Below W.heap.size W W') : W.grownBy W' row := ⟨hb.os, hb.tape, hb.output, hb.size, fun k hk _ => hb.block k hk⟩

theorem _root_.Go.World.grownBy.set {a w : World} {row : Option Nat} (h : a.grownBy w row) {p : Addr} (hp : a.heap.size ≤ p.block) (v : Value) : a.grownBy (w.setCell p v) row :=
  ⟨h.os, h.tape, h.output, by simpa [World.setCell] using h.size, fun k hk hne => (Below.heap_setCell w p v k (by omega)).trans (h.block k hk hne)⟩

theorem cell_lt {W : World} {p : Addr} {v : Value} (h : W.cell? p = some v) : p.block < W.heap.size := by
  unfold World.cell? at h
  cases hb : W.heap[p.block]? with
  | none => rw [hb] at h; cases h
  | some o => exact (Array.getElem?_eq_some_iff.1 hb).1

end Go.Proofs.YtmpbbflolbakhaaGreatDoor
