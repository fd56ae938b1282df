/-
  The draws of chapter 5: a base and a ring.
-/
import Derived.Test.YtamcpoadpkgogadDraw1
import Derived.Test.YtamcpoadpkgogadDrawD
import Derived.Test.YtamcpoadpkgogadTurnU
import Derived.StillTailTactics
namespace Go.Proofs.Ytamcpoadpkgogad
open Go.RowKit

theorem grown_then {w w1 w2 : World} {g : Nat} (h1 : w.grownBy w1 (some g)) (h2 : Below w.heap.size w1 w2) : w.grownBy w2 (some g) :=
  ⟨h2.os.trans h1.os, h2.tape.trans h1.tape, h2.output.trans h1.output, Nat.le_trans h1.size h2.size, fun k hk hne => (h2.block k hk).trans (h1.block k hk hne)⟩

theorem owns_lt {w : World} {base k : Nat} {T : TypeId} {v : Value} {xs : List Value} (h : w.ownsRow base T 1 v k xs) {g : Nat} (hg : v.ownBlock = some g) : base ≤ g ∧ g < w.heap.size := by
  rcases h.2 with ⟨rfl, _⟩ | ⟨g', cap, cur, rfl, hb, hh, _⟩
  · cases hg
  · cases hg; exact ⟨hb, (Array.getElem?_eq_some_iff.1 hh).1⟩








end Go.Proofs.Ytamcpoadpkgogad
