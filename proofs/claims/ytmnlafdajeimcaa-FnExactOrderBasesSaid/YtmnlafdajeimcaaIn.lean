/-
  The test of a fraction: the program's and the model's; the law FnExactFracIn's walk.
-/
import Derived.Test.YtmnlafdajeimcaaLeaf
import Derived.Deep.QuietTactic
import Derived.BigQuiet
namespace Go.Proofs.Ytmnlafdajeimcaa
open Go.RowKit

theorem finB_false_of {t b : Int} (h : ¬ (1 ≤ b ∧ b ≤ 1000 ∧ 0 ≤ t ∧ t < b)) : finB t b = false := by
  unfold finB; rw [decide_eq_false_iff_not]; intro ⟨h1, h2, h3, h4, _⟩; exact h ⟨h1, h2, h3, h4⟩

theorem finB_eq_of {t b : Int} (h1 : 1 ≤ b) (h2 : b ≤ 1000) (h3 : 0 ≤ t) (h4 : t < b) : finB t b = decide (gcdI t b = 1) := by
  unfold finB; simp [h1, h2, h3, h4]

/-- A struct of two fields in a block of its own. -/
def Box2 (W : World) (B : Nat) (T : TypeId) (x y : Value) : Prop := W.heap[B]? = some (.cells #[x, y] T (0, 0))

theorem Box2.lt {W : World} {B : Nat} {T : TypeId} {x y : Value} (h : Box2 W B T x y) : B < W.heap.size := (Array.getElem?_eq_some_iff.1 h).1
theorem Box2.cell0 {W : World} {B : Nat} {T : TypeId} {x y : Value} (h : Box2 W B T x y) : W.cell? ⟨B, 0, none⟩ = some x := by simp [World.cell?, show W.heap[B]? = _ from h]
theorem Box2.cell1 {W : World} {B : Nat} {T : TypeId} {x y : Value} (h : Box2 W B T x y) : W.cell? ⟨B, 1, none⟩ = some y := by simp [World.cell?, show W.heap[B]? = _ from h]
theorem Box2.frozen0 {W : World} {B : Nat} {T : TypeId} {x y : Value} (h : Box2 W B T x y) : W.frozen? ⟨B, 0, none⟩ = false := by simp [World.frozen?, show W.heap[B]? = _ from h]
theorem Box2.frozen1 {W : World} {B : Nat} {T : TypeId} {x y : Value} (h : Box2 W B T x y) : W.frozen? ⟨B, 1, none⟩ = false := by simp [World.frozen?, show W.heap[B]? = _ from h]
theorem Box2.new (W : World) (T : TypeId) (x y : Value) : Box2 (W.alloc (.cells #[x, y] T)) W.heap.size T x y := heap_alloc_new W _
theorem Box2.newAt {W : World} {T : TypeId} {x y : Value} {B : Nat} (h : B = W.heap.size) : Box2 (W.alloc (.cells #[x, y] T)) B T x y := by subst h; exact Box2.new _ _ _ _
theorem Box2.below {n : Nat} {W W' : World} {B : Nat} {T : TypeId} {x y : Value} (h : Box2 W B T x y) (hb : Below n W W') (hn : B < n) : Box2 W' B T x y := (hb.block B hn).trans h
theorem Box2.later {W W' : World} {B : Nat} {T : TypeId} {x y : Value} (h : Box2 W B T x y) (hb : Below W.heap.size W W') : Box2 W' B T x y := h.below hb h.lt
theorem Box2.alloc {W : World} {B : Nat} {T : TypeId} {x y : Value} (h : Box2 W B T x y) (o : Obj) : Box2 (W.alloc o) B T x y := h.later ((Below.refl _ _).alloc (Nat.le_refl _) _)



end Go.Proofs.Ytmnlafdajeimcaa
