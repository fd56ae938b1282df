/-
  What ranges over iterators share: a measure for a loop whose counter stands nowhere; a row in a box that grows.
-/
import Derived.Test.YtoiofkijinlllacIter
import Derived.Test.YtoiofkijinlllacNext
import Derived.Test.YtoiofkijinlllacRow
import Derived.RangeFuncBox
import Derived.Maps.OwnIn
import Derived.Shelf.Abstract
namespace Go.Proofs.Ytoiofkijinlllac
open Go.RowKit Go.Shelf

attribute [local go_sem] Oper.semAt_some

open Classical in
/-- The least number for which something holds. -/
noncomputable def leastOf (p : Nat → Prop) : Nat := if h : ∃ m, p m then Classical.choose (least h) else 0

theorem leastOf_spec {p : Nat → Prop} (h : ∃ m, p m) : p (leastOf p) := by
  unfold leastOf; rw [dif_pos h]; exact (Classical.choose_spec (least h)).1
theorem leastOf_le {p : Nat → Prop} {m : Nat} (h : p m) : leastOf p ≤ m := by
  have hex : ∃ m, p m := ⟨m, h⟩
  unfold leastOf; rw [dif_pos hex]
  rcases Nat.lt_or_ge m (Classical.choose (least hex)) with hlt | hge
  · exact absurd h ((Classical.choose_spec (least hex)).2 m hlt)
  · exact hge

/-- A measure for a loop whose counter stands nowhere. -/
noncomputable def muK (N : Nat) (R : Nat → World → Prop) (w : World) : Nat := leastOf (fun m => ∃ k, m = N - k ∧ R k w)
theorem muK_spec {N : Nat} {R : Nat → World → Prop} {w : World} (h : ∃ k, R k w) : ∃ k, R k w ∧ N - k = muK N R w := by
  obtain ⟨k, hk⟩ := h
  obtain ⟨k', e, h'⟩ := leastOf_spec (p := fun m => ∃ k, m = N - k ∧ R k w) ⟨N - k, k, rfl, hk⟩
  exact ⟨k', h', e.symm⟩
theorem muK_le {N : Nat} {R : Nat → World → Prop} {w : World} {k : Nat} (h : R k w) : muK N R w ≤ N - k := leastOf_le ⟨k, rfl, h⟩

theorem Box2.keepT {W W' : World} {B : Nat} {T : TypeId} {x y : Value} {Bb : Nat} (h : Box2 W B T x y) (hk : KeepsT T Bb W W') : Box2 W' B T x y := hk.own B _ h (by simp [isT])

theorem grownBy_of_below {W W' : World} (h : Below W.heap.size W W') : W.grownBy W' none := ⟨h.os, h.tape, h.output, h.size, fun k hk _ => h.block k hk⟩

theorem grownBy_set2 (W : World) (b : Nat) (u v : Value) : W.grownBy ((W.setCell ⟨b, 0, none⟩ u).setCell ⟨b, 1, none⟩ v) (some b) :=
  ⟨rfl, rfl, rfl, by simp, fun k _ hk => by
    have hne : k ≠ b := fun e => hk (by rw [e])
    rw [Below.heap_setCell _ ⟨b, 1, none⟩ _ _ hne, Below.heap_setCell _ ⟨b, 0, none⟩ _ _ hne]⟩

/-- A row abides what an iterator turns. -/
theorem owns_abide {W W' : World} {row : Option Nat} {base T e k : Nat} {v : Value} {xs : List Value} (h : W.ownsRow base e 1 v k xs) (hg : W.grownBy W' row) (hne : T ≠ e)
    (hr : ∀ r, row = some r → ∃ o : Obj, W.heap[r]? = some o ∧ okT T o = true) : W'.ownsRow base e 1 v k xs := by
  refine h.kept hg ?_
  rcases h.2 with ⟨rfl, _⟩ | ⟨g, cap, cur, rfl, _, hh, _⟩
  · exact .inl rfl
  · refine .inr fun e' => ?_
    obtain ⟨o, ho, hk⟩ := hr g e'.symm
    rw [hh] at ho
    cases ho
    simp [okT, Obj.isCells, isT] at hk
    exact hne hk.symm

theorem boxed_abide {W W' : World} {row : Option Nat} {B n : Nat} {t : TypeId} {v : Value} (h : Boxed W B t v) (hB : B < n) (hg : W.grownBy W' row) (hr : ∀ r, row = some r → n ≤ r) : Boxed W' B t v :=
  h.kept hg (fun e => by have := hr B e.symm; omega)

theorem boxed_newAt {W : World} {t : TypeId} {v : Value} {B : Nat} (h : B = W.heap.size) : Boxed (W.alloc (.cells #[v] t)) B t v := by subst h; exact Boxed.new _ _ _

theorem keepsFrom_below {B : Nat} {W W' : World} (h : Below W.heap.size W W') : KeepsFrom B W W' :=
  ⟨h.size, fun k _ _ hk _ => (h.block k (Array.getElem?_eq_some_iff.1 hk).1).trans hk⟩

/-- A row that is kept in a box and grows digit by digit: the box D, its value's row apart from block A. -/
def GrowRow (n₀ D A k : Nat) (xs : List Int) (W : World) : Prop :=
  ∃ v, Boxed W D 37 v ∧ W.ownsRow n₀ 3 1 v k (xs.map (Value.int .i64)) ∧ v.ownBlock ≠ some A

theorem GrowRow.abide {n₀ D A k n : Nat} {xs : List Int} {W W' : World} {row : Option Nat} (h : GrowRow n₀ D A k xs W) (hD : D < n) (hg : W.grownBy W' row)
    (hr : ∀ r, row = some r → n ≤ r ∧ ∃ o : Obj, W.heap[r]? = some o ∧ okT 24 o = true) : GrowRow n₀ D A k xs W' := by
  obtain ⟨v, h1, h2, h3⟩ := h
  exact ⟨v, boxed_abide h1 hD hg (fun r e => (hr r e).1), owns_abide (T := 24) h2 hg (by decide) (fun r e => (hr r e).2), h3⟩

theorem GrowRow.later {n₀ D A k : Nat} {xs : List Int} {W W' : World} (h : GrowRow n₀ D A k xs W) (hb : Below W.heap.size W W') : GrowRow n₀ D A k xs W' := by
  obtain ⟨v, h1, h2, h3⟩ := h
  exact ⟨v, (hb.block D h1.lt).trans h1, h2.kept (grownBy_of_below hb) (by cases hv : v.ownBlock <;> simp), h3⟩

/-- One digit more in the box: what an append and the store behind it leave. -/
theorem grow_step {n₀ D A k : Nat} {x : Int} {xs : List Int} {W w2 : World} {v v' : Value} {o : Obj} (h1 : Boxed W D 37 v) (h2 : W.ownsRow n₀ 3 1 v k (xs.map (Value.int .i64))) (h3 : v.ownBlock ≠ some A) (hA : A < W.heap.size) (hDA : D ≠ A)
    (hown' : w2.ownsRow n₀ 3 1 v' (k + 1) (xs.map (Value.int .i64) ++ [.int .i64 x])) (hgrow : (W.alloc o).grownBy w2 v.ownBlock) (hat : v'.ownBlock = v.ownBlock ∨ v'.ownBlock = some (W.heap.size + 1)) (hn : n₀ ≤ W.heap.size) (hD : n₀ ≤ D) :
    Boxed w2 D 37 v ∧ KeepsOthers W (w2.setCell ⟨D, 0, none⟩ v') ∧ KeepsT 24 A W (w2.setCell ⟨D, 0, none⟩ v') ∧ GrowRow n₀ D A (k + 1) (xs ++ [x]) (w2.setCell ⟨D, 0, none⟩ v') ∧ Below n₀ W (w2.setCell ⟨D, 0, none⟩ v') := by
  obtain ⟨a1, a2, a3, a4, a5⟩ := h1.appended (by decide) h2 hn hD hown' hgrow
  refine ⟨a1, a4, ?_, ⟨v', a2, by rw [List.map_append]; exact a3, ?_⟩, a5⟩
  · refine ((KeepsT.grown (World.grownBy_alloc W o none) (fun r e => by cases e)).trans (KeepsT.grown hgrow fun r e => ⟨fun hr => h3 (by rw [e, hr]), ?_⟩)).trans (KeepsT.grown (grownBy_setCell' w2 D v') fun r e => by cases e; exact ⟨hDA, _, a1, by simp [isT]⟩)
    rcases (h2.alloc o).2 with ⟨rfl, _⟩ | ⟨g, cap, cur, rfl, _, hgb, _⟩
    · simp [Value.ownBlock] at e
    · obtain rfl : g = r := by simpa [Value.ownBlock] using e
      exact ⟨_, hgb, by simp [isT]⟩
  · rcases hat with h | h
    · rw [h]; exact h3
    · rw [h]; simp; omega

end Go.Proofs.Ytoiofkijinlllac
