/-
  Lists of lists of ints: what stays, what is read.
-/
import Derived.Test.YtfhhfnkgdanakaaEq
import Derived.Test.YtfhhfnkgdanakaaTool
import Derived.Test.YtfhhfnkgdanakaaGrown
namespace Go.Proofs.Ytfhhfnkgdanakaa
open Go.RowKit

/-- A new list of the lists vs, which hold L. -/
def RowVs (n₀ : Nat) (W : World) (v : Value) (L : List (List Int)) (vs : List Value) : Prop :=
  W.ownsRow n₀ 33 1 v L.length vs ∧ ∀ (i : Nat) (u : Value), vs[i]? = some u → Slc n₀ W u (L[i]?.getD [])

/-- No two of them share memory. -/
def Apart (vs : List Value) : Prop := ∀ (i j : Nat) (u u' : Value), i < j → vs[i]? = some u → vs[j]? = some u' → ∀ q, u.ownBlock = some q → u'.ownBlock ≠ some q

def RowSS (n₀ : Nat) (W : World) (v : Value) (L : List (List Int)) : Prop := ∃ vs : List Value, vs.length = L.length ∧ RowVs n₀ W v L vs ∧ Apart vs

theorem rows_form {n₀ : Nat} {W : World} {v : Value} {L : List (List Int)} (h : RowSS n₀ W v L) : ∃ a c, v = .slice a L.length c := by
  obtain ⟨vs, _, ⟨h, _⟩, _⟩ := h
  rcases h.2 with ⟨rfl, h0⟩ | ⟨g, cap, cur, rfl, _⟩
  · exact ⟨none, 0, by rw [h0]⟩
  · exact ⟨_, _, rfl⟩

theorem RowSS.nil (n₀ : Nat) (W : World) (v : Value) (h : W.ownsRow n₀ 33 1 v 0 []) : RowSS n₀ W v [] :=
  ⟨[], rfl, ⟨h, fun i u e => by simp at e⟩, fun i j u u' _ e => by simp at e⟩

theorem RowSS.zero (n₀ : Nat) (W : World) (hn : n₀ ≤ W.heap.size) : RowSS n₀ (W.alloc (.cells #[] 33)) (.slice (some ⟨W.heap.size, 0, none⟩) 0 0) [] :=
  RowSS.nil _ _ _ (World.ownsRow_made (base := n₀) (e := 33) (size := 1) W #[] 0 hn (by simp) (by simp))

theorem ownsRow_block {n₀ : Nat} {W : World} {T : TypeId} {v : Value} {k : Nat} {vs : List Value} (h : W.ownsRow n₀ T 1 v k vs) : v.ownBlock = none ∨ ∃ g cur, v.ownBlock = some g ∧ n₀ ≤ g ∧ W.heap[g]? = some (.cells cur T (0, 0)) := by
  rcases h.2 with ⟨rfl, _⟩ | ⟨g, cap, cur, rfl, hb, hh, _⟩
  · exact .inl rfl
  · exact .inr ⟨g, cur, rfl, hb, hh⟩

theorem slc_block {n₀ : Nat} {W : World} {v : Value} {xs : List Int} (h : Slc n₀ W v xs) : v.ownBlock = none ∨ ∃ g cur, v.ownBlock = some g ∧ n₀ ≤ g ∧ W.heap[g]? = some (.cells cur 3 (0, 0)) := by
  rcases h with ⟨rfl, _⟩ | ⟨g, off, cap, cur, rfl, hb, hh, _⟩
  · exact .inl rfl
  · exact .inr ⟨g, cur, rfl, hb, hh⟩

/-- A block of another kind (or none) grows, or is written to: all stays. -/
theorem RowVs.kept {n₀ : Nat} {W W' : World} {v : Value} {L : List (List Int)} {vs : List Value} {row : Option Nat} (h : RowVs n₀ W v L vs) (hg : W.grownBy W' row)
    (h1 : ∀ q, row = some q → v.ownBlock ≠ some q) (h2 : ∀ q (i : Nat) u, row = some q → vs[i]? = some u → u.ownBlock ≠ some q) : RowVs n₀ W' v L vs := by
  refine ⟨h.1.kept hg ?_, fun i u e => (h.2 i u e).kept hg fun g hg' e' => h2 g i u e' e hg'⟩
  rcases ownsRow_block h.1 with e | ⟨g, _, e, _⟩
  · exact .inl e
  · refine .inr fun e' => ?_
    exact h1 g (by rw [← e', e]) e

theorem RowVs.later {n₀ : Nat} {W W' : World} {v : Value} {L : List (List Int)} {vs : List Value} (h : RowVs n₀ W v L vs) (hb : Below W.heap.size W W') : RowVs n₀ W' v L vs :=
  h.kept (row := none) (grown_below hb) (fun q e => by cases e) (fun q i u e => by cases e)

/-- A row of bools grows, or is written to. -/
theorem RowVs.off {n₀ : Nat} {W W' : World} {v : Value} {L : List (List Int)} {vs : List Value} {q : Nat} (h : RowVs n₀ W v L vs) (hg : W.grownBy W' (some q)) (hq : ∃ c, W.heap[q]? = some (.cells c 4 (0, 0))) : RowVs n₀ W' v L vs := by
  obtain ⟨c, hc⟩ := hq
  refine h.kept hg (fun q' e => ?_) (fun q' i u e hu => ?_)
  · cases e
    rcases ownsRow_block h.1 with e | ⟨g, cur, e, _, hh⟩
    · rw [e]; intro e; cases e
    · rw [e]; intro e; cases e; rw [hc] at hh; simp at hh
  · cases e
    rcases slc_block (h.2 i u hu) with e | ⟨g, cur, e, _, hh⟩
    · rw [e]; intro e; cases e
    · rw [e]; intro e; cases e; rw [hc] at hh; simp at hh

/-- A block below, or a new one, grows. -/
theorem RowVs.grown {n₀ : Nat} {W W' : World} {v : Value} {L : List (List Int)} {vs : List Value} {row : Option Nat} (h : RowVs n₀ W v L vs) (hg : W.grownBy W' row) (hr : ∀ q, row = some q → q < n₀ ∨ W.heap.size ≤ q) : RowVs n₀ W' v L vs := by
  refine h.kept hg (fun q e => ?_) (fun q i u e hu => ?_)
  · rcases ownsRow_block h.1 with e' | ⟨g, cur, e', hb, hh⟩
    · rw [e']; intro e; cases e
    · rw [e']; intro e2; cases e2
      have := (Array.getElem?_eq_some_iff.1 hh).1
      have := hr _ e
      omega
  · intro e2
    have := (h.2 i u hu).own q e2
    have := hr _ e
    omega

theorem RowSS.later {n₀ : Nat} {W W' : World} {v : Value} {L : List (List Int)} (h : RowSS n₀ W v L) (hb : Below W.heap.size W W') : RowSS n₀ W' v L := by
  obtain ⟨vs, h1, h2, h3⟩ := h
  exact ⟨vs, h1, h2.later hb, h3⟩

theorem RowSS.off {n₀ : Nat} {W W' : World} {v : Value} {L : List (List Int)} {q : Nat} (h : RowSS n₀ W v L) (hg : W.grownBy W' (some q)) (hq : ∃ c, W.heap[q]? = some (.cells c 4 (0, 0))) : RowSS n₀ W' v L := by
  obtain ⟨vs, h1, h2, h3⟩ := h
  exact ⟨vs, h1, h2.off hg hq, h3⟩

theorem RowSS.grown {n₀ : Nat} {W W' : World} {v : Value} {L : List (List Int)} {row : Option Nat} (h : RowSS n₀ W v L) (hg : W.grownBy W' row) (hr : ∀ q, row = some q → q < n₀ ∨ W.heap.size ≤ q) : RowSS n₀ W' v L := by
  obtain ⟨vs, h1, h2, h3⟩ := h
  exact ⟨vs, h1, h2.grown hg hr, h3⟩

theorem RowSS.mono {n₀ n₁ : Nat} {W : World} {v : Value} {L : List (List Int)} (h : RowSS n₀ W v L) (hn : n₁ ≤ n₀) : RowSS n₁ W v L := by
  obtain ⟨vs, h1, ⟨h2, h3⟩, h4⟩ := h
  refine ⟨vs, h1, ⟨⟨h2.1, ?_⟩, fun i u e => (h3 i u e).mono hn⟩, h4⟩
  rcases h2.2 with h | ⟨g, cap, cur, hv, hb, r⟩
  · exact .inl h
  · exact .inr ⟨g, cap, cur, hv, by omega, r⟩

/-- The cell of a row. -/
theorem RowVs.cell {n₀ : Nat} {W : World} {v : Value} {L : List (List Int)} {vs : List Value} (h : RowVs n₀ W v L vs) (hl : vs.length = L.length) (i : Nat) (hi : i < L.length) :
    ∃ g c u, v = .slice (some ⟨g, 0, none⟩) L.length c ∧ W.cell? ⟨g, i, none⟩ = some u ∧ vs[i]? = some u ∧ Slc n₀ W u (L[i]?.getD []) := by
  obtain ⟨h2, h3⟩ := h
  have hvi : i < vs.length := by omega
  rcases h2.2 with ⟨_, h0⟩ | ⟨g, cap, cur, rfl, hb, hh, hc, hm, hs, ht⟩
  · omega
  · refine ⟨g, cap, vs[i], rfl, ?_, List.getElem?_eq_getElem hvi, h3 i vs[i] (List.getElem?_eq_getElem hvi)⟩
    have h5 : cur.toList[i]? = some vs[i] := by
      rw [← List.getElem?_eq_getElem hvi, ← ht, List.getElem?_take_of_lt (by omega)]
    simp only [World.cell?, hh]
    rw [← Array.getElem?_toList]
    simp [h5]

theorem slc_not_row {n₀ n₁ : Nat} {W : World} {u v : Value} {xs : List Int} {k : Nat} {vs : List Value} (hu : Slc n₀ W u xs) (hv : W.ownsRow n₁ 33 1 v k vs) : ∀ g, u.ownBlock = some g → v.ownBlock ≠ some g := by
  intro g e1 e2
  rcases slc_block hu with e | ⟨q, cur, e, _, hh⟩
  · rw [e] at e1; cases e1
  · rcases ownsRow_block hv with e' | ⟨q', cur', e', _, hh'⟩
    · rw [e'] at e2; cases e2
    · rw [e] at e1; cases e1
      rw [e'] at e2; cases e2
      rw [hh] at hh'
      simp at hh'

theorem RowSS.append {n₀ n₁ : Nat} {W W' : World} {v v' u : Value} {L : List (List Int)} {vs : List Value} {xs : List Int} {o : Obj} (hl : vs.length = L.length) (hv : RowVs n₀ W v L vs) (hd : Apart vs)
    (hu : Slc n₁ W u xs) (hn : n₀ ≤ n₁) (hfar : ∀ (i : Nat) (u : Value) (q : Nat), vs[i]? = some u → u.ownBlock = some q → q < n₁)
    (hg : (W.alloc o).grownBy W' v.ownBlock) (hown : W'.ownsRow n₀ 33 1 v' (L.length + 1) (vs ++ [u])) : RowSS n₀ W' v' (L ++ [xs]) := by
  have ha : Below W.heap.size W (W.alloc o) := (Below.refl _ _).alloc (Nat.le_refl _) _
  have kept : ∀ {n : Nat} {u : Value} {xs : List Int}, Slc n W u xs → Slc n W' u xs := fun h => (h.later ha).kept hg fun g hg' e => slc_not_row h hv.1 g hg' e
  refine ⟨vs ++ [u], by simp [hl], ⟨by simpa using hown, fun i u' e => ?_⟩, fun i j u1 u2 hij e1 e2 q hq => ?_⟩
  · rcases Nat.lt_or_ge i vs.length with h1 | h1
    · rw [List.getElem?_append_left h1] at e
      rw [List.getElem?_append_left (by omega)]
      exact kept (hv.2 i u' e)
    · have h2 : i = vs.length := by have := (List.getElem?_eq_some_iff.1 e).1; simp at this; omega
      subst h2
      rw [List.getElem?_append_right (Nat.le_refl _), Nat.sub_self] at e
      simp at e
      subst e
      rw [hl, List.getElem?_append_right (Nat.le_refl _), Nat.sub_self]
      exact kept (hu.mono hn)
  · have h1 : j < vs.length + 1 := by have := (List.getElem?_eq_some_iff.1 e2).1; simpa using this
    rw [List.getElem?_append_left (by omega)] at e1
    rcases Nat.lt_or_ge j vs.length with h2 | h2
    · rw [List.getElem?_append_left h2] at e2
      exact hd i j u1 u2 hij e1 e2 q hq
    · have h3 : j = vs.length := by omega
      subst h3
      rw [List.getElem?_append_right (Nat.le_refl _), Nat.sub_self] at e2
      simp at e2
      subst e2
      intro e
      have h4 := (hu.own q e).1
      have h5 := hfar i u1 q e1 hq
      omega

theorem row_ge3 {w : World} {base k : Nat} {T : TypeId} {v : Value} {xs : List Value} (h : w.ownsRow base T 1 v k xs) {g : Nat} (hg : v.ownBlock = some g) : base ≤ g ∧ g < w.heap.size := by
  rcases ownsRow_block h with e | ⟨g', cur, e, hb, hh⟩
  · rw [e] at hg; cases hg
  · rw [e] at hg; cases hg; exact ⟨hb, (Array.getElem?_eq_some_iff.1 hh).1⟩

/-- A new list of ints grows beside. -/
theorem RowVs.beside {n₀ N k : Nat} {W W' : World} {v u : Value} {L : List (List Int)} {vs zs : List Value} {o : Obj} (h : RowVs n₀ W v L vs) (hu : W.ownsRow N 3 1 u k zs)
    (hfar : ∀ (i : Nat) (u : Value) (q : Nat), vs[i]? = some u → u.ownBlock = some q → q < N) (hg : (W.alloc o).grownBy W' u.ownBlock) : RowVs n₀ W' v L vs := by
  refine (h.later ((Below.refl _ _).alloc (Nat.le_refl _) o)).kept hg (fun q e e' => ?_) (fun q i u' e hi e' => ?_)
  · rcases ownsRow_block hu with e2 | ⟨g, cur, e2, _, hh⟩
    · rw [e2] at e; cases e
    · rcases ownsRow_block h.1 with e3 | ⟨g', cur', e3, _, hh'⟩
      · rw [e3] at e'; cases e'
      · rw [e2] at e; cases e
        rw [e3] at e'; cases e'
        rw [hh] at hh'; simp at hh'
  · have := hfar i u' q hi e'
    have := (row_ge3 hu e).1
    omega

theorem RowVs.far {n₀ : Nat} {W : World} {v : Value} {L : List (List Int)} {vs : List Value} (h : RowVs n₀ W v L vs) : ∀ (i : Nat) (u : Value) (q : Nat), vs[i]? = some u → u.ownBlock = some q → q < W.heap.size :=
  fun i u q e1 e2 => ((h.2 i u e1).own q e2).2

theorem grown_setc (w : World) (a : Addr) (v : Value) : w.grownBy (w.setCell a v) (some a.block) :=
  ⟨rfl, rfl, rfl, by simp [World.setCell], fun k _ hne => Below.heap_setCell w a v k (fun e => hne (by rw [e]))⟩

theorem bool_not {n₀ q k : Nat} {W : World} {T : TypeId} {v : Value} {vs : List Value} (h : W.ownsRow n₀ T 1 v k vs) (hT : T ≠ 4) (hq : ∃ c, W.heap[q]? = some (.cells c 4 (0, 0))) : v.ownBlock ≠ some q := by
  obtain ⟨c, hc⟩ := hq
  rcases ownsRow_block h with e | ⟨g, cur, e, _, hh⟩
  · rw [e]; intro e; cases e
  · rw [e]; intro e; cases e; rw [hc] at hh; simp at hh; exact hT hh.2.symm

end Go.Proofs.Ytfhhfnkgdanakaa
