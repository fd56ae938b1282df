/-
  A range over an iterator without end whose body leaves it: the rounds are counted, and what holds between two of them bounds their number.
  What ranges over iterators share: a measure for a loop whose counter stands nowhere; a row in a box that grows.
  The program's iterator: it hands out the fractions on the way and their digits, without end.
  The digits of the beginning: the program's.
  The fraction behind the beginning.
  The digits of the round: the program's.
-/
import Derived.Test.YtmpbbflolbakhaaGreatDoorRows
import Derived.RangeFuncNested
import Derived.RangeFuncBound
import Derived.RangeFuncCalls
import Derived.RangeFuncLeaves
import Derived.WalkKit
import Derived.OwnWalkIn
import Derived.TacticsInMore
import Derived.LoopNIn
import Derived.LoopIn
import Derived.Test.YtmpbbflolbakhaaGreatDoorNext
import Derived.Test.YtmpbbflolbakhaaGreatDoorRow
import Derived.RangeFuncBox
import Derived.Maps.OwnIn
import Derived.Shelf.Abstract
import Derived.Test.YtmpbbflolbakhaaGreatDoorGRnd
namespace Go.Proofs.YtmpbbflolbakhaaGreatDoor
open Go.RowKit

/-- Cells of one type: an iterator's own variable lies in such a block. -/
def isT (T : TypeId) : Obj → Bool
  | .cells _ t _ => t == T
  | _ => false

/-- What abides turns of blocks from B on that are of one make. -/
def Abide {β : Type} (ok : Obj → Bool) (B : Nat) (J : β → World → Prop) : Prop :=
  ∀ k W W' row, J k W → W.grownBy W' row → (∀ r, row = some r → B ≤ r ∧ ∃ o : Obj, W.heap[r]? = some o ∧ ok o = true) → J k W'

def okB (o : Obj) : Bool := !o.isCells
def okT (T : TypeId) (o : Obj) : Bool := !o.isCells || isT T o

theorem Abide.put {β : Type} {ok : Obj → Bool} {B : Nat} {J : β → World → Prop} (h : Abide ok B J) {k : β} {W : World} {l : Nat} {o : Obj} (o' : Obj) (hj : J k W) (hB : B ≤ l) (hl : W.heap[l]? = some o) (hk : ok o = true) : J k (W.putObj l o') :=
  h k W _ (some l) hj (grownBy_putObj' W l o') (fun r e => by cases e; exact ⟨hB, o, hl, hk⟩)
theorem Abide.alloc {β : Type} {ok : Obj → Bool} {B : Nat} {J : β → World → Prop} (h : Abide ok B J) {k : β} {W : World} (o : Obj) (hj : J k W) : J k (W.alloc o) :=
  h k W _ none hj (World.grownBy_alloc W o none) (fun r e => by cases e)

/-- What a round that goes on keeps: the iterator's own cells, and one block more. -/
structure KeepsT (T : TypeId) (Bb : Nat) (W W' : World) : Prop where
  size : W.heap.size ≤ W'.heap.size
  own : ∀ (k : Nat) (o : Obj), W.heap[k]? = some o → isT T o = true → W'.heap[k]? = some o
  base : ∀ o : Obj, W.heap[Bb]? = some o → W'.heap[Bb]? = some o

theorem KeepsT.refl (T : TypeId) (Bb : Nat) (W : World) : KeepsT T Bb W W := ⟨Nat.le_refl _, fun _ _ h _ => h, fun _ h => h⟩
theorem KeepsT.trans {T : TypeId} {Bb : Nat} {A B C : World} (h : KeepsT T Bb A B) (k : KeepsT T Bb B C) : KeepsT T Bb A C :=
  ⟨Nat.le_trans h.size k.size, fun i o hi ho => k.own i o (h.own i o hi ho) ho, fun o ho => k.base o (h.base o ho)⟩
theorem KeepsT.grown {T : TypeId} {Bb : Nat} {W W' : World} {row : Option Nat} (hg : W.grownBy W' row) (hr : ∀ r, row = some r → r ≠ Bb ∧ ∃ o : Obj, W.heap[r]? = some o ∧ isT T o = false) : KeepsT T Bb W W' := by
  refine ⟨hg.size, fun k o hk ho => ?_, fun o ho => ?_⟩
  · exact (hg.block k (Array.getElem?_eq_some_iff.1 hk).1 (fun e => by obtain ⟨_, o', ho', hf⟩ := hr k e.symm; rw [hk] at ho'; cases ho'; rw [ho] at hf; cases hf)).trans hk
  · exact (hg.block Bb (Array.getElem?_eq_some_iff.1 ho).1 (fun e => (hr Bb e.symm).1 rfl)).trans ho
theorem KeepsT.put {T : TypeId} {Bb : Nat} {W : World} {l : Nat} {o : Obj} (o' : Obj) (hl : W.heap[l]? = some o) (ho : o.isCells = false) (hne : l ≠ Bb) : KeepsT T Bb W (W.putObj l o') :=
  KeepsT.grown (grownBy_putObj' W l o') (fun r e => by cases e; exact ⟨hne, o, hl, by cases o <;> simp_all [isT, Obj.isCells]⟩)
theorem KeepsT.below {T : TypeId} {Bb : Nat} {W W' : World} (h : Below W.heap.size W W') : KeepsT T Bb W W' :=
  ⟨h.size, fun k _ hk _ => (h.block k (Array.getElem?_eq_some_iff.1 hk).1).trans hk, fun _ ho => (h.block Bb (Array.getElem?_eq_some_iff.1 ho).1).trans ho⟩

/-- The word of an iterator without end: called at the yield of a loop, it hands out args 0, args 1, .., till a round says no more. -/
def SeqK (F : Fence) (n : Nat) (P : Program) (g : Nat) (lb : Array Value) (args : Nat → Array Value) (T : TypeId) (Bb : Nat) (w : World) : Prop :=
  ∀ (l : Nat) (J Jx : Nat → World → Prop) (N : Nat) (W : World), Below w.heap.size w W → Abide (okT T) W.heap.size J → Abide (okT T) W.heap.size Jx →
    (∀ k W1, J k W1 → k < N) →
    (∀ k W1, J k W1 → YieldAt F (n - 1) P l (args k) W1 fun e W' => (e = .returned (.bool true) ∧ J (k + 1) W' ∧ KeepsT T Bb W1 W') ∨ (e = .returned (.bool false) ∧ Jx k W')) →
    J 0 W →
    CallsIn F n P g (#[.func (.yield l) #[] #[]] ++ lb) W fun e W' => (∃ v, e = .returned v) ∧ ∃ k, Jx k W'

/-- How a round may be left: off its end, or by the one break. -/
def kPost (B : Nat) (T : TypeId) (Bb ex : Nat) (I Ix : Nat → World → Prop) (k : Nat) (W : World) : Exit → Act → World → Prop
  | .normal, _, W' => KeepsFrom B W W' ∧ KeepsT T Bb W W' ∧ I (k + 1) W'
  | .exit id, _, W' => id = ex ∧ KeepsFrom B W W' ∧ Ix k W'
  | _, _, _ => False

variable {F : Fence} {n : Nat} {P : Program}

theorem wpIn_range_k {g : Operand} {ps : Array Tmp} {assign body : Code} {Q : Exit → Act → World → Prop} {a : Act} {w : World}
    (hro : F.round = none) (h1 : 1 ≤ n) {gf : Nat} {lb : Array Value} (hg : a.eval g = .func (.func gf) #[] lb) (hFg : F.fn gf) (eg : ∀ args w, (callFunc gf args).run P w = .ok (.enter gf args) w)
    {args : Nat → Array Value} {T : TypeId} {Bb : Nat} {w0 : World} (hseq : SeqK F (n - 1) P gf lb args T Bb w0) (hb0 : Below w0.heap.size w0 w) (hBb : Bb < w.heap.size) (hps : ∀ k, (args k).size = ps.size)
    (ex N : Nat) (I Ix : Nat → World → Prop) (hI : Abide (okT T) w.heap.size I) (hIx : Abide (okT T) w.heap.size Ix) (hN : ∀ k W, I k W → k < N) (h0 : I 0 w)
    (Ax : Nat → Act → World → Prop) (hAx : ∀ a', Abide okB w.heap.size (fun k W => Ax k a' W))
    (hassign : ∀ (l k : Nat) (W : World) (K : Act → World → Prop), I k W → (∀ a' W', KeepsFrom w.heap.size W W' → KeepsT T Bb W W' → I k W' → Ax k a' W' → K a' W') →
      assign.wpIn (F.inRound l) (n - 1 - 1) P (Exit.then K (fun _ _ _ => False)) { tmps := (ps.zip (args k)).foldl (fun t (p, v) => t.setIfInBounds p v) a.tmps, defers := [] } W)
    (hbody : ∀ (l k : Nat) (a' : Act) (W : World), I k W → Ax k a' W → body.wpIn (F.inRound l) (n - 1 - 1) P (kPost w.heap.size T Bb ex I Ix k W) a' W)
    (hstop : ∀ (D k : Nat) (W : World), w.heap.size ≤ D → Ix k W → W.heap[D]? = some (.deferred (some [])) → (Code.exit ex).wpIn F n P Q { a with defers := { target := .collected D, args := #[] } :: a.defers } W) :
    (Code.rangeFunc g ps assign body).wpIn F n P Q a w := by
  refine wpIn_rangeFunc fun fn hfn => ?_
  rw [hro]
  have hlp : ∀ r : Loop, (Obj.loop r).isCells = false := fun _ => rfl
  let rec' : LoopState → Option Code → Loop := fun st pe => { state := st, pending := pe, fn, tmps := a.tmps, params := ps, assign, body, defers := w.heap.size }
  obtain ⟨rc, hrc⟩ : ∃ rc, rc = rec' := ⟨_, rfl⟩
  obtain ⟨W1, hW1⟩ : ∃ W1, (w.alloc (.deferred (some []))).alloc (.loop (rc .ready none)) = W1 := ⟨_, rfl⟩
  have hb : Below w.heap.size w W1 := by rw [← hW1]; exact ((Below.refl _ w).alloc (Nat.le_refl _) _).alloc (by simp) _
  have hs1 : W1.heap.size = w.heap.size + 1 + 1 := by rw [← hW1]; simp
  have hl0 : W1.heap[w.heap.size + 1]? = some (.loop (rc .ready none)) := by
    rw [← hW1]; have := World.alloc_heap_new (w.alloc (.deferred (some []))) (.loop (rc .ready none)); rwa [World.size_alloc] at this
  have hd0 : W1.heap[w.heap.size]? = some (.deferred (some [])) := by
    rw [← hW1]; exact (Below.heap_alloc _ _ _ (by simp)).trans (World.alloc_heap_new w _)
  have hI1 : I 0 W1 := by rw [← hW1]; exact hI.alloc _ (hI.alloc _ h0)
  -- blocks of book-keeping abide what the iterator turns
  have keep : ∀ {A B : World} {row : Option Nat} {i : Nat} {o : Obj}, A.grownBy B row → (∀ r, row = some r → W1.heap.size ≤ r ∧ ∃ o : Obj, A.heap[r]? = some o ∧ okT T o = true) → i < W1.heap.size → A.heap[i]? = some o → B.heap[i]? = some o :=
    fun hgr hr hi ho => (hgr.block _ (Array.getElem?_eq_some_iff.1 ho).1 (fun e => by have := (hr _ e.symm).1; omega)).trans ho
  refine ⟨w.heap.size + 1, [{ target := .collected w.heap.size, args := #[] }], W1, { target := .fn (.func gf) lb, args := #[.func (.yield (w.heap.size + 1)) #[] #[]] }, W1, gf,
    #[.func (.yield (w.heap.size + 1)) #[] #[]] ++ lb, W1, ?_, ?_, ?_, ?_, fun _ => h1, ?_⟩
  · rw [← hW1, hrc]; exact run_enterLoop_outer _ _ _ _ _
  · simp only [resolve, hg]; simp [go_sem]
  · intro f' hf'; simp [Target.leads] at hf'; subst hf'; exact hFg
  · simp [invoke, go_sem, eg]
  refine (hseq (w.heap.size + 1)
    (fun k W => I k W ∧ W.heap[w.heap.size + 1]? = some (.loop (rc .ready none)) ∧ W.heap[w.heap.size]? = some (.deferred (some [])))
    (fun k W => Ix k W ∧ W.heap[w.heap.size + 1]? = some (.loop (rc .done (some (.exit ex)))) ∧ W.heap[w.heap.size]? = some (.deferred (some [])))
    N W1 (hb0.trans (hb.mono hb0.size))
    (fun k A B row hs hgr hr => ⟨hI k A B row hs.1 hgr (fun r e => ⟨by have := (hr r e).1; omega, (hr r e).2⟩), keep hgr hr (by omega) hs.2.1, keep hgr hr (by omega) hs.2.2⟩)
    (fun k A B row hs hgr hr => ⟨hIx k A B row hs.1 hgr (fun r e => ⟨by have := (hr r e).1; omega, (hr r e).2⟩), keep hgr hr (by omega) hs.2.1, keep hgr hr (by omega) hs.2.2⟩)
    (fun k W hs => hN k W hs.1) ?_ ⟨hI1, hl0, hd0⟩).mono ?_
  · rintro k W ⟨hi, hl, hd⟩
    have hy := run_yield (P := P) (args := args k) hl (by rw [hrc]; exact hps k)
    rw [hrc] at hy
    refine ⟨fn, _, assign, body, hy, roundIn_of_wpIn hfn (hassign _ k W _ hi ?_)⟩
    clear hy
    intro a' Wa hka hta hia hax
    have hla := hka.same _ _ (by omega) hl (hlp _)
    have hda := hka.same _ _ (Nat.le_refl _) hd rfl
    have hsa : w.heap.size + 1 < Wa.heap.size := (Array.getElem?_eq_some_iff.1 hla).1
    refine ⟨_, run_beginRound hla (by rw [hrc]), ?_⟩
    obtain ⟨Wb, hWb⟩ : ∃ Wb, Wa.putObj (w.heap.size + 1) (.loop { rc .ready none with state := .busy }) = Wb := ⟨_, rfl⟩
    have hlb : Wb.heap[w.heap.size + 1]? = some (.loop { rc .ready none with state := .busy }) := by rw [← hWb]; exact World.putObj_heap_same hsa
    have hdb : Wb.heap[w.heap.size]? = some (.deferred (some [])) := by rw [← hWb]; exact (World.putObj_heap_other (by omega)).trans hda
    have hib : I k Wb := by rw [← hWb]; exact hI.put _ hia (by omega) hla rfl
    have hab : Ax k a' Wb := by rw [← hWb]; exact (hAx a').put (k := k) _ hax (by omega) hla rfl
    have htb : KeepsT T Bb W Wb := by rw [← hWb]; exact hta.trans (KeepsT.put _ hla rfl (by omega))
    rw [hWb]
    refine wpIn_mono (hbody _ k a' Wb hib hab) ?_
    have fin : ∀ (jump : Option Code) (W3 : World), KeepsFrom w.heap.size Wb W3 →
        (Instr.endRound (w.heap.size + 1) jump).run P W3 = .ok (.bool jump.isNone) (W3.putObj (w.heap.size + 1) (.loop (rc (if jump.isNone then .ready else .done) jump))) ∧
        W3.heap[w.heap.size + 1]? = some (.loop { rc .ready none with state := .busy }) ∧
        (W3.putObj (w.heap.size + 1) (.loop (rc (if jump.isNone then .ready else .done) jump))).heap[w.heap.size + 1]? = some (.loop (rc (if jump.isNone then .ready else .done) jump)) ∧
        (W3.putObj (w.heap.size + 1) (.loop (rc (if jump.isNone then .ready else .done) jump))).heap[w.heap.size]? = some (.deferred (some [])) := fun jump W3 hk3 => by
      have hl3 := hk3.same _ _ (by omega) hlb (hlp _)
      have he := run_endRound (P := P) jump hl3
      rw [hrc] at he ⊢
      exact ⟨he, by rw [hrc] at hl3; exact hl3, World.putObj_heap_same (Array.getElem?_eq_some_iff.1 hl3).1, (World.putObj_heap_other (by omega)).trans (hk3.same _ _ (Nat.le_refl _) hdb rfl)⟩
    rintro e a3 W3 hp
    cases e with
    | normal =>
      obtain ⟨hk3, ht3, hi3⟩ := hp
      obtain ⟨he, hl3, hl4, hd4⟩ := fin none W3 hk3
      exact ⟨_, _, he, .inl ⟨rfl, ⟨hI.put _ hi3 (by omega) hl3 rfl, hl4, hd4⟩, htb.trans (ht3.trans (KeepsT.put _ hl3 rfl (by omega)))⟩⟩
    | exit id =>
      obtain ⟨rfl, hk3, hi3⟩ := hp
      obtain ⟨he, hl3, hl4, hd4⟩ := fin (some (.exit id)) W3 hk3
      exact ⟨_, _, he, .inr ⟨rfl, hIx.put _ hi3 (by omega) hl3 rfl, hl4, hd4⟩⟩
    | ret => exact hp.elim
    | goto t => exact hp.elim
    | panic ch => exact hp.elim
    | outgrown => exact hp.elim
  · rintro e W2 ⟨⟨v, rfl⟩, k, hi, hl, hd⟩
    exact ⟨some (.exit ex), _, by have := run_endLoop (P := P) hl (by rw [hrc]; simp [rec']); rw [hrc] at this; exact this,
      hstop _ k _ (Nat.le_refl _) (hIx.put _ hi (by omega) hl rfl) ((World.putObj_heap_other (by omega)).trans hd)⟩

end Go.Proofs.YtmpbbflolbakhaaGreatDoor

namespace Go.Proofs.YtmpbbflolbakhaaGreatDoor
open Go.RowKit Go.Shelf

attribute [local go_sem] Oper.semAt_some

open Classical in
/-- The least number for which something holds. -/
noncomputable def leastOf (p : Nat → Prop) : Nat := if h : ∃ m, p m then Classical.choose (least h) else 0

theorem leastOf_spec {p : Nat → Prop} (h : ∃ m, p m) : p (leastOf p) := by
  unfold leastOf; rw [dif_pos h]; exact (Classical.choose_spec (least h)).1
theorem leastOf_le {p : Nat → Prop} {m : Nat} (h : p m) : leastOf p ≤ m := by
  have hex : ∃ m, p m := ⟨m, h⟩
  unfold leastOf; rw [dif_pos hex]
  rcases Nat.lt_or_ge m (Classical.choose (least hex)) with hlt | hge
  · exact absurd h ((Classical.choose_spec (least hex)).2 m hlt)
  · exact hge

/-- A measure for a loop whose counter stands nowhere. -/
noncomputable def muK (N : Nat) (R : Nat → World → Prop) (w : World) : Nat := leastOf (fun m => ∃ k, m = N - k ∧ R k w)
theorem muK_spec {N : Nat} {R : Nat → World → Prop} {w : World} (h : ∃ k, R k w) : ∃ k, R k w ∧ N - k = muK N R w := by
  obtain ⟨k, hk⟩ := h
  obtain ⟨k', e, h'⟩ := leastOf_spec (p := fun m => ∃ k, m = N - k ∧ R k w) ⟨N - k, k, rfl, hk⟩
  exact ⟨k', h', e.symm⟩
theorem muK_le {N : Nat} {R : Nat → World → Prop} {w : World} {k : Nat} (h : R k w) : muK N R w ≤ N - k := leastOf_le ⟨k, rfl, h⟩

theorem Box2.keepT {W W' : World} {B : Nat} {T : TypeId} {x y : Value} {Bb : Nat} (h : Box2 W B T x y) (hk : KeepsT T Bb W W') : Box2 W' B T x y := hk.own B _ h (by simp [isT])

theorem grownBy_of_below {W W' : World} (h : Below W.heap.size W W') : W.grownBy W' none := ⟨h.os, h.tape, h.output, h.size, fun k hk _ => h.block k hk⟩

theorem grownBy_set2 (W : World) (b : Nat) (u v : Value) : W.grownBy ((W.setCell ⟨b, 0, none⟩ u).setCell ⟨b, 1, none⟩ v) (some b) :=
  ⟨rfl, rfl, rfl, by simp, fun k _ hk => by
    have hne : k ≠ b := fun e => hk (by rw [e])
    rw [Below.heap_setCell _ ⟨b, 1, none⟩ _ _ hne, Below.heap_setCell _ ⟨b, 0, none⟩ _ _ hne]⟩

/-- A row abides what an iterator turns. -/
theorem owns_abide {W W' : World} {row : Option Nat} {base T e k : Nat} {v : Value} {xs : List Value} (h : W.ownsRow base e 1 v k xs) (hg : W.grownBy W' row) (hne : T ≠ e)
    (hr : ∀ r, row = some r → ∃ o : Obj, W.heap[r]? = some o ∧ okT T o = true) : W'.ownsRow base e 1 v k xs := by
  refine h.kept hg ?_
  rcases h.2 with ⟨rfl, _⟩ | ⟨g, cap, cur, rfl, _, hh, _⟩
  · exact .inl rfl
  · refine .inr fun e' => ?_
    obtain ⟨o, ho, hk⟩ := hr g e'.symm
    rw [hh] at ho
    cases ho
    simp [okT, Obj.isCells, isT] at hk
    exact hne hk.symm

theorem boxed_abide {W W' : World} {row : Option Nat} {B n : Nat} {t : TypeId} {v : Value} (h : Boxed W B t v) (hB : B < n) (hg : W.grownBy W' row) (hr : ∀ r, row = some r → n ≤ r) : Boxed W' B t v :=
  h.kept hg (fun e => by have := hr B e.symm; omega)

theorem boxed_newAt {W : World} {t : TypeId} {v : Value} {B : Nat} (h : B = W.heap.size) : Boxed (W.alloc (.cells #[v] t)) B t v := by subst h; exact Boxed.new _ _ _

theorem keepsFrom_below {B : Nat} {W W' : World} (h : Below W.heap.size W W') : KeepsFrom B W W' :=
  ⟨h.size, fun k _ _ hk _ => (h.block k (Array.getElem?_eq_some_iff.1 hk).1).trans hk⟩

/-- A row that is kept in a box and grows digit by digit: the box D, its value's row apart from block A. -/
def GrowRow (n₀ D A k : Nat) (xs : List Int) (W : World) : Prop :=
  ∃ v, Boxed W D 27 v ∧ W.ownsRow n₀ 3 1 v k (xs.map (Value.int .i64)) ∧ v.ownBlock ≠ some A

theorem GrowRow.abide {n₀ D A k n : Nat} {xs : List Int} {W W' : World} {row : Option Nat} (h : GrowRow n₀ D A k xs W) (hD : D < n) (hg : W.grownBy W' row)
    (hr : ∀ r, row = some r → n ≤ r ∧ ∃ o : Obj, W.heap[r]? = some o ∧ okT 24 o = true) : GrowRow n₀ D A k xs W' := by
  obtain ⟨v, h1, h2, h3⟩ := h
  exact ⟨v, boxed_abide h1 hD hg (fun r e => (hr r e).1), owns_abide (T := 24) h2 hg (by decide) (fun r e => (hr r e).2), h3⟩

theorem GrowRow.later {n₀ D A k : Nat} {xs : List Int} {W W' : World} (h : GrowRow n₀ D A k xs W) (hb : Below W.heap.size W W') : GrowRow n₀ D A k xs W' := by
  obtain ⟨v, h1, h2, h3⟩ := h
  exact ⟨v, (hb.block D h1.lt).trans h1, h2.kept (grownBy_of_below hb) (by cases hv : v.ownBlock <;> simp), h3⟩

/-- One digit more in the box: what an append and the store behind it leave. -/
theorem grow_step {n₀ D A k : Nat} {x : Int} {xs : List Int} {W w2 : World} {v v' : Value} {o : Obj} (h1 : Boxed W D 27 v) (h2 : W.ownsRow n₀ 3 1 v k (xs.map (Value.int .i64))) (h3 : v.ownBlock ≠ some A) (hA : A < W.heap.size) (hDA : D ≠ A)
    (hown' : w2.ownsRow n₀ 3 1 v' (k + 1) (xs.map (Value.int .i64) ++ [.int .i64 x])) (hgrow : (W.alloc o).grownBy w2 v.ownBlock) (hat : v'.ownBlock = v.ownBlock ∨ v'.ownBlock = some (W.heap.size + 1)) (hn : n₀ ≤ W.heap.size) (hD : n₀ ≤ D) :
    Boxed w2 D 27 v ∧ KeepsOthers W (w2.setCell ⟨D, 0, none⟩ v') ∧ KeepsT 24 A W (w2.setCell ⟨D, 0, none⟩ v') ∧ GrowRow n₀ D A (k + 1) (xs ++ [x]) (w2.setCell ⟨D, 0, none⟩ v') ∧ Below n₀ W (w2.setCell ⟨D, 0, none⟩ v') := by
  obtain ⟨a1, a2, a3, a4, a5⟩ := h1.appended (by decide) h2 hn hD hown' hgrow
  refine ⟨a1, a4, ?_, ⟨v', a2, by rw [List.map_append]; exact a3, ?_⟩, a5⟩
  · refine ((KeepsT.grown (World.grownBy_alloc W o none) (fun r e => by cases e)).trans (KeepsT.grown hgrow fun r e => ⟨fun hr => h3 (by rw [e, hr]), ?_⟩)).trans (KeepsT.grown (grownBy_setCell' w2 D v') fun r e => by cases e; exact ⟨hDA, _, a1, by simp [isT]⟩)
    rcases (h2.alloc o).2 with ⟨rfl, _⟩ | ⟨g, cap, cur, rfl, _, hgb, _⟩
    · simp [Value.ownBlock] at e
    · obtain rfl : g = r := by simpa [Value.ownBlock] using e
      exact ⟨_, hgb, by simp [isT]⟩
  · rcases hat with h | h
    · rw [h]; exact h3
    · rw [h]; simp; omega

end Go.Proofs.YtmpbbflolbakhaaGreatDoor

namespace Go.Proofs.YtmpbbflolbakhaaGreatDoor
open Go.RowKit

attribute [local go_sem] Oper.semAt_some

/-- What the iterator hands out in round k. -/
def itArgs (b T B k : Nat) : Array Value := #[.agg #[.int .i64 (frT b T B k).1, .int .i64 (frT b T B k).2], .int .i64 (dig b T B k)]

set_option maxRecDepth 100000 in
set_option maxHeartbeats 1000000 in
theorem walk1_in (n : Nat) (b T B : Nat) (hT : T < B) (hg : Nat.gcd T B = 1) (hB : B ≤ 1000) (h3 : 2 ≤ b) (h4 : b ≤ 16) (Bf Bb l N : Nat) (J Jx : Nat → World → Prop) (W : World)
    (hBf : Box2 W Bf 24 (.int .i64 T) (.int .i64 B)) (hBb : Boxed W Bb 3 (.int .i64 b)) (hJ : Abide (okT 24) W.heap.size J) (_hJx : Abide (okT 24) W.heap.size Jx)
    (hN : ∀ k W1, J k W1 → k < N)
    (hY : ∀ k W1, J k W1 → YieldAt Fence.wide (n - 1) Tryz.prog l (itArgs b T B k) W1 fun e W' => (e = .returned (.bool true) ∧ J (k + 1) W' ∧ KeepsT 24 Bb W1 W') ∨ (e = .returned (.bool false) ∧ Jx k W'))
    (h0 : J 0 W) :
    CallsIn Fence.wide n Tryz.prog 56 #[.func (.yield l) #[] #[], .pointer (some ⟨Bf, 0, none⟩), .pointer (some ⟨Bb, 0, none⟩)] W fun e W' => (∃ v, e = .returned v) ∧ ∃ k, Jx k W' := by
  have HG := Lib.hid hg; clear hg
  have a0 := hBf.cell0
  have a1 := hBf.cell1
  refine callsIn_of_wp Tryz.func56 rfl trivial ?_ rfl
  simp only [Tryz.ntmps56, List.size_toArray, List.length_cons, List.length_nil, Nat.reduceAdd, Nat.reduceSub, Array.replicate_succ, Array.replicate_zero, List.push_toArray, List.append_toArray, List.nil_append, List.cons_append]
  gi_wp2
  obtain ⟨R, hR⟩ : ∃ R : Nat → World → Prop, R = fun k wr => J k wr ∧ Box2 wr W.heap.size 24 (.int .i64 (frT b T B k).1) (.int .i64 (frT b T B k).2) ∧ Boxed wr Bb 3 (.int .i64 b) ∧ W.heap.size < wr.heap.size := ⟨_, rfl⟩
  have HR := Lib.hid hR; clear hR
  gi_loopw [5] (fun _ wr => ∃ k, R k wr) (fun _ wr => muK N R wr)
  case atStart =>
    refine ⟨0, ?_⟩
    rw [HR.out]
    exact ⟨hJ.alloc _ h0, Box2.newAt rfl, hBb.alloc _, by simp⟩
  case round =>
    obtain ⟨k, hk, hmu⟩ := muK_spec (N := N) hrel
    rw [HR.out] at hk
    obtain ⟨hj, hx, hb, hsz⟩ := hk
    have hkN := hN k wr hj
    have HM := Lib.hid hmu; clear hmu
    have k0 := hx.cell0
    have k1 := hx.cell1
    have kb := hb.cell
    gi_wp2_with fail
    refine ⟨trivial, (fun h => by cases h), (callsIn_wide.2 (next_fr b T B k wr hT HG.out hB h3 h4)).mono ?_⟩
    rintro e w1 ⟨rfl, hb1⟩
    have x1 := hx.later hb1
    have b1 : Boxed w1 Bb 3 (.int .i64 b) := (hb1.block Bb hb.lt).trans hb
    have hs1 := hb1.size
    have c0 := x1.cell0
    have c1 := x1.cell1
    have hlt := x1.lt
    obtain ⟨W2, hW2⟩ : ∃ W2, w1.alloc (.cells #[.int .i64 (frT b T B (k + 1)).1, .int .i64 (frT b T B (k + 1)).2] 24) = W2 := ⟨_, rfl⟩
    have hb2 : Below wr.heap.size wr W2 := by rw [← hW2]; exact hb1.alloc (by omega) _
    have hj2 : J k W2 := hJ k wr W2 none hj (grownBy_of_below hb2) (fun r e => by cases e)
    have x2 : Box2 W2 W.heap.size 24 (.int .i64 (frT b T B k).1) (.int .i64 (frT b T B k).2) := hx.later hb2
    have b2 : Boxed W2 Bb 3 (.int .i64 b) := (hb2.block Bb hb.lt).trans hb
    have z2 : Box2 W2 w1.heap.size 24 (.int .i64 (frT b T B (k + 1)).1) (.int .i64 (frT b T B (k + 1)).2) := by rw [← hW2]; exact Box2.newAt rfl
    have hs2 := hb2.size
    obtain ⟨fn, tmps, assign, body, hy, hRd⟩ := hY k W2 hj2
    unfold itArgs at hy
    have e0 := x2.cell0
    have e1 := x2.cell1
    gi_wp2_with fail
    clear hy e0 e1 hW2 c0 c1 kb k0 k1
    refine ⟨(fun h => by cases h), hRd.mono ?_⟩
    rintro e W3 (⟨rfl, hj3, hk3⟩ | ⟨rfl, hjx⟩)
    · have x3 := x2.keepT hk3
      have z3 := z2.keepT hk3
      have b3 : Boxed W3 Bb 3 (.int .i64 b) := hk3.base _ b2
      have d0 := z3.cell0
      have d1 := z3.cell1
      have e0 := x3.cell0
      have e1 := x3.cell1
      have f0 := x3.frozen0
      have f1 := x3.frozen1
      have hs3 := hk3.size
      have hbw : Bb ≠ W.heap.size := by have := hBb.lt; omega
      gi_wp2_with fail
      have hg3 := grownBy_set2 W3 W.heap.size (.int .i64 (frT b T B (k + 1)).1) (.int .i64 (frT b T B (k + 1)).2)
      have hr' : R (k + 1) ((W3.setCell ⟨W.heap.size, 0, none⟩ (.int .i64 (frT b T B (k + 1)).1)).setCell ⟨W.heap.size, 1, none⟩ (.int .i64 (frT b T B (k + 1)).2)) := by
        rw [HR.out]
        exact ⟨hJ (k + 1) W3 _ _ hj3 hg3 (fun r e => by cases e; exact ⟨Nat.le_refl _, _, x3, by simp [okT, isT]⟩), x3.set _ _, b3.kept hg3 (fun e => hbw (by cases e; rfl)), by simp; omega⟩
      go_roundw
      case rel => exact ⟨k + 1, hr'⟩
      case measure =>
        have := muK_le (N := N) hr'
        have := HM.out
        omega
    · gi_wp2_with fail
      refine bodyPost_ret (results_none rfl _ _ _) rfl ?_
      exact ⟨⟨_, rfl⟩, k, hjx⟩

theorem walk_seq (n : Nat) (b T B : Nat) (hT : T < B) (hg : Nat.gcd T B = 1) (hB : B ≤ 1000) (h3 : 2 ≤ b) (h4 : b ≤ 16) (Bf Bb : Nat) (w : World)
    (hBf : Box2 w Bf 24 (.int .i64 T) (.int .i64 B)) (hBb : Boxed w Bb 3 (.int .i64 b)) :
    SeqK Fence.wide n Tryz.prog 56 #[.pointer (some ⟨Bf, 0, none⟩), .pointer (some ⟨Bb, 0, none⟩)] (itArgs b T B) 24 Bb w :=
  fun l J Jx N W hW hJ hJx hN hY h0 => walk1_in n b T B hT hg hB h3 h4 Bf Bb l N J Jx W (hBf.later hW) ((hW.block Bb hBb.lt).trans hBb) hJ hJx hN hY h0

set_option maxHeartbeats 1000000 in
theorem walk_any (b t n : Int) (w : World) :
    Calls Tryz.prog 36 #[.agg #[.int .i64 t, .int .i64 n], .int .i64 b] w fun e w' =>
      e = .returned (.func (.func 56) #[] #[.pointer (some ⟨w.heap.size, 0, none⟩), .pointer (some ⟨w.heap.size + 1, 0, none⟩)]) ∧
      w' = (w.alloc (.cells #[.int .i64 t, .int .i64 n] 24)).alloc (.cells #[.int .i64 b] 3) := by
  go_enter Tryz.func36, Tryz.ntmps36
  go_wp2
  go_ret
  exact ⟨rfl, rfl⟩

end Go.Proofs.YtmpbbflolbakhaaGreatDoor

namespace Go.Proofs.YtmpbbflolbakhaaGreatDoor
open Go.RowKit Go.Shelf

attribute [local go_sem] Oper.semAt_some

/-- What holds between two rounds of the beginning. -/
def BegInv (b T B : Nat) (w : World) (k : Nat) (W : World) : Prop :=
  (∀ j, j < k → ¬ trn b T B j) ∧ Boxed W (w.heap.size + 1) 3 (.int .i64 b) ∧ GrowRow (w.heap.size + 1 + 1) (w.heap.size + 1 + 1 + 1) (w.heap.size + 1 + 1 + 1 + 1 + 1) k (digL b T B k) W ∧
    Below w.heap.size w W ∧ w.heap.size + 6 ≤ W.heap.size

theorem BegInv.abide (b T B : Nat) (w : World) : Abide (okT 24) (w.heap.size + 6) (BegInv b T B w) := by
  rintro k W W' row ⟨h1, h2, h3, h4, h5⟩ hg hr
  exact ⟨h1, boxed_abide h2 (by omega) hg (fun r e => (hr r e).1), h3.abide (by omega) hg hr, h4.grown hg (by omega) (fun r e => by have := (hr r e).1; omega), by have := hg.size; omega⟩

set_option maxRecDepth 100000 in
set_option maxHeartbeats 1000000 in
theorem begin_any (b T B : Nat) (w : World) (hT : T < B) (hg : Nat.gcd T B = 1) (hB : B ≤ 1000) (h3 : 2 ≤ b) (h4 : b ≤ 16) :
    Calls Tryz.prog 141 #[.agg #[.int .i64 T, .int .i64 B], .int .i64 b] w fun e w' =>
      ∃ v n m, IsLen b T B n m ∧ e = .returned v ∧ Slc w.heap.size w' v (digL b T B n) ∧ Below w.heap.size w w' := by
  obtain ⟨n, m, hnm⟩ := len_some (b := b) hT hg
  obtain ⟨hn1, hn2⟩ := begin_of_len hT hg hnm
  have hle := hnm.le hT
  have HG := Lib.hid hg; clear hg
  obtain ⟨i0, hi, hz0, hz1, hz2⟩ := info_parts infoInt
  refine (callsIn_wide (n := 3)).1 ?_
  refine callsIn_of_wp_marks Tryz.func141 rfl trivial ?_ rfl
  simp only [Tryz.ntmps141, List.size_toArray, List.length_cons, List.length_nil, Nat.reduceAdd, Nat.reduceSub, Array.replicate_succ, Array.replicate_zero, List.push_toArray, List.append_toArray, List.nil_append, List.cons_append]
  gi_wp2_with fail
  refine ⟨trivial, (callsIn_wide.2 (walk_any _ _ _ _)).mono ?_⟩
  rintro e w1 ⟨rfl, rfl⟩
  gi_wp2_with fail
  obtain ⟨W0, hW0⟩ : ∃ W0, (((((w.alloc (.cells #[.int .i64 T, .int .i64 B] 24)).alloc (.cells #[.int .i64 b] 3)).alloc (.cells #[] 3)).alloc (.cells #[.slice (some ⟨w.heap.size + 1 + 1, 0, none⟩) 0 0] 27)).alloc
      (.cells #[.int .i64 T, .int .i64 B] 24)).alloc (.cells #[.int .i64 b] 3) = W0 := ⟨_, rfl⟩
  have hs0 : W0.heap.size = w.heap.size + 6 := by rw [← hW0]; simp
  have x0 : Box2 W0 (w.heap.size + 1 + 1 + 1 + 1) 24 (.int .i64 T) (.int .i64 B) := by rw [← hW0]; exact (Box2.newAt (by simp)).alloc _
  have hbel0 : Below w.heap.size w W0 := by
    rw [← hW0]
    repeat (first | exact Below.refl _ _ | refine Below.alloc ?_ (by simp; try omega) _)
  have b0 : Boxed W0 (w.heap.size + 1 + 1 + 1 + 1 + 1) 3 (.int .i64 b) := by
    rw [← hW0]; exact boxed_newAt (by simp)
  have b1 : Boxed W0 (w.heap.size + 1) 3 (.int .i64 b) := by
    rw [← hW0]; exact ((((boxed_newAt (by simp)).alloc _).alloc _).alloc _).alloc _
  have r0 : GrowRow (w.heap.size + 1 + 1) (w.heap.size + 1 + 1 + 1) (w.heap.size + 1 + 1 + 1 + 1 + 1) 0 (digL b T B 0) W0 := by
    rw [← hW0]
    refine ⟨.slice (some ⟨w.heap.size + 1 + 1, 0, none⟩) 0 0, ((boxed_newAt (by simp)).alloc _).alloc _, ?_, by simp [Value.ownBlock]⟩
    have := ((((World.ownsRow_made (base := w.heap.size + 1 + 1) (e := 3) (size := 1) ((w.alloc (.cells #[.int .i64 T, .int .i64 B] 24)).alloc (.cells #[.int .i64 b] 3)) #[] 0 (by simp) (by simp) (by simp)).alloc
      (.cells #[.slice (some ⟨w.heap.size + 1 + 1, 0, none⟩) 0 0] 27)).alloc (.cells #[.int .i64 T, .int .i64 B] 24)).alloc (.cells #[.int .i64 b] 3))
    simpa [digL] using this
  rw [hW0]
  have HW := Lib.hid hW0; clear hW0
  have hk := walk_seq 2 b T B hT HG.out hB h3 h4 _ _ W0 x0 b0
  refine wpIn_range_k rfl (by omega) (gf := 56) (lb := #[.pointer (some ⟨w.heap.size + 1 + 1 + 1 + 1, 0, none⟩), .pointer (some ⟨w.heap.size + 1 + 1 + 1 + 1 + 1, 0, none⟩)]) rfl trivial (enters_of Tryz.func56 (by kernel_rfl) rfl)
    hk (Below.refl _ _) b0.lt (fun _ => rfl) 0 (n + 1) (BegInv b T B w) (fun k W => trn b T B k ∧ BegInv b T B w k W) ?_ ?_ ?_ ⟨fun j hj => by omega, b1, r0, hbel0, by omega⟩
    (fun k a' W => ∃ Bx, w.heap.size + 6 ≤ Bx ∧ Box2 W Bx 24 (.int .i64 (frT b T B k).1) (.int .i64 (frT b T B k).2) ∧ a' = { tmps := #[Value.agg #[Value.int .i64 T, Value.int .i64 B], Value.int .i64 b,
          Value.pointer (some ⟨w.heap.size, 0, none⟩), Value.pointer (some ⟨w.heap.size + 1, 0, none⟩), Value.slice none 0 0,
          Value.pointer (some ⟨w.heap.size + 1 + 1 + 1, 0, none⟩), Value.pointer (some ⟨Bx, 0, none⟩), .int .i64 (dig b T B k),
          Value.slice (some ⟨w.heap.size + 1 + 1, 0, none⟩) 0 0,
          Value.agg #[Value.int .i64 T, Value.int .i64 B], Value.int .i64 b,
          Value.func (Fn.func 56) #[] #[Value.pointer (some ⟨w.heap.size + 1 + 1 + 1 + 1, 0, none⟩), Value.pointer (some ⟨w.heap.size + 1 + 1 + 1 + 1 + 1, 0, none⟩)],
          .agg #[.int .i64 (frT b T B k).1, .int .i64 (frT b T B k).2], .int .i64 (dig b T B k), undef, undef, undef, undef, undef, undef, undef, undef], defers := [] }) ?_ ?assign ?body ?stop
  · rw [hs0]; exact BegInv.abide b T B w
  · rw [hs0]; rintro k W W' row ⟨h0, h⟩ hg hr; exact ⟨h0, BegInv.abide b T B w k W W' row h hg hr⟩
  · rintro k W ⟨h, _⟩
    rcases Nat.lt_or_ge n k with hlt | hge
    · exact absurd hn1 (h n hlt)
    · omega
  · rintro a' k W W' row ⟨Bx, hBx, hx, ha⟩ hg hr
    exact ⟨Bx, hBx, (hg.block Bx hx.lt (fun e => by obtain ⟨_, o, ho, hk⟩ := hr Bx e.symm; rw [show W.heap[Bx]? = _ from hx] at ho; cases ho; simp [okB, Obj.isCells] at hk)).trans hx, ha⟩
  case assign =>
    intro l k W K hi hK
    have hlt := hi.2.2.2.2
    unfold itArgs
    gi_wp2
    have hb : Below W.heap.size W (W.alloc (.cells #[.int .i64 (frT b T B k).1, .int .i64 (frT b T B k).2] 24)) := (Below.refl _ _).alloc (Nat.le_refl _) _
    exact hK _ _ (keepsFrom_below hb) (KeepsT.below hb) ((BegInv.abide b T B w).alloc _ hi) ⟨W.heap.size, hlt, Box2.new _ _ _ _, rfl⟩
  case body =>
    rintro l k a' W ⟨g1, g2, g3, g4, g5⟩ ⟨Bx, hBx, hx, rfl⟩
    obtain ⟨q1, q2, q3⟩ := fr_lt (b := b) hT HG.out k
    have k0 := hx.cell0
    have k1 := hx.cell1
    have kb := g2.cell
    by_cases ht : Nat.gcd b (frT b T B k).2 = 1
    · have hd : decide (Nat.gcd b (frT b T B k).2 = 1) = true := by simpa using ht
      have HT := Lib.hid ht; clear ht
      gi_wp2_with fail
      refine ⟨trivial, (CallsIn.inRound l (callsIn_wide.2 (turns_any _ _ _ _ (by omega) (by omega)))).mono ?_⟩
      rintro e w1 ⟨rfl, hb1⟩
      gi_wp2_with fail
      exact ⟨rfl, keepsFrom_below hb1, HT.out, BegInv.abide b T B w k W w1 none ⟨g1, g2, g3, g4, g5⟩ (grownBy_of_below hb1) (fun r e => by cases e)⟩
    · have hd : decide (Nat.gcd b (frT b T B k).2 = 1) = false := by simpa using ht
      have HT := Lib.hid ht; clear ht
      have hkn : k ≤ n := by
        rcases Nat.lt_or_ge n k with hlt | hge
        · exact absurd hn1 (g1 n hlt)
        · exact hge
      have hi1 : BegInv b T B w k W := ⟨g1, g2, g3, g4, g5⟩
      gi_wp2_with fail
      refine ⟨trivial, (CallsIn.inRound l (callsIn_wide.2 (turns_any _ _ _ _ (by omega) (by omega)))).mono ?_⟩
      rintro e w1 ⟨rfl, hb1⟩
      obtain ⟨v, hv1, hv2, hv3⟩ := g3.later hb1
      have hc := hv1.cell
      have hs1 := hb1.size
      gi_wp2_with (gi_at_builtin; refine wpListIn_append_own_at _ rfl _ _ 27 rfl (w.heap.size + 1 + 1) 3 i0 (.int .i64 0) 1 8 Tryz.underlying27 hi hz0 hz1 hz2 rfl (by decide) _ _ _ rfl (hv2.alloc _) ⟨w1.heap.size, 0, none⟩ 1 1 [.int .i64 (dig b T B k)] rfl rfl ?c1 ?c2 ?c3 ?c4 ?c5 ?_)
      case c1 => exact cell_one_new _ _ _
      case c2 => simp [Value.oneCell']
      case c3 => unfold maxLen; omega
      case c4 => omega
      case c5 => simp; omega
      intro v' w2 hown' hgrow _ hat
      obtain ⟨a1, a2, a3, a4, a5⟩ := grow_step hv1 hv2 hv3 (by omega) (by omega) hown' hgrow hat (by omega) (by omega)
      obtain ⟨g', cap', rfl⟩ := ownsRow_succ hown'
      have hc1 := a1.cell
      have hf1 := a1.frozen
      gi_wp2_with fail
      have hbw : Below (w.heap.size + 1 + 1) W (w2.setCell ⟨w.heap.size + 1 + 1 + 1, 0, none⟩ (.slice (some ⟨g', 0, none⟩) (k + 1) cap')) := (hb1.mono (by omega)).trans a5
      refine ⟨(keepsFrom_below hb1).trans (a2.from _), (KeepsT.below hb1).trans a3, ⟨?_, ?_, ?_, ?_, ?_⟩⟩
      · intro j hj
        rcases Nat.lt_or_ge j k with h | h
        · exact g1 j h
        · obtain rfl : j = k := by omega
          exact HT.out
      · exact (hbw.block (w.heap.size + 1) (by omega)).trans g2
      · rw [digL_succ]; exact a4
      · exact g4.trans (hbw.mono (by omega))
      · have := hbw.size; omega
  case stop =>
    rintro D k W hD ⟨hk, g1, g2, g3, g4, g5⟩ hDD
    obtain rfl : k = n := by
      rcases Nat.lt_trichotomy k n with h | h | h
      · exact absurd hk (hn2 k h)
      · exact h
      · exact absurd hn1 (g1 n h)
    obtain ⟨v, hv1, hv2, hv3⟩ := g3
    have hc := hv1.cell
    gi_wp2
    refine ⟨by simp, .inl ⟨_, _, rfl, run_takeDeferred hDD, ?_⟩⟩
    have hs := Slc.of_owns (n₀ := w.heap.size + 1 + 1) (xs := digL b T B k) (by rw [digL_len]; exact ownsRow_putObj hv2 (.deferred none) hDD rfl)
    exact ⟨_, results_tmp rfl _ _ _, ⟨v, k, m, hnm, rfl, hs.mono (by omega), g4.trans (belowK_b (w := w) (Nat.le_refl _) W D _ _ (by omega) hDD rfl rfl)⟩⟩

end Go.Proofs.YtmpbbflolbakhaaGreatDoor

namespace Go.Proofs.YtmpbbflolbakhaaGreatDoor
open Go.RowKit

set_option maxHeartbeats 1000000 in
theorem behindBegin_any (b T B : Nat) (w : World) (hT : T < B) (hg : Nat.gcd T B = 1) (hB : B ≤ 1000) (h3 : 2 ≤ b) (h4 : b ≤ 16) :
    Calls Tryz.prog 35 #[.agg #[.int .i64 T, .int .i64 B], .int .i64 b] w fun e w' =>
      ∃ n, (trn b T B n ∧ ∀ i, i < n → ¬ trn b T B i) ∧ e = .returned (frV (frT b T B n)) ∧ Below w.heap.size w w' := by
  have HG := Lib.hid hg; clear hg
  go_enter Tryz.func35, Tryz.ntmps35
  go_wp2
  go_loopw [7] (fun _ wr => ∃ i : Nat, Box2 wr (w.heap.size + 1 + 1) 24 (.int .i64 (frT b T B i).1) (.int .i64 (frT b T B i).2) ∧ Box2 wr (w.heap.size + 1) 24 (.int .i64 0) (.int .i64 0) ∧ (∀ j, j < i → ¬ trn b T B j) ∧ Below w.heap.size w wr)
    (fun _ wr => cellN wr (w.heap.size + 1 + 1) 1)
  case atStart =>
    refine ⟨0, ?_, ?_, fun j hj => by omega, ?_⟩
    · exact Box2.newAt (by simp)
    · exact (Box2.newAt (by simp)).alloc _
    · repeat (first | exact Below.refl _ _ | refine Below.drew ?_ | refine Below.alloc ?_ (by simp; try omega) _ | refine Below.setCell ?_ (by simp; try omega) _)
  case round =>
    obtain ⟨i, hbx, hz, hnot, hbel⟩ := hrel
    obtain ⟨hl1, hl2, hl3⟩ := fr_lt (b := b) hT HG.out i
    have k0 := hbx.cell0
    have k1 := hbx.cell1
    by_cases ht : Nat.gcd b (frT b T B i).2 = 1
    · have hd : decide (Nat.gcd b (frT b T B i).2 = 1) = true := by simpa using ht
      have HT := Lib.hid ht; clear ht
      go_wp2_with fail
      refine (turns_any _ _ _ _ (by omega) (by omega)).mono ?_
      rintro e w1 ⟨rfl, hb1⟩
      have q1 := hbx.later hb1
      have k0' := q1.cell0
      have k1' := q1.cell1
      have z1 := hz.later hb1
      have y0 := z1.cell0
      have y1 := z1.cell1
      have f0 := z1.frozen0
      have f1 := z1.frozen1
      go_wp2_with fail
      have y0' := (z1.set (.int .i64 (frT b T B i).1) (.int .i64 (frT b T B i).2)).cell0
      have y1' := (z1.set (.int .i64 (frT b T B i).1) (.int .i64 (frT b T B i).2)).cell1
      refine bodyPost_ret (v := frV (frT b T B i)) (by simp [results, Tryz.results35, go_sem, y0', y1', frV]) rfl ⟨i, ⟨HT.out, hnot⟩, rfl, ?_⟩
      have hs := hbel.size
      exact ((hbel.trans (hb1.mono hs)).setCell (p := ⟨w.heap.size + 1, 0, none⟩) (by simp) _).setCell (p := ⟨w.heap.size + 1, 1, none⟩) (by simp) _
    · have hd : decide (Nat.gcd b (frT b T B i).2 = 1) = false := by simpa using ht
      have HT := Lib.hid ht; clear ht
      go_wp2_with fail
      refine (turns_any _ _ _ _ (by omega) (by omega)).mono ?_
      rintro e w1 ⟨rfl, hb1⟩
      have q1 := hbx.later hb1
      have k0' := q1.cell0
      have k1' := q1.cell1
      go_wp2_with fail
      refine (next_fr b T B i _ hT HG.out hB h3 h4).mono ?_
      rintro e w2 ⟨rfl, hb2⟩
      have q2 := q1.later hb2
      have z2 := (hz.later hb1).later hb2
      have j0 := q2.cell0
      have j1 := q2.cell1
      have f0 := q2.frozen0
      have f1 := q2.frozen1
      go_wp2_with fail
      go_roundw
      have hs := hbel.size
      have hs1 := hb1.size
      case rel =>
        refine ⟨i + 1, q2.set _ _, ((z2.other (by omega) _).other (by omega) _), ?_, ?_⟩
        · intro j hj
          rcases Nat.lt_or_ge j i with h | h
          · exact hnot j h
          · obtain rfl : j = i := by omega
            exact HT.out
        · exact ((hbel.trans ((hb1.mono hs).trans (hb2.mono (by omega)))).setCell (p := ⟨w.heap.size + 1 + 1, 0, none⟩) (by simp; omega) _).setCell (p := ⟨w.heap.size + 1 + 1, 1, none⟩) (by simp; omega) _
      case measure =>
        rw [cellN_of (q2.set _ _).cell1, cellN_of hbx.cell1]
        exact fr_small hT HG.out h3 HT.out

end Go.Proofs.YtmpbbflolbakhaaGreatDoor

namespace Go.Proofs.YtmpbbflolbakhaaGreatDoor
open Go.RowKit Go.Shelf

attribute [local go_sem] Oper.semAt_some

theorem digL_rnd {b T B : Nat} (hT : T < B) (hg : Nat.gcd T B = 1) (n m : Nat) : digL b (frT b T B n).1 (frT b T B n).2 m = rndL b T B n m := by
  apply List.ext_getElem?
  intro i
  unfold rndL digL
  rw [List.getElem?_drop, List.getElem?_map, List.getElem?_map]
  by_cases hi : i < m
  · rw [List.getElem?_range hi, List.getElem?_range (by omega)]
    simp [dig_add hT hg]
  · rw [List.getElem?_eq_none (by simp; omega), List.getElem?_eq_none (by simp; omega)]
    rfl

theorem owns_form {W : World} {base e k : Nat} {v : Value} {xs : List Value} (h : W.ownsRow base e 1 v k xs) : ∃ a c, v = .slice a k c := by
  rcases h.2 with ⟨rfl, rfl⟩ | ⟨g, cap, cur, rfl, _⟩
  · exact ⟨none, 0, rfl⟩
  · exact ⟨_, _, rfl⟩

/-- What holds between two rounds of the round. -/
def RndInv (b t n m : Nat) (w : World) (k : Nat) (W : World) : Prop :=
  k ≤ m ∧ Box2 W w.heap.size 24 (.int .i64 t) (.int .i64 n) ∧ GrowRow (w.heap.size + 1) (w.heap.size + 1 + 1) (w.heap.size + 1 + 1 + 1 + 1) k (digL b t n k) W ∧
    Below w.heap.size w W ∧ w.heap.size + 5 ≤ W.heap.size

theorem RndInv.abide (b t n m : Nat) (w : World) : Abide (okT 24) (w.heap.size + 5) (RndInv b t n m w) := by
  rintro k W W' row ⟨h1, h2, h3, h4, h5⟩ hg hr
  exact ⟨h1, (hg.block _ h2.lt (fun e => by have := (hr _ e.symm).1; omega)).trans h2, h3.abide (by omega) hg hr, h4.grown hg (by omega) (fun r e => by have := (hr r e).1; omega), by have := hg.size; omega⟩

theorem rnd_ne {b T B n m : Nat} (hT : T < B) (hg : Nat.gcd T B = 1) (hn : trn b T B n) (hm2 : ∀ k, 0 < k → k < m → rst b T B (n + k) ≠ rst b T B n) {k : Nat} (h0 : 0 < k) (hk : k < m) : (frT b (frT b T B n).1 (frT b T B n).2 k).1 ≠ (frT b T B n).1 := by
  intro e
  rw [frT_add] at e
  have h2 := (trn_add hn k).1
  exact hm2 k h0 hk ((fr_again hT hg).1 (Prod.ext e h2))

set_option maxRecDepth 100000 in
set_option maxHeartbeats 1000000 in
theorem round_any (b T B : Nat) (w : World) (hT : T < B) (hg : Nat.gcd T B = 1) (hB : B ≤ 1000) (h3 : 2 ≤ b) (h4 : b ≤ 16) :
    Calls Tryz.prog 17 #[.agg #[.int .i64 T, .int .i64 B], .int .i64 b] w fun e w' =>
      ∃ v n m, IsLen b T B n m ∧ e = .returned v ∧ Slc w.heap.size w' v (rndL b T B n m) ∧ Below w.heap.size w w' := by
  have HG := Lib.hid hg; clear hg
  obtain ⟨i0, hi, hz0, hz1, hz2⟩ := info_parts infoInt
  refine (callsIn_wide (n := 3)).1 ?_
  refine callsIn_of_wp_marks Tryz.func17 rfl trivial ?_ rfl
  simp only [Tryz.ntmps17, List.size_toArray, List.length_cons, List.length_nil, Nat.reduceAdd, Nat.reduceSub, Array.replicate_succ, Array.replicate_zero, List.push_toArray, List.append_toArray, List.nil_append, List.cons_append]
  gi_wp2_with fail
  refine ⟨trivial, (callsIn_wide.2 (behindBegin_any b T B _ hT HG.out hB h3 h4)).mono ?_⟩
  rintro e w1 ⟨n, ⟨hn1, hn2⟩, rfl, hb1⟩
  obtain ⟨m, hnm, hm2⟩ := len_of_begin hT HG.out hn1 hn2
  have hle := hnm.le hT
  obtain ⟨q1, q2, q3⟩ := fr_lt (b := b) hT HG.out n
  have hc1 := (fr_ok (b := b) hT HG.out n).cop
  obtain ⟨t', ht'⟩ : ∃ t', (frT b T B n).1 = t' := ⟨_, rfl⟩
  obtain ⟨n', hn'⟩ : ∃ n', (frT b T B n).2 = n' := ⟨_, rfl⟩
  rw [ht', hn'] at q1 hc1
  rw [hn'] at q2
  have HC := Lib.hid hc1
  unfold frV
  rw [ht', hn']
  have HT := Lib.hid ht'; have HN := Lib.hid hn'
  clear hc1 ht' hn'
  have hs1 := hb1.size
  simp at hs1
  gi_wp2_with fail
  refine ⟨trivial, (callsIn_wide.2 (walk_any _ _ _ _)).mono ?_⟩
  rintro e w2 ⟨rfl, rfl⟩
  gi_wp2_with fail
  obtain ⟨W0, hW0⟩ : ∃ W0, ((((w1.alloc (.cells #[.int .i64 t', .int .i64 n'] 24)).alloc (.cells #[] 3)).alloc (.cells #[.slice (some ⟨w1.heap.size + 1, 0, none⟩) 0 0] 27)).alloc
      (.cells #[.int .i64 t', .int .i64 n'] 24)).alloc (.cells #[.int .i64 b] 3) = W0 := ⟨_, rfl⟩
  have hs0 : W0.heap.size = w1.heap.size + 5 := by rw [← hW0]; simp
  have x0 : Box2 W0 (w1.heap.size + 1 + 1 + 1) 24 (.int .i64 t') (.int .i64 n') := by rw [← hW0]; exact (Box2.newAt (by simp)).alloc _
  have x1 : Box2 W0 w1.heap.size 24 (.int .i64 t') (.int .i64 n') := by rw [← hW0]; exact ((((Box2.newAt (by simp)).alloc _).alloc _).alloc _).alloc _
  have hbel0 : Below w1.heap.size w1 W0 := by
    rw [← hW0]
    repeat (first | exact Below.refl _ _ | refine Below.alloc ?_ (by simp; try omega) _)
  have b0 : Boxed W0 (w1.heap.size + 1 + 1 + 1 + 1) 3 (.int .i64 b) := by
    rw [← hW0]; exact boxed_newAt (by simp)
  have r0 : GrowRow (w1.heap.size + 1) (w1.heap.size + 1 + 1) (w1.heap.size + 1 + 1 + 1 + 1) 0 (digL b t' n' 0) W0 := by
    rw [← hW0]
    refine ⟨.slice (some ⟨w1.heap.size + 1, 0, none⟩) 0 0, ((boxed_newAt (by simp)).alloc _).alloc _, ?_, by simp [Value.ownBlock]⟩
    have := ((((World.ownsRow_made (base := w1.heap.size + 1) (e := 3) (size := 1) (w1.alloc (.cells #[.int .i64 t', .int .i64 n'] 24)) #[] 0 (by simp) (by simp) (by simp)).alloc
      (.cells #[.slice (some ⟨w1.heap.size + 1, 0, none⟩) 0 0] 27)).alloc (.cells #[.int .i64 t', .int .i64 n'] 24)).alloc (.cells #[.int .i64 b] 3))
    simpa [digL] using this
  rw [hW0]
  have HW := Lib.hid hW0; clear hW0
  have hne : ∀ k, 0 < k → k < m → (frT b t' n' k).1 ≠ t' := fun k h0 hk => by
    have := rnd_ne hT HG.out hn1 hm2 h0 hk
    rw [HT.out, HN.out] at this; exact this
  have hlast : frT b t' n' m = (t', n') := by
    have := frT_add b T B n m
    rw [HT.out, HN.out, (fr_again hT HG.out).2 hnm.eq] at this
    rw [this]; exact Prod.ext HT.out HN.out
  have hrnd : digL b t' n' m = rndL b T B n m := by
    have := digL_rnd (b := b) hT HG.out n m
    rw [HT.out, HN.out] at this; exact this
  have HNE := Lib.hid hne; have HL := Lib.hid hlast; have HR := Lib.hid hrnd; have HM2 := Lib.hid hm2
  clear hne hlast hrnd hm2
  have hk := walk_seq 2 b t' n' q1 HC.out (by omega) h3 h4 _ _ W0 x0 b0
  refine wpIn_range_k rfl (by omega) (gf := 56) (lb := #[.pointer (some ⟨w1.heap.size + 1 + 1 + 1, 0, none⟩), .pointer (some ⟨w1.heap.size + 1 + 1 + 1 + 1, 0, none⟩)]) rfl trivial (enters_of Tryz.func56 (by kernel_rfl) rfl)
    hk (Below.refl _ _) b0.lt (fun _ => rfl) 0 (m + 1) (RndInv b t' n' m w1) (fun k W => k = m ∧ RndInv b t' n' m w1 k W) ?_ ?_ ?_ ⟨by omega, x1, r0, hbel0, by omega⟩
    (fun k a' W => ∃ Bx, w1.heap.size + 5 ≤ Bx ∧ Box2 W Bx 24 (.int .i64 (frT b t' n' k).1) (.int .i64 (frT b t' n' k).2) ∧ a' = { tmps := #[Value.agg #[Value.int .i64 T, Value.int .i64 B], Value.int .i64 b,
          Value.pointer (some ⟨w.heap.size, 0, none⟩), undef, Value.slice none 0 0, Value.pointer (some ⟨w1.heap.size, 0, none⟩),
          Value.pointer (some ⟨w1.heap.size + 1 + 1, 0, none⟩), Value.pointer (some ⟨Bx, 0, none⟩), .int .i64 (dig b t' n' k),
          Value.agg #[Value.int .i64 T, Value.int .i64 B], Value.int .i64 b, Value.agg #[Value.int .i64 t', Value.int .i64 n'],
          Value.slice (some ⟨w1.heap.size + 1, 0, none⟩) 0 0, Value.agg #[Value.int .i64 t', Value.int .i64 n'], Value.int .i64 b,
          Value.func (Fn.func 56) #[] #[Value.pointer (some ⟨w1.heap.size + 1 + 1 + 1, 0, none⟩), Value.pointer (some ⟨w1.heap.size + 1 + 1 + 1 + 1, 0, none⟩)],
          .agg #[.int .i64 (frT b t' n' k).1, .int .i64 (frT b t' n' k).2], .int .i64 (dig b t' n' k), undef, undef, undef, undef, undef, undef, undef, undef, undef, undef, undef, undef, undef], defers := [] }) ?_ ?assign ?body ?stop
  · rw [hs0]; exact RndInv.abide b t' n' m w1
  · rw [hs0]; rintro k W W' row ⟨h0, h⟩ hg hr; exact ⟨h0, RndInv.abide b t' n' m w1 k W W' row h hg hr⟩
  · rintro k W ⟨h, _⟩; omega
  · rintro a' k W W' row ⟨Bx, hBx, hx, ha⟩ hg hr
    exact ⟨Bx, hBx, (hg.block Bx hx.lt (fun e => by obtain ⟨_, o, ho, hk⟩ := hr Bx e.symm; rw [show W.heap[Bx]? = _ from hx] at ho; cases ho; simp [okB, Obj.isCells] at hk)).trans hx, ha⟩
  case assign =>
    intro l k W K hi hK
    have hlt := hi.2.2.2.2
    unfold itArgs
    gi_wp2
    have hb : Below W.heap.size W (W.alloc (.cells #[.int .i64 (frT b t' n' k).1, .int .i64 (frT b t' n' k).2] 24)) := (Below.refl _ _).alloc (Nat.le_refl _) _
    exact hK _ _ (keepsFrom_below hb) (KeepsT.below hb) ((RndInv.abide b t' n' m w1).alloc _ hi) ⟨W.heap.size, hlt, Box2.new _ _ _ _, rfl⟩
  case body =>
    rintro l k a' W ⟨g1, g2, g3, g4, g5⟩ ⟨Bx, hBx, hx, rfl⟩
    have hi1 : RndInv b t' n' m w1 k W := ⟨g1, g2, g3, g4, g5⟩
    have u0 := hx.cell0
    have u1 := hx.cell1
    have f0 := g2.cell0
    have f1 := g2.cell1
    obtain ⟨v, hv1, hv2, hv3⟩ := g3
    have hc := hv1.cell
    by_cases hkm : k = m
    · subst hkm
      rw [HL.out] at u0 u1
      have hpos := hnm.pos
      obtain ⟨g', cap', rfl⟩ : ∃ g' cap', v = .slice (some ⟨g', 0, none⟩) k cap' := by
        obtain ⟨k', rfl⟩ : ∃ k', k = k' + 1 := ⟨k - 1, by omega⟩
        exact ownsRow_succ hv2
      gi_wp2_with fail
      exact ⟨rfl, KeepsFrom.refl _ _, rfl, hi1⟩
    obtain ⟨a0, c0, rfl⟩ := owns_form hv2
    by_cases hk0 : k = 0
    · subst hk0
      have hfr0 : frT b t' n' 0 = (t', n') := rfl
      rw [hfr0] at u0 u1
      clear hfr0
      gi_wp2_with (gi_at_builtin; refine wpListIn_append_own_at _ rfl _ _ 27 rfl (w1.heap.size + 1) 3 i0 (.int .i64 0) 1 8 Tryz.underlying27 hi hz0 hz1 hz2 rfl (by decide) _ _ _ rfl (hv2.alloc _) ⟨W.heap.size, 0, none⟩ 1 1 [.int .i64 (dig b t' n' 0)] rfl rfl (cell_one_new _ _ _) (by simp [Value.oneCell']) (by unfold maxLen; omega) (by omega) (by simp; omega) ?_)
      intro v' w2 hown' hgrow _ hat
      obtain ⟨a1, a2, a3, a4, a5⟩ := grow_step hv1 hv2 hv3 (by omega) (by omega) hown' hgrow hat (by omega) (by omega)
      obtain ⟨g', cap', rfl⟩ := ownsRow_succ hown'
      have hc1 := a1.cell
      have hf1 := a1.frozen
      gi_wp2_with fail
      refine ⟨a2.from _, a3, ⟨by omega, (a5.block w1.heap.size (by omega)).trans g2, ?_, g4.trans (a5.mono (by omega)), by have := a5.size; simp at this ⊢; omega⟩⟩
      rw [digL_succ]; exact a4
    · have hnx := HNE.out k (by omega) (by omega)
      have hn1' : (((frT b t' n' k).1 : Int) == (t' : Int)) = false := by simp; omega
      have hn2' : ¬ ((frT b t' n' k).1 : Int) = (t' : Int) := by omega
      clear hnx
      gi_wp2_with (gi_at_builtin; refine wpListIn_append_own_at _ rfl _ _ 27 rfl (w1.heap.size + 1) 3 i0 (.int .i64 0) 1 8 Tryz.underlying27 hi hz0 hz1 hz2 rfl (by decide) _ _ _ rfl (hv2.alloc _) ⟨W.heap.size, 0, none⟩ 1 1 [.int .i64 (dig b t' n' k)] rfl rfl (cell_one_new _ _ _) (by simp [Value.oneCell']) (by unfold maxLen; omega) (by omega) (by simp; omega) ?_)
      intro v' w2 hown' hgrow _ hat
      obtain ⟨a1, a2, a3, a4, a5⟩ := grow_step hv1 hv2 hv3 (by omega) (by omega) hown' hgrow hat (by omega) (by omega)
      obtain ⟨g', cap', rfl⟩ := ownsRow_succ hown'
      have hc1 := a1.cell
      have hf1 := a1.frozen
      gi_wp2_with fail
      refine ⟨a2.from _, a3, ⟨by omega, (a5.block w1.heap.size (by omega)).trans g2, ?_, g4.trans (a5.mono (by omega)), by have := a5.size; omega⟩⟩
      rw [digL_succ]; exact a4
  case stop =>
    rintro D k W hD ⟨rfl, g1, g2, g3, g4, g5⟩ hDD
    obtain ⟨v, hv1, hv2, hv3⟩ := g3
    have hc := hv1.cell
    gi_wp2
    refine ⟨by simp, .inl ⟨_, _, rfl, run_takeDeferred hDD, ?_⟩⟩
    have hs := Slc.of_owns (n₀ := w1.heap.size + 1) (xs := digL b t' n' k) (by rw [digL_len]; exact ownsRow_putObj hv2 (.deferred none) hDD rfl)
    rw [HR.out] at hs
    have hbb := ((Below.refl w.heap.size w).alloc (Nat.le_refl _) (.cells #[.int .i64 T, .int .i64 B] 24)).trans (hb1.mono (by simp))
    exact ⟨_, results_tmp rfl _ _ _, ⟨v, n, k, hnm, rfl, hs.mono (by omega), (hbb.trans (g4.mono (by omega))).trans (belowK_b (w := w) (Nat.le_refl _) W D _ _ (by omega) hDD rfl rfl)⟩⟩

end Go.Proofs.YtmpbbflolbakhaaGreatDoor
