/-
  A range over an iterator without end whose body leaves it: the rounds are counted, and what holds between two of them bounds their number.
-/
import Derived.Test.YtoiofkijinllladRows
import Derived.RangeFuncNested
import Derived.RangeFuncBound
import Derived.RangeFuncCalls
import Derived.RangeFuncLeaves
import Derived.WalkKit
import Derived.OwnWalkIn
import Derived.TacticsInMore
import Derived.LoopNIn
import Derived.LoopIn
namespace Go.Proofs.Ytoiofkijinlllad
open Go.RowKit

/-- Cells of one type: an iterator's own variable lies in such a block. -/
def isT (T : TypeId) : Obj → Bool
  | .cells _ t _ => t == T
  | _ => false

/-- What abides turns of blocks from B on that are of one make. -/
def Abide {β : Type} (ok : Obj → Bool) (B : Nat) (J : β → World → Prop) : Prop :=
  ∀ k W W' row, J k W → W.grownBy W' row → (∀ r, row = some r → B ≤ r ∧ ∃ o : Obj, W.heap[r]? = some o ∧ ok o = true) → J k W'

def okB (o : Obj) : Bool := !o.isCells
def okT (T : TypeId) (o : Obj) : Bool := !o.isCells || isT T o

theorem Abide.put {β : Type} {ok : Obj → Bool} {B : Nat} {J : β → World → Prop} (h : Abide ok B J) {k : β} {W : World} {l : Nat} {o : Obj} (o' : Obj) (hj : J k W) (hB : B ≤ l) (hl : W.heap[l]? = some o) (hk : ok o = true) : J k (W.putObj l o') :=
  h k W _ (some l) hj (grownBy_putObj' W l o') (fun r e => by cases e; exact ⟨hB, o, hl, hk⟩)
theorem Abide.alloc {β : Type} {ok : Obj → Bool} {B : Nat} {J : β → World → Prop} (h : Abide ok B J) {k : β} {W : World} (o : Obj) (hj : J k W) : J k (W.alloc o) :=
  h k W _ none hj (World.grownBy_alloc W o none) (fun r e => by cases e)

/-- What a round that goes on keeps: the iterator's own cells, and one block more. -/
structure KeepsT (T : TypeId) (Bb : Nat) (W W' : World) : Prop where
  size : W.heap.size ≤ W'.heap.size
  own : ∀ (k : Nat) (o : Obj), W.heap[k]? = some o → isT T o = true → W'.heap[k]? = some o
  base : ∀ o : Obj, W.heap[Bb]? = some o → W'.heap[Bb]? = some o

theorem KeepsT.refl (T : TypeId) (Bb : Nat) (W : World) : KeepsT T Bb W W := ⟨Nat.le_refl _, fun _ _ h _ => h, fun _ h => h⟩
theorem KeepsT.trans {T : TypeId} {Bb : Nat} {A B C : World} (h : KeepsT T Bb A B) (k : KeepsT T Bb B C) : KeepsT T Bb A C :=
  ⟨Nat.le_trans h.size k.size, fun i o hi ho => k.own i o (h.own i o hi ho) ho, fun o ho => k.base o (h.base o ho)⟩
theorem KeepsT.grown {T : TypeId} {Bb : Nat} {W W' : World} {row : Option Nat} (hg : W.grownBy W' row) (hr : ∀ r, row = some r → r ≠ Bb ∧ ∃ o : Obj, W.heap[r]? = some o ∧ isT T o = false) : KeepsT T Bb W W' := by
  refine ⟨hg.size, fun k o hk ho => ?_, fun o ho => ?_⟩
  · exact (hg.block k (Array.getElem?_eq_some_iff.1 hk).1 (fun e => by obtain ⟨_, o', ho', hf⟩ := hr k e.symm; rw [hk] at ho'; cases ho'; rw [ho] at hf; cases hf)).trans hk
  · exact (hg.block Bb (Array.getElem?_eq_some_iff.1 ho).1 (fun e => (hr Bb e.symm).1 rfl)).trans ho
theorem KeepsT.put {T : TypeId} {Bb : Nat} {W : World} {l : Nat} {o : Obj} (o' : Obj) (hl : W.heap[l]? = some o) (ho : o.isCells = false) (hne : l ≠ Bb) : KeepsT T Bb W (W.putObj l o') :=
  KeepsT.grown (grownBy_putObj' W l o') (fun r e => by cases e; exact ⟨hne, o, hl, by cases o <;> simp_all [isT, Obj.isCells]⟩)
theorem KeepsT.below {T : TypeId} {Bb : Nat} {W W' : World} (h : Below W.heap.size W W') : KeepsT T Bb W W' :=
  ⟨h.size, fun k _ hk _ => (h.block k (Array.getElem?_eq_some_iff.1 hk).1).trans hk, fun _ ho => (h.block Bb (Array.getElem?_eq_some_iff.1 ho).1).trans ho⟩

/-- The word of an iterator without end: called at the yield of a loop, it hands out args 0, args 1, .., till a round says no more. -/
def SeqK (F : Fence) (n : Nat) (P : Program) (g : Nat) (lb : Array Value) (args : Nat → Array Value) (T : TypeId) (Bb : Nat) (w : World) : Prop :=
  ∀ (l : Nat) (J Jx : Nat → World → Prop) (N : Nat) (W : World), Below w.heap.size w W → Abide (okT T) W.heap.size J → Abide (okT T) W.heap.size Jx →
    (∀ k W1, J k W1 → k < N) →
    (∀ k W1, J k W1 → YieldAt F (n - 1) P l (args k) W1 fun e W' => (e = .returned (.bool true) ∧ J (k + 1) W' ∧ KeepsT T Bb W1 W') ∨ (e = .returned (.bool false) ∧ Jx k W')) →
    J 0 W →
    CallsIn F n P g (#[.func (.yield l) #[] #[]] ++ lb) W fun e W' => (∃ v, e = .returned v) ∧ ∃ k, Jx k W'

/-- How a round may be left: off its end, or by the one break. -/
def kPost (B : Nat) (T : TypeId) (Bb ex : Nat) (I Ix : Nat → World → Prop) (k : Nat) (W : World) : Exit → Act → World → Prop
  | .normal, _, W' => KeepsFrom B W W' ∧ KeepsT T Bb W W' ∧ I (k + 1) W'
  | .exit id, _, W' => id = ex ∧ KeepsFrom B W W' ∧ Ix k W'
  | _, _, _ => False

variable {F : Fence} {n : Nat} {P : Program}

theorem wpIn_range_k {g : Operand} {ps : Array Tmp} {assign body : Code} {Q : Exit → Act → World → Prop} {a : Act} {w : World}
    (hro : F.round = none) (h1 : 1 ≤ n) {gf : Nat} {lb : Array Value} (hg : a.eval g = .func (.func gf) #[] lb) (hFg : F.fn gf) (eg : ∀ args w, (callFunc gf args).run P w = .ok (.enter gf args) w)
    {args : Nat → Array Value} {T : TypeId} {Bb : Nat} {w0 : World} (hseq : SeqK F (n - 1) P gf lb args T Bb w0) (hb0 : Below w0.heap.size w0 w) (hBb : Bb < w.heap.size) (hps : ∀ k, (args k).size = ps.size)
    (ex N : Nat) (I Ix : Nat → World → Prop) (hI : Abide (okT T) w.heap.size I) (hIx : Abide (okT T) w.heap.size Ix) (hN : ∀ k W, I k W → k < N) (h0 : I 0 w)
    (Ax : Nat → Act → World → Prop) (hAx : ∀ a', Abide okB w.heap.size (fun k W => Ax k a' W))
    (hassign : ∀ (l k : Nat) (W : World) (K : Act → World → Prop), I k W → (∀ a' W', KeepsFrom w.heap.size W W' → KeepsT T Bb W W' → I k W' → Ax k a' W' → K a' W') →
      assign.wpIn (F.inRound l) (n - 1 - 1) P (Exit.then K (fun _ _ _ => False)) { tmps := (ps.zip (args k)).foldl (fun t (p, v) => t.setIfInBounds p v) a.tmps, defers := [] } W)
    (hbody : ∀ (l k : Nat) (a' : Act) (W : World), I k W → Ax k a' W → body.wpIn (F.inRound l) (n - 1 - 1) P (kPost w.heap.size T Bb ex I Ix k W) a' W)
    (hstop : ∀ (D k : Nat) (W : World), w.heap.size ≤ D → Ix k W → W.heap[D]? = some (.deferred (some [])) → (Code.exit ex).wpIn F n P Q { a with defers := { target := .collected D, args := #[] } :: a.defers } W) :
    (Code.rangeFunc g ps assign body).wpIn F n P Q a w := by
  refine wpIn_rangeFunc fun fn hfn => ?_
  rw [hro]
  have hlp : ∀ r : Loop, (Obj.loop r).isCells = false := fun _ => rfl
  let rec' : LoopState → Option Code → Loop := fun st pe => { state := st, pending := pe, fn, tmps := a.tmps, params := ps, assign, body, defers := w.heap.size }
  obtain ⟨rc, hrc⟩ : ∃ rc, rc = rec' := ⟨_, rfl⟩
  obtain ⟨W1, hW1⟩ : ∃ W1, (w.alloc (.deferred (some []))).alloc (.loop (rc .ready none)) = W1 := ⟨_, rfl⟩
  have hb : Below w.heap.size w W1 := by rw [← hW1]; exact ((Below.refl _ w).alloc (Nat.le_refl _) _).alloc (by simp) _
  have hs1 : W1.heap.size = w.heap.size + 1 + 1 := by rw [← hW1]; simp
  have hl0 : W1.heap[w.heap.size + 1]? = some (.loop (rc .ready none)) := by
    rw [← hW1]; have := World.alloc_heap_new (w.alloc (.deferred (some []))) (.loop (rc .ready none)); rwa [World.size_alloc] at this
  have hd0 : W1.heap[w.heap.size]? = some (.deferred (some [])) := by
    rw [← hW1]; exact (Below.heap_alloc _ _ _ (by simp)).trans (World.alloc_heap_new w _)
  have hI1 : I 0 W1 := by rw [← hW1]; exact hI.alloc _ (hI.alloc _ h0)
  -- blocks of book-keeping abide what the iterator turns
  have keep : ∀ {A B : World} {row : Option Nat} {i : Nat} {o : Obj}, A.grownBy B row → (∀ r, row = some r → W1.heap.size ≤ r ∧ ∃ o : Obj, A.heap[r]? = some o ∧ okT T o = true) → i < W1.heap.size → A.heap[i]? = some o → B.heap[i]? = some o :=
    fun hgr hr hi ho => (hgr.block _ (Array.getElem?_eq_some_iff.1 ho).1 (fun e => by have := (hr _ e.symm).1; omega)).trans ho
  refine ⟨w.heap.size + 1, [{ target := .collected w.heap.size, args := #[] }], W1, { target := .fn (.func gf) lb, args := #[.func (.yield (w.heap.size + 1)) #[] #[]] }, W1, gf,
    #[.func (.yield (w.heap.size + 1)) #[] #[]] ++ lb, W1, ?_, ?_, ?_, ?_, fun _ => h1, ?_⟩
  · rw [← hW1, hrc]; exact run_enterLoop_outer _ _ _ _ _
  · simp only [resolve, hg]; simp [go_sem]
  · intro f' hf'; simp [Target.leads] at hf'; subst hf'; exact hFg
  · simp [invoke, go_sem, eg]
  refine (hseq (w.heap.size + 1)
    (fun k W => I k W ∧ W.heap[w.heap.size + 1]? = some (.loop (rc .ready none)) ∧ W.heap[w.heap.size]? = some (.deferred (some [])))
    (fun k W => Ix k W ∧ W.heap[w.heap.size + 1]? = some (.loop (rc .done (some (.exit ex)))) ∧ W.heap[w.heap.size]? = some (.deferred (some [])))
    N W1 (hb0.trans (hb.mono hb0.size))
    (fun k A B row hs hgr hr => ⟨hI k A B row hs.1 hgr (fun r e => ⟨by have := (hr r e).1; omega, (hr r e).2⟩), keep hgr hr (by omega) hs.2.1, keep hgr hr (by omega) hs.2.2⟩)
    (fun k A B row hs hgr hr => ⟨hIx k A B row hs.1 hgr (fun r e => ⟨by have := (hr r e).1; omega, (hr r e).2⟩), keep hgr hr (by omega) hs.2.1, keep hgr hr (by omega) hs.2.2⟩)
    (fun k W hs => hN k W hs.1) ?_ ⟨hI1, hl0, hd0⟩).mono ?_
  · rintro k W ⟨hi, hl, hd⟩
    have hy := run_yield (P := P) (args := args k) hl (by rw [hrc]; exact hps k)
    rw [hrc] at hy
    refine ⟨fn, _, assign, body, hy, roundIn_of_wpIn hfn (hassign _ k W _ hi ?_)⟩
    clear hy
    intro a' Wa hka hta hia hax
    have hla := hka.same _ _ (by omega) hl (hlp _)
    have hda := hka.same _ _ (Nat.le_refl _) hd rfl
    have hsa : w.heap.size + 1 < Wa.heap.size := (Array.getElem?_eq_some_iff.1 hla).1
    refine ⟨_, run_beginRound hla (by rw [hrc]), ?_⟩
    obtain ⟨Wb, hWb⟩ : ∃ Wb, Wa.putObj (w.heap.size + 1) (.loop { rc .ready none with state := .busy }) = Wb := ⟨_, rfl⟩
    have hlb : Wb.heap[w.heap.size + 1]? = some (.loop { rc .ready none with state := .busy }) := by rw [← hWb]; exact World.putObj_heap_same hsa
    have hdb : Wb.heap[w.heap.size]? = some (.deferred (some [])) := by rw [← hWb]; exact (World.putObj_heap_other (by omega)).trans hda
    have hib : I k Wb := by rw [← hWb]; exact hI.put _ hia (by omega) hla rfl
    have hab : Ax k a' Wb := by rw [← hWb]; exact (hAx a').put (k := k) _ hax (by omega) hla rfl
    have htb : KeepsT T Bb W Wb := by rw [← hWb]; exact hta.trans (KeepsT.put _ hla rfl (by omega))
    rw [hWb]
    refine wpIn_mono (hbody _ k a' Wb hib hab) ?_
    have fin : ∀ (jump : Option Code) (W3 : World), KeepsFrom w.heap.size Wb W3 →
        (Instr.endRound (w.heap.size + 1) jump).run P W3 = .ok (.bool jump.isNone) (W3.putObj (w.heap.size + 1) (.loop (rc (if jump.isNone then .ready else .done) jump))) ∧
        W3.heap[w.heap.size + 1]? = some (.loop { rc .ready none with state := .busy }) ∧
        (W3.putObj (w.heap.size + 1) (.loop (rc (if jump.isNone then .ready else .done) jump))).heap[w.heap.size + 1]? = some (.loop (rc (if jump.isNone then .ready else .done) jump)) ∧
        (W3.putObj (w.heap.size + 1) (.loop (rc (if jump.isNone then .ready else .done) jump))).heap[w.heap.size]? = some (.deferred (some [])) := fun jump W3 hk3 => by
      have hl3 := hk3.same _ _ (by omega) hlb (hlp _)
      have he := run_endRound (P := P) jump hl3
      rw [hrc] at he ⊢
      exact ⟨he, by rw [hrc] at hl3; exact hl3, World.putObj_heap_same (Array.getElem?_eq_some_iff.1 hl3).1, (World.putObj_heap_other (by omega)).trans (hk3.same _ _ (Nat.le_refl _) hdb rfl)⟩
    rintro e a3 W3 hp
    cases e with
    | normal =>
      obtain ⟨hk3, ht3, hi3⟩ := hp
      obtain ⟨he, hl3, hl4, hd4⟩ := fin none W3 hk3
      exact ⟨_, _, he, .inl ⟨rfl, ⟨hI.put _ hi3 (by omega) hl3 rfl, hl4, hd4⟩, htb.trans (ht3.trans (KeepsT.put _ hl3 rfl (by omega)))⟩⟩
    | exit id =>
      obtain ⟨rfl, hk3, hi3⟩ := hp
      obtain ⟨he, hl3, hl4, hd4⟩ := fin (some (.exit id)) W3 hk3
      exact ⟨_, _, he, .inr ⟨rfl, hIx.put _ hi3 (by omega) hl3 rfl, hl4, hd4⟩⟩
    | ret => exact hp.elim
    | goto t => exact hp.elim
    | panic ch => exact hp.elim
    | outgrown => exact hp.elim
  · rintro e W2 ⟨⟨v, rfl⟩, k, hi, hl, hd⟩
    exact ⟨some (.exit ex), _, by have := run_endLoop (P := P) hl (by rw [hrc]; simp [rec']); rw [hrc] at this; exact this,
      hstop _ k _ (Nat.le_refl _) (hIx.put _ hi (by omega) hl rfl) ((World.putObj_heap_other (by omega)).trans hd)⟩

end Go.Proofs.Ytoiofkijinlllad
