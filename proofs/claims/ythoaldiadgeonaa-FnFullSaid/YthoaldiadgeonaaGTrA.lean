/-
  TWO PROGRAMS IN STEP. P, and P' which has the same tables and other functions; a set G of blocks that in P' are channels that nothing knows ("poison"). Whatever P' carries out, P carries out too, alike, and no block of G is touched plainly.
  Here: the relation of the worlds, the relation of computations ('SimS'), its laws for the words of 'Sem' and of the model's library.
  Two programs in step: the words of 'Sem' and of the model's library, one by one.
  Two programs in step: the model's library, the operators.
  Two programs in step: the operators.
  Two programs in step: equality, the binary and unary operators.
  Two programs in step: the binary and unary operators, the conversions between integers.
-/
import Derived.Test.YthoaldiadgeonaaGGoA
import Derived.Room.Entries
import Derived.Laws.Sem
import GoSem.Dispatch
namespace Go.Proofs.Ythoaldiadgeonaa.Tr
open Go.Conc Go.Proofs.Ythoaldiadgeonaa.Cr

structure Cfg where
  P : Program
  fs : Array Func
  Shun : Loc → Prop
  G : Nat → Prop
  /-- Those of G that are no channel but a view onto itself: old blocks that P' is not to know. -/
  V : Nat → Prop
  /-- What stands there. -/
  wv : Nat → Obj
  /-- The heap's size at the start. -/
  n0 : Nat
  /-- What is held of every object of the heap. -/
  O : Obj → Prop

abbrev Cfg.P' (c : Cfg) : Program := { toTables := c.P.toTables, funcs := c.fs }

/-- Poison: what stands in P' in the place of a block that nobody may touch plainly: a channel that nothing knows. -/
abbrev poisoned : Obj := .chan 0 #[] false 0 0 false

/-- The poison at a block of G. -/
noncomputable def Cfg.po (c : Cfg) (r : Nat) : Obj := open Classical in if c.V r then .view ⟨r, 0, none⟩ 0 else poisoned
theorem Cfg.po_cases (c : Cfg) (r : Nat) : (c.V r ∧ c.po r = .view ⟨r, 0, none⟩ 0) ∨ (¬ c.V r ∧ c.po r = poisoned) := by
  by_cases h : c.V r
  · exact .inl ⟨h, if_pos h⟩
  · exact .inr ⟨h, if_neg h⟩
/-- A block that may stand where P' has a view onto itself. -/
def Weird : Obj → Prop
  | .view .. | .pending .. | .loop .. | .deferred .. => True
  | _ => False
/-- A block that may stand where P' has poison. -/
def Plain : Obj → Prop
  | .cells _ _ f => f = (0, 0)
  | .chan .. => True
  | _ => False

structure Rel (c : Cfg) (w w' : World) : Prop where
  size : w.heap.size = w'.heap.size
  off : ∀ r, ¬ c.G r → w.heap[r]? = w'.heap[r]?
  poison : ∀ r, c.G r → w'.heap[r]? = some (c.po r)
  plain : ∀ (r : Nat) (o : Obj), c.G r → w.heap[r]? = some o → (c.V r → Weird o ∧ o = c.wv r) ∧ (¬ c.V r → Plain o)
  noview : ∀ (r : Nat) (a : Addr) (t : TypeId), w'.heap[r]? = some (Obj.view a t) → c.G r
  nopend : ∀ (r : Nat) (a : Array Value) (t : TypeId), w'.heap[r]? ≠ some (Obj.pending a t)
  objs : ∀ (r : Nat) (o : Obj), w'.heap[r]? = some o → c.O o
  os : w.os = w'.os
  output : w.output = w'.output
  shun : ∀ l, c.Shun l → ∃ a, l = .cell a ∧ c.G a.block
  glob : (∀ r, c.G r → c.V r ∨ c.n0 ≤ r) ∧ c.n0 ≤ w'.heap.size

def Tapes (d : Nat) (w w' : World) : Prop := ∀ j q, j < d → w.tape (w.drawn + j) q = w'.tape (w'.drawn + j) q

structure Adv (c : Cfg) (w w' w1 w1' : World) (es es1 : Array Event) : Prop where
  rel : Rel c w1 w1'
  tape : w1.tape = w.tape
  tape' : w1'.tape = w'.tape
  drawn : w1.drawn = w.drawn + (w1'.drawn - w'.drawn)
  drawn' : w'.drawn ≤ w1'.drawn
  size : w.heap.size ≤ w1.heap.size
  evs : ∀ e ∈ es1, e ∈ es ∨ Tame c.Shun w1.heap.size e

/-- A halt that ends the machine (or a panic). -/
def Fine : Halt → Prop
  | .panic _ | .stuck _ => True
  | .unsupported (.initOrder _) => False
  | .unsupported _ => True
  | _ => False

def SimS {α : Type} (c : Cfg) (Q : α → Prop) (s s' : Sem α) : Prop := ∀ w w' es, Rel c w w' →
  match s'.run c.P' w' with
  | .ok a w1' => Tapes (w1'.drawn - w'.drawn) w w' → ∃ w1 es1, s.runT c.P w es = (.ok a w1, es1) ∧ Adv c w w' w1 w1' es es1 ∧ Q a
  | .halt h w1' => Fine h ∧ ∀ v, h = .panic v → Tapes (w1'.drawn - w'.drawn) w w' → ∃ w1 es1, s.runT c.P w es = (.halt (.panic v) w1, es1) ∧ Adv c w w' w1 w1' es es1

/-! ### the tape only goes on -/
theorem ask_mono {α : Type} : ∀ (k : Ask α) (w : World), w.drawn ≤ (w.ask k).2.drawn ∧ (w.ask k).2.tape = w.tape := by
  intro k
  induction k with
  | done a => exact fun w => ⟨Nat.le_refl _, rfl⟩
  | ask what range k ih =>
    intro w
    simp only [World.ask]
    split
    · exact ih _ w
    · have := ih ((Question.extern what range).cut (w.tape w.drawn (.extern what range))) { w with drawn := w.drawn + 1 }
      exact ⟨by have h := this.1; simp only at h; omega, this.2⟩
theorem sys_mono (w : World) (s : Sys) : w.drawn ≤ (w.sys s).2.drawn ∧ (w.sys s).2.tape = w.tape := by
  have h := ask_mono (Kernel.perform s w.os) w
  simp only [World.sys]
  split
  · exact ⟨Nat.le_refl _, rfl⟩
  · rename_i e; rw [e] at h; exact h

def Result.world {α : Type} : Result α → World
  | .ok _ w => w
  | .halt _ w => w

theorem farStore_mono {p : Program} {w w1 : World} {a : Addr} {v : Value} {b : Bool} {l : List Addr} (h : w.farStore p a v b = .ok (w1, l)) : w1.drawn = w.drawn ∧ w1.tape = w.tape := by
  unfold World.farStore at h
  split at h
  · split at h
    · rename_i e
      injection h with h
      subst h
      unfold World.viewStore at e
      simp only [bind, Except.bind, pure, Except.pure] at e
      (repeat' split at e) <;> first | (cases e; done) | (injection e with e; injection e with e1 e2; subst e1; exact ⟨rfl, rfl⟩)
    · cases h
  · cases h

theorem run_mono {α : Type} (P : Program) (s : Sem α) : ∀ w, w.drawn ≤ (Result.world (s.run P w)).drawn ∧ (Result.world (s.run P w)).tape = w.tape := by
  induction s with
  | pure a => exact fun w => ⟨Nat.le_refl _, rfl⟩
  | load m a k ih =>
    intro w; simp only [Sem.run]
    (repeat' split) <;> first | exact ih _ w | exact ⟨Nat.le_refl _, rfl⟩
  | store m a v k ih =>
    intro w
    have hf : ∀ w1 : World, w1.drawn = w.drawn → w1.tape = w.tape → w.drawn ≤ (Result.world (k.run P w1)).drawn ∧ (Result.world (k.run P w1)).tape = w.tape := fun w1 h1 h2 => by
      have := ih w1; rw [h1, h2] at this; exact this
    cases v <;> simp only [Sem.run] <;> (repeat' split) <;> first | exact hf _ rfl rfl | exact ⟨Nat.le_refl _, rfl⟩ | (rename_i e; exact hf _ (farStore_mono e).1 (farStore_mono e).2)
  | new o k ih => intro w; exact ih _ { w with heap := w.heap.push o }
  | shape r k ih => intro w; exact ih _ w
  | freeze a n k ih => 
    intro w
    have h1 : (w.freeze a n).drawn = w.drawn ∧ (w.freeze a n).tape = w.tape := by unfold World.freeze; split <;> exact ⟨rfl, rfl⟩
    have := ih (w.freeze a n)
    rw [h1.1, h1.2] at this
    exact this
  | frozen a k ih => intro w; exact ih _ w
  | getObj r k ih => intro w; simp only [Sem.run]; (repeat' split) <;> first | exact ih _ w | exact ⟨Nat.le_refl _, rfl⟩
  | setObj r o k ih => intro w; simp only [Sem.run]; (repeat' split) <;> first | exact ih { w with heap := w.heap.setIfInBounds r o } | exact ⟨Nat.le_refl _, rfl⟩
  | choose q k ih =>
    intro w; simp only [Sem.run]; split
    · exact ih _ w
    · have := ih (q.cut (w.tape w.drawn q)) { w with drawn := w.drawn + 1 }
      exact ⟨by have h := this.1; simp only at h; omega, this.2⟩
  | sys s k ih =>
    intro w
    have h1 := sys_mono w s
    have h2 := ih (w.sys s).1 (w.sys s).2
    exact ⟨Nat.le_trans h1.1 h2.1, h2.2.trans h1.2⟩
  | program k ih => exact fun w => ih P w
  | mark m k ih => exact fun w => ih w
  | halt h => exact fun w => ⟨Nat.le_refl _, rfl⟩

/-! ### the laws -/
section
variable {c : Cfg} {α β : Type} {Q : α → Prop} {R : β → Prop}

theorem Adv.refl {w w' : World} {es : Array Event} (h : Rel c w w') : Adv c w w' w w' es es := ⟨h, rfl, rfl, by omega, Nat.le_refl _, Nat.le_refl _, fun _ h => .inl h⟩

theorem tame_mono {Shun : Loc → Prop} {B B' : Nat} {e : Event} (h : Tame Shun B e) (hb : B ≤ B') : Tame Shun B' e := ⟨h.1, MemAct.low_mono hb h.2.1, h.2.2⟩

theorem Adv.trans {w w' w1 w1' w2 w2' : World} {es es1 es2 : Array Event} (h : Adv c w w' w1 w1' es es1) (k : Adv c w1 w1' w2 w2' es1 es2) : Adv c w w' w2 w2' es es2 :=
  ⟨k.rel, k.tape.trans h.tape, k.tape'.trans h.tape', by have := h.drawn; have := k.drawn; have := h.drawn'; have := k.drawn'; omega, Nat.le_trans h.drawn' k.drawn', Nat.le_trans h.size k.size,
    fun e he => (k.evs e he).elim (fun h1 => (h.evs e h1).imp id fun t => tame_mono t k.size) .inr⟩

theorem Tapes.le {d d' : Nat} {w w' : World} (h : Tapes d w w') (hd : d' ≤ d) : Tapes d' w w' := fun j q hj => h j q (by omega)
theorem Tapes.behind {d d' : Nat} {w w' w1 w1' : World} {es es1 : Array Event} (h : Tapes d w w') (k : Adv c w w' w1 w1' es es1) (hd : w1'.drawn - w'.drawn + d' ≤ d) : Tapes d' w1 w1' := fun j q hj => by
  have e1 := k.drawn; have e2 := k.drawn'
  rw [k.tape, k.tape', e1]
  have := h (w1'.drawn - w'.drawn + j) q (by omega)
  have e3 : w'.drawn + (w1'.drawn - w'.drawn + j) = w1'.drawn + j := by omega
  rw [e3, ← Nat.add_assoc] at this
  exact this

theorem SimS.pure {a : α} (h : Q a) : SimS c Q (.pure a) (.pure a) := fun w _ es hr _ => ⟨w, es, rfl, .refl hr, h⟩
theorem SimS.pure' {a : α} (h : Q a) : SimS c Q (Pure.pure a) (Pure.pure a) := SimS.pure h
theorem SimS.halt {h : Halt} (hf : Fine h) : SimS c Q (.halt h) (.halt h) := fun w _ es hr => ⟨hf, fun v e _ => ⟨w, es, by rw [e]; rfl, .refl hr⟩⟩

theorem SimS.mono {Q' : α → Prop} {s s' : Sem α} (h : SimS c Q s s') (hq : ∀ a, Q a → Q' a) : SimS c Q' s s' := by
  intro w w' es hr
  have := h w w' es hr
  revert this
  split
  · exact fun h t => let ⟨w1, es1, a, b, q⟩ := h t; ⟨w1, es1, a, b, hq _ q⟩
  · exact id

theorem SimS.bind {s s' : Sem α} {f f' : α → Sem β} (h : SimS c Q s s') (hf : ∀ a, Q a → SimS c R (f a) (f' a)) : SimS c R (s.bind f) (s'.bind f') := by
  intro w w' es hr
  have h1 := h w w' es hr
  have m1 := run_mono c.P' s' w'
  rw [Sem.run_bind']
  cases e1 : s'.run c.P' w' with
  | ok a w1' =>
    rw [e1] at h1 m1
    simp only [Result.world] at h1 m1
    simp only [Result.andThen]
    have m2 := run_mono c.P' (f' a) w1'
    cases e2 : (f' a).run c.P' w1' with
    | ok b w2' =>
      rw [e2] at m2
      simp only [Result.world] at m2
      intro ht
      obtain ⟨w1, es1, r1, a1, q1⟩ := h1 (ht.le (by omega))
      have h2 := hf a q1 w1 w1' es1 a1.rel
      rw [e2] at h2
      obtain ⟨w2, es2, r2, a2, q2⟩ := h2 (ht.behind a1 (by omega))
      exact ⟨w2, es2, by rw [Go.Room.Sem.runT_bind, r1]; exact r2, a1.trans a2, q2⟩
    | halt hh w2' =>
      rw [e2] at m2
      simp only [Result.world] at m2
      -- Fine wants a related world: but it speaks of P' alone; it is told by any related world
      refine ⟨?_, fun v hv ht => ?_⟩
      · by_cases ht : Tapes (w1'.drawn - w'.drawn) { w with tape := fun i q => w'.tape (i - w.drawn + w'.drawn) q } w'
        · have h1' := h { w with tape := fun i q => w'.tape (i - w.drawn + w'.drawn) q } w' es ⟨hr.size, hr.off, hr.poison, hr.plain, hr.noview, hr.nopend, hr.objs, hr.os, hr.output, hr.shun, hr.glob⟩
          rw [e1] at h1'
          obtain ⟨w1, es1, r1, a1, q1⟩ := h1' ht
          have h2 := hf a q1 w1 w1' es1 a1.rel
          rw [e2] at h2
          exact h2.1
        · exact absurd (fun j q _ => by show w'.tape (w.drawn + j - w.drawn + w'.drawn) q = _; congr 1; omega) ht
      · obtain ⟨w1, es1, r1, a1, q1⟩ := h1 (ht.le (by omega))
        have h2 := hf a q1 w1 w1' es1 a1.rel
        rw [e2] at h2
        obtain ⟨w2, es2, r2, a2⟩ := h2.2 v hv (ht.behind a1 (by omega))
        exact ⟨w2, es2, by rw [Go.Room.Sem.runT_bind, r1]; exact r2, a1.trans a2⟩
  | halt hh w1' =>
    rw [e1] at h1
    refine ⟨h1.1, fun v hv ht => ?_⟩
    obtain ⟨w1, es1, r1, a1⟩ := h1.2 v hv ht
    exact ⟨w1, es1, by rw [Go.Room.Sem.runT_bind, r1], a1⟩
theorem SimS.bind' {s s' : Sem α} {f f' : α → Sem β} (h : SimS c Q s s') (hf : ∀ a, Q a → SimS c R (f a) (f' a)) : SimS c R (s >>= f) (s' >>= f') := h.bind hf

/-- The program is looked at. -/
theorem SimS.prog {f f' : Program → Sem β} (h : SimS c R (f c.P) (f' c.P')) : SimS c R (program >>= f) (program >>= f') := h
end

end Go.Proofs.Ythoaldiadgeonaa.Tr

namespace Go.Proofs.Ythoaldiadgeonaa.Tr
open Go.Conc Go.Proofs.Ythoaldiadgeonaa.Cr

/-- One computation, in step with itself. -/
abbrev SimU {α : Type} (c : Cfg) (Q : α → Prop) (s : Sem α) : Prop := SimS c Q s s

set_option linter.unusedSimpArgs false

section
variable {c : Cfg} {α β : Type} {Q : α → Prop} {R : β → Prop}

theorem Rel.fresh {w w' : World} (hr : Rel c w w') : ¬ c.G w.heap.size := fun hg => by
  have h := hr.poison _ hg
  have := (Array.getElem?_eq_some_iff.1 h).1
  have := hr.size
  omega
theorem Rel.cellG {w w' : World} (hr : Rel c w w') {a : Addr} {v : Value} (h : w'.cell? a = some v) : ¬ c.G a.block := fun hg => by
  rcases c.po_cases a.block with ⟨_, e⟩ | ⟨_, e⟩ <;> simp [World.cell?, hr.poison _ hg, e] at h
theorem Rel.cell {w w' : World} (hr : Rel c w w') {a : Addr} {v : Value} (h : w'.cell? a = some v) : w.cell? a = some v := by
  have e := hr.off _ (hr.cellG h)
  rw [← h]; unfold World.cell?; rw [e]
theorem Rel.cell_lt {w w' : World} (hr : Rel c w w') {a : Addr} {v : Value} (h : w'.cell? a = some v) : a.block < w.heap.size := by
  rw [hr.size]
  unfold World.cell? at h
  split at h
  · rename_i e; exact (Array.getElem?_eq_some_iff.1 e).1
  · cases h
theorem Rel.notShun {w w' : World} (hr : Rel c w w') {a : Addr} (h : ¬ c.G a.block) : ¬ c.Shun (.cell a) := fun hs => by
  obtain ⟨b, e, hb⟩ := hr.shun _ hs
  injection e with e
  exact h (e ▸ hb)
theorem Rel.notShunO {w w' : World} (hr : Rel c w w') (r : Nat) : ¬ c.Shun (.obj r) := fun hs => by
  obtain ⟨b, e, _⟩ := hr.shun _ hs
  cases e

theorem tame_at {Shun : Loc → Prop} {B : Nat} (a : Addr) (wr sy : Bool) (hS : ¬ Shun (.cell a)) (hB : a.block < B) : Tame Shun B ⟨.cell a, wr, sy⟩ := by
  refine ⟨fun x hx => ?_, hB, by simp, by simp, by simp⟩
  simp only [MemAct.ofEvent, MemAct.touch?, Option.some.injEq] at hx
  subst hx
  exact ⟨rfl, fun h => absurd h hS⟩
theorem tame_obj {Shun : Loc → Prop} {B : Nat} (r : Nat) (wr sy : Bool) (hS : ¬ Shun (.obj r)) (hB : r < B) : Tame Shun B ⟨.obj r, wr, sy⟩ := by
  cases wr <;> cases sy <;> refine ⟨fun x hx => ?_, hB, by simp, by simp, by simp⟩ <;> simp only [MemAct.ofEvent, MemAct.touch?, Option.some.injEq, reduceCtorEq] at hx <;> (subst hx; exact ⟨rfl, fun h => absurd h hS⟩)
theorem tame_mark {Shun : Loc → Prop} {B : Nat} {m : Mark} (hm : m = .noRoom ∨ ∃ f, m = .extern f) : Tame Shun B ⟨.mark m, false, true⟩ := by
  rcases hm with rfl | ⟨f, rfl⟩ <;> refine ⟨fun x hx => ?_, trivial, by simp, by simp, by simp⟩ <;> simp [MemAct.ofEvent, MemAct.touch?] at hx

theorem Adv.push {w w' : World} {es : Array Event} {e : Event} (h : Rel c w w') (he : Tame c.Shun w.heap.size e) : Adv c w w' w w' es (es.push e) :=
  ⟨h, rfl, rfl, by omega, Nat.le_refl _, Nat.le_refl _, fun x hx => (Array.mem_push.1 hx).imp id fun e' => by rw [e']; exact he⟩

theorem noCell_fine {w w' : World} (hr : Rel c w w') (a : Addr) (s : String) : Fine (w'.noCell a s) ∧ ∀ v, w'.noCell a s ≠ .panic v := by
  unfold World.noCell
  split
  · rename_i e; exact absurd e (hr.nopend _ _ _)
  · exact ⟨trivial, by simp⟩
  · exact ⟨trivial, by simp⟩

theorem seen_self {w' : World} (p : Program) {r : Nat} {at_ : Addr} {u u2 : TypeId} (a : Addr) (b : Bool) (e : w'.heap[at_.block]? = some (.view ⟨r, 0, none⟩ u2)) : ∃ why, w'.seen p at_ u a b = .error why := by
  unfold World.seen
  by_cases h1 : (a.spot.isSome || at_.spot.isSome) = true
  · exact ⟨_, by simp only [h1, if_true]; rfl⟩
  · simp only [h1]
    cases h2 : plainCell p p.depth u a.off with
    | none => exact ⟨_, rfl⟩
    | some like =>
      cases h3 : like.bytes?.map (·.length) with
      | none => exact ⟨_, by simp only [h3]; rfl⟩
      | some size =>
        cases h4 : byteOfCell p p.depth u a.off with
        | none => exact ⟨_, by simp only [h3]; rfl⟩
        | some β => exact ⟨_, by simp only [h3, e]; rfl⟩
/-- A place that lies in no row: P' stops. -/
theorem far_fine {w w' : World} (hr : Rel c w w') (p : Program) (a : Addr) (b : Bool) : ∃ h, w'.farLoad p a b = .error h ∧ Fine h ∧ ∀ v, h ≠ .panic v := by
  unfold World.farLoad
  split
  · rename_i at_ u e
    have hg := hr.noview _ _ _ e
    have hp := hr.poison _ hg
    rw [e] at hp
    rcases c.po_cases a.block with ⟨_, eo⟩ | ⟨_, eo⟩
    · rw [eo] at hp
      injection hp with hp
      injection hp with h1 h2
      subst h1 h2
      have : ∃ why, w'.viewLoad p ⟨a.block, 0, none⟩ 0 a b = .error why := by
        obtain ⟨why, h⟩ := seen_self p (u := 0) a b (at_ := ⟨a.block, 0, none⟩) e
        exact ⟨why, by unfold World.viewLoad; rw [h]; rfl⟩
      obtain ⟨why, h⟩ := this
      rw [h]
      exact ⟨_, rfl, trivial, by simp⟩
    · rw [eo] at hp; cases hp
  · exact ⟨_, rfl, (noCell_fine hr _ _).1, (noCell_fine hr _ _).2⟩
theorem far_fineS {w w' : World} (hr : Rel c w w') (p : Program) (a : Addr) (v : Value) (b : Bool) : ∃ h, w'.farStore p a v b = .error h ∧ Fine h ∧ ∀ v, h ≠ .panic v := by
  unfold World.farStore
  split
  · rename_i at_ u e
    have hg := hr.noview _ _ _ e
    have hp := hr.poison _ hg
    rw [e] at hp
    rcases c.po_cases a.block with ⟨_, eo⟩ | ⟨_, eo⟩
    · rw [eo] at hp
      injection hp with hp
      injection hp with h1 h2
      subst h1 h2
      have : ∃ why, w'.viewStore p ⟨a.block, 0, none⟩ 0 a v b = .error why := by
        obtain ⟨why, h⟩ := seen_self p (u := 0) a b (at_ := ⟨a.block, 0, none⟩) e
        unfold World.viewStore
        by_cases ht : tight p p.depth 0 = true
        · exact ⟨why, by rw [h]; simp only [ht]; rfl⟩
        · exact ⟨_, by simp only [ht]; rfl⟩
      obtain ⟨why, h⟩ := this
      rw [h]
      exact ⟨_, rfl, trivial, by simp⟩
    · rw [eo] at hp; cases hp
  · exact ⟨_, rfl, (noCell_fine hr _ _).1, (noCell_fine hr _ _).2⟩

theorem sim_load (a : Addr) (m : Go.Mode) : SimU c (fun _ => True) (load a m) := by
  intro w w' es hr
  simp only [load, Sem.run]
  cases e : w'.cell? a with
  | some v =>
    intro _
    exact ⟨w, es.push ⟨.cell a, false, m == .atomic⟩, by simp only [Sem.runT, hr.cell e], .push hr (tame_at a _ _ (hr.notShun (hr.cellG e)) (hr.cell_lt e)), trivial⟩
  | none =>
    obtain ⟨h, e, h1, h2⟩ := far_fine hr c.P' a (m == Go.Mode.atomic)
    simp only [e]
    exact ⟨h1, fun v h => absurd h (h2 v)⟩

theorem setCell_at (w : World) (a : Addr) (v : Value) {r : Nat} (h : r ≠ a.block) : (w.setCell a v).heap[r]? = w.heap[r]? := by
  simp only [World.setCell, Array.getElem?_modify]
  rw [if_neg (fun e => h e.symm)]
theorem setCell_size (w : World) (a : Addr) (v : Value) : (w.setCell a v).heap.size = w.heap.size := by simp [World.setCell]

theorem Rel.setCell (hO : ∀ cs cs' e f, c.O (.cells cs e f) → c.O (.cells cs' e f)) {w w' : World} (hr : Rel c w w') (a : Addr) (v : Value) (hg : ¬ c.G a.block) : Rel c (w.setCell a v) (w'.setCell a v) := by
  have hat : (w.setCell a v).heap[a.block]? = (w'.setCell a v).heap[a.block]? := by
    simp only [World.setCell, Array.getElem?_modify, hr.off _ hg]
  have hk : ∀ (o : Obj), (w'.setCell a v).heap[a.block]? = some o → w'.heap[a.block]? = some o ∨ ∃ cs cs' e f, w'.heap[a.block]? = some (.cells cs e f) ∧ o = .cells cs' e f := fun o ho => by
    simp only [World.setCell, Array.getElem?_modify, if_true] at ho
    cases e : w'.heap[a.block]? with
    | none => rw [e] at ho; cases ho
    | some x =>
      rw [e] at ho
      simp only [Option.map_some, Option.some.injEq] at ho
      cases x <;> first | (right; exact ⟨_, _, _, _, rfl, ho.symm⟩) | (left; rw [← ho])
  refine ⟨by rw [setCell_size, setCell_size]; exact hr.size, fun r h => ?_, fun r h => ?_, fun r o h ho => ?_, fun r b t ho => ?_, fun r b t ho => ?_, fun r o ho => ?_, hr.os, hr.output, hr.shun, hr.glob.1, by rw [setCell_size]; exact hr.glob.2⟩
  · by_cases e : r = a.block
    · subst e; exact hat
    · rw [setCell_at _ _ _ e, setCell_at _ _ _ e]; exact hr.off _ h
  · rw [setCell_at _ _ _ (fun e => hg (e ▸ h))]; exact hr.poison _ h
  · rw [setCell_at _ _ _ (fun e => hg (e ▸ h))] at ho; exact hr.plain _ _ h ho
  · by_cases e : r = a.block
    · subst e
      rcases hk _ ho with h | ⟨_, _, _, _, _, h⟩
      · exact hr.noview _ _ _ h
      · cases h
    · rw [setCell_at _ _ _ e] at ho; exact hr.noview _ _ _ ho
  · by_cases e : r = a.block
    · subst e
      rcases hk _ ho with h | ⟨_, _, _, _, _, h⟩
      · exact hr.nopend _ _ _ h
      · cases h
    · rw [setCell_at _ _ _ e] at ho; exact hr.nopend _ _ _ ho
  · by_cases e : r = a.block
    · subst e
      rcases hk _ ho with h | ⟨_, _, _, _, h1, h⟩
      · exact hr.objs _ _ h
      · rw [h]; exact hO _ _ _ _ (hr.objs _ _ h1)
    · rw [setCell_at _ _ _ e] at ho; exact hr.objs _ _ ho

theorem sim_store (hO : ∀ cs cs' e f, c.O (.cells cs e f) → c.O (.cells cs' e f)) (a : Addr) (v : Value) (m : Go.Mode) : SimU c (fun _ => True) (store a v m) := by
  intro w w' es hr
  have key : match (match w'.cell? a with
      | some _ => if w'.frozen? a then Result.halt (.unsupported (.unsafePointer "a write to bytes that a string shares")) w' else .ok () (w'.setCell a v)
      | none => match w'.farStore c.P' a v (m == Go.Mode.atomic) with
        | .ok (w, _) => .ok () w
        | .error h => .halt h w') with
    | .ok _ w1' => Tapes (w1'.drawn - w'.drawn) w w' → ∃ w1 es1, (match w.cell? a with
      | some _ =>
        if w.frozen? a then (Result.halt (.unsupported (.unsafePointer "a write to bytes that a string shares")) w, es)
        else (.ok () (w.setCell a v), es.push ⟨.cell a, true, m == Go.Mode.atomic⟩)
      | none => match w.farStore c.P a v (m == Go.Mode.atomic) with
        | .ok (w, touched) => (.ok () w, es ++ touched.toArray.map (⟨.cell ·, true, m == Go.Mode.atomic⟩))
        | .error h => (.halt h w, es)) = (.ok () w1, es1) ∧ Adv c w w' w1 w1' es es1 ∧ True
    | .halt h _ => Fine h ∧ ∀ v, h ≠ .panic v := by
    cases e : w'.cell? a with
    | some u =>
      simp only []
      have hg := hr.cellG e
      have hf : w.frozen? a = w'.frozen? a := by unfold World.frozen?; rw [hr.off _ hg]
      by_cases hz : w'.frozen? a = true
      · rw [if_pos hz]; exact ⟨trivial, by simp⟩
      · rw [if_neg hz]
        intro _
        refine ⟨w.setCell a v, es.push ⟨.cell a, true, m == Go.Mode.atomic⟩, by simp only [hr.cell e, hf, if_neg hz], ?_, trivial⟩
        refine ⟨hr.setCell hO a v hg, rfl, rfl, ?_, Nat.le_refl _, by rw [setCell_size]; exact Nat.le_refl _, fun x hx => (Array.mem_push.1 hx).imp id fun e' => by rw [e']; exact tame_at a _ _ (hr.notShun hg) (by rw [setCell_size]; exact hr.cell_lt e)⟩
        show w.drawn = w.drawn + (w'.drawn - w'.drawn); omega
    | none =>
      obtain ⟨h, e, h1, h2⟩ := far_fineS hr c.P' a v (m == Go.Mode.atomic)
      simp only [e]
      exact ⟨h1, h2⟩
  have stop : ∀ v : Value, (∃ x, v = .agg x) ∨ (∃ x, v = .tuple x) → ∀ w, (store a v m).run c.P' w = .halt (.stuck "store: not the value of one cell") w := by
    rintro v (⟨x, rfl⟩ | ⟨x, rfl⟩) w <;> rfl
  by_cases hv : (∃ x, v = .agg x) ∨ (∃ x, v = .tuple x)
  · rw [stop v hv]; exact ⟨trivial, fun _ h => by cases h⟩
  · have e1 : (store a v m).run c.P' w' = (match w'.cell? a with
      | some _ => if w'.frozen? a then Result.halt (.unsupported (.unsafePointer "a write to bytes that a string shares")) w' else .ok () (w'.setCell a v)
      | none => match w'.farStore c.P' a v (m == Go.Mode.atomic) with
        | .ok (w, _) => .ok () w
        | .error h => .halt h w') := by
      cases v <;> first | (simp at hv; done) | rfl
    have e2 : (store a v m).runT c.P w es = (match w.cell? a with
      | some _ =>
        if w.frozen? a then (Result.halt (.unsupported (.unsafePointer "a write to bytes that a string shares")) w, es)
        else (.ok () (w.setCell a v), es.push ⟨.cell a, true, m == Go.Mode.atomic⟩)
      | none => match w.farStore c.P a v (m == Go.Mode.atomic) with
        | .ok (w, touched) => (.ok () w, es ++ touched.toArray.map (⟨.cell ·, true, m == Go.Mode.atomic⟩))
        | .error h => (.halt h w, es)) := by
      cases v <;> first | (simp at hv; done) | rfl
    rw [e1, e2]
    revert key
    generalize (match w'.cell? a with
      | some _ => if w'.frozen? a then Result.halt (.unsupported (.unsafePointer "a write to bytes that a string shares")) w' else .ok () (w'.setCell a v)
      | none => match w'.farStore c.P' a v (m == Go.Mode.atomic) with
        | .ok (w, _) => .ok () w
        | .error h => .halt h w') = r
    cases r with
    | ok u w1' => exact id
    | halt h w1' => exact fun k => ⟨k.1, fun v hv => absurd hv (k.2 v)⟩

theorem sim_newObj {o : Obj} (hO : c.O o) (h1 : ∀ a t, o ≠ .view a t) (h2 : ∀ a t, o ≠ .pending a t) : SimU c (fun _ => True) (newObj o) := by
  intro w w' es hr
  have hz : (w.heap.push o).size = w.heap.size + 1 := by simp
  have hlt : ∀ {r : Nat}, c.G r → r < w'.heap.size := fun h => (Array.getElem?_eq_some_iff.1 (hr.poison _ h)).1
  have hk : ∀ (r : Nat) (x : Obj), (w'.heap.push o)[r]? = some x → w'.heap[r]? = some x ∨ x = o := fun r x hx => by
    rw [Array.getElem?_push] at hx
    split at hx
    · exact .inr (Option.some.inj hx).symm
    · exact .inl hx
  intro _
  refine ⟨{ w with heap := w.heap.push o }, es, ?_, ?_, trivial⟩
  · show (Result.ok w.heap.size _, es) = _; rw [hr.size]
  refine ⟨⟨by simp [hr.size], fun r h => ?_, fun r h => ?_, fun r x h hx => ?_, fun r a t hx => ?_, fun r a t hx => ?_, fun r x hx => ?_, hr.os, hr.output, hr.shun, hr.glob.1, by show _ ≤ (w'.heap.push o).size; have := hr.glob.2; simp; omega⟩, rfl, rfl, ?_, Nat.le_refl _, ?_, fun e he => .inl he⟩
  · simp only [Array.getElem?_push, hr.size, hr.off _ h]
  · show (w'.heap.push o)[r]? = _
    rw [Array.getElem?_push, if_neg (by have := hlt h; omega)]; exact hr.poison _ h
  · have hx : (w.heap.push o)[r]? = some x := hx
    rw [Array.getElem?_push, if_neg (by have := hlt h; have := hr.size; omega)] at hx; exact hr.plain _ _ h hx
  · exact (hk _ _ hx).elim (hr.noview _ _ _) fun e => (h1 _ _ e.symm).elim
  · exact (hk _ _ hx).elim (hr.nopend _ _ _) fun e => h2 _ _ e.symm
  · exact (hk _ _ hx).elim (hr.objs _ _) fun e => e ▸ hO
  · show w.drawn = w.drawn + (w'.drawn - w'.drawn); omega
  · show w.heap.size ≤ (w.heap.push o).size; omega

theorem sim_frozen (a : Addr) : SimU c (fun _ => True) (frozen a) := by
  intro w w' es hr _
  have e : w.frozen? a = w'.frozen? a := by
    by_cases hg : c.G a.block
    · have h1 : w'.frozen? a = false := by rcases c.po_cases a.block with ⟨_, eo⟩ | ⟨_, eo⟩ <;> simp [World.frozen?, hr.poison _ hg, eo]
      rw [h1]
      unfold World.frozen?
      cases h : w.heap[a.block]? with
      | none => rfl
      | some o =>
        have := hr.plain _ _ hg h
        by_cases hv : c.V a.block
        · have := (this.1 hv).1; cases o <;> first | rfl | cases this
        · have := this.2 hv; cases o <;> first | (simp only [Plain] at this; subst this; simp) | rfl | cases this
    · unfold World.frozen?; rw [hr.off _ hg]
  exact ⟨w, es, by show (Result.ok (w.frozen? a) w, es) = _; rw [e], .refl hr, trivial⟩

/-- What an object that is read tells. -/
def Told (c : Cfg) (o : Obj) : Prop := c.O o ∧ (∀ a t, o ≠ .view a t) ∧ (∀ a t, o ≠ .pending a t)

/-- P' stops at once (and does not panic). -/
def Stops (c : Cfg) (s : Sem α) : Prop := ∀ w', ∃ x w1', s.run c.P' w' = .halt x w1' ∧ Fine x ∧ ∀ v, x ≠ .panic v
theorem stops_stuck (m : String) : Stops c (stuck m : Sem α) := fun w' => ⟨_, w', rfl, trivial, fun v h => by cases h⟩

/-- An object is read: no block of G, for of a channel and of a view nothing is read. -/
theorem sim_getObj {f : Obj → Sem β} (r : Nat) (hs : Stops c (f poisoned) ∧ ∀ a t, Stops c (f (.view a t))) (hf : ∀ o, ¬ c.G r → Told c o → SimU c R (f o)) : SimU c R (getObj r >>= f) := by
  by_cases hg : c.G r
  · have hs' : Stops c (f (c.po r)) := by
      rcases c.po_cases r with ⟨_, eo⟩ | ⟨_, eo⟩ <;> rw [eo]
      · exact hs.2 _ _
      · exact hs.1
    intro w w' es hr
    obtain ⟨x, w1', e, hx, hv⟩ := hs' w'
    have : (getObj r >>= f).run c.P' w' = .halt x w1' := by
      show (Sem.getObj r _).run c.P' w' = _
      have hp := hr.poison _ hg
      simp only [Sem.run, hp]
      rcases c.po_cases r with ⟨_, eo⟩ | ⟨_, eo⟩ <;> (rw [eo] at e ⊢; exact e)
    rw [this]
    exact ⟨hx, fun v h => absurd h (hv v)⟩
  · refine SimS.bind' (Q := fun o => Told c o) ?_ fun o ho => hf o hg ho
    intro w w' es hr
    simp only [getObj, Sem.run]
    cases e : w'.heap[r]? with
    | none => exact ⟨trivial, fun v h => by cases h⟩
    | some o =>
      by_cases hc : ∃ x y z, o = .cells x y z
      · obtain ⟨x, y, z, rfl⟩ := hc
        exact ⟨trivial, fun v h => by cases h⟩
      · have ew : w.heap[r]? = some o := (hr.off _ hg).trans e
        have ht : Told c o := ⟨hr.objs _ _ e, fun a t h => hg (hr.noview r a t (h ▸ e)), fun a t h => hr.nopend r a t (h ▸ e)⟩
        have hA : Adv c w w' w w' es (es.push ⟨.obj r, false, o.isChan⟩) := .push hr (tame_obj r _ _ (hr.notShunO r) (Array.getElem?_eq_some_iff.1 ew).1)
        cases o <;> first | exact absurd ⟨_, _, _, rfl⟩ hc | (intro _; exact ⟨w, _, by simp only [Sem.runT, ew], hA, ht⟩)

theorem sim_setObj {r : Nat} (hg : ¬ c.G r) {o : Obj} (hO : c.O o) (h1 : ∀ a t, o ≠ .view a t) (h2 : ∀ a t, o ≠ .pending a t) : SimU c (fun _ => True) (setObj r o) := by
  intro w w' es hr
  simp only [setObj, Sem.run]
  cases e : w'.heap[r]? with
  | none => exact ⟨trivial, fun v h => by cases h⟩
  | some x =>
    by_cases hc : ∃ a y z, x = .cells a y z
    · obtain ⟨a, y, z, rfl⟩ := hc
      exact ⟨trivial, fun v h => by cases h⟩
    · have ew : w.heap[r]? = some x := (hr.off _ hg).trans e
      have hlt := (Array.getElem?_eq_some_iff.1 ew).1
      have hlt' := (Array.getElem?_eq_some_iff.1 e).1
      have hk : ∀ (s : Nat) (y : Obj), (w'.heap.setIfInBounds r o)[s]? = some y → w'.heap[s]? = some y ∨ y = o := fun s y hy => by
        by_cases es : r = s
        · subst es; rw [Array.getElem?_setIfInBounds_self_of_lt hlt'] at hy; exact .inr (Option.some.inj hy).symm
        · rw [Array.getElem?_setIfInBounds_ne es] at hy; exact .inl hy
      have hA : Adv c w w' { w with heap := w.heap.setIfInBounds r o } { w' with heap := w'.heap.setIfInBounds r o } es (es.push ⟨.obj r, true, o.isChan⟩) := by
        refine ⟨⟨by simp [hr.size], fun s h => ?_, fun s h => ?_, fun s y h hy => ?_, fun s a t hx => ?_, fun s a t hx => ?_, fun s y hx => ?_, hr.os, hr.output, hr.shun, hr.glob.1, by show _ ≤ (w'.heap.setIfInBounds r o).size; simpa using hr.glob.2⟩, rfl, rfl, ?_, Nat.le_refl _, ?_, fun e he => (Array.mem_push.1 he).imp id fun e' => by rw [e']; exact tame_obj r _ _ (hr.notShunO r) (by simpa using hlt)⟩
        · show (w.heap.setIfInBounds r o)[s]? = (w'.heap.setIfInBounds r o)[s]?
          by_cases es : r = s
          · subst es; rw [Array.getElem?_setIfInBounds_self_of_lt hlt, Array.getElem?_setIfInBounds_self_of_lt hlt']
          · rw [Array.getElem?_setIfInBounds_ne es, Array.getElem?_setIfInBounds_ne es]; exact hr.off _ h
        · show (w'.heap.setIfInBounds r o)[s]? = _
          rw [Array.getElem?_setIfInBounds_ne (fun e => hg (by rw [e]; exact h))]; exact hr.poison _ h
        · have hy : (w.heap.setIfInBounds r o)[s]? = some y := hy
          rw [Array.getElem?_setIfInBounds_ne (fun e => hg (by rw [e]; exact h))] at hy; exact hr.plain _ _ h hy
        · exact (hk _ _ hx).elim (hr.noview _ _ _) fun e => (h1 _ _ e.symm).elim
        · exact (hk _ _ hx).elim (hr.nopend _ _ _) fun e => h2 _ _ e.symm
        · exact (hk _ _ hx).elim (hr.objs _ _) fun e => e ▸ hO
        · show w.drawn = w.drawn + (w'.drawn - w'.drawn); omega
        · show w.heap.size ≤ (w.heap.setIfInBounds r o).size; simp
      cases x <;> first | exact absurd ⟨_, _, _, rfl⟩ hc | (intro _; exact ⟨_, _, by simp only [Sem.runT, ew], hA, trivial⟩)

theorem sim_choose (q : Question) : SimU c (fun _ => True) (choose q) := by
  intro w w' es hr
  simp only [choose, Sem.run]
  by_cases hq : q.forced = true
  · simp only [hq, if_true]
    intro _
    exact ⟨w, es, by simp only [Sem.runT, hq, if_true], .refl hr, trivial⟩
  · simp only [hq]
    intro ht
    have e := ht 0 q (by show 0 < w'.drawn + 1 - w'.drawn; omega)
    refine ⟨{ w with drawn := w.drawn + 1 }, es, by simp only [Sem.runT, hq]; rw [show w.tape w.drawn q = w'.tape w'.drawn q from e]; rfl, ?_, trivial⟩
    refine ⟨⟨hr.size, hr.off, hr.poison, hr.plain, hr.noview, hr.nopend, hr.objs, hr.os, hr.output, hr.shun, hr.glob⟩, rfl, rfl, ?_, Nat.le_succ _, Nat.le_refl _, fun e he => .inl he⟩
    show w.drawn + 1 = w.drawn + (w'.drawn + 1 - w'.drawn); omega

theorem sim_mark {m : Mark} (hm : m = .noRoom ∨ ∃ f, m = .extern f) : SimU c (fun _ => True) (mark m) := by
  intro w w' es hr _
  exact ⟨w, _, rfl, .push hr (tame_mark hm), trivial⟩

/-- P' does not get through. -/
theorem sim_stops {s s' : Sem α} (h : Stops c s') : SimS c Q s s' := by
  intro w w' es hr
  obtain ⟨x, w1', e, hx, hv⟩ := h w'
  rw [e]
  exact ⟨hx, fun v h => absurd h (hv v)⟩

theorem sim_prog {f : Program → Sem β} (e : f c.P' = f c.P) (h : SimU c R (f c.P)) : SimU c R (program >>= f) := SimS.prog (by rw [e]; exact h)
theorem sim_bind {s : Sem α} {f : α → Sem β} (h : SimU c Q s) (hf : ∀ a, Q a → SimU c R (f a)) : SimU c R (s >>= f) := SimS.bind' h hf
theorem sim_true {s : Sem α} (h : SimU c Q s) : SimU c (fun _ => True) s := SimS.mono h fun _ _ => trivial

theorem viewAt_other (p : Program) {w : World} {r : Nat} {o : Obj} (es : Array Event) (h : w.heap[r]? = some o) (h1 : ∀ x y z, o ≠ .cells x y z) (h2 : ∀ a t, o ≠ .view a t) :
    (viewAt r).run p w = .ok none w ∧ (viewAt r).runT p w es = (.ok none w, es.push ⟨.obj r, false, o.isChan⟩) := by
  have hs : w.shape? r = none := by
    unfold World.shape?; rw [h]; cases o <;> first | exact absurd rfl (h1 _ _ _) | rfl
  cases o <;> first | exact absurd rfl (h1 _ _ _) | exact absurd rfl (h2 _ _) | exact ⟨by simp only [viewAt, shape, getObj, bind, Sem.bind, pure, Sem.run, hs, Option.isSome, Bool.false_eq_true, if_false, h], by simp only [viewAt, shape, getObj, bind, Sem.bind, pure, Sem.runT, hs, Option.isSome, Bool.false_eq_true, if_false, h]⟩
theorem viewAt_cells (p : Program) {w : World} {r : Nat} {x : Array Value} {y : TypeId} {z : Nat × Nat} (es : Array Event) (h : w.heap[r]? = some (.cells x y z)) :
    (viewAt r).run p w = .ok none w ∧ (viewAt r).runT p w es = (.ok none w, es) := by
  have hs : w.shape? r = some (y, x.size) := by unfold World.shape?; rw [h]
  exact ⟨by simp only [viewAt, shape, bind, Sem.bind, pure, Sem.run, hs, Option.isSome, if_true], by simp only [viewAt, shape, bind, Sem.bind, pure, Sem.runT, hs, Option.isSome, if_true]⟩
theorem viewAt_none (p : Program) {w : World} {r : Nat} (h : w.heap[r]? = none) : (viewAt r).run p w = .halt (.stuck "getObj: no such block") w := by
  have hs : w.shape? r = none := by unfold World.shape?; rw [h]
  simp only [viewAt, shape, getObj, bind, Sem.bind, Sem.run, hs, Option.isSome, Bool.false_eq_true, if_false, h]

theorem viewAt_view (p : Program) {w : World} {r : Nat} {a : Addr} {t : TypeId} (h : w.heap[r]? = some (.view a t)) : (viewAt r).run p w = .ok (some (a, t)) w := by
  have hs : w.shape? r = none := by unfold World.shape?; rw [h]
  simp only [viewAt, shape, getObj, bind, Sem.bind, pure, Sem.run, hs, Option.isSome, Bool.false_eq_true, if_false, h]

/-- Whether something is seen as another type: who finds it so stops. -/
theorem sim_viewAt {f : Option (Addr × TypeId) → Sem β} (r : Nat) (hs : ∀ x, Stops c (f (some x))) (hf : SimU c R (f none)) : SimU c R (viewAt r >>= f) := by
  intro w w' es hr
  by_cases hv : ∃ a t, w'.heap[r]? = some (.view a t)
  · obtain ⟨a, t, hv⟩ := hv
    obtain ⟨x, w1', e, hx, hv2⟩ := hs (a, t) w'
    have : (viewAt r >>= f).run c.P' w' = .halt x w1' := by
      show (Sem.bind (viewAt r) f).run c.P' w' = _
      rw [Sem.run_bind', viewAt_view _ hv]; exact e
    rw [this]
    exact ⟨hx, fun v h => absurd h (hv2 v)⟩
  · have key : ∀ es, (∃ e, (viewAt r).run c.P' w' = .halt (.stuck e) w') ∨ ((viewAt r).run c.P' w' = .ok none w' ∧ ∃ es1, (viewAt r).runT c.P w es = (.ok none w, es1) ∧ Adv c w w' w w' es es1) := fun es => by
      by_cases hg : c.G r
      · have hp : w'.heap[r]? = some poisoned := by
          have := hr.poison _ hg
          rcases c.po_cases r with ⟨_, eo⟩ | ⟨_, eo⟩ <;> rw [eo] at this
          · exact absurd ⟨_, _, this⟩ hv
          · exact this
        have hnv : ¬ c.V r := fun h => by
          have h1 := hr.poison _ hg
          rcases c.po_cases r with ⟨_, eo⟩ | ⟨h2, _⟩
          · rw [eo, hp] at h1; cases h1
          · exact h2 h
        refine .inr ⟨(viewAt_other c.P' es hp (by simp) (by simp)).1, ?_⟩
        cases h : w.heap[r]? with
        | none =>
          have := (Array.getElem?_eq_none_iff.1 h)
          have := (Array.getElem?_eq_some_iff.1 hp).1
          have := hr.size
          omega
        | some o =>
          have hp := (hr.plain _ _ hg h).2 hnv
          have hlt := (Array.getElem?_eq_some_iff.1 h).1
          cases o <;> first | cases hp; done | skip
          · exact ⟨es, (viewAt_cells c.P es h).2, .refl hr⟩
          · exact ⟨_, (viewAt_other c.P es h (by simp) (by simp)).2, .push hr (tame_obj r _ _ (hr.notShunO r) hlt)⟩
      · have e := hr.off _ hg
        cases h : w'.heap[r]? with
        | none => exact .inl ⟨_, viewAt_none c.P' h⟩
        | some o =>
          have hlt := (Array.getElem?_eq_some_iff.1 (e.trans h)).1
          by_cases hc : ∃ x y z, o = .cells x y z
          · obtain ⟨x, y, z, rfl⟩ := hc
            exact .inr ⟨(viewAt_cells c.P' es h).1, es, (viewAt_cells c.P es (e.trans h)).2, .refl hr⟩
          · have h1 : ∀ x y z, o ≠ .cells x y z := fun x y z k => hc ⟨x, y, z, k⟩
            have h2 : ∀ a t, o ≠ .view a t := fun a t k => hv ⟨a, t, k ▸ h⟩
            exact .inr ⟨(viewAt_other c.P' es h h1 h2).1, _, (viewAt_other c.P es (e.trans h) h1 h2).2, .push hr (tame_obj r _ _ (hr.notShunO r) hlt)⟩
    rcases key es with ⟨m, e⟩ | ⟨e, es1, e1, a1⟩
    · have : (viewAt r >>= f).run c.P' w' = .halt (.stuck m) w' := by
        show (Sem.bind (viewAt r) f).run c.P' w' = _
        rw [Sem.run_bind', e]; rfl
      rw [this]
      exact ⟨trivial, fun v h => by cases h⟩
    · have h2 := hf w w' es1 hr
      have ep : (viewAt r >>= f).run c.P' w' = (f none).run c.P' w' := by
        show (Sem.bind (viewAt r) f).run c.P' w' = _
        rw [Sem.run_bind', e]; rfl
      have eT : (viewAt r >>= f).runT c.P w es = (f none).runT c.P w es1 := by
        show (Sem.bind (viewAt r) f).runT c.P w es = _
        rw [Go.Room.Sem.runT_bind, e1]
      rw [ep, eT]
      revert h2
      split
      · exact fun h t => let ⟨w1, es2, r1, a2, q⟩ := h t; ⟨w1, es2, r1, a1.trans a2, q⟩
      · exact fun h => ⟨h.1, fun v hv t => let ⟨w1, es2, r1, a2⟩ := h.2 v hv t; ⟨w1, es2, r1, a1.trans a2⟩⟩

end

end Go.Proofs.Ythoaldiadgeonaa.Tr

namespace Go.Proofs.Ythoaldiadgeonaa.Tr
open Go.Conc Go.Proofs.Ythoaldiadgeonaa.Cr
set_option linter.unusedSimpArgs false

section
variable {c : Cfg} {α β : Type} {Q : α → Prop} {R : β → Prop}

theorem sim_stuck (s : String) : SimU c Q (stuck s) := SimS.halt trivial
theorem sim_unsup (u : Unsupported) (h : Fine (.unsupported u)) : SimU c Q (unsupported u) := SimS.halt h
theorem sim_goPanic (v : Value) : SimU c Q (goPanic v) := SimS.halt trivial

theorem sim_unsup_bind (u : Unsupported) (f : α → Sem β) (h : Fine (.unsupported u)) : SimU c R (unsupported u >>= f) := SimS.halt h
theorem sim_stuck_bind (m : String) (f : α → Sem β) : SimU c R (stuck m >>= f) := SimS.halt trivial
theorem sim_map {s : Sem α} (f : α → β) (h : SimU c (fun _ => True) s) : SimU c (fun _ => True) (f <$> s) := by
  rw [map_eq_pure_bind]; exact sim_bind h fun _ _ => SimS.pure' trivial

theorem sim_ite {p : Prop} [Decidable p] {s t : Sem α} (h1 : SimU c Q s) (h2 : SimU c Q t) : SimU c Q (if p then s else t) := by
  by_cases h : p
  · rw [if_pos h]; exact h1
  · rw [if_neg h]; exact h2

/-- The one word for a leaf; every text below adds to it. -/

theorem sim_typeInfo (t : TypeId) : SimU c (fun _ => True) (typeInfo t) := by unfold typeInfo; (repeat' (first | (first | (with_reducible first | refine sim_ite ?_ ?_ | refine sim_map _ ?_ | exact sim_mark (.inl rfl) | exact sim_frozen _ | exact sim_choose _ | exact sim_load _ _ | exact SimS.pure trivial | exact SimS.pure' trivial | exact sim_stuck_bind _ _ | exact sim_goPanic _ | exact sim_stuck _) | ((with_reducible refine sim_unsup_bind _ _ ?_); exact trivial) | ((with_reducible refine sim_unsup _ ?_); exact trivial)) | assumption | ((with_reducible refine sim_prog ?_ ?_); · rfl) | ((with_reducible refine sim_getObj _ ?_ (fun _ _ _ => ?_)); · exact ⟨stops_stuck _, fun _ _ => stops_stuck _⟩) | with_reducible refine sim_bind (Q := fun _ => True) ?_ (fun _ _ => ?_) | split | dsimp only))
theorem sim_underlying (t : TypeId) : SimU c (fun _ => True) (underlying t) := by unfold underlying; (repeat' (first | (first | (with_reducible first | exact sim_typeInfo _ | refine sim_ite ?_ ?_ | refine sim_map _ ?_ | exact sim_mark (.inl rfl) | exact sim_frozen _ | exact sim_choose _ | exact sim_load _ _ | exact SimS.pure trivial | exact SimS.pure' trivial | exact sim_stuck_bind _ _ | exact sim_goPanic _ | exact sim_stuck _) | ((with_reducible refine sim_unsup_bind _ _ ?_); exact trivial) | ((with_reducible refine sim_unsup _ ?_); exact trivial)) | assumption | ((with_reducible refine sim_prog ?_ ?_); · rfl) | ((with_reducible refine sim_getObj _ ?_ (fun _ _ _ => ?_)); · exact ⟨stops_stuck _, fun _ _ => stops_stuck _⟩) | with_reducible refine sim_bind (Q := fun _ => True) ?_ (fun _ _ => ?_) | split | dsimp only))
theorem sim_askRoom (n : Nat) : SimU c (fun _ => True) (askRoom n) := by unfold askRoom; (repeat' (first | (first | (with_reducible first | exact sim_underlying _ | exact sim_typeInfo _ | refine sim_ite ?_ ?_ | refine sim_map _ ?_ | exact sim_mark (.inl rfl) | exact sim_frozen _ | exact sim_choose _ | exact sim_load _ _ | exact SimS.pure trivial | exact SimS.pure' trivial | exact sim_stuck_bind _ _ | exact sim_goPanic _ | exact sim_stuck _) | ((with_reducible refine sim_unsup_bind _ _ ?_); exact trivial) | ((with_reducible refine sim_unsup _ ?_); exact trivial)) | assumption | ((with_reducible refine sim_prog ?_ ?_); · rfl) | ((with_reducible refine sim_getObj _ ?_ (fun _ _ _ => ?_)); · exact ⟨stops_stuck _, fun _ _ => stops_stuck _⟩) | with_reducible refine sim_bind (Q := fun _ => True) ?_ (fun _ _ => ?_) | split | dsimp only))
theorem sim_typeStr (t : TypeId) : SimU c (fun _ => True) (typeStr t) := by unfold typeStr; (repeat' (first | (first | (with_reducible first | exact sim_askRoom _ | exact sim_underlying _ | exact sim_typeInfo _ | refine sim_ite ?_ ?_ | refine sim_map _ ?_ | exact sim_mark (.inl rfl) | exact sim_frozen _ | exact sim_choose _ | exact sim_load _ _ | exact SimS.pure trivial | exact SimS.pure' trivial | exact sim_stuck_bind _ _ | exact sim_goPanic _ | exact sim_stuck _) | ((with_reducible refine sim_unsup_bind _ _ ?_); exact trivial) | ((with_reducible refine sim_unsup _ ?_); exact trivial)) | assumption | ((with_reducible refine sim_prog ?_ ?_); · rfl) | ((with_reducible refine sim_getObj _ ?_ (fun _ _ _ => ?_)); · exact ⟨stops_stuck _, fun _ _ => stops_stuck _⟩) | with_reducible refine sim_bind (Q := fun _ => True) ?_ (fun _ _ => ?_) | split | dsimp only))
theorem sim_zeroValue (t : TypeId) : SimU c (fun _ => True) (zeroValue t) := by unfold zeroValue; (repeat' (first | (first | (with_reducible first | exact sim_typeStr _ | exact sim_askRoom _ | exact sim_underlying _ | exact sim_typeInfo _ | refine sim_ite ?_ ?_ | refine sim_map _ ?_ | exact sim_mark (.inl rfl) | exact sim_frozen _ | exact sim_choose _ | exact sim_load _ _ | exact SimS.pure trivial | exact SimS.pure' trivial | exact sim_stuck_bind _ _ | exact sim_goPanic _ | exact sim_stuck _) | ((with_reducible refine sim_unsup_bind _ _ ?_); exact trivial) | ((with_reducible refine sim_unsup _ ?_); exact trivial)) | assumption | ((with_reducible refine sim_prog ?_ ?_); · rfl) | ((with_reducible refine sim_getObj _ ?_ (fun _ _ _ => ?_)); · exact ⟨stops_stuck _, fun _ _ => stops_stuck _⟩) | with_reducible refine sim_bind (Q := fun _ => True) ?_ (fun _ _ => ?_) | split | dsimp only))
theorem sim_sizeOf (t : TypeId) : SimU c (fun _ => True) (Go.sizeOf t) := by unfold Go.sizeOf; (repeat' (first | (first | (with_reducible first | exact sim_zeroValue _ | exact sim_typeStr _ | exact sim_askRoom _ | exact sim_underlying _ | exact sim_typeInfo _ | refine sim_ite ?_ ?_ | refine sim_map _ ?_ | exact sim_mark (.inl rfl) | exact sim_frozen _ | exact sim_choose _ | exact sim_load _ _ | exact SimS.pure trivial | exact SimS.pure' trivial | exact sim_stuck_bind _ _ | exact sim_goPanic _ | exact sim_stuck _) | ((with_reducible refine sim_unsup_bind _ _ ?_); exact trivial) | ((with_reducible refine sim_unsup _ ?_); exact trivial)) | assumption | ((with_reducible refine sim_prog ?_ ?_); · rfl) | ((with_reducible refine sim_getObj _ ?_ (fun _ _ _ => ?_)); · exact ⟨stops_stuck _, fun _ _ => stops_stuck _⟩) | with_reducible refine sim_bind (Q := fun _ => True) ?_ (fun _ _ => ?_) | split | dsimp only))
theorem sim_isAgg (t : TypeId) : SimU c (fun _ => True) (isAgg t) := by unfold isAgg; (repeat' (first | (first | (with_reducible first | exact sim_sizeOf _ | exact sim_zeroValue _ | exact sim_typeStr _ | exact sim_askRoom _ | exact sim_underlying _ | exact sim_typeInfo _ | refine sim_ite ?_ ?_ | refine sim_map _ ?_ | exact sim_mark (.inl rfl) | exact sim_frozen _ | exact sim_choose _ | exact sim_load _ _ | exact SimS.pure trivial | exact SimS.pure' trivial | exact sim_stuck_bind _ _ | exact sim_goPanic _ | exact sim_stuck _) | ((with_reducible refine sim_unsup_bind _ _ ?_); exact trivial) | ((with_reducible refine sim_unsup _ ?_); exact trivial)) | assumption | ((with_reducible refine sim_prog ?_ ?_); · rfl) | ((with_reducible refine sim_getObj _ ?_ (fun _ _ _ => ?_)); · exact ⟨stops_stuck _, fun _ _ => stops_stuck _⟩) | with_reducible refine sim_bind (Q := fun _ => True) ?_ (fun _ _ => ?_) | split | dsimp only))
theorem sim_loadCellsFrom (a : Addr) : ∀ (n i : Nat) (acc : Array Value), SimU c (fun _ => True) (loadCellsFrom a i n acc)
  | 0, _, _ => by unfold loadCellsFrom; (repeat' (first | (first | (with_reducible first | exact sim_isAgg _ | exact sim_sizeOf _ | exact sim_zeroValue _ | exact sim_typeStr _ | exact sim_askRoom _ | exact sim_underlying _ | exact sim_typeInfo _ | refine sim_ite ?_ ?_ | refine sim_map _ ?_ | exact sim_mark (.inl rfl) | exact sim_frozen _ | exact sim_choose _ | exact sim_load _ _ | exact SimS.pure trivial | exact SimS.pure' trivial | exact sim_stuck_bind _ _ | exact sim_goPanic _ | exact sim_stuck _) | ((with_reducible refine sim_unsup_bind _ _ ?_); exact trivial) | ((with_reducible refine sim_unsup _ ?_); exact trivial)) | assumption | ((with_reducible refine sim_prog ?_ ?_); · rfl) | ((with_reducible refine sim_getObj _ ?_ (fun _ _ _ => ?_)); · exact ⟨stops_stuck _, fun _ _ => stops_stuck _⟩) | with_reducible refine sim_bind (Q := fun _ => True) ?_ (fun _ _ => ?_) | split | dsimp only))
  | n + 1, i, acc => by
    unfold loadCellsFrom
    exact sim_bind (sim_load _ _) fun v _ => sim_loadCellsFrom a n (i + 1) (acc.push v)
theorem sim_loadCells (a : Addr) (n : Nat) : SimU c (fun _ => True) (loadCells a n) := by unfold loadCells; (repeat' (first | (first | (with_reducible first | exact sim_loadCellsFrom _ _ _ _ | exact sim_isAgg _ | exact sim_sizeOf _ | exact sim_zeroValue _ | exact sim_typeStr _ | exact sim_askRoom _ | exact sim_underlying _ | exact sim_typeInfo _ | refine sim_ite ?_ ?_ | refine sim_map _ ?_ | exact sim_mark (.inl rfl) | exact sim_frozen _ | exact sim_choose _ | exact sim_load _ _ | exact SimS.pure trivial | exact SimS.pure' trivial | exact sim_stuck_bind _ _ | exact sim_goPanic _ | exact sim_stuck _) | ((with_reducible refine sim_unsup_bind _ _ ?_); exact trivial) | ((with_reducible refine sim_unsup _ ?_); exact trivial)) | assumption | ((with_reducible refine sim_prog ?_ ?_); · rfl) | ((with_reducible refine sim_getObj _ ?_ (fun _ _ _ => ?_)); · exact ⟨stops_stuck _, fun _ _ => stops_stuck _⟩) | with_reducible refine sim_bind (Q := fun _ => True) ?_ (fun _ _ => ?_) | split | dsimp only))

/-- What is asked of the objects. -/
structure ObjOk (O : Obj → Prop) : Prop where
  cells : ∀ cs e f, O (.cells cs e f)
  map : ∀ es k, O (.map es k)
  stringIter : ∀ s k, O (.stringIter s k)
  mapIter : ∀ m s l k, O (.mapIter m s l k)
  number : ∀ a l, O (.number a l)

theorem sim_storeCells (hO : ObjOk c.O) (a : Addr) : ∀ (vs : List Value) (i : Nat), SimU c (fun _ => True) (storeCells a vs i)
  | [], _ => by unfold storeCells; (repeat' (first | (first | (with_reducible first | exact sim_loadCells _ _ | exact sim_loadCellsFrom _ _ _ _ | exact sim_isAgg _ | exact sim_sizeOf _ | exact sim_zeroValue _ | exact sim_typeStr _ | exact sim_askRoom _ | exact sim_underlying _ | exact sim_typeInfo _ | refine sim_ite ?_ ?_ | refine sim_map _ ?_ | exact sim_mark (.inl rfl) | exact sim_frozen _ | exact sim_choose _ | exact sim_load _ _ | exact SimS.pure trivial | exact SimS.pure' trivial | exact sim_stuck_bind _ _ | exact sim_goPanic _ | exact sim_stuck _) | ((with_reducible refine sim_unsup_bind _ _ ?_); exact trivial) | ((with_reducible refine sim_unsup _ ?_); exact trivial)) | assumption | ((with_reducible refine sim_prog ?_ ?_); · rfl) | ((with_reducible refine sim_getObj _ ?_ (fun _ _ _ => ?_)); · exact ⟨stops_stuck _, fun _ _ => stops_stuck _⟩) | with_reducible refine sim_bind (Q := fun _ => True) ?_ (fun _ _ => ?_) | split | dsimp only))
  | v :: vs, i => by
    unfold storeCells
    exact sim_bind (sim_store (fun _ _ _ _ _ => hO.cells _ _ _) _ _ _) fun _ _ => sim_storeCells hO a vs (i + 1)
theorem sim_loadVar (t : TypeId) (a : Addr) : SimU c (fun _ => True) (loadVar t a) := by unfold loadVar; (repeat' (first | (first | (with_reducible first | exact sim_storeCells ‹_› _ _ _ | exact sim_loadCells _ _ | exact sim_loadCellsFrom _ _ _ _ | exact sim_isAgg _ | exact sim_sizeOf _ | exact sim_zeroValue _ | exact sim_typeStr _ | exact sim_askRoom _ | exact sim_underlying _ | exact sim_typeInfo _ | refine sim_ite ?_ ?_ | refine sim_map _ ?_ | exact sim_mark (.inl rfl) | exact sim_frozen _ | exact sim_choose _ | exact sim_load _ _ | exact SimS.pure trivial | exact SimS.pure' trivial | exact sim_stuck_bind _ _ | exact sim_goPanic _ | exact sim_stuck _) | ((with_reducible refine sim_unsup_bind _ _ ?_); exact trivial) | ((with_reducible refine sim_unsup _ ?_); exact trivial)) | assumption | ((with_reducible refine sim_prog ?_ ?_); · rfl) | ((with_reducible refine sim_getObj _ ?_ (fun _ _ _ => ?_)); · exact ⟨stops_stuck _, fun _ _ => stops_stuck _⟩) | with_reducible refine sim_bind (Q := fun _ => True) ?_ (fun _ _ => ?_) | split | dsimp only))
theorem sim_storeVar (hO : ObjOk c.O) (t : TypeId) (a : Addr) (v : Value) : SimU c (fun _ => True) (storeVar t a v) := by unfold storeVar; (repeat' (first | (first | (with_reducible first | exact sim_loadVar _ _ | exact sim_storeCells ‹_› _ _ _ | exact sim_loadCells _ _ | exact sim_loadCellsFrom _ _ _ _ | exact sim_isAgg _ | exact sim_sizeOf _ | exact sim_zeroValue _ | exact sim_typeStr _ | exact sim_askRoom _ | exact sim_underlying _ | exact sim_typeInfo _ | refine sim_ite ?_ ?_ | refine sim_map _ ?_ | exact sim_mark (.inl rfl) | exact sim_frozen _ | exact sim_choose _ | exact sim_load _ _ | exact SimS.pure trivial | exact SimS.pure' trivial | exact sim_stuck_bind _ _ | exact sim_goPanic _ | exact sim_stuck _) | ((with_reducible refine sim_unsup_bind _ _ ?_); exact trivial) | ((with_reducible refine sim_unsup _ ?_); exact trivial)) | assumption | ((with_reducible refine sim_prog ?_ ?_); · rfl) | ((with_reducible refine sim_getObj _ ?_ (fun _ _ _ => ?_)); · exact ⟨stops_stuck _, fun _ _ => stops_stuck _⟩) | with_reducible refine sim_bind (Q := fun _ => True) ?_ (fun _ _ => ?_) | split | dsimp only))
theorem sim_newRow (hO : ObjOk c.O) (e : TypeId) (cs : Array Value) : SimU c (fun _ => True) (newRow e cs) := by
  unfold newRow
  exact sim_bind (sim_newObj (hO.cells _ _ _) (by simp) (by simp)) fun _ _ => by (repeat' (first | (first | (with_reducible first | exact sim_storeVar ‹_› _ _ _ | exact sim_loadVar _ _ | exact sim_storeCells ‹_› _ _ _ | exact sim_loadCells _ _ | exact sim_loadCellsFrom _ _ _ _ | exact sim_isAgg _ | exact sim_sizeOf _ | exact sim_zeroValue _ | exact sim_typeStr _ | exact sim_askRoom _ | exact sim_underlying _ | exact sim_typeInfo _ | refine sim_ite ?_ ?_ | refine sim_map _ ?_ | exact sim_mark (.inl rfl) | exact sim_frozen _ | exact sim_choose _ | exact sim_load _ _ | exact SimS.pure trivial | exact SimS.pure' trivial | exact sim_stuck_bind _ _ | exact sim_goPanic _ | exact sim_stuck _) | ((with_reducible refine sim_unsup_bind _ _ ?_); exact trivial) | ((with_reducible refine sim_unsup _ ?_); exact trivial)) | assumption | ((with_reducible refine sim_prog ?_ ?_); · rfl) | ((with_reducible refine sim_getObj _ ?_ (fun _ _ _ => ?_)); · exact ⟨stops_stuck _, fun _ _ => stops_stuck _⟩) | with_reducible refine sim_bind (Q := fun _ => True) ?_ (fun _ _ => ?_) | split | dsimp only))
theorem sim_newVar (hO : ObjOk c.O) (t : TypeId) (v : Value) : SimU c (fun _ => True) (newVar t v) := by unfold newVar; (repeat' (first | (first | (with_reducible first | exact sim_newRow ‹_› _ _ | exact sim_storeVar ‹_› _ _ _ | exact sim_loadVar _ _ | exact sim_storeCells ‹_› _ _ _ | exact sim_loadCells _ _ | exact sim_loadCellsFrom _ _ _ _ | exact sim_isAgg _ | exact sim_sizeOf _ | exact sim_zeroValue _ | exact sim_typeStr _ | exact sim_askRoom _ | exact sim_underlying _ | exact sim_typeInfo _ | refine sim_ite ?_ ?_ | refine sim_map _ ?_ | exact sim_mark (.inl rfl) | exact sim_frozen _ | exact sim_choose _ | exact sim_load _ _ | exact SimS.pure trivial | exact SimS.pure' trivial | exact sim_stuck_bind _ _ | exact sim_goPanic _ | exact sim_stuck _) | ((with_reducible refine sim_unsup_bind _ _ ?_); exact trivial) | ((with_reducible refine sim_unsup _ ?_); exact trivial)) | assumption | ((with_reducible refine sim_prog ?_ ?_); · rfl) | ((with_reducible refine sim_getObj _ ?_ (fun _ _ _ => ?_)); · exact ⟨stops_stuck _, fun _ _ => stops_stuck _⟩) | with_reducible refine sim_bind (Q := fun _ => True) ?_ (fun _ _ => ?_) | split | dsimp only))
theorem sim_elemOf (t : TypeId) : SimU c (fun _ => True) (elemOf t) := by unfold elemOf; (repeat' (first | (first | (with_reducible first | exact sim_newVar ‹_› _ _ | exact sim_newRow ‹_› _ _ | exact sim_storeVar ‹_› _ _ _ | exact sim_loadVar _ _ | exact sim_storeCells ‹_› _ _ _ | exact sim_loadCells _ _ | exact sim_loadCellsFrom _ _ _ _ | exact sim_isAgg _ | exact sim_sizeOf _ | exact sim_zeroValue _ | exact sim_typeStr _ | exact sim_askRoom _ | exact sim_underlying _ | exact sim_typeInfo _ | refine sim_ite ?_ ?_ | refine sim_map _ ?_ | exact sim_mark (.inl rfl) | exact sim_frozen _ | exact sim_choose _ | exact sim_load _ _ | exact SimS.pure trivial | exact SimS.pure' trivial | exact sim_stuck_bind _ _ | exact sim_goPanic _ | exact sim_stuck _) | ((with_reducible refine sim_unsup_bind _ _ ?_); exact trivial) | ((with_reducible refine sim_unsup _ ?_); exact trivial)) | assumption | ((with_reducible refine sim_prog ?_ ?_); · rfl) | ((with_reducible refine sim_getObj _ ?_ (fun _ _ _ => ?_)); · exact ⟨stops_stuck _, fun _ _ => stops_stuck _⟩) | with_reducible refine sim_bind (Q := fun _ => True) ?_ (fun _ _ => ?_) | split | dsimp only))
theorem sim_part (t : TypeId) (cs : Array Value) (off : Nat) : SimU c (fun _ => True) (part t cs off) := by unfold part; (repeat' (first | (first | (with_reducible first | exact sim_elemOf _ | exact sim_newVar ‹_› _ _ | exact sim_newRow ‹_› _ _ | exact sim_storeVar ‹_› _ _ _ | exact sim_loadVar _ _ | exact sim_storeCells ‹_› _ _ _ | exact sim_loadCells _ _ | exact sim_loadCellsFrom _ _ _ _ | exact sim_isAgg _ | exact sim_sizeOf _ | exact sim_zeroValue _ | exact sim_typeStr _ | exact sim_askRoom _ | exact sim_underlying _ | exact sim_typeInfo _ | refine sim_ite ?_ ?_ | refine sim_map _ ?_ | exact sim_mark (.inl rfl) | exact sim_frozen _ | exact sim_choose _ | exact sim_load _ _ | exact SimS.pure trivial | exact SimS.pure' trivial | exact sim_stuck_bind _ _ | exact sim_goPanic _ | exact sim_stuck _) | ((with_reducible refine sim_unsup_bind _ _ ?_); exact trivial) | ((with_reducible refine sim_unsup _ ?_); exact trivial)) | assumption | ((with_reducible refine sim_prog ?_ ?_); · rfl) | ((with_reducible refine sim_getObj _ ?_ (fun _ _ _ => ?_)); · exact ⟨stops_stuck _, fun _ _ => stops_stuck _⟩) | with_reducible refine sim_bind (Q := fun _ => True) ?_ (fun _ _ => ?_) | split | dsimp only))
theorem sim_runtimePanic (hO : ObjOk c.O) (e : RuntimeError) : SimU c Q (runtimePanic e) := by unfold runtimePanic; (repeat' (first | (first | (with_reducible first | exact sim_part _ _ _ | exact sim_elemOf _ | exact sim_newVar ‹_› _ _ | exact sim_newRow ‹_› _ _ | exact sim_storeVar ‹_› _ _ _ | exact sim_loadVar _ _ | exact sim_storeCells ‹_› _ _ _ | exact sim_loadCells _ _ | exact sim_loadCellsFrom _ _ _ _ | exact sim_isAgg _ | exact sim_sizeOf _ | exact sim_zeroValue _ | exact sim_typeStr _ | exact sim_askRoom _ | exact sim_underlying _ | exact sim_typeInfo _ | refine sim_ite ?_ ?_ | refine sim_map _ ?_ | exact sim_mark (.inl rfl) | exact sim_frozen _ | exact sim_choose _ | exact sim_load _ _ | exact SimS.pure trivial | exact SimS.pure' trivial | exact sim_stuck_bind _ _ | exact sim_goPanic _ | exact sim_stuck _) | ((with_reducible refine sim_unsup_bind _ _ ?_); exact trivial) | ((with_reducible refine sim_unsup _ ?_); exact trivial)) | assumption | ((with_reducible refine sim_prog ?_ ?_); · rfl) | ((with_reducible refine sim_getObj _ ?_ (fun _ _ _ => ?_)); · exact ⟨stops_stuck _, fun _ _ => stops_stuck _⟩) | with_reducible refine sim_bind (Q := fun _ => True) ?_ (fun _ _ => ?_) | split | dsimp only))
theorem sim_boundsPanic (hO : ObjOk c.O) (k : IntKind) (x y : Int) (b : BoundsCode) : SimU c Q (boundsPanic k x y b) := by
  unfold boundsPanic
  (repeat' (first | (first | (with_reducible first | exact sim_runtimePanic ‹_› _ | exact sim_part _ _ _ | exact sim_elemOf _ | exact sim_newVar ‹_› _ _ | exact sim_newRow ‹_› _ _ | exact sim_storeVar ‹_› _ _ _ | exact sim_loadVar _ _ | exact sim_storeCells ‹_› _ _ _ | exact sim_loadCells _ _ | exact sim_loadCellsFrom _ _ _ _ | exact sim_isAgg _ | exact sim_sizeOf _ | exact sim_zeroValue _ | exact sim_typeStr _ | exact sim_askRoom _ | exact sim_underlying _ | exact sim_typeInfo _ | refine sim_ite ?_ ?_ | refine sim_map _ ?_ | exact sim_mark (.inl rfl) | exact sim_frozen _ | exact sim_choose _ | exact sim_load _ _ | exact SimS.pure trivial | exact SimS.pure' trivial | exact sim_stuck_bind _ _ | exact sim_goPanic _ | exact sim_stuck _) | ((with_reducible refine sim_unsup_bind _ _ ?_); exact trivial) | ((with_reducible refine sim_unsup _ ?_); exact trivial)) | assumption | ((with_reducible refine sim_prog ?_ ?_); · rfl) | ((with_reducible refine sim_getObj _ ?_ (fun _ _ _ => ?_)); · exact ⟨stops_stuck _, fun _ _ => stops_stuck _⟩) | with_reducible refine sim_bind (Q := fun _ => True) ?_ (fun _ _ => ?_) | split | dsimp only))
theorem sim_asIntOf (v : Value) : SimU c (fun _ => True) (asIntOf v) := by unfold asIntOf; (repeat' (first | (first | (with_reducible first | exact sim_boundsPanic ‹_› _ _ _ _ | exact sim_runtimePanic ‹_› _ | exact sim_part _ _ _ | exact sim_elemOf _ | exact sim_newVar ‹_› _ _ | exact sim_newRow ‹_› _ _ | exact sim_storeVar ‹_› _ _ _ | exact sim_loadVar _ _ | exact sim_storeCells ‹_› _ _ _ | exact sim_loadCells _ _ | exact sim_loadCellsFrom _ _ _ _ | exact sim_isAgg _ | exact sim_sizeOf _ | exact sim_zeroValue _ | exact sim_typeStr _ | exact sim_askRoom _ | exact sim_underlying _ | exact sim_typeInfo _ | refine sim_ite ?_ ?_ | refine sim_map _ ?_ | exact sim_mark (.inl rfl) | exact sim_frozen _ | exact sim_choose _ | exact sim_load _ _ | exact SimS.pure trivial | exact SimS.pure' trivial | exact sim_stuck_bind _ _ | exact sim_goPanic _ | exact sim_stuck _) | ((with_reducible refine sim_unsup_bind _ _ ?_); exact trivial) | ((with_reducible refine sim_unsup _ ?_); exact trivial)) | assumption | ((with_reducible refine sim_prog ?_ ?_); · rfl) | ((with_reducible refine sim_getObj _ ?_ (fun _ _ _ => ?_)); · exact ⟨stops_stuck _, fun _ _ => stops_stuck _⟩) | with_reducible refine sim_bind (Q := fun _ => True) ?_ (fun _ _ => ?_) | split | dsimp only))
theorem sim_asInt (v : Value) : SimU c (fun _ => True) (asInt v) := by unfold asInt; (repeat' (first | (first | (with_reducible first | exact sim_asIntOf _ | exact sim_boundsPanic ‹_› _ _ _ _ | exact sim_runtimePanic ‹_› _ | exact sim_part _ _ _ | exact sim_elemOf _ | exact sim_newVar ‹_› _ _ | exact sim_newRow ‹_› _ _ | exact sim_storeVar ‹_› _ _ _ | exact sim_loadVar _ _ | exact sim_storeCells ‹_› _ _ _ | exact sim_loadCells _ _ | exact sim_loadCellsFrom _ _ _ _ | exact sim_isAgg _ | exact sim_sizeOf _ | exact sim_zeroValue _ | exact sim_typeStr _ | exact sim_askRoom _ | exact sim_underlying _ | exact sim_typeInfo _ | refine sim_ite ?_ ?_ | refine sim_map _ ?_ | exact sim_mark (.inl rfl) | exact sim_frozen _ | exact sim_choose _ | exact sim_load _ _ | exact SimS.pure trivial | exact SimS.pure' trivial | exact sim_stuck_bind _ _ | exact sim_goPanic _ | exact sim_stuck _) | ((with_reducible refine sim_unsup_bind _ _ ?_); exact trivial) | ((with_reducible refine sim_unsup _ ?_); exact trivial)) | assumption | ((with_reducible refine sim_prog ?_ ?_); · rfl) | ((with_reducible refine sim_getObj _ ?_ (fun _ _ _ => ?_)); · exact ⟨stops_stuck _, fun _ _ => stops_stuck _⟩) | with_reducible refine sim_bind (Q := fun _ => True) ?_ (fun _ _ => ?_) | split | dsimp only))
theorem sim_asBool (v : Value) : SimU c (fun _ => True) (asBool v) := by unfold asBool; (repeat' (first | (first | (with_reducible first | exact sim_asInt _ | exact sim_asIntOf _ | exact sim_boundsPanic ‹_› _ _ _ _ | exact sim_runtimePanic ‹_› _ | exact sim_part _ _ _ | exact sim_elemOf _ | exact sim_newVar ‹_› _ _ | exact sim_newRow ‹_› _ _ | exact sim_storeVar ‹_› _ _ _ | exact sim_loadVar _ _ | exact sim_storeCells ‹_› _ _ _ | exact sim_loadCells _ _ | exact sim_loadCellsFrom _ _ _ _ | exact sim_isAgg _ | exact sim_sizeOf _ | exact sim_zeroValue _ | exact sim_typeStr _ | exact sim_askRoom _ | exact sim_underlying _ | exact sim_typeInfo _ | refine sim_ite ?_ ?_ | refine sim_map _ ?_ | exact sim_mark (.inl rfl) | exact sim_frozen _ | exact sim_choose _ | exact sim_load _ _ | exact SimS.pure trivial | exact SimS.pure' trivial | exact sim_stuck_bind _ _ | exact sim_goPanic _ | exact sim_stuck _) | ((with_reducible refine sim_unsup_bind _ _ ?_); exact trivial) | ((with_reducible refine sim_unsup _ ?_); exact trivial)) | assumption | ((with_reducible refine sim_prog ?_ ?_); · rfl) | ((with_reducible refine sim_getObj _ ?_ (fun _ _ _ => ?_)); · exact ⟨stops_stuck _, fun _ _ => stops_stuck _⟩) | with_reducible refine sim_bind (Q := fun _ => True) ?_ (fun _ _ => ?_) | split | dsimp only))
theorem sim_asAgg (v : Value) : SimU c (fun _ => True) (asAgg v) := by unfold asAgg; (repeat' (first | (first | (with_reducible first | exact sim_asBool _ | exact sim_asInt _ | exact sim_asIntOf _ | exact sim_boundsPanic ‹_› _ _ _ _ | exact sim_runtimePanic ‹_› _ | exact sim_part _ _ _ | exact sim_elemOf _ | exact sim_newVar ‹_› _ _ | exact sim_newRow ‹_› _ _ | exact sim_storeVar ‹_› _ _ _ | exact sim_loadVar _ _ | exact sim_storeCells ‹_› _ _ _ | exact sim_loadCells _ _ | exact sim_loadCellsFrom _ _ _ _ | exact sim_isAgg _ | exact sim_sizeOf _ | exact sim_zeroValue _ | exact sim_typeStr _ | exact sim_askRoom _ | exact sim_underlying _ | exact sim_typeInfo _ | refine sim_ite ?_ ?_ | refine sim_map _ ?_ | exact sim_mark (.inl rfl) | exact sim_frozen _ | exact sim_choose _ | exact sim_load _ _ | exact SimS.pure trivial | exact SimS.pure' trivial | exact sim_stuck_bind _ _ | exact sim_goPanic _ | exact sim_stuck _) | ((with_reducible refine sim_unsup_bind _ _ ?_); exact trivial) | ((with_reducible refine sim_unsup _ ?_); exact trivial)) | assumption | ((with_reducible refine sim_prog ?_ ?_); · rfl) | ((with_reducible refine sim_getObj _ ?_ (fun _ _ _ => ?_)); · exact ⟨stops_stuck _, fun _ _ => stops_stuck _⟩) | with_reducible refine sim_bind (Q := fun _ => True) ?_ (fun _ _ => ?_) | split | dsimp only))
theorem sim_asAddr (hO : ObjOk c.O) (v : Value) : SimU c (fun _ => True) (asAddr v) := by unfold asAddr; (repeat' (first | (first | (with_reducible first | exact sim_asAgg _ | exact sim_asBool _ | exact sim_asInt _ | exact sim_asIntOf _ | exact sim_boundsPanic ‹_› _ _ _ _ | exact sim_runtimePanic ‹_› _ | exact sim_part _ _ _ | exact sim_elemOf _ | exact sim_newVar ‹_› _ _ | exact sim_newRow ‹_› _ _ | exact sim_storeVar ‹_› _ _ _ | exact sim_loadVar _ _ | exact sim_storeCells ‹_› _ _ _ | exact sim_loadCells _ _ | exact sim_loadCellsFrom _ _ _ _ | exact sim_isAgg _ | exact sim_sizeOf _ | exact sim_zeroValue _ | exact sim_typeStr _ | exact sim_askRoom _ | exact sim_underlying _ | exact sim_typeInfo _ | refine sim_ite ?_ ?_ | refine sim_map _ ?_ | exact sim_mark (.inl rfl) | exact sim_frozen _ | exact sim_choose _ | exact sim_load _ _ | exact SimS.pure trivial | exact SimS.pure' trivial | exact sim_stuck_bind _ _ | exact sim_goPanic _ | exact sim_stuck _) | ((with_reducible refine sim_unsup_bind _ _ ?_); exact trivial) | ((with_reducible refine sim_unsup _ ?_); exact trivial)) | assumption | ((with_reducible refine sim_prog ?_ ?_); · rfl) | ((with_reducible refine sim_getObj _ ?_ (fun _ _ _ => ?_)); · exact ⟨stops_stuck _, fun _ _ => stops_stuck _⟩) | with_reducible refine sim_bind (Q := fun _ => True) ?_ (fun _ _ => ?_) | split | dsimp only))
theorem sim_noView (a : Addr) : SimU c (fun _ => True) (noView a) := by
  unfold noView
  exact sim_viewAt _ (fun _ w' => ⟨_, w', rfl, trivial, fun v h => by cases h⟩) (SimS.pure' trivial)

end

end Go.Proofs.Ythoaldiadgeonaa.Tr

namespace Go.Proofs.Ythoaldiadgeonaa.Tr
open Go.Conc Go.Proofs.Ythoaldiadgeonaa.Cr
set_option linter.unusedSimpArgs false

section
variable {c : Cfg} {α β γ : Type} {Q : α → Prop} {R : β → Prop}

/-! ### loops -/
theorem sim_forIn_list {f : α → β → Sem (ForInStep β)} (h : ∀ a b, SimU c (fun _ => True) (f a b)) : ∀ (l : List α) (b : β), SimU c (fun _ => True) (forIn l b f)
  | [], b => by rw [List.forIn_nil]; exact SimS.pure' trivial
  | a :: l, b => by
    rw [List.forIn_cons]
    refine sim_bind (h a b) fun x _ => ?_
    cases x with
    | done b => exact SimS.pure' trivial
    | yield b => exact sim_forIn_list h l b
theorem sim_forIn_array {f : α → β → Sem (ForInStep β)} (h : ∀ a b, SimU c (fun _ => True) (f a b)) (l : Array α) (b : β) : SimU c (fun _ => True) (forIn l b f) := by
  rw [← Array.forIn_toList]; exact sim_forIn_list h _ _
theorem sim_forIn_range {f : Nat → β → Sem (ForInStep β)} (h : ∀ a b, SimU c (fun _ => True) (f a b)) (r : Std.Legacy.Range) (b : β) : SimU c (fun _ => True) (forIn r b f) := by
  rw [Std.Legacy.Range.forIn_eq_forIn_range']; exact sim_forIn_list h _ _
theorem sim_mapM_list {f : α → Sem β} (h : ∀ a, SimU c (fun _ => True) (f a)) : ∀ (l : List α), SimU c (fun _ => True) (l.mapM f)
  | [] => by rw [List.mapM_nil]; exact SimS.pure' trivial
  | a :: l => by
    rw [List.mapM_cons]
    exact sim_bind (h a) fun x _ => sim_bind (sim_mapM_list h l) fun y _ => SimS.pure' trivial
theorem sim_mapM_array {f : α → Sem β} (h : ∀ a, SimU c (fun _ => True) (f a)) (l : Array α) : SimU c (fun _ => True) (l.mapM f) := by
  rw [Array.mapM_eq_mapM_toList, map_eq_pure_bind]
  exact sim_bind (sim_mapM_list h _) fun x _ => SimS.pure' trivial
theorem sim_foldlM_list {f : β → α → Sem β} (h : ∀ a b, SimU c (fun _ => True) (f a b)) : ∀ (l : List α) (b : β), SimU c (fun _ => True) (l.foldlM f b)
  | [], b => by rw [List.foldlM_nil]; exact SimS.pure' trivial
  | a :: l, b => by
    rw [List.foldlM_cons]
    exact sim_bind (h b a) fun x _ => sim_foldlM_list h l x

/-! ### addresses -/
theorem sim_numberAt (r : Nat) : SimU c (fun _ => True) (numberAt r) := by
  intro w w' es hr
  have cells : ∀ (p : Program) {w : World} {x : Array Value} {y : TypeId} {z : Nat × Nat} (es : Array Event), w.heap[r]? = some (.cells x y z) → (numberAt r).run p w = .ok none w ∧ (numberAt r).runT p w es = (.ok none w, es) := fun p w x y z es h => by
    have hs : w.shape? r = some (y, x.size) := by unfold World.shape?; rw [h]
    exact ⟨by simp only [numberAt, shape, bind, Sem.bind, pure, Sem.run, hs, Option.isSome, if_true], by simp only [numberAt, shape, bind, Sem.bind, pure, Sem.runT, hs, Option.isSome, if_true]⟩
  have other : ∀ (p : Program) {w : World} {o : Obj} (es : Array Event), w.heap[r]? = some o → (∀ x y z, o ≠ .cells x y z) → ∃ v, (∀ a l, o = .number a l → v = some (a, l)) ∧ ((∀ a l, o ≠ .number a l) → v = none) ∧ (numberAt r).run p w = .ok v w ∧ (numberAt r).runT p w es = (.ok v w, es.push ⟨.obj r, false, o.isChan⟩) := fun p w o es h h1 => by
    have hs : w.shape? r = none := by
      unfold World.shape?; rw [h]; cases o <;> first | exact absurd rfl (h1 _ _ _) | rfl
    by_cases hn : ∃ a l, o = .number a l
    · obtain ⟨a, l, rfl⟩ := hn
      exact ⟨some (a, l), fun _ _ e => by cases e; rfl, fun k => absurd rfl (k _ _), by simp only [numberAt, shape, getObj, bind, Sem.bind, pure, Sem.run, hs, Option.isSome, Bool.false_eq_true, if_false, h], by simp only [numberAt, shape, getObj, bind, Sem.bind, pure, Sem.runT, hs, Option.isSome, Bool.false_eq_true, if_false, h]⟩
    · refine ⟨none, fun a l e => absurd ⟨a, l, e⟩ hn, fun _ => rfl, ?_⟩
      cases o <;> first
        | exact absurd rfl (h1 _ _ _)
        | exact absurd ⟨_, _, rfl⟩ hn
        | exact ⟨by simp only [numberAt, shape, getObj, bind, Sem.bind, pure, Sem.run, hs, Option.isSome, Bool.false_eq_true, if_false, h], by simp only [numberAt, shape, getObj, bind, Sem.bind, pure, Sem.runT, hs, Option.isSome, Bool.false_eq_true, if_false, h]⟩
  by_cases hg : c.G r
  · have hpo : (∀ x y z, c.po r ≠ .cells x y z) ∧ ∀ a l, c.po r ≠ .number a l := by
      rcases c.po_cases r with ⟨_, eo⟩ | ⟨_, eo⟩ <;> rw [eo] <;> simp
    obtain ⟨v, _, hv, e, _⟩ := other c.P' es (hr.poison _ hg) hpo.1
    obtain rfl := hv hpo.2
    rw [e]
    intro _
    cases h : w.heap[r]? with
    | none =>
      have := (Array.getElem?_eq_none_iff.1 h)
      have := (Array.getElem?_eq_some_iff.1 (hr.poison _ hg)).1
      have := hr.size
      omega
    | some o =>
      have hp : Weird o ∨ Plain o := by
        have := hr.plain _ _ hg h
        by_cases hv : c.V r
        · exact .inl (this.1 hv).1
        · exact .inr (this.2 hv)
      have hlt := (Array.getElem?_eq_some_iff.1 h).1
      by_cases hcl : ∃ x y z, o = .cells x y z
      · obtain ⟨x, y, z, rfl⟩ := hcl
        exact ⟨w, es, (cells c.P es h).2, .refl hr, trivial⟩
      · obtain ⟨v, _, hv, _, e⟩ := other c.P es h (fun x y z k => hcl ⟨x, y, z, k⟩)
        obtain rfl := hv (fun a l k => by subst k; rcases hp with hp | hp <;> cases hp)
        exact ⟨w, _, e, .push hr (tame_obj r _ _ (hr.notShunO r) hlt), trivial⟩
  · have e := hr.off _ hg
    cases h : w'.heap[r]? with
    | none =>
      have hs : w'.shape? r = none := by unfold World.shape?; rw [h]
      have : (numberAt r).run c.P' w' = .halt (.stuck "getObj: no such block") w' := by simp only [numberAt, shape, getObj, bind, Sem.bind, Sem.run, hs, Option.isSome, Bool.false_eq_true, if_false, h]
      rw [this]; exact ⟨trivial, fun v h => by cases h⟩
    | some o =>
      have hlt := (Array.getElem?_eq_some_iff.1 (e.trans h)).1
      by_cases hc : ∃ x y z, o = .cells x y z
      · obtain ⟨x, y, z, rfl⟩ := hc
        rw [(cells c.P' es h).1]
        intro _
        exact ⟨w, es, (cells c.P es (e.trans h)).2, .refl hr, trivial⟩
      · have h1 : ∀ x y z, o ≠ .cells x y z := fun x y z k => hc ⟨x, y, z, k⟩
        obtain ⟨v, a1, a2, e1, _⟩ := other c.P' es h h1
        obtain ⟨u, b1, b2, _, e2⟩ := other c.P es (e.trans h) h1
        have : u = v := by
          by_cases hn : ∃ a l, o = .number a l
          · obtain ⟨a, l, rfl⟩ := hn; rw [a1 _ _ rfl, b1 _ _ rfl]
          · rw [a2 fun a l k => hn ⟨a, l, k⟩, b2 fun a l k => hn ⟨a, l, k⟩]
        subst this
        rw [e1]
        intro _
        exact ⟨w, _, e2, .push hr (tame_obj r _ _ (hr.notShunO r) hlt), trivial⟩
theorem sim_behindNumber (a : Addr) : SimU c (fun _ => True) (behindNumber a) := by unfold behindNumber; (repeat' (first | (first | (with_reducible first | exact sim_numberAt _ | refine sim_mapM_array (fun _ => ?_) _ | refine sim_forIn_range (fun _ _ => ?_) _ _ | refine sim_forIn_array (fun _ _ => ?_) _ _ | exact sim_noView _ | exact sim_asAddr ‹_› _ | exact sim_asAgg _ | exact sim_asBool _ | exact sim_asInt _ | exact sim_asIntOf _ | exact sim_boundsPanic ‹_› _ _ _ _ | exact sim_runtimePanic ‹_› _ | exact sim_part _ _ _ | exact sim_elemOf _ | exact sim_newVar ‹_› _ _ | exact sim_newRow ‹_› _ _ | exact sim_storeVar ‹_› _ _ _ | exact sim_loadVar _ _ | exact sim_storeCells ‹_› _ _ _ | exact sim_loadCells _ _ | exact sim_loadCellsFrom _ _ _ _ | exact sim_isAgg _ | exact sim_sizeOf _ | exact sim_zeroValue _ | exact sim_typeStr _ | exact sim_askRoom _ | exact sim_underlying _ | exact sim_typeInfo _ | refine sim_ite ?_ ?_ | refine sim_map _ ?_ | exact sim_mark (.inl rfl) | exact sim_frozen _ | exact sim_choose _ | exact sim_load _ _ | exact SimS.pure trivial | exact SimS.pure' trivial | exact sim_stuck_bind _ _ | exact sim_goPanic _ | exact sim_stuck _) | ((with_reducible refine sim_unsup_bind _ _ ?_); exact trivial) | ((with_reducible refine sim_unsup _ ?_); exact trivial)) | assumption | ((with_reducible refine sim_prog ?_ ?_); · rfl) | ((with_reducible refine sim_getObj _ ?_ (fun _ _ _ => ?_)); · exact ⟨stops_stuck _, fun _ _ => stops_stuck _⟩) | with_reducible refine sim_bind (Q := fun _ => True) ?_ (fun _ _ => ?_) | split | dsimp only))
theorem sim_asNumber (hO : ObjOk c.O) (a : Addr) (l : Bool) : SimU c (fun _ => True) (asNumber a l) := by
  unfold asNumber
  exact sim_bind (sim_newObj (hO.number _ _) (by simp) (by simp)) fun _ _ => by (repeat' (first | (first | (with_reducible first | exact sim_behindNumber _ | exact sim_numberAt _ | refine sim_mapM_array (fun _ => ?_) _ | refine sim_forIn_range (fun _ _ => ?_) _ _ | refine sim_forIn_array (fun _ _ => ?_) _ _ | exact sim_noView _ | exact sim_asAddr ‹_› _ | exact sim_asAgg _ | exact sim_asBool _ | exact sim_asInt _ | exact sim_asIntOf _ | exact sim_boundsPanic ‹_› _ _ _ _ | exact sim_runtimePanic ‹_› _ | exact sim_part _ _ _ | exact sim_elemOf _ | exact sim_newVar ‹_› _ _ | exact sim_newRow ‹_› _ _ | exact sim_storeVar ‹_› _ _ _ | exact sim_loadVar _ _ | exact sim_storeCells ‹_› _ _ _ | exact sim_loadCells _ _ | exact sim_loadCellsFrom _ _ _ _ | exact sim_isAgg _ | exact sim_sizeOf _ | exact sim_zeroValue _ | exact sim_typeStr _ | exact sim_askRoom _ | exact sim_underlying _ | exact sim_typeInfo _ | refine sim_ite ?_ ?_ | refine sim_map _ ?_ | exact sim_mark (.inl rfl) | exact sim_frozen _ | exact sim_choose _ | exact sim_load _ _ | exact SimS.pure trivial | exact SimS.pure' trivial | exact sim_stuck_bind _ _ | exact sim_goPanic _ | exact sim_stuck _) | ((with_reducible refine sim_unsup_bind _ _ ?_); exact trivial) | ((with_reducible refine sim_unsup _ ?_); exact trivial)) | assumption | ((with_reducible refine sim_prog ?_ ?_); · rfl) | ((with_reducible refine sim_getObj _ ?_ (fun _ _ _ => ?_)); · exact ⟨stops_stuck _, fun _ _ => stops_stuck _⟩) | with_reducible refine sim_bind (Q := fun _ => True) ?_ (fun _ _ => ?_) | split | dsimp only))

theorem sim_shape {f : Option (TypeId × Nat) → Sem β} (r : Nat) (hs : Stops c (f none)) (hf : ∀ x, SimU c R (f x)) : SimU c R (shape r >>= f) := by
  by_cases hg : c.G r
  · intro w w' es hr
    obtain ⟨x, w1', e, hx, hv⟩ := hs w'
    have : (shape r >>= f).run c.P' w' = .halt x w1' := by
      show (Sem.shape r _).run c.P' w' = _
      have hn : w'.shape? r = none := by rcases c.po_cases r with ⟨_, eo⟩ | ⟨_, eo⟩ <;> simp [World.shape?, hr.poison _ hg, eo]
      simp only [Sem.run, hn]
      exact e
    rw [this]
    exact ⟨hx, fun v h => absurd h (hv v)⟩
  · refine SimS.bind' (Q := fun _ => True) ?_ fun o _ => hf o
    intro w w' es hr _
    have e : w.shape? r = w'.shape? r := by unfold World.shape?; rw [hr.off _ hg]
    exact ⟨w, es, by show (Result.ok (w.shape? r) w, es) = _; rw [e], .refl hr, trivial⟩
theorem stops_unsup (u : Unsupported) (h : Fine (.unsupported u)) : Stops c (unsupported u : Sem α) := fun w' => ⟨_, w', rfl, h, fun v h => by cases h⟩

theorem sim_byteOf (a : Addr) : SimU c (fun _ => True) (byteOf a) := by
  have e1 : byteOfCell c.P' = byteOfCell c.P := by
    funext d
    induction d with
    | zero => rfl
    | succ d ih => funext t off; unfold byteOfCell; rw [ih]; rfl
  unfold byteOf
  split
  · (repeat' (first | (first | (with_reducible first | exact sim_asNumber ‹_› _ _ | exact sim_behindNumber _ | exact sim_numberAt _ | refine sim_mapM_array (fun _ => ?_) _ | refine sim_forIn_range (fun _ _ => ?_) _ _ | refine sim_forIn_array (fun _ _ => ?_) _ _ | exact sim_noView _ | exact sim_asAddr ‹_› _ | exact sim_asAgg _ | exact sim_asBool _ | exact sim_asInt _ | exact sim_asIntOf _ | exact sim_boundsPanic ‹_› _ _ _ _ | exact sim_runtimePanic ‹_› _ | exact sim_part _ _ _ | exact sim_elemOf _ | exact sim_newVar ‹_› _ _ | exact sim_newRow ‹_› _ _ | exact sim_storeVar ‹_› _ _ _ | exact sim_loadVar _ _ | exact sim_storeCells ‹_› _ _ _ | exact sim_loadCells _ _ | exact sim_loadCellsFrom _ _ _ _ | exact sim_isAgg _ | exact sim_sizeOf _ | exact sim_zeroValue _ | exact sim_typeStr _ | exact sim_askRoom _ | exact sim_underlying _ | exact sim_typeInfo _ | refine sim_ite ?_ ?_ | refine sim_map _ ?_ | exact sim_mark (.inl rfl) | exact sim_frozen _ | exact sim_choose _ | exact sim_load _ _ | exact SimS.pure trivial | exact SimS.pure' trivial | exact sim_stuck_bind _ _ | exact sim_goPanic _ | exact sim_stuck _) | ((with_reducible refine sim_unsup_bind _ _ ?_); exact trivial) | ((with_reducible refine sim_unsup _ ?_); exact trivial)) | assumption | ((with_reducible refine sim_prog ?_ ?_); · rfl) | ((with_reducible refine sim_getObj _ ?_ (fun _ _ _ => ?_)); · exact ⟨stops_stuck _, fun _ _ => stops_stuck _⟩) | with_reducible refine sim_bind (Q := fun _ => True) ?_ (fun _ _ => ?_) | split | dsimp only))
  · refine sim_prog ?_ ?_
    · funext; rw [e1]; rfl
    refine sim_bind (sim_noView _) fun _ _ => sim_shape _ (stops_stuck _) fun _ => ?_
    (repeat' (first | (first | (with_reducible first | exact sim_asNumber ‹_› _ _ | exact sim_behindNumber _ | exact sim_numberAt _ | refine sim_mapM_array (fun _ => ?_) _ | refine sim_forIn_range (fun _ _ => ?_) _ _ | refine sim_forIn_array (fun _ _ => ?_) _ _ | exact sim_noView _ | exact sim_asAddr ‹_› _ | exact sim_asAgg _ | exact sim_asBool _ | exact sim_asInt _ | exact sim_asIntOf _ | exact sim_boundsPanic ‹_› _ _ _ _ | exact sim_runtimePanic ‹_› _ | exact sim_part _ _ _ | exact sim_elemOf _ | exact sim_newVar ‹_› _ _ | exact sim_newRow ‹_› _ _ | exact sim_storeVar ‹_› _ _ _ | exact sim_loadVar _ _ | exact sim_storeCells ‹_› _ _ _ | exact sim_loadCells _ _ | exact sim_loadCellsFrom _ _ _ _ | exact sim_isAgg _ | exact sim_sizeOf _ | exact sim_zeroValue _ | exact sim_typeStr _ | exact sim_askRoom _ | exact sim_underlying _ | exact sim_typeInfo _ | refine sim_ite ?_ ?_ | refine sim_map _ ?_ | exact sim_mark (.inl rfl) | exact sim_frozen _ | exact sim_choose _ | exact sim_load _ _ | exact SimS.pure trivial | exact SimS.pure' trivial | exact sim_stuck_bind _ _ | exact sim_goPanic _ | exact sim_stuck _) | ((with_reducible refine sim_unsup_bind _ _ ?_); exact trivial) | ((with_reducible refine sim_unsup _ ?_); exact trivial)) | assumption | ((with_reducible refine sim_prog ?_ ?_); · rfl) | ((with_reducible refine sim_getObj _ ?_ (fun _ _ _ => ?_)); · exact ⟨stops_stuck _, fun _ _ => stops_stuck _⟩) | with_reducible refine sim_bind (Q := fun _ => True) ?_ (fun _ _ => ?_) | split | dsimp only))

end

end Go.Proofs.Ythoaldiadgeonaa.Tr

namespace Go.Proofs.Ythoaldiadgeonaa.Tr
open Go.Conc Go.Proofs.Ythoaldiadgeonaa.Cr
set_option linter.unusedSimpArgs false

section
variable {c : Cfg} {α β γ : Type} {Q : α → Prop} {R : β → Prop}

/-! ### strings' addresses -/
def strish (w : World) (a : Addr) : Bool := w.frozen? a || (match w.shape? a.block with | some (_, n) => w.frozen? { block := a.block, off := n } | none => false)
def noCells (w : World) (a : Addr) : Bool := match w.shape? a.block with | some (_, 0) => true | _ => false
theorem stringish_run (p : Program) (a : Addr) (w : World) (es : Array Event) : (stringish a).run p w = .ok (strish w a) w ∧ (stringish a).runT p w es = (.ok (strish w a) w, es) := by
  unfold strish
  cases h : w.frozen? a with
  | true => exact ⟨by simp only [stringish, frozen, bind, Sem.bind, pure, Sem.run, h, if_true, Bool.true_or], by simp only [stringish, frozen, bind, Sem.bind, pure, Sem.runT, h, if_true, Bool.true_or]⟩
  | false =>
    cases hs : w.shape? a.block with
    | none => exact ⟨by simp only [stringish, frozen, shape, bind, Sem.bind, pure, Sem.run, h, hs, Bool.false_eq_true, if_false, Bool.false_or], by simp only [stringish, frozen, shape, bind, Sem.bind, pure, Sem.runT, h, hs, Bool.false_eq_true, if_false, Bool.false_or]⟩
    | some x => exact ⟨by simp only [stringish, frozen, shape, bind, Sem.bind, pure, Sem.run, h, hs, Bool.false_eq_true, if_false, Bool.false_or], by simp only [stringish, frozen, shape, bind, Sem.bind, pure, Sem.runT, h, hs, Bool.false_eq_true, if_false, Bool.false_or]⟩
theorem Rel.frozen0 {w w' : World} (hr : Rel c w w') (a : Addr) (hg : c.G a.block) : w.frozen? a = false ∧ w'.frozen? a = false := by
  refine ⟨?_, by rcases c.po_cases a.block with ⟨_, eo⟩ | ⟨_, eo⟩ <;> simp [World.frozen?, hr.poison _ hg, eo]⟩
  unfold World.frozen?
  cases h : w.heap[a.block]? with
  | none => rfl
  | some o =>
    have := hr.plain _ _ hg h
    by_cases hv : c.V a.block
    · have := (this.1 hv).1; cases o <;> first | rfl | cases this
    · have := this.2 hv; cases o <;> first | (simp only [Plain] at this; subst this; simp) | rfl | cases this
theorem Rel.strish0 {w w' : World} (hr : Rel c w w') (a : Addr) (hg : c.G a.block) : strish w a = false ∧ strish w' a = false := by
  have h1 := fun n => hr.frozen0 { block := a.block, off := n } hg
  have h2 := hr.frozen0 a hg
  refine ⟨?_, ?_⟩ <;> unfold strish
  · rw [h2.1]; simp only [Bool.false_or]; split
    · exact (h1 _).1
    · rfl
  · rw [h2.2]; simp only [Bool.false_or]; split
    · exact (h1 _).2
    · rfl
theorem Rel.strish {w w' : World} (hr : Rel c w w') (a : Addr) : Tr.strish w a = Tr.strish w' a := by
  by_cases hg : c.G a.block
  · rw [(hr.strish0 a hg).1, (hr.strish0 a hg).2]
  · unfold Tr.strish World.frozen? World.shape?; dsimp only; rw [hr.off _ hg]
def mbOne (w : World) (a b : Addr) : Bool := (strish w a && strish w b) || (strish w a && noCells w a) || (strish w b && noCells w b)
theorem Rel.mbOne {w w' : World} (hr : Rel c w w') (a b : Addr) : Tr.mbOne w a b = Tr.mbOne w' a b := by
  have h : ∀ x, (Tr.strish w x && noCells w x) = (Tr.strish w' x && noCells w' x) := fun x => by
    by_cases hg : c.G x.block
    · rw [(hr.strish0 x hg).1, (hr.strish0 x hg).2]; rfl
    · rw [hr.strish x]; unfold noCells World.shape?; rw [hr.off _ hg]
  unfold Tr.mbOne
  rw [h a, h b, hr.strish a, hr.strish b]
theorem shape_run (p : Program) (r : Nat) (w : World) (es : Array Event) : (shape r).run p w = .ok (w.shape? r) w ∧ (shape r).runT p w es = (.ok (w.shape? r) w, es) := ⟨rfl, rfl⟩
theorem run_then {p : Program} {s : Sem α} {f : α → Sem β} {a : α} {w w1 : World} {es es1 : Array Event} (h : s.run p w = .ok a w1 ∧ s.runT p w es = (.ok a w1, es1)) : (s >>= f).run p w = (f a).run p w1 ∧ (s >>= f).runT p w es = (f a).runT p w1 es1 := by
  refine ⟨?_, ?_⟩
  · show (s.bind f).run p w = _; rw [Sem.run_bind', h.1]; rfl
  · show (s.bind f).runT p w es = _; rw [Go.Room.Sem.runT_bind, h.2]
theorem mayBeOne_run (p : Program) (a b : Addr) (w : World) (es : Array Event) : (mayBeOne a b).run p w = .ok (mbOne w a b) w ∧ (mayBeOne a b).runT p w es = (.ok (mbOne w a b) w, es) := by
  have k : ∀ (x : Addr) (f : Bool → Sem Bool), ((do pure ((← shape x.block) matches some (_, 0))) >>= f : Sem Bool).run p w = (f (noCells w x)).run p w ∧ ((do pure ((← shape x.block) matches some (_, 0))) >>= f : Sem Bool).runT p w es = (f (noCells w x)).runT p w es := fun x f => run_then (es1 := es) (by
    have h := run_then (p := p) (f := fun y : Option (TypeId × Nat) => (pure (y matches some (_, 0)) : Sem Bool)) (shape_run p x.block w es)
    have e : (match w.shape? x.block with | some (_, 0) => true | _ => false) = noCells w x := rfl
    exact ⟨h.1.trans (by show Result.ok _ w = _; rw [← e]), h.2.trans (by show (Result.ok _ w, es) = _; rw [← e])⟩)
  unfold mayBeOne mbOne
  dsimp only
  have h1 := run_then (p := p) (es := es) (f := fun sa : Bool => (do
      let sb ← stringish b
      pure ((sa && sb) || (sa && (← (do pure ((← shape a.block) matches some (_, 0))))) || (sb && (← (do pure ((← shape b.block) matches some (_, 0)))))) : Sem Bool)) (stringish_run p a w es)
  have h2 := run_then (p := p) (es := es) (f := fun sb : Bool => (do
      pure ((strish w a && sb) || (strish w a && (← (do pure ((← shape a.block) matches some (_, 0))))) || (sb && (← (do pure ((← shape b.block) matches some (_, 0)))))) : Sem Bool)) (stringish_run p b w es)
  refine ⟨h1.1.trans (h2.1.trans ((k a _).1.trans ((k b _).1.trans ?_))), h1.2.trans (h2.2.trans ((k a _).2.trans ((k b _).2.trans ?_)))⟩ <;> rfl

theorem sim_mayBeOne (a b : Addr) : SimU c (fun _ => True) (mayBeOne a b) := by
  intro w w' es hr
  rw [(mayBeOne_run c.P' a b w' es).1]
  intro _
  exact ⟨w, es, by rw [(mayBeOne_run c.P a b w es).2, hr.mbOne], .refl hr, trivial⟩
theorem sim_sameAddr (a b : Addr) : SimU c (fun _ => True) (sameAddr a b) := by unfold sameAddr; (repeat' (first | (first | (with_reducible first | exact sim_mayBeOne _ _ | exact sim_byteOf _ | exact sim_asNumber ‹_› _ _ | exact sim_behindNumber _ | exact sim_numberAt _ | refine sim_mapM_array (fun _ => ?_) _ | refine sim_forIn_range (fun _ _ => ?_) _ _ | refine sim_forIn_array (fun _ _ => ?_) _ _ | exact sim_noView _ | exact sim_asAddr ‹_› _ | exact sim_asAgg _ | exact sim_asBool _ | exact sim_asInt _ | exact sim_asIntOf _ | exact sim_boundsPanic ‹_› _ _ _ _ | exact sim_runtimePanic ‹_› _ | exact sim_part _ _ _ | exact sim_elemOf _ | exact sim_newVar ‹_› _ _ | exact sim_newRow ‹_› _ _ | exact sim_storeVar ‹_› _ _ _ | exact sim_loadVar _ _ | exact sim_storeCells ‹_› _ _ _ | exact sim_loadCells _ _ | exact sim_loadCellsFrom _ _ _ _ | exact sim_isAgg _ | exact sim_sizeOf _ | exact sim_zeroValue _ | exact sim_typeStr _ | exact sim_askRoom _ | exact sim_underlying _ | exact sim_typeInfo _ | refine sim_ite ?_ ?_ | refine sim_map _ ?_ | exact sim_mark (.inl rfl) | exact sim_frozen _ | exact sim_choose _ | exact sim_load _ _ | exact SimS.pure trivial | exact SimS.pure' trivial | exact sim_stuck_bind _ _ | exact sim_goPanic _ | exact sim_stuck _) | ((with_reducible refine sim_unsup_bind _ _ ?_); exact trivial) | ((with_reducible refine sim_unsup _ ?_); exact trivial)) | assumption | ((with_reducible refine sim_prog ?_ ?_); · rfl) | ((with_reducible refine sim_getObj _ ?_ (fun _ _ _ => ?_)); · exact ⟨stops_stuck _, fun _ _ => stops_stuck _⟩) | with_reducible refine sim_bind (Q := fun _ => True) ?_ (fun _ _ => ?_) | split | dsimp only))
theorem sim_samePointer (a b : Option Addr) : SimU c (fun _ => True) (samePointer a b) := by unfold samePointer; (repeat' (first | (first | (with_reducible first | exact sim_sameAddr _ _ | exact sim_mayBeOne _ _ | exact sim_byteOf _ | exact sim_asNumber ‹_› _ _ | exact sim_behindNumber _ | exact sim_numberAt _ | refine sim_mapM_array (fun _ => ?_) _ | refine sim_forIn_range (fun _ _ => ?_) _ _ | refine sim_forIn_array (fun _ _ => ?_) _ _ | exact sim_noView _ | exact sim_asAddr ‹_› _ | exact sim_asAgg _ | exact sim_asBool _ | exact sim_asInt _ | exact sim_asIntOf _ | exact sim_boundsPanic ‹_› _ _ _ _ | exact sim_runtimePanic ‹_› _ | exact sim_part _ _ _ | exact sim_elemOf _ | exact sim_newVar ‹_› _ _ | exact sim_newRow ‹_› _ _ | exact sim_storeVar ‹_› _ _ _ | exact sim_loadVar _ _ | exact sim_storeCells ‹_› _ _ _ | exact sim_loadCells _ _ | exact sim_loadCellsFrom _ _ _ _ | exact sim_isAgg _ | exact sim_sizeOf _ | exact sim_zeroValue _ | exact sim_typeStr _ | exact sim_askRoom _ | exact sim_underlying _ | exact sim_typeInfo _ | refine sim_ite ?_ ?_ | refine sim_map _ ?_ | exact sim_mark (.inl rfl) | exact sim_frozen _ | exact sim_choose _ | exact sim_load _ _ | exact SimS.pure trivial | exact SimS.pure' trivial | exact sim_stuck_bind _ _ | exact sim_goPanic _ | exact sim_stuck _) | ((with_reducible refine sim_unsup_bind _ _ ?_); exact trivial) | ((with_reducible refine sim_unsup _ ?_); exact trivial)) | assumption | ((with_reducible refine sim_prog ?_ ?_); · rfl) | ((with_reducible refine sim_getObj _ ?_ (fun _ _ _ => ?_)); · exact ⟨stops_stuck _, fun _ _ => stops_stuck _⟩) | with_reducible refine sim_bind (Q := fun _ => True) ?_ (fun _ _ => ?_) | split | dsimp only))

/-! ### the tables tell alike -/
theorem alike_eq (c : Cfg) : Program.alikeButTags c.P' = Program.alikeButTags c.P := by
  funext d
  induction d with
  | zero => rfl
  | succ d ih => funext t u; unfold Program.alikeButTags; rw [ih] <;> rfl
theorem stoodInAs_eq (c : Cfg) : Program.stoodInAs c.P' = Program.stoodInAs c.P := by funext t; unfold Program.stoodInAs; rw [alike_eq] <;> rfl
theorem stoodInHeld_eq (c : Cfg) : Program.stoodInHeld c.P' = Program.stoodInHeld c.P := by funext t; unfold Program.stoodInHeld; rw [stoodInAs_eq] <;> rfl
theorem packedAs_eq (c : Cfg) : Program.packedAs c.P' = Program.packedAs c.P := by funext t; unfold Program.packedAs; rw [alike_eq] <;> rfl
theorem packed_eq (c : Cfg) : Program.packed c.P' = Program.packed c.P := by funext t; unfold Program.packed; rw [packedAs_eq]
theorem holdsPacked_eq (c : Cfg) : Program.holdsPacked c.P' = Program.holdsPacked c.P := by
  funext d
  induction d with
  | zero => rfl
  | succ d ih => funext t; unfold Program.holdsPacked; rw [ih, packed_eq] <;> rfl
theorem eqGuardType_eq (c : Cfg) : Program.eqGuardType c.P' = Program.eqGuardType c.P := by
  funext d
  induction d with
  | zero => rfl
  | succ d ih => funext t; unfold Program.eqGuardType; rw [ih] <;> rfl

/-! ### equality -/

set_option maxHeartbeats 1000000 in
set_option maxRecDepth 100000 in
theorem sim_equalIn (hO : ObjOk c.O) (d : Nat) : ∀ (t : TypeId) (x y : Value), SimU c (fun _ => True) (Op.equalIn d t x y) := by
  induction d with
  | zero => intro t x y; unfold Op.equalIn; (repeat' (first | (first | (with_reducible first | exact sim_samePointer _ _ | exact sim_sameAddr _ _ | exact sim_mayBeOne _ _ | exact sim_byteOf _ | exact sim_asNumber ‹_› _ _ | exact sim_behindNumber _ | exact sim_numberAt _ | refine sim_mapM_array (fun _ => ?_) _ | refine sim_forIn_range (fun _ _ => ?_) _ _ | refine sim_forIn_array (fun _ _ => ?_) _ _ | exact sim_noView _ | exact sim_asAddr ‹_› _ | exact sim_asAgg _ | exact sim_asBool _ | exact sim_asInt _ | exact sim_asIntOf _ | exact sim_boundsPanic ‹_› _ _ _ _ | exact sim_runtimePanic ‹_› _ | exact sim_part _ _ _ | exact sim_elemOf _ | exact sim_newVar ‹_› _ _ | exact sim_newRow ‹_› _ _ | exact sim_storeVar ‹_› _ _ _ | exact sim_loadVar _ _ | exact sim_storeCells ‹_› _ _ _ | exact sim_loadCells _ _ | exact sim_loadCellsFrom _ _ _ _ | exact sim_isAgg _ | exact sim_sizeOf _ | exact sim_zeroValue _ | exact sim_typeStr _ | exact sim_askRoom _ | exact sim_underlying _ | exact sim_typeInfo _ | refine sim_ite ?_ ?_ | refine sim_map _ ?_ | exact sim_mark (.inl rfl) | exact sim_frozen _ | exact sim_choose _ | exact sim_load _ _ | exact SimS.pure trivial | exact SimS.pure' trivial | exact sim_stuck_bind _ _ | exact sim_goPanic _ | exact sim_stuck _) | ((with_reducible refine sim_unsup_bind _ _ ?_); exact trivial) | ((with_reducible refine sim_unsup _ ?_); exact trivial)) | assumption | ((with_reducible refine sim_prog ?_ ?_); · rfl) | ((with_reducible refine sim_getObj _ ?_ (fun _ _ _ => ?_)); · exact ⟨stops_stuck _, fun _ _ => stops_stuck _⟩) | with_reducible refine sim_bind (Q := fun _ => True) ?_ (fun _ _ => ?_) | split | dsimp only))
  | succ d ih =>
    intro t x y
    unfold Op.equalIn
    refine sim_bind (sim_underlying t) fun u _ => ?_
    split
    all_goals (repeat' (first | with_reducible exact ih _ _ _ | (first | (with_reducible first | exact sim_samePointer _ _ | exact sim_sameAddr _ _ | exact sim_mayBeOne _ _ | exact sim_byteOf _ | exact sim_asNumber ‹_› _ _ | exact sim_behindNumber _ | exact sim_numberAt _ | refine sim_mapM_array (fun _ => ?_) _ | refine sim_forIn_range (fun _ _ => ?_) _ _ | refine sim_forIn_array (fun _ _ => ?_) _ _ | exact sim_noView _ | exact sim_asAddr ‹_› _ | exact sim_asAgg _ | exact sim_asBool _ | exact sim_asInt _ | exact sim_asIntOf _ | exact sim_boundsPanic ‹_› _ _ _ _ | exact sim_runtimePanic ‹_› _ | exact sim_part _ _ _ | exact sim_elemOf _ | exact sim_newVar ‹_› _ _ | exact sim_newRow ‹_› _ _ | exact sim_storeVar ‹_› _ _ _ | exact sim_loadVar _ _ | exact sim_storeCells ‹_› _ _ _ | exact sim_loadCells _ _ | exact sim_loadCellsFrom _ _ _ _ | exact sim_isAgg _ | exact sim_sizeOf _ | exact sim_zeroValue _ | exact sim_typeStr _ | exact sim_askRoom _ | exact sim_underlying _ | exact sim_typeInfo _ | refine sim_ite ?_ ?_ | refine sim_map _ ?_ | exact sim_mark (.inl rfl) | exact sim_frozen _ | exact sim_choose _ | exact sim_load _ _ | exact SimS.pure trivial | exact SimS.pure' trivial | exact sim_stuck_bind _ _ | exact sim_goPanic _ | exact sim_stuck _) | ((with_reducible refine sim_unsup_bind _ _ ?_); exact trivial) | ((with_reducible refine sim_unsup _ ?_); exact trivial)) | ((with_reducible refine sim_prog ?_ ?_); · first | (rw [stoodInHeld_eq]; done) | (rw [holdsPacked_eq]; done) | rfl) | with_reducible refine sim_bind (Q := fun _ => True) ?_ (fun _ _ => ?_) | split | dsimp only))
end

end Go.Proofs.Ythoaldiadgeonaa.Tr

namespace Go.Proofs.Ythoaldiadgeonaa.Tr
open Go.Conc Go.Proofs.Ythoaldiadgeonaa.Cr
set_option linter.unusedSimpArgs false

section
variable {c : Cfg} {α β γ : Type} {Q : α → Prop} {R : β → Prop}

theorem sim_equal (hO : ObjOk c.O) (t : TypeId) (x y : Value) : SimU c (fun _ => True) (Op.equal t x y) := by unfold Op.equal; exact sim_equalIn hO _ _ _ _

set_option maxHeartbeats 1000000 in
theorem sim_eqGuardIn (d : Nat) : ∀ (t : TypeId) (x y : Value), SimU c (fun _ => True) (Op.eqGuardIn d t x y) := by
  induction d with
  | zero => intro t x y; unfold Op.eqGuardIn; (repeat' (first | (first | (with_reducible first | exact sim_equal ‹_› _ _ _ | exact sim_samePointer _ _ | exact sim_sameAddr _ _ | exact sim_mayBeOne _ _ | exact sim_byteOf _ | exact sim_asNumber ‹_› _ _ | exact sim_behindNumber _ | exact sim_numberAt _ | refine sim_mapM_array (fun _ => ?_) _ | refine sim_forIn_range (fun _ _ => ?_) _ _ | refine sim_forIn_array (fun _ _ => ?_) _ _ | exact sim_noView _ | exact sim_asAddr ‹_› _ | exact sim_asAgg _ | exact sim_asBool _ | exact sim_asInt _ | exact sim_asIntOf _ | exact sim_boundsPanic ‹_› _ _ _ _ | exact sim_runtimePanic ‹_› _ | exact sim_part _ _ _ | exact sim_elemOf _ | exact sim_newVar ‹_› _ _ | exact sim_newRow ‹_› _ _ | exact sim_storeVar ‹_› _ _ _ | exact sim_loadVar _ _ | exact sim_storeCells ‹_› _ _ _ | exact sim_loadCells _ _ | exact sim_loadCellsFrom _ _ _ _ | exact sim_isAgg _ | exact sim_sizeOf _ | exact sim_zeroValue _ | exact sim_typeStr _ | exact sim_askRoom _ | exact sim_underlying _ | exact sim_typeInfo _ | refine sim_ite ?_ ?_ | refine sim_map _ ?_ | exact sim_mark (.inl rfl) | exact sim_frozen _ | exact sim_choose _ | exact sim_load _ _ | exact SimS.pure trivial | exact SimS.pure' trivial | exact sim_stuck_bind _ _ | exact sim_goPanic _ | exact sim_stuck _) | ((with_reducible refine sim_unsup_bind _ _ ?_); exact trivial) | ((with_reducible refine sim_unsup _ ?_); exact trivial)) | assumption | ((with_reducible refine sim_prog ?_ ?_); · rfl) | ((with_reducible refine sim_getObj _ ?_ (fun _ _ _ => ?_)); · exact ⟨stops_stuck _, fun _ _ => stops_stuck _⟩) | with_reducible refine sim_bind (Q := fun _ => True) ?_ (fun _ _ => ?_) | split | dsimp only))
  | succ d ih =>
    intro t x y
    unfold Op.eqGuardIn
    refine sim_bind (sim_underlying t) fun u _ => ?_
    split
    all_goals (repeat' (first | with_reducible exact ih _ _ _ | (first | (with_reducible first | exact sim_equal ‹_› _ _ _ | exact sim_samePointer _ _ | exact sim_sameAddr _ _ | exact sim_mayBeOne _ _ | exact sim_byteOf _ | exact sim_asNumber ‹_› _ _ | exact sim_behindNumber _ | exact sim_numberAt _ | refine sim_mapM_array (fun _ => ?_) _ | refine sim_forIn_range (fun _ _ => ?_) _ _ | refine sim_forIn_array (fun _ _ => ?_) _ _ | exact sim_noView _ | exact sim_asAddr ‹_› _ | exact sim_asAgg _ | exact sim_asBool _ | exact sim_asInt _ | exact sim_asIntOf _ | exact sim_boundsPanic ‹_› _ _ _ _ | exact sim_runtimePanic ‹_› _ | exact sim_part _ _ _ | exact sim_elemOf _ | exact sim_newVar ‹_› _ _ | exact sim_newRow ‹_› _ _ | exact sim_storeVar ‹_› _ _ _ | exact sim_loadVar _ _ | exact sim_storeCells ‹_› _ _ _ | exact sim_loadCells _ _ | exact sim_loadCellsFrom _ _ _ _ | exact sim_isAgg _ | exact sim_sizeOf _ | exact sim_zeroValue _ | exact sim_typeStr _ | exact sim_askRoom _ | exact sim_underlying _ | exact sim_typeInfo _ | refine sim_ite ?_ ?_ | refine sim_map _ ?_ | exact sim_mark (.inl rfl) | exact sim_frozen _ | exact sim_choose _ | exact sim_load _ _ | exact SimS.pure trivial | exact SimS.pure' trivial | exact sim_stuck_bind _ _ | exact sim_goPanic _ | exact sim_stuck _) | ((with_reducible refine sim_unsup_bind _ _ ?_); exact trivial) | ((with_reducible refine sim_unsup _ ?_); exact trivial)) | ((with_reducible refine sim_prog ?_ ?_); · first | (rw [stoodInHeld_eq]; done) | (rw [holdsPacked_eq]; done) | rfl) | with_reducible refine sim_bind (Q := fun _ => True) ?_ (fun _ _ => ?_) | split | dsimp only))
theorem sim_eqGuard (op : BinOp) (t : TypeId) (x y : Operand) (a b : Value) : SimU c (fun _ => True) (eqGuard op t x y a b) := by
  have key : ∀ (u : Unsupported), Fine (.unsupported u) → SimU c (fun _ => True) (do if ← Op.eqGuardIn Op.maxDepth t a b then unsupported u) := fun u hu => by
    refine sim_bind (sim_eqGuardIn _ _ _ _) fun v _ => ?_
    cases v
    · exact SimS.pure' trivial
    · exact sim_unsup _ hu
  unfold eqGuard
  refine sim_ite (SimS.pure' trivial) ?_
  split
  · exact sim_ite (SimS.pure' trivial) (key _ trivial)
  · refine sim_prog ?_ (sim_prog rfl (sim_ite (SimS.pure' trivial) (key _ trivial)))
    rw [eqGuardType_eq]
  · exact SimS.pure' trivial

theorem sim_shift (hO : ObjOk c.O) (op : BinOp) (k : IntKind) (x : Int) (yk : IntKind) (y : Int) : SimU c (fun _ => True) (Op.shift op k x yk y) := by unfold Op.shift; (repeat' (first | (first | (with_reducible first | exact sim_eqGuard _ _ _ _ _ _ | exact sim_eqGuardIn _ _ _ _ | exact sim_equal ‹_› _ _ _ | exact sim_samePointer _ _ | exact sim_sameAddr _ _ | exact sim_mayBeOne _ _ | exact sim_byteOf _ | exact sim_asNumber ‹_› _ _ | exact sim_behindNumber _ | exact sim_numberAt _ | refine sim_mapM_array (fun _ => ?_) _ | refine sim_forIn_range (fun _ _ => ?_) _ _ | refine sim_forIn_array (fun _ _ => ?_) _ _ | exact sim_noView _ | exact sim_asAddr ‹_› _ | exact sim_asAgg _ | exact sim_asBool _ | exact sim_asInt _ | exact sim_asIntOf _ | exact sim_boundsPanic ‹_› _ _ _ _ | exact sim_runtimePanic ‹_› _ | exact sim_part _ _ _ | exact sim_elemOf _ | exact sim_newVar ‹_› _ _ | exact sim_newRow ‹_› _ _ | exact sim_storeVar ‹_› _ _ _ | exact sim_loadVar _ _ | exact sim_storeCells ‹_› _ _ _ | exact sim_loadCells _ _ | exact sim_loadCellsFrom _ _ _ _ | exact sim_isAgg _ | exact sim_sizeOf _ | exact sim_zeroValue _ | exact sim_typeStr _ | exact sim_askRoom _ | exact sim_underlying _ | exact sim_typeInfo _ | refine sim_ite ?_ ?_ | refine sim_map _ ?_ | exact sim_mark (.inl rfl) | exact sim_frozen _ | exact sim_choose _ | exact sim_load _ _ | exact SimS.pure trivial | exact SimS.pure' trivial | exact sim_stuck_bind _ _ | exact sim_goPanic _ | exact sim_stuck _) | ((with_reducible refine sim_unsup_bind _ _ ?_); exact trivial) | ((with_reducible refine sim_unsup _ ?_); exact trivial)) | assumption | ((with_reducible refine sim_prog ?_ ?_); · rfl) | ((with_reducible refine sim_getObj _ ?_ (fun _ _ _ => ?_)); · exact ⟨stops_stuck _, fun _ _ => stops_stuck _⟩) | with_reducible refine sim_bind (Q := fun _ => True) ?_ (fun _ _ => ?_) | split | dsimp only))
theorem sim_intArith (op : BinOp) (k : IntKind) (x y : Int) : SimU c (fun _ => True) (Op.intArith op k x y) := by unfold Op.intArith; (repeat' (first | (first | (with_reducible first | exact sim_shift ‹_› _ _ _ _ _ | exact sim_eqGuard _ _ _ _ _ _ | exact sim_eqGuardIn _ _ _ _ | exact sim_equal ‹_› _ _ _ | exact sim_samePointer _ _ | exact sim_sameAddr _ _ | exact sim_mayBeOne _ _ | exact sim_byteOf _ | exact sim_asNumber ‹_› _ _ | exact sim_behindNumber _ | exact sim_numberAt _ | refine sim_mapM_array (fun _ => ?_) _ | refine sim_forIn_range (fun _ _ => ?_) _ _ | refine sim_forIn_array (fun _ _ => ?_) _ _ | exact sim_noView _ | exact sim_asAddr ‹_› _ | exact sim_asAgg _ | exact sim_asBool _ | exact sim_asInt _ | exact sim_asIntOf _ | exact sim_boundsPanic ‹_› _ _ _ _ | exact sim_runtimePanic ‹_› _ | exact sim_part _ _ _ | exact sim_elemOf _ | exact sim_newVar ‹_› _ _ | exact sim_newRow ‹_› _ _ | exact sim_storeVar ‹_› _ _ _ | exact sim_loadVar _ _ | exact sim_storeCells ‹_› _ _ _ | exact sim_loadCells _ _ | exact sim_loadCellsFrom _ _ _ _ | exact sim_isAgg _ | exact sim_sizeOf _ | exact sim_zeroValue _ | exact sim_typeStr _ | exact sim_askRoom _ | exact sim_underlying _ | exact sim_typeInfo _ | refine sim_ite ?_ ?_ | refine sim_map _ ?_ | exact sim_mark (.inl rfl) | exact sim_frozen _ | exact sim_choose _ | exact sim_load _ _ | exact SimS.pure trivial | exact SimS.pure' trivial | exact sim_stuck_bind _ _ | exact sim_goPanic _ | exact sim_stuck _) | ((with_reducible refine sim_unsup_bind _ _ ?_); exact trivial) | ((with_reducible refine sim_unsup _ ?_); exact trivial)) | assumption | ((with_reducible refine sim_prog ?_ ?_); · rfl) | ((with_reducible refine sim_getObj _ ?_ (fun _ _ _ => ?_)); · exact ⟨stops_stuck _, fun _ _ => stops_stuck _⟩) | with_reducible refine sim_bind (Q := fun _ => True) ?_ (fun _ _ => ?_) | split | dsimp only))
theorem sim_intDiv (hO : ObjOk c.O) (op : BinOp) (k : IntKind) (x y : Int) : SimU c (fun _ => True) (Op.intDiv op k x y) := by unfold Op.intDiv; (repeat' (first | (first | (with_reducible first | exact sim_intArith _ _ _ _ | exact sim_shift ‹_› _ _ _ _ _ | exact sim_eqGuard _ _ _ _ _ _ | exact sim_eqGuardIn _ _ _ _ | exact sim_equal ‹_› _ _ _ | exact sim_samePointer _ _ | exact sim_sameAddr _ _ | exact sim_mayBeOne _ _ | exact sim_byteOf _ | exact sim_asNumber ‹_› _ _ | exact sim_behindNumber _ | exact sim_numberAt _ | refine sim_mapM_array (fun _ => ?_) _ | refine sim_forIn_range (fun _ _ => ?_) _ _ | refine sim_forIn_array (fun _ _ => ?_) _ _ | exact sim_noView _ | exact sim_asAddr ‹_› _ | exact sim_asAgg _ | exact sim_asBool _ | exact sim_asInt _ | exact sim_asIntOf _ | exact sim_boundsPanic ‹_› _ _ _ _ | exact sim_runtimePanic ‹_› _ | exact sim_part _ _ _ | exact sim_elemOf _ | exact sim_newVar ‹_› _ _ | exact sim_newRow ‹_› _ _ | exact sim_storeVar ‹_› _ _ _ | exact sim_loadVar _ _ | exact sim_storeCells ‹_› _ _ _ | exact sim_loadCells _ _ | exact sim_loadCellsFrom _ _ _ _ | exact sim_isAgg _ | exact sim_sizeOf _ | exact sim_zeroValue _ | exact sim_typeStr _ | exact sim_askRoom _ | exact sim_underlying _ | exact sim_typeInfo _ | refine sim_ite ?_ ?_ | refine sim_map _ ?_ | exact sim_mark (.inl rfl) | exact sim_frozen _ | exact sim_choose _ | exact sim_load _ _ | exact SimS.pure trivial | exact SimS.pure' trivial | exact sim_stuck_bind _ _ | exact sim_goPanic _ | exact sim_stuck _) | ((with_reducible refine sim_unsup_bind _ _ ?_); exact trivial) | ((with_reducible refine sim_unsup _ ?_); exact trivial)) | assumption | ((with_reducible refine sim_prog ?_ ?_); · rfl) | ((with_reducible refine sim_getObj _ ?_ (fun _ _ _ => ?_)); · exact ⟨stops_stuck _, fun _ _ => stops_stuck _⟩) | with_reducible refine sim_bind (Q := fun _ => True) ?_ (fun _ _ => ?_) | split | dsimp only))
theorem sim_intBits (op : BinOp) (k : IntKind) (x y : Int) : SimU c (fun _ => True) (Op.intBits op k x y) := by unfold Op.intBits; (repeat' (first | (first | (with_reducible first | exact sim_intDiv ‹_› _ _ _ _ | exact sim_intArith _ _ _ _ | exact sim_shift ‹_› _ _ _ _ _ | exact sim_eqGuard _ _ _ _ _ _ | exact sim_eqGuardIn _ _ _ _ | exact sim_equal ‹_› _ _ _ | exact sim_samePointer _ _ | exact sim_sameAddr _ _ | exact sim_mayBeOne _ _ | exact sim_byteOf _ | exact sim_asNumber ‹_› _ _ | exact sim_behindNumber _ | exact sim_numberAt _ | refine sim_mapM_array (fun _ => ?_) _ | refine sim_forIn_range (fun _ _ => ?_) _ _ | refine sim_forIn_array (fun _ _ => ?_) _ _ | exact sim_noView _ | exact sim_asAddr ‹_› _ | exact sim_asAgg _ | exact sim_asBool _ | exact sim_asInt _ | exact sim_asIntOf _ | exact sim_boundsPanic ‹_› _ _ _ _ | exact sim_runtimePanic ‹_› _ | exact sim_part _ _ _ | exact sim_elemOf _ | exact sim_newVar ‹_› _ _ | exact sim_newRow ‹_› _ _ | exact sim_storeVar ‹_› _ _ _ | exact sim_loadVar _ _ | exact sim_storeCells ‹_› _ _ _ | exact sim_loadCells _ _ | exact sim_loadCellsFrom _ _ _ _ | exact sim_isAgg _ | exact sim_sizeOf _ | exact sim_zeroValue _ | exact sim_typeStr _ | exact sim_askRoom _ | exact sim_underlying _ | exact sim_typeInfo _ | refine sim_ite ?_ ?_ | refine sim_map _ ?_ | exact sim_mark (.inl rfl) | exact sim_frozen _ | exact sim_choose _ | exact sim_load _ _ | exact SimS.pure trivial | exact SimS.pure' trivial | exact sim_stuck_bind _ _ | exact sim_goPanic _ | exact sim_stuck _) | ((with_reducible refine sim_unsup_bind _ _ ?_); exact trivial) | ((with_reducible refine sim_unsup _ ?_); exact trivial)) | assumption | ((with_reducible refine sim_prog ?_ ?_); · rfl) | ((with_reducible refine sim_getObj _ ?_ (fun _ _ _ => ?_)); · exact ⟨stops_stuck _, fun _ _ => stops_stuck _⟩) | with_reducible refine sim_bind (Q := fun _ => True) ?_ (fun _ _ => ?_) | split | dsimp only))
theorem sim_intCmp (op : BinOp) (x y : Int) : SimU c (fun _ => True) (Op.intCmp op x y) := by unfold Op.intCmp; (repeat' (first | (first | (with_reducible first | exact sim_intBits _ _ _ _ | exact sim_intDiv ‹_› _ _ _ _ | exact sim_intArith _ _ _ _ | exact sim_shift ‹_› _ _ _ _ _ | exact sim_eqGuard _ _ _ _ _ _ | exact sim_eqGuardIn _ _ _ _ | exact sim_equal ‹_› _ _ _ | exact sim_samePointer _ _ | exact sim_sameAddr _ _ | exact sim_mayBeOne _ _ | exact sim_byteOf _ | exact sim_asNumber ‹_› _ _ | exact sim_behindNumber _ | exact sim_numberAt _ | refine sim_mapM_array (fun _ => ?_) _ | refine sim_forIn_range (fun _ _ => ?_) _ _ | refine sim_forIn_array (fun _ _ => ?_) _ _ | exact sim_noView _ | exact sim_asAddr ‹_› _ | exact sim_asAgg _ | exact sim_asBool _ | exact sim_asInt _ | exact sim_asIntOf _ | exact sim_boundsPanic ‹_› _ _ _ _ | exact sim_runtimePanic ‹_› _ | exact sim_part _ _ _ | exact sim_elemOf _ | exact sim_newVar ‹_› _ _ | exact sim_newRow ‹_› _ _ | exact sim_storeVar ‹_› _ _ _ | exact sim_loadVar _ _ | exact sim_storeCells ‹_› _ _ _ | exact sim_loadCells _ _ | exact sim_loadCellsFrom _ _ _ _ | exact sim_isAgg _ | exact sim_sizeOf _ | exact sim_zeroValue _ | exact sim_typeStr _ | exact sim_askRoom _ | exact sim_underlying _ | exact sim_typeInfo _ | refine sim_ite ?_ ?_ | refine sim_map _ ?_ | exact sim_mark (.inl rfl) | exact sim_frozen _ | exact sim_choose _ | exact sim_load _ _ | exact SimS.pure trivial | exact SimS.pure' trivial | exact sim_stuck_bind _ _ | exact sim_goPanic _ | exact sim_stuck _) | ((with_reducible refine sim_unsup_bind _ _ ?_); exact trivial) | ((with_reducible refine sim_unsup _ ?_); exact trivial)) | assumption | ((with_reducible refine sim_prog ?_ ?_); · rfl) | ((with_reducible refine sim_getObj _ ?_ (fun _ _ _ => ?_)); · exact ⟨stops_stuck _, fun _ _ => stops_stuck _⟩) | with_reducible refine sim_bind (Q := fun _ => True) ?_ (fun _ _ => ?_) | split | dsimp only))
theorem sim_floatArith (op : BinOp) (k : FloatKind) (x y : Nat) : SimU c (fun _ => True) (Op.floatArith op k x y) := by unfold Op.floatArith; (repeat' (first | (first | (with_reducible first | exact sim_intCmp _ _ _ | exact sim_intBits _ _ _ _ | exact sim_intDiv ‹_› _ _ _ _ | exact sim_intArith _ _ _ _ | exact sim_shift ‹_› _ _ _ _ _ | exact sim_eqGuard _ _ _ _ _ _ | exact sim_eqGuardIn _ _ _ _ | exact sim_equal ‹_› _ _ _ | exact sim_samePointer _ _ | exact sim_sameAddr _ _ | exact sim_mayBeOne _ _ | exact sim_byteOf _ | exact sim_asNumber ‹_› _ _ | exact sim_behindNumber _ | exact sim_numberAt _ | refine sim_mapM_array (fun _ => ?_) _ | refine sim_forIn_range (fun _ _ => ?_) _ _ | refine sim_forIn_array (fun _ _ => ?_) _ _ | exact sim_noView _ | exact sim_asAddr ‹_› _ | exact sim_asAgg _ | exact sim_asBool _ | exact sim_asInt _ | exact sim_asIntOf _ | exact sim_boundsPanic ‹_› _ _ _ _ | exact sim_runtimePanic ‹_› _ | exact sim_part _ _ _ | exact sim_elemOf _ | exact sim_newVar ‹_› _ _ | exact sim_newRow ‹_› _ _ | exact sim_storeVar ‹_› _ _ _ | exact sim_loadVar _ _ | exact sim_storeCells ‹_› _ _ _ | exact sim_loadCells _ _ | exact sim_loadCellsFrom _ _ _ _ | exact sim_isAgg _ | exact sim_sizeOf _ | exact sim_zeroValue _ | exact sim_typeStr _ | exact sim_askRoom _ | exact sim_underlying _ | exact sim_typeInfo _ | refine sim_ite ?_ ?_ | refine sim_map _ ?_ | exact sim_mark (.inl rfl) | exact sim_frozen _ | exact sim_choose _ | exact sim_load _ _ | exact SimS.pure trivial | exact SimS.pure' trivial | exact sim_stuck_bind _ _ | exact sim_goPanic _ | exact sim_stuck _) | ((with_reducible refine sim_unsup_bind _ _ ?_); exact trivial) | ((with_reducible refine sim_unsup _ ?_); exact trivial)) | assumption | ((with_reducible refine sim_prog ?_ ?_); · rfl) | ((with_reducible refine sim_getObj _ ?_ (fun _ _ _ => ?_)); · exact ⟨stops_stuck _, fun _ _ => stops_stuck _⟩) | with_reducible refine sim_bind (Q := fun _ => True) ?_ (fun _ _ => ?_) | split | dsimp only))
theorem sim_floatCmp (op : BinOp) (k : FloatKind) (x y : Nat) : SimU c (fun _ => True) (Op.floatCmp op k x y) := by unfold Op.floatCmp; (repeat' (first | (first | (with_reducible first | exact sim_floatArith _ _ _ _ | exact sim_intCmp _ _ _ | exact sim_intBits _ _ _ _ | exact sim_intDiv ‹_› _ _ _ _ | exact sim_intArith _ _ _ _ | exact sim_shift ‹_› _ _ _ _ _ | exact sim_eqGuard _ _ _ _ _ _ | exact sim_eqGuardIn _ _ _ _ | exact sim_equal ‹_› _ _ _ | exact sim_samePointer _ _ | exact sim_sameAddr _ _ | exact sim_mayBeOne _ _ | exact sim_byteOf _ | exact sim_asNumber ‹_› _ _ | exact sim_behindNumber _ | exact sim_numberAt _ | refine sim_mapM_array (fun _ => ?_) _ | refine sim_forIn_range (fun _ _ => ?_) _ _ | refine sim_forIn_array (fun _ _ => ?_) _ _ | exact sim_noView _ | exact sim_asAddr ‹_› _ | exact sim_asAgg _ | exact sim_asBool _ | exact sim_asInt _ | exact sim_asIntOf _ | exact sim_boundsPanic ‹_› _ _ _ _ | exact sim_runtimePanic ‹_› _ | exact sim_part _ _ _ | exact sim_elemOf _ | exact sim_newVar ‹_› _ _ | exact sim_newRow ‹_› _ _ | exact sim_storeVar ‹_› _ _ _ | exact sim_loadVar _ _ | exact sim_storeCells ‹_› _ _ _ | exact sim_loadCells _ _ | exact sim_loadCellsFrom _ _ _ _ | exact sim_isAgg _ | exact sim_sizeOf _ | exact sim_zeroValue _ | exact sim_typeStr _ | exact sim_askRoom _ | exact sim_underlying _ | exact sim_typeInfo _ | refine sim_ite ?_ ?_ | refine sim_map _ ?_ | exact sim_mark (.inl rfl) | exact sim_frozen _ | exact sim_choose _ | exact sim_load _ _ | exact SimS.pure trivial | exact SimS.pure' trivial | exact sim_stuck_bind _ _ | exact sim_goPanic _ | exact sim_stuck _) | ((with_reducible refine sim_unsup_bind _ _ ?_); exact trivial) | ((with_reducible refine sim_unsup _ ?_); exact trivial)) | assumption | ((with_reducible refine sim_prog ?_ ?_); · rfl) | ((with_reducible refine sim_getObj _ ?_ (fun _ _ _ => ?_)); · exact ⟨stops_stuck _, fun _ _ => stops_stuck _⟩) | with_reducible refine sim_bind (Q := fun _ => True) ?_ (fun _ _ => ?_) | split | dsimp only))
theorem sim_floatToFloat (s : FloatKind) (b : Nat) (k : FloatKind) : SimU c (fun _ => True) (Conv.floatToFloat s b k) := by unfold Conv.floatToFloat; (repeat' (first | (first | (with_reducible first | exact sim_floatCmp _ _ _ _ | exact sim_floatArith _ _ _ _ | exact sim_intCmp _ _ _ | exact sim_intBits _ _ _ _ | exact sim_intDiv ‹_› _ _ _ _ | exact sim_intArith _ _ _ _ | exact sim_shift ‹_› _ _ _ _ _ | exact sim_eqGuard _ _ _ _ _ _ | exact sim_eqGuardIn _ _ _ _ | exact sim_equal ‹_› _ _ _ | exact sim_samePointer _ _ | exact sim_sameAddr _ _ | exact sim_mayBeOne _ _ | exact sim_byteOf _ | exact sim_asNumber ‹_› _ _ | exact sim_behindNumber _ | exact sim_numberAt _ | refine sim_mapM_array (fun _ => ?_) _ | refine sim_forIn_range (fun _ _ => ?_) _ _ | refine sim_forIn_array (fun _ _ => ?_) _ _ | exact sim_noView _ | exact sim_asAddr ‹_› _ | exact sim_asAgg _ | exact sim_asBool _ | exact sim_asInt _ | exact sim_asIntOf _ | exact sim_boundsPanic ‹_› _ _ _ _ | exact sim_runtimePanic ‹_› _ | exact sim_part _ _ _ | exact sim_elemOf _ | exact sim_newVar ‹_› _ _ | exact sim_newRow ‹_› _ _ | exact sim_storeVar ‹_› _ _ _ | exact sim_loadVar _ _ | exact sim_storeCells ‹_› _ _ _ | exact sim_loadCells _ _ | exact sim_loadCellsFrom _ _ _ _ | exact sim_isAgg _ | exact sim_sizeOf _ | exact sim_zeroValue _ | exact sim_typeStr _ | exact sim_askRoom _ | exact sim_underlying _ | exact sim_typeInfo _ | refine sim_ite ?_ ?_ | refine sim_map _ ?_ | exact sim_mark (.inl rfl) | exact sim_frozen _ | exact sim_choose _ | exact sim_load _ _ | exact SimS.pure trivial | exact SimS.pure' trivial | exact sim_stuck_bind _ _ | exact sim_goPanic _ | exact sim_stuck _) | ((with_reducible refine sim_unsup_bind _ _ ?_); exact trivial) | ((with_reducible refine sim_unsup _ ?_); exact trivial)) | assumption | ((with_reducible refine sim_prog ?_ ?_); · rfl) | ((with_reducible refine sim_getObj _ ?_ (fun _ _ _ => ?_)); · exact ⟨stops_stuck _, fun _ _ => stops_stuck _⟩) | with_reducible refine sim_bind (Q := fun _ => True) ?_ (fun _ _ => ?_) | split | dsimp only))
theorem sim_cArith (op : BinOp) (k : FloatKind) (x y : Nat) : SimU c (fun _ => True) (Op.Complex.arith op k x y) := by unfold Op.Complex.arith; (repeat' (first | (first | (with_reducible first | exact sim_floatToFloat _ _ _ | exact sim_floatCmp _ _ _ _ | exact sim_floatArith _ _ _ _ | exact sim_intCmp _ _ _ | exact sim_intBits _ _ _ _ | exact sim_intDiv ‹_› _ _ _ _ | exact sim_intArith _ _ _ _ | exact sim_shift ‹_› _ _ _ _ _ | exact sim_eqGuard _ _ _ _ _ _ | exact sim_eqGuardIn _ _ _ _ | exact sim_equal ‹_› _ _ _ | exact sim_samePointer _ _ | exact sim_sameAddr _ _ | exact sim_mayBeOne _ _ | exact sim_byteOf _ | exact sim_asNumber ‹_› _ _ | exact sim_behindNumber _ | exact sim_numberAt _ | refine sim_mapM_array (fun _ => ?_) _ | refine sim_forIn_range (fun _ _ => ?_) _ _ | refine sim_forIn_array (fun _ _ => ?_) _ _ | exact sim_noView _ | exact sim_asAddr ‹_› _ | exact sim_asAgg _ | exact sim_asBool _ | exact sim_asInt _ | exact sim_asIntOf _ | exact sim_boundsPanic ‹_› _ _ _ _ | exact sim_runtimePanic ‹_› _ | exact sim_part _ _ _ | exact sim_elemOf _ | exact sim_newVar ‹_› _ _ | exact sim_newRow ‹_› _ _ | exact sim_storeVar ‹_› _ _ _ | exact sim_loadVar _ _ | exact sim_storeCells ‹_› _ _ _ | exact sim_loadCells _ _ | exact sim_loadCellsFrom _ _ _ _ | exact sim_isAgg _ | exact sim_sizeOf _ | exact sim_zeroValue _ | exact sim_typeStr _ | exact sim_askRoom _ | exact sim_underlying _ | exact sim_typeInfo _ | refine sim_ite ?_ ?_ | refine sim_map _ ?_ | exact sim_mark (.inl rfl) | exact sim_frozen _ | exact sim_choose _ | exact sim_load _ _ | exact SimS.pure trivial | exact SimS.pure' trivial | exact sim_stuck_bind _ _ | exact sim_goPanic _ | exact sim_stuck _) | ((with_reducible refine sim_unsup_bind _ _ ?_); exact trivial) | ((with_reducible refine sim_unsup _ ?_); exact trivial)) | assumption | ((with_reducible refine sim_prog ?_ ?_); · rfl) | ((with_reducible refine sim_getObj _ ?_ (fun _ _ _ => ?_)); · exact ⟨stops_stuck _, fun _ _ => stops_stuck _⟩) | with_reducible refine sim_bind (Q := fun _ => True) ?_ (fun _ _ => ?_) | split | dsimp only))
theorem sim_cAdd (x y : Nat) : SimU c (fun _ => True) (Op.Complex.add x y) := sim_cArith _ _ _ _
theorem sim_cSub (x y : Nat) : SimU c (fun _ => True) (Op.Complex.sub x y) := sim_cArith _ _ _ _
theorem sim_cMul (x y : Nat) : SimU c (fun _ => True) (Op.Complex.mul x y) := sim_cArith _ _ _ _
theorem sim_cQuo (x y : Nat) : SimU c (fun _ => True) (Op.Complex.quo x y) := sim_cArith _ _ _ _
theorem sim_cCmp (op : BinOp) (k : FloatKind) (x y : Nat) : SimU c (fun _ => True) (Op.Complex.cmp op k x y) := by unfold Op.Complex.cmp; (repeat' (first | (first | (with_reducible first | exact sim_cQuo _ _ | exact sim_cMul _ _ | exact sim_cSub _ _ | exact sim_cAdd _ _ | exact sim_cArith _ _ _ _ | exact sim_floatToFloat _ _ _ | exact sim_floatCmp _ _ _ _ | exact sim_floatArith _ _ _ _ | exact sim_intCmp _ _ _ | exact sim_intBits _ _ _ _ | exact sim_intDiv ‹_› _ _ _ _ | exact sim_intArith _ _ _ _ | exact sim_shift ‹_› _ _ _ _ _ | exact sim_eqGuard _ _ _ _ _ _ | exact sim_eqGuardIn _ _ _ _ | exact sim_equal ‹_› _ _ _ | exact sim_samePointer _ _ | exact sim_sameAddr _ _ | exact sim_mayBeOne _ _ | exact sim_byteOf _ | exact sim_asNumber ‹_› _ _ | exact sim_behindNumber _ | exact sim_numberAt _ | refine sim_mapM_array (fun _ => ?_) _ | refine sim_forIn_range (fun _ _ => ?_) _ _ | refine sim_forIn_array (fun _ _ => ?_) _ _ | exact sim_noView _ | exact sim_asAddr ‹_› _ | exact sim_asAgg _ | exact sim_asBool _ | exact sim_asInt _ | exact sim_asIntOf _ | exact sim_boundsPanic ‹_› _ _ _ _ | exact sim_runtimePanic ‹_› _ | exact sim_part _ _ _ | exact sim_elemOf _ | exact sim_newVar ‹_› _ _ | exact sim_newRow ‹_› _ _ | exact sim_storeVar ‹_› _ _ _ | exact sim_loadVar _ _ | exact sim_storeCells ‹_› _ _ _ | exact sim_loadCells _ _ | exact sim_loadCellsFrom _ _ _ _ | exact sim_isAgg _ | exact sim_sizeOf _ | exact sim_zeroValue _ | exact sim_typeStr _ | exact sim_askRoom _ | exact sim_underlying _ | exact sim_typeInfo _ | refine sim_ite ?_ ?_ | refine sim_map _ ?_ | exact sim_mark (.inl rfl) | exact sim_frozen _ | exact sim_choose _ | exact sim_load _ _ | exact SimS.pure trivial | exact SimS.pure' trivial | exact sim_stuck_bind _ _ | exact sim_goPanic _ | exact sim_stuck _) | ((with_reducible refine sim_unsup_bind _ _ ?_); exact trivial) | ((with_reducible refine sim_unsup _ ?_); exact trivial)) | assumption | ((with_reducible refine sim_prog ?_ ?_); · rfl) | ((with_reducible refine sim_getObj _ ?_ (fun _ _ _ => ?_)); · exact ⟨stops_stuck _, fun _ _ => stops_stuck _⟩) | with_reducible refine sim_bind (Q := fun _ => True) ?_ (fun _ _ => ?_) | split | dsimp only))
theorem sim_cConv (s : FloatKind) (x : Nat) (k : FloatKind) : SimU c (fun _ => True) (Op.Complex.conv s x k) := by unfold Op.Complex.conv; (repeat' (first | (first | (with_reducible first | exact sim_cCmp _ _ _ _ | exact sim_cQuo _ _ | exact sim_cMul _ _ | exact sim_cSub _ _ | exact sim_cAdd _ _ | exact sim_cArith _ _ _ _ | exact sim_floatToFloat _ _ _ | exact sim_floatCmp _ _ _ _ | exact sim_floatArith _ _ _ _ | exact sim_intCmp _ _ _ | exact sim_intBits _ _ _ _ | exact sim_intDiv ‹_› _ _ _ _ | exact sim_intArith _ _ _ _ | exact sim_shift ‹_› _ _ _ _ _ | exact sim_eqGuard _ _ _ _ _ _ | exact sim_eqGuardIn _ _ _ _ | exact sim_equal ‹_› _ _ _ | exact sim_samePointer _ _ | exact sim_sameAddr _ _ | exact sim_mayBeOne _ _ | exact sim_byteOf _ | exact sim_asNumber ‹_› _ _ | exact sim_behindNumber _ | exact sim_numberAt _ | refine sim_mapM_array (fun _ => ?_) _ | refine sim_forIn_range (fun _ _ => ?_) _ _ | refine sim_forIn_array (fun _ _ => ?_) _ _ | exact sim_noView _ | exact sim_asAddr ‹_› _ | exact sim_asAgg _ | exact sim_asBool _ | exact sim_asInt _ | exact sim_asIntOf _ | exact sim_boundsPanic ‹_› _ _ _ _ | exact sim_runtimePanic ‹_› _ | exact sim_part _ _ _ | exact sim_elemOf _ | exact sim_newVar ‹_› _ _ | exact sim_newRow ‹_› _ _ | exact sim_storeVar ‹_› _ _ _ | exact sim_loadVar _ _ | exact sim_storeCells ‹_› _ _ _ | exact sim_loadCells _ _ | exact sim_loadCellsFrom _ _ _ _ | exact sim_isAgg _ | exact sim_sizeOf _ | exact sim_zeroValue _ | exact sim_typeStr _ | exact sim_askRoom _ | exact sim_underlying _ | exact sim_typeInfo _ | refine sim_ite ?_ ?_ | refine sim_map _ ?_ | exact sim_mark (.inl rfl) | exact sim_frozen _ | exact sim_choose _ | exact sim_load _ _ | exact SimS.pure trivial | exact SimS.pure' trivial | exact sim_stuck_bind _ _ | exact sim_goPanic _ | exact sim_stuck _) | ((with_reducible refine sim_unsup_bind _ _ ?_); exact trivial) | ((with_reducible refine sim_unsup _ ?_); exact trivial)) | assumption | ((with_reducible refine sim_prog ?_ ?_); · rfl) | ((with_reducible refine sim_getObj _ ?_ (fun _ _ _ => ?_)); · exact ⟨stops_stuck _, fun _ _ => stops_stuck _⟩) | with_reducible refine sim_bind (Q := fun _ => True) ?_ (fun _ _ => ?_) | split | dsimp only))
theorem sim_product (x y z u : Nat) : SimU c (fun _ => True) (Op.Complex.product x y z u) := by unfold Op.Complex.product; (repeat' (first | (first | (with_reducible first | exact sim_cConv _ _ _ | exact sim_cCmp _ _ _ _ | exact sim_cQuo _ _ | exact sim_cMul _ _ | exact sim_cSub _ _ | exact sim_cAdd _ _ | exact sim_cArith _ _ _ _ | exact sim_floatToFloat _ _ _ | exact sim_floatCmp _ _ _ _ | exact sim_floatArith _ _ _ _ | exact sim_intCmp _ _ _ | exact sim_intBits _ _ _ _ | exact sim_intDiv ‹_› _ _ _ _ | exact sim_intArith _ _ _ _ | exact sim_shift ‹_› _ _ _ _ _ | exact sim_eqGuard _ _ _ _ _ _ | exact sim_eqGuardIn _ _ _ _ | exact sim_equal ‹_› _ _ _ | exact sim_samePointer _ _ | exact sim_sameAddr _ _ | exact sim_mayBeOne _ _ | exact sim_byteOf _ | exact sim_asNumber ‹_› _ _ | exact sim_behindNumber _ | exact sim_numberAt _ | refine sim_mapM_array (fun _ => ?_) _ | refine sim_forIn_range (fun _ _ => ?_) _ _ | refine sim_forIn_array (fun _ _ => ?_) _ _ | exact sim_noView _ | exact sim_asAddr ‹_› _ | exact sim_asAgg _ | exact sim_asBool _ | exact sim_asInt _ | exact sim_asIntOf _ | exact sim_boundsPanic ‹_› _ _ _ _ | exact sim_runtimePanic ‹_› _ | exact sim_part _ _ _ | exact sim_elemOf _ | exact sim_newVar ‹_› _ _ | exact sim_newRow ‹_› _ _ | exact sim_storeVar ‹_› _ _ _ | exact sim_loadVar _ _ | exact sim_storeCells ‹_› _ _ _ | exact sim_loadCells _ _ | exact sim_loadCellsFrom _ _ _ _ | exact sim_isAgg _ | exact sim_sizeOf _ | exact sim_zeroValue _ | exact sim_typeStr _ | exact sim_askRoom _ | exact sim_underlying _ | exact sim_typeInfo _ | refine sim_ite ?_ ?_ | refine sim_map _ ?_ | exact sim_mark (.inl rfl) | exact sim_frozen _ | exact sim_choose _ | exact sim_load _ _ | exact SimS.pure trivial | exact SimS.pure' trivial | exact sim_stuck_bind _ _ | exact sim_goPanic _ | exact sim_stuck _) | ((with_reducible refine sim_unsup_bind _ _ ?_); exact trivial) | ((with_reducible refine sim_unsup _ ?_); exact trivial)) | assumption | ((with_reducible refine sim_prog ?_ ?_); · rfl) | ((with_reducible refine sim_getObj _ ?_ (fun _ _ _ => ?_)); · exact ⟨stops_stuck _, fun _ _ => stops_stuck _⟩) | with_reducible refine sim_bind (Q := fun _ => True) ?_ (fun _ _ => ?_) | split | dsimp only))
theorem sim_corrected (s x y z u : Nat) : SimU c (fun _ => True) (Op.Complex.corrected s x y z u) := by unfold Op.Complex.corrected; (repeat' (first | (first | (with_reducible first | exact sim_product _ _ _ _ | exact sim_cConv _ _ _ | exact sim_cCmp _ _ _ _ | exact sim_cQuo _ _ | exact sim_cMul _ _ | exact sim_cSub _ _ | exact sim_cAdd _ _ | exact sim_cArith _ _ _ _ | exact sim_floatToFloat _ _ _ | exact sim_floatCmp _ _ _ _ | exact sim_floatArith _ _ _ _ | exact sim_intCmp _ _ _ | exact sim_intBits _ _ _ _ | exact sim_intDiv ‹_› _ _ _ _ | exact sim_intArith _ _ _ _ | exact sim_shift ‹_› _ _ _ _ _ | exact sim_eqGuard _ _ _ _ _ _ | exact sim_eqGuardIn _ _ _ _ | exact sim_equal ‹_› _ _ _ | exact sim_samePointer _ _ | exact sim_sameAddr _ _ | exact sim_mayBeOne _ _ | exact sim_byteOf _ | exact sim_asNumber ‹_› _ _ | exact sim_behindNumber _ | exact sim_numberAt _ | refine sim_mapM_array (fun _ => ?_) _ | refine sim_forIn_range (fun _ _ => ?_) _ _ | refine sim_forIn_array (fun _ _ => ?_) _ _ | exact sim_noView _ | exact sim_asAddr ‹_› _ | exact sim_asAgg _ | exact sim_asBool _ | exact sim_asInt _ | exact sim_asIntOf _ | exact sim_boundsPanic ‹_› _ _ _ _ | exact sim_runtimePanic ‹_› _ | exact sim_part _ _ _ | exact sim_elemOf _ | exact sim_newVar ‹_› _ _ | exact sim_newRow ‹_› _ _ | exact sim_storeVar ‹_› _ _ _ | exact sim_loadVar _ _ | exact sim_storeCells ‹_› _ _ _ | exact sim_loadCells _ _ | exact sim_loadCellsFrom _ _ _ _ | exact sim_isAgg _ | exact sim_sizeOf _ | exact sim_zeroValue _ | exact sim_typeStr _ | exact sim_askRoom _ | exact sim_underlying _ | exact sim_typeInfo _ | refine sim_ite ?_ ?_ | refine sim_map _ ?_ | exact sim_mark (.inl rfl) | exact sim_frozen _ | exact sim_choose _ | exact sim_load _ _ | exact SimS.pure trivial | exact SimS.pure' trivial | exact sim_stuck_bind _ _ | exact sim_goPanic _ | exact sim_stuck _) | ((with_reducible refine sim_unsup_bind _ _ ?_); exact trivial) | ((with_reducible refine sim_unsup _ ?_); exact trivial)) | assumption | ((with_reducible refine sim_prog ?_ ?_); · rfl) | ((with_reducible refine sim_getObj _ ?_ (fun _ _ _ => ?_)); · exact ⟨stops_stuck _, fun _ _ => stops_stuck _⟩) | with_reducible refine sim_bind (Q := fun _ => True) ?_ (fun _ _ => ?_) | split | dsimp only))
set_option maxHeartbeats 1000000 in
theorem sim_quotient (x y z u : Nat) : SimU c (fun _ => True) (Op.Complex.quotient x y z u) := by unfold Op.Complex.quotient; (repeat' (first | (first | (with_reducible first | exact sim_corrected _ _ _ _ _ | exact sim_product _ _ _ _ | exact sim_cConv _ _ _ | exact sim_cCmp _ _ _ _ | exact sim_cQuo _ _ | exact sim_cMul _ _ | exact sim_cSub _ _ | exact sim_cAdd _ _ | exact sim_cArith _ _ _ _ | exact sim_floatToFloat _ _ _ | exact sim_floatCmp _ _ _ _ | exact sim_floatArith _ _ _ _ | exact sim_intCmp _ _ _ | exact sim_intBits _ _ _ _ | exact sim_intDiv ‹_› _ _ _ _ | exact sim_intArith _ _ _ _ | exact sim_shift ‹_› _ _ _ _ _ | exact sim_eqGuard _ _ _ _ _ _ | exact sim_eqGuardIn _ _ _ _ | exact sim_equal ‹_› _ _ _ | exact sim_samePointer _ _ | exact sim_sameAddr _ _ | exact sim_mayBeOne _ _ | exact sim_byteOf _ | exact sim_asNumber ‹_› _ _ | exact sim_behindNumber _ | exact sim_numberAt _ | refine sim_mapM_array (fun _ => ?_) _ | refine sim_forIn_range (fun _ _ => ?_) _ _ | refine sim_forIn_array (fun _ _ => ?_) _ _ | exact sim_noView _ | exact sim_asAddr ‹_› _ | exact sim_asAgg _ | exact sim_asBool _ | exact sim_asInt _ | exact sim_asIntOf _ | exact sim_boundsPanic ‹_› _ _ _ _ | exact sim_runtimePanic ‹_› _ | exact sim_part _ _ _ | exact sim_elemOf _ | exact sim_newVar ‹_› _ _ | exact sim_newRow ‹_› _ _ | exact sim_storeVar ‹_› _ _ _ | exact sim_loadVar _ _ | exact sim_storeCells ‹_› _ _ _ | exact sim_loadCells _ _ | exact sim_loadCellsFrom _ _ _ _ | exact sim_isAgg _ | exact sim_sizeOf _ | exact sim_zeroValue _ | exact sim_typeStr _ | exact sim_askRoom _ | exact sim_underlying _ | exact sim_typeInfo _ | refine sim_ite ?_ ?_ | refine sim_map _ ?_ | exact sim_mark (.inl rfl) | exact sim_frozen _ | exact sim_choose _ | exact sim_load _ _ | exact SimS.pure trivial | exact SimS.pure' trivial | exact sim_stuck_bind _ _ | exact sim_goPanic _ | exact sim_stuck _) | ((with_reducible refine sim_unsup_bind _ _ ?_); exact trivial) | ((with_reducible refine sim_unsup _ ?_); exact trivial)) | assumption | ((with_reducible refine sim_prog ?_ ?_); · rfl) | ((with_reducible refine sim_getObj _ ?_ (fun _ _ _ => ?_)); · exact ⟨stops_stuck _, fun _ _ => stops_stuck _⟩) | with_reducible refine sim_bind (Q := fun _ => True) ?_ (fun _ _ => ?_) | split | dsimp only))
theorem sim_complexOp (op : BinOp) (k : FloatKind) (x y z u : Nat) : SimU c (fun _ => True) (Op.complexOp op k x y z u) := by unfold Op.complexOp; (repeat' (first | (first | (with_reducible first | exact sim_quotient _ _ _ _ | exact sim_corrected _ _ _ _ _ | exact sim_product _ _ _ _ | exact sim_cConv _ _ _ | exact sim_cCmp _ _ _ _ | exact sim_cQuo _ _ | exact sim_cMul _ _ | exact sim_cSub _ _ | exact sim_cAdd _ _ | exact sim_cArith _ _ _ _ | exact sim_floatToFloat _ _ _ | exact sim_floatCmp _ _ _ _ | exact sim_floatArith _ _ _ _ | exact sim_intCmp _ _ _ | exact sim_intBits _ _ _ _ | exact sim_intDiv ‹_› _ _ _ _ | exact sim_intArith _ _ _ _ | exact sim_shift ‹_› _ _ _ _ _ | exact sim_eqGuard _ _ _ _ _ _ | exact sim_eqGuardIn _ _ _ _ | exact sim_equal ‹_› _ _ _ | exact sim_samePointer _ _ | exact sim_sameAddr _ _ | exact sim_mayBeOne _ _ | exact sim_byteOf _ | exact sim_asNumber ‹_› _ _ | exact sim_behindNumber _ | exact sim_numberAt _ | refine sim_mapM_array (fun _ => ?_) _ | refine sim_forIn_range (fun _ _ => ?_) _ _ | refine sim_forIn_array (fun _ _ => ?_) _ _ | exact sim_noView _ | exact sim_asAddr ‹_› _ | exact sim_asAgg _ | exact sim_asBool _ | exact sim_asInt _ | exact sim_asIntOf _ | exact sim_boundsPanic ‹_› _ _ _ _ | exact sim_runtimePanic ‹_› _ | exact sim_part _ _ _ | exact sim_elemOf _ | exact sim_newVar ‹_› _ _ | exact sim_newRow ‹_› _ _ | exact sim_storeVar ‹_› _ _ _ | exact sim_loadVar _ _ | exact sim_storeCells ‹_› _ _ _ | exact sim_loadCells _ _ | exact sim_loadCellsFrom _ _ _ _ | exact sim_isAgg _ | exact sim_sizeOf _ | exact sim_zeroValue _ | exact sim_typeStr _ | exact sim_askRoom _ | exact sim_underlying _ | exact sim_typeInfo _ | refine sim_ite ?_ ?_ | refine sim_map _ ?_ | exact sim_mark (.inl rfl) | exact sim_frozen _ | exact sim_choose _ | exact sim_load _ _ | exact SimS.pure trivial | exact SimS.pure' trivial | exact sim_stuck_bind _ _ | exact sim_goPanic _ | exact sim_stuck _) | ((with_reducible refine sim_unsup_bind _ _ ?_); exact trivial) | ((with_reducible refine sim_unsup _ ?_); exact trivial)) | assumption | ((with_reducible refine sim_prog ?_ ?_); · rfl) | ((with_reducible refine sim_getObj _ ?_ (fun _ _ _ => ?_)); · exact ⟨stops_stuck _, fun _ _ => stops_stuck _⟩) | with_reducible refine sim_bind (Q := fun _ => True) ?_ (fun _ _ => ?_) | split | dsimp only))
theorem sim_stringOp (op : BinOp) (x y : ByteArray) : SimU c (fun _ => True) (Op.stringOp op x y) := by unfold Op.stringOp; (repeat' (first | (first | (with_reducible first | exact sim_complexOp _ _ _ _ _ _ | exact sim_quotient _ _ _ _ | exact sim_corrected _ _ _ _ _ | exact sim_product _ _ _ _ | exact sim_cConv _ _ _ | exact sim_cCmp _ _ _ _ | exact sim_cQuo _ _ | exact sim_cMul _ _ | exact sim_cSub _ _ | exact sim_cAdd _ _ | exact sim_cArith _ _ _ _ | exact sim_floatToFloat _ _ _ | exact sim_floatCmp _ _ _ _ | exact sim_floatArith _ _ _ _ | exact sim_intCmp _ _ _ | exact sim_intBits _ _ _ _ | exact sim_intDiv ‹_› _ _ _ _ | exact sim_intArith _ _ _ _ | exact sim_shift ‹_› _ _ _ _ _ | exact sim_eqGuard _ _ _ _ _ _ | exact sim_eqGuardIn _ _ _ _ | exact sim_equal ‹_› _ _ _ | exact sim_samePointer _ _ | exact sim_sameAddr _ _ | exact sim_mayBeOne _ _ | exact sim_byteOf _ | exact sim_asNumber ‹_› _ _ | exact sim_behindNumber _ | exact sim_numberAt _ | refine sim_mapM_array (fun _ => ?_) _ | refine sim_forIn_range (fun _ _ => ?_) _ _ | refine sim_forIn_array (fun _ _ => ?_) _ _ | exact sim_noView _ | exact sim_asAddr ‹_› _ | exact sim_asAgg _ | exact sim_asBool _ | exact sim_asInt _ | exact sim_asIntOf _ | exact sim_boundsPanic ‹_› _ _ _ _ | exact sim_runtimePanic ‹_› _ | exact sim_part _ _ _ | exact sim_elemOf _ | exact sim_newVar ‹_› _ _ | exact sim_newRow ‹_› _ _ | exact sim_storeVar ‹_› _ _ _ | exact sim_loadVar _ _ | exact sim_storeCells ‹_› _ _ _ | exact sim_loadCells _ _ | exact sim_loadCellsFrom _ _ _ _ | exact sim_isAgg _ | exact sim_sizeOf _ | exact sim_zeroValue _ | exact sim_typeStr _ | exact sim_askRoom _ | exact sim_underlying _ | exact sim_typeInfo _ | refine sim_ite ?_ ?_ | refine sim_map _ ?_ | exact sim_mark (.inl rfl) | exact sim_frozen _ | exact sim_choose _ | exact sim_load _ _ | exact SimS.pure trivial | exact SimS.pure' trivial | exact sim_stuck_bind _ _ | exact sim_goPanic _ | exact sim_stuck _) | ((with_reducible refine sim_unsup_bind _ _ ?_); exact trivial) | ((with_reducible refine sim_unsup _ ?_); exact trivial)) | assumption | ((with_reducible refine sim_prog ?_ ?_); · rfl) | ((with_reducible refine sim_getObj _ ?_ (fun _ _ _ => ?_)); · exact ⟨stops_stuck _, fun _ _ => stops_stuck _⟩) | with_reducible refine sim_bind (Q := fun _ => True) ?_ (fun _ _ => ?_) | split | dsimp only))

theorem sim_twoPlaces (a b : Addr) : SimU c (fun _ => True) (Op.twoPlaces a b) := by unfold Op.twoPlaces; (repeat' (first | (first | (with_reducible first | exact sim_stringOp _ _ _ | exact sim_complexOp _ _ _ _ _ _ | exact sim_quotient _ _ _ _ | exact sim_corrected _ _ _ _ _ | exact sim_product _ _ _ _ | exact sim_cConv _ _ _ | exact sim_cCmp _ _ _ _ | exact sim_cQuo _ _ | exact sim_cMul _ _ | exact sim_cSub _ _ | exact sim_cAdd _ _ | exact sim_cArith _ _ _ _ | exact sim_floatToFloat _ _ _ | exact sim_floatCmp _ _ _ _ | exact sim_floatArith _ _ _ _ | exact sim_intCmp _ _ _ | exact sim_intBits _ _ _ _ | exact sim_intDiv ‹_› _ _ _ _ | exact sim_intArith _ _ _ _ | exact sim_shift ‹_› _ _ _ _ _ | exact sim_eqGuard _ _ _ _ _ _ | exact sim_eqGuardIn _ _ _ _ | exact sim_equal ‹_› _ _ _ | exact sim_samePointer _ _ | exact sim_sameAddr _ _ | exact sim_mayBeOne _ _ | exact sim_byteOf _ | exact sim_asNumber ‹_› _ _ | exact sim_behindNumber _ | exact sim_numberAt _ | refine sim_mapM_array (fun _ => ?_) _ | refine sim_forIn_range (fun _ _ => ?_) _ _ | refine sim_forIn_array (fun _ _ => ?_) _ _ | exact sim_noView _ | exact sim_asAddr ‹_› _ | exact sim_asAgg _ | exact sim_asBool _ | exact sim_asInt _ | exact sim_asIntOf _ | exact sim_boundsPanic ‹_› _ _ _ _ | exact sim_runtimePanic ‹_› _ | exact sim_part _ _ _ | exact sim_elemOf _ | exact sim_newVar ‹_› _ _ | exact sim_newRow ‹_› _ _ | exact sim_storeVar ‹_› _ _ _ | exact sim_loadVar _ _ | exact sim_storeCells ‹_› _ _ _ | exact sim_loadCells _ _ | exact sim_loadCellsFrom _ _ _ _ | exact sim_isAgg _ | exact sim_sizeOf _ | exact sim_zeroValue _ | exact sim_typeStr _ | exact sim_askRoom _ | exact sim_underlying _ | exact sim_typeInfo _ | refine sim_ite ?_ ?_ | refine sim_map _ ?_ | exact sim_mark (.inl rfl) | exact sim_frozen _ | exact sim_choose _ | exact sim_load _ _ | exact SimS.pure trivial | exact SimS.pure' trivial | exact sim_stuck_bind _ _ | exact sim_goPanic _ | exact sim_stuck _) | ((with_reducible refine sim_unsup_bind _ _ ?_); exact trivial) | ((with_reducible refine sim_unsup _ ?_); exact trivial)) | assumption | ((with_reducible refine sim_prog ?_ ?_); · rfl) | ((with_reducible refine sim_getObj _ ?_ (fun _ _ _ => ?_)); · exact ⟨stops_stuck _, fun _ _ => stops_stuck _⟩) | with_reducible refine sim_bind (Q := fun _ => True) ?_ (fun _ _ => ?_) | split | dsimp only))
theorem sim_addrSub (k : IntKind) (a b : Addr) : SimU c (fun _ => True) (Op.addrSub k a b) := by unfold Op.addrSub; (repeat' (first | (first | (with_reducible first | exact sim_twoPlaces _ _ | exact sim_stringOp _ _ _ | exact sim_complexOp _ _ _ _ _ _ | exact sim_quotient _ _ _ _ | exact sim_corrected _ _ _ _ _ | exact sim_product _ _ _ _ | exact sim_cConv _ _ _ | exact sim_cCmp _ _ _ _ | exact sim_cQuo _ _ | exact sim_cMul _ _ | exact sim_cSub _ _ | exact sim_cAdd _ _ | exact sim_cArith _ _ _ _ | exact sim_floatToFloat _ _ _ | exact sim_floatCmp _ _ _ _ | exact sim_floatArith _ _ _ _ | exact sim_intCmp _ _ _ | exact sim_intBits _ _ _ _ | exact sim_intDiv ‹_› _ _ _ _ | exact sim_intArith _ _ _ _ | exact sim_shift ‹_› _ _ _ _ _ | exact sim_eqGuard _ _ _ _ _ _ | exact sim_eqGuardIn _ _ _ _ | exact sim_equal ‹_› _ _ _ | exact sim_samePointer _ _ | exact sim_sameAddr _ _ | exact sim_mayBeOne _ _ | exact sim_byteOf _ | exact sim_asNumber ‹_› _ _ | exact sim_behindNumber _ | exact sim_numberAt _ | refine sim_mapM_array (fun _ => ?_) _ | refine sim_forIn_range (fun _ _ => ?_) _ _ | refine sim_forIn_array (fun _ _ => ?_) _ _ | exact sim_noView _ | exact sim_asAddr ‹_› _ | exact sim_asAgg _ | exact sim_asBool _ | exact sim_asInt _ | exact sim_asIntOf _ | exact sim_boundsPanic ‹_› _ _ _ _ | exact sim_runtimePanic ‹_› _ | exact sim_part _ _ _ | exact sim_elemOf _ | exact sim_newVar ‹_› _ _ | exact sim_newRow ‹_› _ _ | exact sim_storeVar ‹_› _ _ _ | exact sim_loadVar _ _ | exact sim_storeCells ‹_› _ _ _ | exact sim_loadCells _ _ | exact sim_loadCellsFrom _ _ _ _ | exact sim_isAgg _ | exact sim_sizeOf _ | exact sim_zeroValue _ | exact sim_typeStr _ | exact sim_askRoom _ | exact sim_underlying _ | exact sim_typeInfo _ | refine sim_ite ?_ ?_ | refine sim_map _ ?_ | exact sim_mark (.inl rfl) | exact sim_frozen _ | exact sim_choose _ | exact sim_load _ _ | exact SimS.pure trivial | exact SimS.pure' trivial | exact sim_stuck_bind _ _ | exact sim_goPanic _ | exact sim_stuck _) | ((with_reducible refine sim_unsup_bind _ _ ?_); exact trivial) | ((with_reducible refine sim_unsup _ ?_); exact trivial)) | assumption | ((with_reducible refine sim_prog ?_ ?_); · rfl) | ((with_reducible refine sim_getObj _ ?_ (fun _ _ _ => ?_)); · exact ⟨stops_stuck _, fun _ _ => stops_stuck _⟩) | with_reducible refine sim_bind (Q := fun _ => True) ?_ (fun _ _ => ?_) | split | dsimp only))
theorem sim_addrCmp (op : BinOp) (a b : Addr) : SimU c (fun _ => True) (Op.addrCmp op a b) := by unfold Op.addrCmp; (repeat' (first | (first | (with_reducible first | exact sim_addrSub _ _ _ | exact sim_twoPlaces _ _ | exact sim_stringOp _ _ _ | exact sim_complexOp _ _ _ _ _ _ | exact sim_quotient _ _ _ _ | exact sim_corrected _ _ _ _ _ | exact sim_product _ _ _ _ | exact sim_cConv _ _ _ | exact sim_cCmp _ _ _ _ | exact sim_cQuo _ _ | exact sim_cMul _ _ | exact sim_cSub _ _ | exact sim_cAdd _ _ | exact sim_cArith _ _ _ _ | exact sim_floatToFloat _ _ _ | exact sim_floatCmp _ _ _ _ | exact sim_floatArith _ _ _ _ | exact sim_intCmp _ _ _ | exact sim_intBits _ _ _ _ | exact sim_intDiv ‹_› _ _ _ _ | exact sim_intArith _ _ _ _ | exact sim_shift ‹_› _ _ _ _ _ | exact sim_eqGuard _ _ _ _ _ _ | exact sim_eqGuardIn _ _ _ _ | exact sim_equal ‹_› _ _ _ | exact sim_samePointer _ _ | exact sim_sameAddr _ _ | exact sim_mayBeOne _ _ | exact sim_byteOf _ | exact sim_asNumber ‹_› _ _ | exact sim_behindNumber _ | exact sim_numberAt _ | refine sim_mapM_array (fun _ => ?_) _ | refine sim_forIn_range (fun _ _ => ?_) _ _ | refine sim_forIn_array (fun _ _ => ?_) _ _ | exact sim_noView _ | exact sim_asAddr ‹_› _ | exact sim_asAgg _ | exact sim_asBool _ | exact sim_asInt _ | exact sim_asIntOf _ | exact sim_boundsPanic ‹_› _ _ _ _ | exact sim_runtimePanic ‹_› _ | exact sim_part _ _ _ | exact sim_elemOf _ | exact sim_newVar ‹_› _ _ | exact sim_newRow ‹_› _ _ | exact sim_storeVar ‹_› _ _ _ | exact sim_loadVar _ _ | exact sim_storeCells ‹_› _ _ _ | exact sim_loadCells _ _ | exact sim_loadCellsFrom _ _ _ _ | exact sim_isAgg _ | exact sim_sizeOf _ | exact sim_zeroValue _ | exact sim_typeStr _ | exact sim_askRoom _ | exact sim_underlying _ | exact sim_typeInfo _ | refine sim_ite ?_ ?_ | refine sim_map _ ?_ | exact sim_mark (.inl rfl) | exact sim_frozen _ | exact sim_choose _ | exact sim_load _ _ | exact SimS.pure trivial | exact SimS.pure' trivial | exact sim_stuck_bind _ _ | exact sim_goPanic _ | exact sim_stuck _) | ((with_reducible refine sim_unsup_bind _ _ ?_); exact trivial) | ((with_reducible refine sim_unsup _ ?_); exact trivial)) | assumption | ((with_reducible refine sim_prog ?_ ?_); · rfl) | ((with_reducible refine sim_getObj _ ?_ (fun _ _ _ => ?_)); · exact ⟨stops_stuck _, fun _ _ => stops_stuck _⟩) | with_reducible refine sim_bind (Q := fun _ => True) ?_ (fun _ _ => ?_) | split | dsimp only))
theorem sim_addrMod (k : IntKind) (a : Addr) (n : Int) : SimU c (fun _ => True) (Op.addrMod k a n) := by
  unfold Op.addrMod
  refine sim_shape _ (stops_unsup _ trivial) fun x => ?_
  (repeat' (first | (first | (with_reducible first | exact sim_addrCmp _ _ _ | exact sim_addrSub _ _ _ | exact sim_twoPlaces _ _ | exact sim_stringOp _ _ _ | exact sim_complexOp _ _ _ _ _ _ | exact sim_quotient _ _ _ _ | exact sim_corrected _ _ _ _ _ | exact sim_product _ _ _ _ | exact sim_cConv _ _ _ | exact sim_cCmp _ _ _ _ | exact sim_cQuo _ _ | exact sim_cMul _ _ | exact sim_cSub _ _ | exact sim_cAdd _ _ | exact sim_cArith _ _ _ _ | exact sim_floatToFloat _ _ _ | exact sim_floatCmp _ _ _ _ | exact sim_floatArith _ _ _ _ | exact sim_intCmp _ _ _ | exact sim_intBits _ _ _ _ | exact sim_intDiv ‹_› _ _ _ _ | exact sim_intArith _ _ _ _ | exact sim_shift ‹_› _ _ _ _ _ | exact sim_eqGuard _ _ _ _ _ _ | exact sim_eqGuardIn _ _ _ _ | exact sim_equal ‹_› _ _ _ | exact sim_samePointer _ _ | exact sim_sameAddr _ _ | exact sim_mayBeOne _ _ | exact sim_byteOf _ | exact sim_asNumber ‹_› _ _ | exact sim_behindNumber _ | exact sim_numberAt _ | refine sim_mapM_array (fun _ => ?_) _ | refine sim_forIn_range (fun _ _ => ?_) _ _ | refine sim_forIn_array (fun _ _ => ?_) _ _ | exact sim_noView _ | exact sim_asAddr ‹_› _ | exact sim_asAgg _ | exact sim_asBool _ | exact sim_asInt _ | exact sim_asIntOf _ | exact sim_boundsPanic ‹_› _ _ _ _ | exact sim_runtimePanic ‹_› _ | exact sim_part _ _ _ | exact sim_elemOf _ | exact sim_newVar ‹_› _ _ | exact sim_newRow ‹_› _ _ | exact sim_storeVar ‹_› _ _ _ | exact sim_loadVar _ _ | exact sim_storeCells ‹_› _ _ _ | exact sim_loadCells _ _ | exact sim_loadCellsFrom _ _ _ _ | exact sim_isAgg _ | exact sim_sizeOf _ | exact sim_zeroValue _ | exact sim_typeStr _ | exact sim_askRoom _ | exact sim_underlying _ | exact sim_typeInfo _ | refine sim_ite ?_ ?_ | refine sim_map _ ?_ | exact sim_mark (.inl rfl) | exact sim_frozen _ | exact sim_choose _ | exact sim_load _ _ | exact SimS.pure trivial | exact SimS.pure' trivial | exact sim_stuck_bind _ _ | exact sim_goPanic _ | exact sim_stuck _) | ((with_reducible refine sim_unsup_bind _ _ ?_); exact trivial) | ((with_reducible refine sim_unsup _ ?_); exact trivial)) | assumption | ((with_reducible refine sim_prog ?_ ?_); · rfl) | ((with_reducible refine sim_getObj _ ?_ (fun _ _ _ => ?_)); · exact ⟨stops_stuck _, fun _ _ => stops_stuck _⟩) | with_reducible refine sim_bind (Q := fun _ => True) ?_ (fun _ _ => ?_) | split | dsimp only))

theorem cellOfByte_eq (c : Cfg) : cellOfByte c.P' = cellOfByte c.P := by
  funext d
  induction d with
  | zero => rfl
  | succ d ih => funext t off; unfold cellOfByte; rw [ih] <;> rfl
theorem byteOfCell_eq (c : Cfg) : byteOfCell c.P' = byteOfCell c.P := by
  funext d
  induction d with
  | zero => rfl
  | succ d ih => funext t off; unfold byteOfCell; rw [ih] <;> rfl
theorem cellAtBytes_eq (c : Cfg) : cellAtBytes c.P' = cellAtBytes c.P := by
  funext a b d e f
  unfold cellAtBytes
  rw [cellOfByte_eq, byteOfCell_eq] <;> rfl

theorem sim_unsafeAdd (ts : Array TypeId) (t : TypeId) (args : Array Value) : SimU c (fun _ => True) (Builtin.unsafeAdd_ ts t args) := by
  have hcat := cellAtBytes_eq c
  have tail : ∀ a : Addr, ∀ n : Int, SimU c (fun _ => True) (do
      let some (e, cells) ← shape a.block | unsupported (.unsafePointer "Add")
      let p ← program
      match cellAtBytes p p.depth e (cells / p.cellsOf e) a.off n with
      | some off => pure (Value.pointer (some { a with off }))
      | none => unsupported (.unsafePointer "Add")) := fun a n => by
    refine sim_shape _ (stops_unsup _ trivial) fun x => ?_
    split
    · refine sim_prog ?_ ?_
      · rw [hcat] <;> rfl
      · split
        · exact SimS.pure' trivial
        · exact sim_unsup _ trivial
    · exact sim_unsup _ trivial
  have body : ∀ (ptr : Option Addr) (len_ : Value), SimU c (fun _ => True) (Builtin.unsafeAdd_ ts t #[.pointer ptr, len_]) := fun ptr len_ => by
    refine sim_bind (sim_asInt _) fun n _ => ?_
    refine sim_ite ?_ ?_
    · split
      · exact sim_viewAt _ (fun _ w' => ⟨_, w', rfl, trivial, fun v h => by cases h⟩) (SimS.pure' trivial)
      · exact sim_unsup_bind _ _ trivial
    · refine sim_ite (sim_unsup_bind _ _ trivial) ?_
      split
      · exact tail _ _
      · exact sim_unsup _ trivial
  have other : ∀ {s : Sem Value}, s = stuck "unsafe.Add: a pointer and an integer expected" → SimU c (fun _ => True) s := fun h => by rw [h]; exact sim_stuck _
  rcases args with ⟨_ | ⟨a, _ | ⟨b, _ | ⟨d, l⟩⟩⟩⟩
  · exact other rfl
  · exact other rfl
  · cases a <;> first | exact body _ _ | exact other rfl
  · refine other ?_
    cases a <;> rfl
theorem sim_movedNumber (hO : ObjOk c.O) (t : TypeId) (x y : Value) : SimU c (fun _ => True) (movedNumber t x y) := by
  unfold movedNumber
  (repeat' (first | (first | (with_reducible first | exact sim_unsafeAdd _ _ _ | exact sim_addrMod _ _ _ | exact sim_addrCmp _ _ _ | exact sim_addrSub _ _ _ | exact sim_twoPlaces _ _ | exact sim_stringOp _ _ _ | exact sim_complexOp _ _ _ _ _ _ | exact sim_quotient _ _ _ _ | exact sim_corrected _ _ _ _ _ | exact sim_product _ _ _ _ | exact sim_cConv _ _ _ | exact sim_cCmp _ _ _ _ | exact sim_cQuo _ _ | exact sim_cMul _ _ | exact sim_cSub _ _ | exact sim_cAdd _ _ | exact sim_cArith _ _ _ _ | exact sim_floatToFloat _ _ _ | exact sim_floatCmp _ _ _ _ | exact sim_floatArith _ _ _ _ | exact sim_intCmp _ _ _ | exact sim_intBits _ _ _ _ | exact sim_intDiv ‹_› _ _ _ _ | exact sim_intArith _ _ _ _ | exact sim_shift ‹_› _ _ _ _ _ | exact sim_eqGuard _ _ _ _ _ _ | exact sim_eqGuardIn _ _ _ _ | exact sim_equal ‹_› _ _ _ | exact sim_samePointer _ _ | exact sim_sameAddr _ _ | exact sim_mayBeOne _ _ | exact sim_byteOf _ | exact sim_asNumber ‹_› _ _ | exact sim_behindNumber _ | exact sim_numberAt _ | refine sim_mapM_array (fun _ => ?_) _ | refine sim_forIn_range (fun _ _ => ?_) _ _ | refine sim_forIn_array (fun _ _ => ?_) _ _ | exact sim_noView _ | exact sim_asAddr ‹_› _ | exact sim_asAgg _ | exact sim_asBool _ | exact sim_asInt _ | exact sim_asIntOf _ | exact sim_boundsPanic ‹_› _ _ _ _ | exact sim_runtimePanic ‹_› _ | exact sim_part _ _ _ | exact sim_elemOf _ | exact sim_newVar ‹_› _ _ | exact sim_newRow ‹_› _ _ | exact sim_storeVar ‹_› _ _ _ | exact sim_loadVar _ _ | exact sim_storeCells ‹_› _ _ _ | exact sim_loadCells _ _ | exact sim_loadCellsFrom _ _ _ _ | exact sim_isAgg _ | exact sim_sizeOf _ | exact sim_zeroValue _ | exact sim_typeStr _ | exact sim_askRoom _ | exact sim_underlying _ | exact sim_typeInfo _ | refine sim_ite ?_ ?_ | refine sim_map _ ?_ | exact sim_mark (.inl rfl) | exact sim_frozen _ | exact sim_choose _ | exact sim_load _ _ | exact SimS.pure trivial | exact SimS.pure' trivial | exact sim_stuck_bind _ _ | exact sim_goPanic _ | exact sim_stuck _) | ((with_reducible refine sim_unsup_bind _ _ ?_); exact trivial) | ((with_reducible refine sim_unsup _ ?_); exact trivial)) | assumption | ((with_reducible refine sim_prog ?_ ?_); · rfl) | ((with_reducible refine sim_getObj _ ?_ (fun _ _ _ => ?_)); · exact ⟨stops_stuck _, fun _ _ => stops_stuck _⟩) | with_reducible refine sim_bind (Q := fun _ => True) ?_ (fun _ _ => ?_) | split | dsimp only))
theorem sim_movedPointer (t : TypeId) (x y : Value) : SimU c (fun _ => True) (movedPointer t x y) := by
  unfold movedPointer
  (repeat' (first | (first | (with_reducible first | exact sim_movedNumber ‹_› _ _ _ | exact sim_unsafeAdd _ _ _ | exact sim_addrMod _ _ _ | exact sim_addrCmp _ _ _ | exact sim_addrSub _ _ _ | exact sim_twoPlaces _ _ | exact sim_stringOp _ _ _ | exact sim_complexOp _ _ _ _ _ _ | exact sim_quotient _ _ _ _ | exact sim_corrected _ _ _ _ _ | exact sim_product _ _ _ _ | exact sim_cConv _ _ _ | exact sim_cCmp _ _ _ _ | exact sim_cQuo _ _ | exact sim_cMul _ _ | exact sim_cSub _ _ | exact sim_cAdd _ _ | exact sim_cArith _ _ _ _ | exact sim_floatToFloat _ _ _ | exact sim_floatCmp _ _ _ _ | exact sim_floatArith _ _ _ _ | exact sim_intCmp _ _ _ | exact sim_intBits _ _ _ _ | exact sim_intDiv ‹_› _ _ _ _ | exact sim_intArith _ _ _ _ | exact sim_shift ‹_› _ _ _ _ _ | exact sim_eqGuard _ _ _ _ _ _ | exact sim_eqGuardIn _ _ _ _ | exact sim_equal ‹_› _ _ _ | exact sim_samePointer _ _ | exact sim_sameAddr _ _ | exact sim_mayBeOne _ _ | exact sim_byteOf _ | exact sim_asNumber ‹_› _ _ | exact sim_behindNumber _ | exact sim_numberAt _ | refine sim_mapM_array (fun _ => ?_) _ | refine sim_forIn_range (fun _ _ => ?_) _ _ | refine sim_forIn_array (fun _ _ => ?_) _ _ | exact sim_noView _ | exact sim_asAddr ‹_› _ | exact sim_asAgg _ | exact sim_asBool _ | exact sim_asInt _ | exact sim_asIntOf _ | exact sim_boundsPanic ‹_› _ _ _ _ | exact sim_runtimePanic ‹_› _ | exact sim_part _ _ _ | exact sim_elemOf _ | exact sim_newVar ‹_› _ _ | exact sim_newRow ‹_› _ _ | exact sim_storeVar ‹_› _ _ _ | exact sim_loadVar _ _ | exact sim_storeCells ‹_› _ _ _ | exact sim_loadCells _ _ | exact sim_loadCellsFrom _ _ _ _ | exact sim_isAgg _ | exact sim_sizeOf _ | exact sim_zeroValue _ | exact sim_typeStr _ | exact sim_askRoom _ | exact sim_underlying _ | exact sim_typeInfo _ | refine sim_ite ?_ ?_ | refine sim_map _ ?_ | exact sim_mark (.inl rfl) | exact sim_frozen _ | exact sim_choose _ | exact sim_load _ _ | exact SimS.pure trivial | exact SimS.pure' trivial | exact sim_stuck_bind _ _ | exact sim_goPanic _ | exact sim_stuck _) | ((with_reducible refine sim_unsup_bind _ _ ?_); exact trivial) | ((with_reducible refine sim_unsup _ ?_); exact trivial)) | assumption | ((with_reducible refine sim_prog ?_ ?_); · rfl) | ((with_reducible refine sim_getObj _ ?_ (fun _ _ _ => ?_)); · exact ⟨stops_stuck _, fun _ _ => stops_stuck _⟩) | with_reducible refine sim_bind (Q := fun _ => True) ?_ (fun _ _ => ?_) | split | dsimp only))
set_option maxHeartbeats 2000000 in
theorem sim_binOp (hO : ObjOk c.O) (op : BinOp) (t : TypeId) (x y : Value) : SimU c (fun _ => True) (binOp op t x y) := by
  unfold binOp
  split
  all_goals (repeat' (first | (first | (with_reducible first | exact sim_movedPointer _ _ _ | exact sim_movedNumber ‹_› _ _ _ | exact sim_unsafeAdd _ _ _ | exact sim_addrMod _ _ _ | exact sim_addrCmp _ _ _ | exact sim_addrSub _ _ _ | exact sim_twoPlaces _ _ | exact sim_stringOp _ _ _ | exact sim_complexOp _ _ _ _ _ _ | exact sim_quotient _ _ _ _ | exact sim_corrected _ _ _ _ _ | exact sim_product _ _ _ _ | exact sim_cConv _ _ _ | exact sim_cCmp _ _ _ _ | exact sim_cQuo _ _ | exact sim_cMul _ _ | exact sim_cSub _ _ | exact sim_cAdd _ _ | exact sim_cArith _ _ _ _ | exact sim_floatToFloat _ _ _ | exact sim_floatCmp _ _ _ _ | exact sim_floatArith _ _ _ _ | exact sim_intCmp _ _ _ | exact sim_intBits _ _ _ _ | exact sim_intDiv ‹_› _ _ _ _ | exact sim_intArith _ _ _ _ | exact sim_shift ‹_› _ _ _ _ _ | exact sim_eqGuard _ _ _ _ _ _ | exact sim_eqGuardIn _ _ _ _ | exact sim_equal ‹_› _ _ _ | exact sim_samePointer _ _ | exact sim_sameAddr _ _ | exact sim_mayBeOne _ _ | exact sim_byteOf _ | exact sim_asNumber ‹_› _ _ | exact sim_behindNumber _ | exact sim_numberAt _ | refine sim_mapM_array (fun _ => ?_) _ | refine sim_forIn_range (fun _ _ => ?_) _ _ | refine sim_forIn_array (fun _ _ => ?_) _ _ | exact sim_noView _ | exact sim_asAddr ‹_› _ | exact sim_asAgg _ | exact sim_asBool _ | exact sim_asInt _ | exact sim_asIntOf _ | exact sim_boundsPanic ‹_› _ _ _ _ | exact sim_runtimePanic ‹_› _ | exact sim_part _ _ _ | exact sim_elemOf _ | exact sim_newVar ‹_› _ _ | exact sim_newRow ‹_› _ _ | exact sim_storeVar ‹_› _ _ _ | exact sim_loadVar _ _ | exact sim_storeCells ‹_› _ _ _ | exact sim_loadCells _ _ | exact sim_loadCellsFrom _ _ _ _ | exact sim_isAgg _ | exact sim_sizeOf _ | exact sim_zeroValue _ | exact sim_typeStr _ | exact sim_askRoom _ | exact sim_underlying _ | exact sim_typeInfo _ | refine sim_ite ?_ ?_ | refine sim_map _ ?_ | exact sim_mark (.inl rfl) | exact sim_frozen _ | exact sim_choose _ | exact sim_load _ _ | exact SimS.pure trivial | exact SimS.pure' trivial | exact sim_stuck_bind _ _ | exact sim_goPanic _ | exact sim_stuck _) | ((with_reducible refine sim_unsup_bind _ _ ?_); exact trivial) | ((with_reducible refine sim_unsup _ ?_); exact trivial)) | assumption | ((with_reducible refine sim_prog ?_ ?_); · rfl) | ((with_reducible refine sim_getObj _ ?_ (fun _ _ _ => ?_)); · exact ⟨stops_stuck _, fun _ _ => stops_stuck _⟩) | with_reducible refine sim_bind (Q := fun _ => True) ?_ (fun _ _ => ?_) | split | dsimp only))
theorem sim_unary (op : UnOp) (x : Value) : SimU c (fun _ => True) (Op.unary op x) := by unfold Op.unary; (repeat' (first | (first | (with_reducible first | exact sim_binOp ‹_› _ _ _ _ | exact sim_movedPointer _ _ _ | exact sim_movedNumber ‹_› _ _ _ | exact sim_unsafeAdd _ _ _ | exact sim_addrMod _ _ _ | exact sim_addrCmp _ _ _ | exact sim_addrSub _ _ _ | exact sim_twoPlaces _ _ | exact sim_stringOp _ _ _ | exact sim_complexOp _ _ _ _ _ _ | exact sim_quotient _ _ _ _ | exact sim_corrected _ _ _ _ _ | exact sim_product _ _ _ _ | exact sim_cConv _ _ _ | exact sim_cCmp _ _ _ _ | exact sim_cQuo _ _ | exact sim_cMul _ _ | exact sim_cSub _ _ | exact sim_cAdd _ _ | exact sim_cArith _ _ _ _ | exact sim_floatToFloat _ _ _ | exact sim_floatCmp _ _ _ _ | exact sim_floatArith _ _ _ _ | exact sim_intCmp _ _ _ | exact sim_intBits _ _ _ _ | exact sim_intDiv ‹_› _ _ _ _ | exact sim_intArith _ _ _ _ | exact sim_shift ‹_› _ _ _ _ _ | exact sim_eqGuard _ _ _ _ _ _ | exact sim_eqGuardIn _ _ _ _ | exact sim_equal ‹_› _ _ _ | exact sim_samePointer _ _ | exact sim_sameAddr _ _ | exact sim_mayBeOne _ _ | exact sim_byteOf _ | exact sim_asNumber ‹_› _ _ | exact sim_behindNumber _ | exact sim_numberAt _ | refine sim_mapM_array (fun _ => ?_) _ | refine sim_forIn_range (fun _ _ => ?_) _ _ | refine sim_forIn_array (fun _ _ => ?_) _ _ | exact sim_noView _ | exact sim_asAddr ‹_› _ | exact sim_asAgg _ | exact sim_asBool _ | exact sim_asInt _ | exact sim_asIntOf _ | exact sim_boundsPanic ‹_› _ _ _ _ | exact sim_runtimePanic ‹_› _ | exact sim_part _ _ _ | exact sim_elemOf _ | exact sim_newVar ‹_› _ _ | exact sim_newRow ‹_› _ _ | exact sim_storeVar ‹_› _ _ _ | exact sim_loadVar _ _ | exact sim_storeCells ‹_› _ _ _ | exact sim_loadCells _ _ | exact sim_loadCellsFrom _ _ _ _ | exact sim_isAgg _ | exact sim_sizeOf _ | exact sim_zeroValue _ | exact sim_typeStr _ | exact sim_askRoom _ | exact sim_underlying _ | exact sim_typeInfo _ | refine sim_ite ?_ ?_ | refine sim_map _ ?_ | exact sim_mark (.inl rfl) | exact sim_frozen _ | exact sim_choose _ | exact sim_load _ _ | exact SimS.pure trivial | exact SimS.pure' trivial | exact sim_stuck_bind _ _ | exact sim_goPanic _ | exact sim_stuck _) | ((with_reducible refine sim_unsup_bind _ _ ?_); exact trivial) | ((with_reducible refine sim_unsup _ ?_); exact trivial)) | assumption | ((with_reducible refine sim_prog ?_ ?_); · rfl) | ((with_reducible refine sim_getObj _ ?_ (fun _ _ _ => ?_)); · exact ⟨stops_stuck _, fun _ _ => stops_stuck _⟩) | with_reducible refine sim_bind (Q := fun _ => True) ?_ (fun _ _ => ?_) | split | dsimp only))

end

end Go.Proofs.Ythoaldiadgeonaa.Tr
