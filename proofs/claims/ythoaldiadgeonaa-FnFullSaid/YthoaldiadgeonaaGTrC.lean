/-
  Two programs in step: a goroutine's step. On the side of P' one frame more lies at the bottom (c0).
  Two programs in step: an operation's step.
  Two programs in step: the words of loops over functions, of deferred calls, of results.
  Two programs in step: a goroutine's whole step.
-/
import Derived.Test.YthoaldiadgeonaaGTrB
import Derived.Conc.Listed
namespace Go.Proofs.Ythoaldiadgeonaa.Tr
open Go.Conc Go.Proofs.Ythoaldiadgeonaa.Cr
set_option linter.unusedSimpArgs false

def OkItem (p : Program) (d : Bool) : Item → Prop
  | .code k | .inLoop k | .inScope k => okCode p d k = true
  | .inRegion ops _ => (ops.all fun o => okOp p d o.op) = true
  | .call .. | .extern .. => False
  | _ => True
structure OkFrame (p : Program) (X : FuncId → Prop) (fr : Frame) : Prop where
  fn : ¬ X fr.fn
  items : ∀ it ∈ fr.todo, OkItem p fr.roundOf.isNone it
  defers : ∀ d ∈ fr.defers, OkDef p d
  kind : fr.kind = .normal ∨ fr.kind = .deferred

/-- A goroutine that walks. -/
abbrev wk (fr : Frame) (cs : List Frame) : Goroutine := { frame := fr, callers := cs, status := .running, dying := none }

/-- The bottom frame is a call of the plain kind, and no round of a loop. -/
def Bot : CallKind → Option Nat → List Frame → Prop
  | k, r, [] => k = .normal ∧ r = none
  | _, _, x :: cs => Bot x.kind x.roundOf cs

/-- Where a step of P' leads, and where P's step leads then. -/
inductive Leads (c : Cfg) (X : FuncId → Prop) (c0 : Frame) : Goroutine → Goroutine → Prop
  | on (fr : Frame) (cs : List Frame) (h : OkFrame c.P X fr) (hc : ∀ x ∈ cs, OkFrame c.P X x) (hb : Bot fr.kind fr.roundOf cs) : Leads c X c0 (wk fr (cs ++ [c0])) (wk fr cs)
  | entry (f : FuncId) (args : Array Value) (cs : List Frame) (hne : cs ≠ []) (hX : X f) (hc : ∀ x ∈ cs, OkFrame c.P X x) (hb : Bot .normal none cs) : Leads c X c0 (wk (Frame.enter c.P' f args .normal) (cs ++ [c0])) (wk (Frame.enter c.P f args .normal) cs)

def Out (c : Cfg) (X : FuncId → Prop) (c0 : Frame) (w w' : World) (st' st : GStep) : Prop :=
  match st' with
  | .go g1' w1' _ => Tapes (w1'.drawn - w'.drawn) w w' → ∃ g1 w1 es, st = .go g1 w1 es ∧ Rel c w1 w1' ∧ w1.tape = w.tape ∧ w1'.tape = w'.tape ∧ w1.drawn = w.drawn + (w1'.drawn - w'.drawn) ∧ w'.drawn ≤ w1'.drawn ∧ w.heap.size ≤ w1.heap.size ∧ (∀ e ∈ es, Tame c.Shun w1.heap.size e) ∧ Leads c X c0 g1' g1
  | .ended _ _ _ => True
  | _ => False

section
variable {c : Cfg} {X : FuncId → Prop} {c0 : Frame} {w w' : World}

theorem Out.here (hr : Rel c w w') {g' g : Goroutine} (h : Leads c X c0 g' g) : Out c X c0 w w' (.go g' w') (.go g w) :=
  fun _ => ⟨g, w, #[], rfl, hr, rfl, rfl, by omega, Nat.le_refl _, Nat.le_refl _, fun e he => by simp at he, h⟩

theorem okFrame_enter (hA : Agree c X) {f : FuncId} (args : Array Value) (k : CallKind) (hf : ¬ X f) (hk : k = .normal ∨ k = .deferred) (hb : ∃ fn, c.P.funcs[f]? = some fn ∧ fn.body.isSome = true) : Frame.enter c.P' f args k = Frame.enter c.P f args k ∧ OkFrame c.P X (Frame.enter c.P f args k) := by
  obtain ⟨fn, e, hb⟩ := hb
  obtain ⟨_, fn', e', _, _, _, h⟩ := hA.body f fn e hb
  obtain ⟨rfl, hok⟩ := h hf
  refine ⟨?_, ⟨hf, fun it hit => ?_, fun d hd => by simp [Frame.enter] at hd, hk⟩⟩
  · simp only [Frame.enter]
    rw [e, show c.P'.funcs[f]? = some fn' from e']
  · simp only [Frame.enter, List.mem_singleton] at hit
    subst hit
    rw [e]
    obtain ⟨b, hb⟩ := Option.isSome_iff_exists.1 hb
    show okCode c.P true ((fn'.body).getD _) = true
    rw [hb]
    exact hok b hb

/-- To a function: kept, or one of X. -/
theorem leads_enter (hA : Agree c X) {f : FuncId} (args : Array Value) {cs : List Frame} (hne : cs ≠ []) (hb : ∃ fn, c.P.funcs[f]? = some fn ∧ fn.body.isSome = true) (hc : ∀ x ∈ cs, OkFrame c.P X x) (hbt : Bot .normal none cs) :
    Leads c X c0 (wk (Frame.enter c.P' f args .normal) (cs ++ [c0])) (wk (Frame.enter c.P f args .normal) cs) := by
  by_cases hf : X f
  · exact .entry f args cs hne hf hc hbt
  · obtain ⟨e, h⟩ := okFrame_enter hA args .normal hf (.inl rfl) hb
    rw [e]
    exact .on _ _ h hc hbt

theorem okFrame_finish {p : Program} {fr : Frame} (h : OkFrame p X fr) (v : Value) : OkFrame p X (fr.finish v) := by
  obtain ⟨h1, h2, h3, h4⟩ := h
  unfold Frame.finish
  split
  · rename_i e
    refine ⟨h1, fun it hit => ?_, h3, h4⟩
    rcases List.mem_cons.1 hit with rfl | hit
    · have := h2 (.inRegion _ (_ :: _)) (by rw [e]; exact List.mem_cons_self)
      exact this
    · exact h2 it (by rw [e]; exact List.mem_cons_of_mem _ hit)
  · rename_i e
    refine ⟨h1, fun it hit => ?_, h3, h4⟩
    rcases List.mem_cons.1 hit with rfl | hit
    · trivial
    · exact h2 it (by rw [e]; exact List.mem_cons_of_mem _ hit)
  · rename_i e
    exact ⟨h1, fun it hit => h2 it (by rw [e]; exact List.mem_cons_of_mem _ hit), h3, h4⟩
  · rename_i e
    exact absurd (h2 (.call _ _ _ _) (by rw [e]; exact List.mem_cons_self)) id
  · rename_i e
    exact absurd (h2 (.extern _ _) (by rw [e]; exact List.mem_cons_self)) id
  · exact ⟨h1, h2, h3, h4⟩
theorem okFrame_raise {p : Program} {fr : Frame} (h : OkFrame p X fr) (vs : List PanicEntry) : OkFrame p X (fr.raise vs) := by
  obtain ⟨h1, h2, h3, h4⟩ := h
  unfold Frame.raise
  split <;> exact ⟨h1, h2, h3, h4⟩
theorem finish_kind (fr : Frame) (v : Value) : (fr.finish v).kind = fr.kind := by unfold Frame.finish; split <;> rfl
theorem finish_round (fr : Frame) (v : Value) : (fr.finish v).roundOf = fr.roundOf := by unfold Frame.finish; split <;> rfl
theorem raise_round (fr : Frame) (vs : List PanicEntry) : (fr.raise vs).roundOf = fr.roundOf := by unfold Frame.raise; split <;> rfl
theorem raise_kind (fr : Frame) (vs : List PanicEntry) : (fr.raise vs).kind = fr.kind := by unfold Frame.raise; split <;> rfl

/-- What a bottom frame is that no panic gets past. -/
structure IsFloor (c0 : Frame) : Prop where
  kind : c0.kind = .normal
  todo : ∃ d b r s k, c0.todo = .call d b r s :: k

theorem tryRecover_up {fr : Frame} {cs : List Frame} (hk : fr.kind = .normal ∨ fr.kind = .deferred) (hb : Bot fr.kind fr.roundOf cs) : tryRecover fr (cs ++ [c0]) = (tryRecover fr cs).map fun x => (x.1, x.2 ++ [c0]) := by
  rcases hk with hk | hk
  · unfold tryRecover; rw [hk]; cases cs <;> rfl
  · cases cs with
    | nil => exact absurd hb.1 (by rw [hk]; simp)
    | cons x cs =>
      unfold tryRecover
      rw [hk]
      dsimp only [List.cons_append]
      split <;> rfl
theorem tryRecover_ok {p : Program} {fr : Frame} {cs : List Frame} {v : Value} {cs' : List Frame} (hk : fr.kind = .normal ∨ fr.kind = .deferred) (hc : ∀ x ∈ cs, OkFrame p X x) (h : tryRecover fr cs = some (v, cs')) : (∀ x ∈ cs', OkFrame p X x) ∧ ∀ k r, Bot k r cs → Bot k r cs' := by
  rcases hk with hk | hk
  · unfold tryRecover at h; rw [hk] at h; cases cs <;> cases h
  · cases cs with
    | nil => unfold tryRecover at h; rw [hk] at h; cases h
    | cons x cs =>
      unfold tryRecover at h
      rw [hk] at h
      dsimp only at h
      split at h
      · injection h with h
        injection h with h1 h2
        subst h2
        refine ⟨fun y hy => ?_, fun k r hb => hb⟩
        rcases List.mem_cons.1 hy with rfl | hy
        · have := hc x List.mem_cons_self
          exact ⟨this.1, this.2, this.3, this.4⟩
        · exact hc y (List.mem_cons_of_mem _ hy)
      · cases h
theorem tryRecoverLoop_up (h0 : IsFloor c0) : ∀ (cs : List Frame) (l : Nat) (k : CallKind) (r : Option Nat), (∀ x ∈ cs, x.kind = .normal ∨ x.kind = .deferred) → Bot k r cs → tryRecoverLoop l (cs ++ [c0]) = (tryRecoverLoop l cs).map fun x => (x.1, x.2 ++ [c0])
  | [], l, k, _, _, _ => by
    obtain ⟨d, b, r, s, q, e⟩ := h0.todo
    show tryRecoverLoop l [c0] = none
    unfold tryRecoverLoop
    rw [e]
    rfl
  | x :: cs, l, k, _, hk, hb => by
    have ih := fun l => tryRecoverLoop_up h0 cs l x.kind x.roundOf (fun y hy => hk y (List.mem_cons_of_mem _ hy)) hb
    have hr := tryRecover_up (c0 := c0) (hk x List.mem_cons_self) hb
    show tryRecoverLoop l (x :: (cs ++ [c0])) = _
    unfold tryRecoverLoop
    split
    · rw [ih]; cases tryRecoverLoop _ cs <;> rfl
    · split
      · rw [hr]; cases tryRecover x cs <;> rfl
      · rw [ih]; cases tryRecoverLoop l cs <;> rfl
    · rw [ih]; cases tryRecoverLoop l cs <;> rfl
theorem tryRecoverLoop_ok {p : Program} : ∀ (cs : List Frame) (l : Nat) (v : Value) (cs' : List Frame), (∀ x ∈ cs, OkFrame p X x) → tryRecoverLoop l cs = some (v, cs') → (∀ x ∈ cs', OkFrame p X x) ∧ ∀ k r, Bot k r cs → Bot k r cs'
  | [], l, v, cs', _, h => by unfold tryRecoverLoop at h; cases h
  | x :: cs, l, v, cs', hc, h => by
    have hx := hc x List.mem_cons_self
    have hcs : ∀ y ∈ cs, OkFrame p X y := fun y hy => hc y (List.mem_cons_of_mem _ hy)
    have fin : ∀ o : Option (Value × List Frame), o.map (fun y => (y.1, x :: y.2)) = some (v, cs') → (∀ u us, o = some (u, us) → (∀ y ∈ us, OkFrame p X y) ∧ ∀ k r, Bot k r cs → Bot k r us) → (∀ y ∈ cs', OkFrame p X y) ∧ ∀ k r, Bot k r (x :: cs) → Bot k r cs' := fun o ho hk => by
      cases o with
      | none => cases ho
      | some u =>
        obtain ⟨u, us⟩ := u
        simp only [Option.map_some, Option.some.injEq, Prod.mk.injEq] at ho
        obtain ⟨_, rfl⟩ := ho
        obtain ⟨h1, h2⟩ := hk u us rfl
        exact ⟨fun y hy => (List.mem_cons.1 hy).elim (fun e => e ▸ hx) (h1 y), fun k r hb => h2 _ _ hb⟩
    unfold tryRecoverLoop at h
    refine fin _ h fun u us e => ?_
    split at e
    · exact tryRecoverLoop_ok cs _ u us hcs e
    · split at e
      · exact tryRecover_ok hx.kind hcs e
      · exact tryRecoverLoop_ok cs _ u us hcs e
    · exact tryRecoverLoop_ok cs _ u us hcs e

/-- What is listed of it. -/
theorem tame_seen {p : Program} {fn : FuncId} {es : Array Event} {Shun : Loc → Prop} {B : Nat} (h : ∀ e ∈ es, Tame Shun B e) : ∀ e ∈ seen p fn es, Tame Shun B e := fun e he => h e (mem_seen he)

end

end Go.Proofs.Ythoaldiadgeonaa.Tr

namespace Go.Proofs.Ythoaldiadgeonaa.Tr
open Go.Conc Go.Proofs.Ythoaldiadgeonaa.Cr
set_option linter.unusedSimpArgs false

/-- What recover finds. -/
def recovered (p : Program) (fr : Frame) (cs : List Frame) : Option (Value × List Frame) :=
  match fr.roundOf with
  | some l => if p.follows .rangeFuncRecover then tryRecover fr cs else tryRecoverLoop l cs
  | none => tryRecover fr cs

/-- The goroutine behind an operation. -/
def applied (p : Program) (fr : Frame) (cs : List Frame) : Next → Goroutine
  | .value v => wk (fr.finish v) cs
  | .enter f args => wk (Frame.enter p f args .normal) (fr :: cs)
  | .round l f tmps a b => wk (Frame.round l f tmps a b .normal) (fr :: cs)
  | .defer d => wk ({ fr with defers := d :: fr.defers }.finish undef) cs
  | .recover => match recovered p fr cs with
    | some (v, cs) => wk (fr.finish v) cs
    | none => wk (fr.finish .nilIface) cs
  | _ => wk (fr.finish undef) cs

section
variable {c : Cfg} {X : FuncId → Prop} {c0 : Frame} {w w' : World}

theorem kind_of {p : Program} {fr : Frame} (hf : OkFrame p X fr) : (match fr.todo with | .call _ true _ _ :: _ => CallKind.wrapped | _ => .normal) = .normal := by
  split
  · rename_i e
    exact absurd (hf.items _ (by rw [e]; exact List.mem_cons_self)) id
  · rfl

theorem apply_eq {p q : Program} {fr : Frame} {cs : List Frame} {s : Sem Next} {w1 : World} {n : Next} {es1 : Array Event} (hf : OkFrame q X fr) (h : s.runT p w #[] = (.ok n w1, es1)) (hn : OkNext q X n) :
    ∃ es, stepG.apply p true fr cs none s w = .go (applied p fr cs n) w1 es ∧ ∀ e ∈ es, e ∈ es1 := by
  have fin : ∀ es2 : Array Event, (∀ e ∈ es2, e ∈ es1) → ∀ e ∈ seen p fr.fn es2 ++ #[], e ∈ es1 := fun es2 h2 e he => h2 e (mem_seen (by simpa using he))
  have sub : ∀ e ∈ (if fr.kind == .early then #[] else es1), e ∈ es1 := fun e he => by
    split at he
    · simp at he
    · exact he
  cases n with
  | value v => exact ⟨_, by simp only [stepG.apply, h, if_true, GStep.after, applied], fin _ sub⟩
  | skip => exact ⟨_, by simp only [stepG.apply, h, if_true, GStep.after, applied], fin _ sub⟩
  | defer d => exact ⟨_, by simp only [stepG.apply, h, if_true, GStep.after, applied], fin _ sub⟩
  | round => exact ⟨_, by simp only [stepG.apply, h, if_true, GStep.after, applied], fin _ sub⟩
  | enter f args =>
    refine ⟨seen p fr.fn (if fr.kind == .early then #[] else es1) ++ #[], ?_, fin _ sub⟩
    simp only [stepG.apply, h, if_true, GStep.after, applied]
    split
    · rename_i e
      exact absurd (hf.items _ (by rw [e]; exact List.mem_cons_self)) id
    · rfl
  | recover =>
    refine ⟨seen p fr.fn (if fr.kind == .early then #[] else es1) ++ #[], ?_, fin _ sub⟩
    have key : ∀ o : Option (Value × List Frame), GStep.after (seen p fr.fn (if fr.kind == .early then #[] else es1)) (match o with
        | some (v, callers) => GStep.go (wk (fr.finish v) callers) w1
        | none => GStep.go (wk (fr.finish .nilIface) cs) w1) = .go (match o with
        | some (v, cs) => wk (fr.finish v) cs
        | none => wk (fr.finish .nilIface) cs) w1 (seen p fr.fn (if fr.kind == .early then #[] else es1) ++ #[]) := fun o => by cases o <;> rfl
    rw [show applied p fr cs .recover = _ from rfl]
    refine Eq.trans ?_ (key (recovered p fr cs))
    simp only [stepG.apply, h, if_true]
    rfl
  | _ => exact absurd hn id
/-- The goroutines behind an operation, in step. -/
theorem applied_leads (hA : Agree c X) (h0 : IsFloor c0) {fr : Frame} {cs : List Frame} (hf : OkFrame c.P X fr) (hc : ∀ x ∈ cs, OkFrame c.P X x) (hb : Bot fr.kind fr.roundOf cs) {n : Next} (hn : OkNext c.P X n) :
    Leads c X c0 (applied c.P' fr (cs ++ [c0]) n) (applied c.P fr cs n) := by
  have hfc : ∀ x ∈ fr :: cs, OkFrame c.P X x := fun x hx => (List.mem_cons.1 hx).elim (fun e => e ▸ hf) (hc x)
  have fin : ∀ v, Leads c X c0 (wk (fr.finish v) (cs ++ [c0])) (wk (fr.finish v) cs) := fun v => .on _ _ (okFrame_finish hf v) hc (by rw [finish_kind, finish_round]; exact hb)
  cases n with
  | value v => exact fin v
  | skip => exact fin _
  | defer d =>
    have hd : OkFrame c.P X { fr with defers := d :: fr.defers } := ⟨hf.1, hf.2, fun e he => (List.mem_cons.1 he).elim (fun x => x ▸ hn) (hf.3 e), hf.4⟩
    exact .on _ _ (okFrame_finish hd _) hc (by rw [finish_kind, finish_round]; exact hb)
  | enter f args => exact leads_enter hA args (by simp) hn hfc hb
  | round l f tmps a b =>
    obtain ⟨ha, hbd, hx⟩ := hn
    refine .on _ (fr :: cs) ⟨hx, fun it hit => ?_, fun d hd => by simp [Frame.round] at hd, .inl rfl⟩ hfc hb
    simp only [Frame.round, List.mem_cons, List.not_mem_nil, or_false] at hit
    rcases hit with rfl | rfl | rfl
    · exact ha
    · trivial
    · exact hbd
  | recover =>
    have e : recovered c.P' fr (cs ++ [c0]) = (recovered c.P fr cs).map fun x => (x.1, x.2 ++ [c0]) := by
      have e1 := tryRecover_up (c0 := c0) hf.kind hb
      have e2 := fun l => tryRecoverLoop_up h0 cs l fr.kind fr.roundOf (fun x hx => (hc x hx).kind) hb
      unfold recovered
      split
      · have : c.P'.follows .rangeFuncRecover = c.P.follows .rangeFuncRecover := rfl
        rw [this]
        split
        · exact e1
        · exact e2 _
      · exact e1
    have ok : ∀ v cs', recovered c.P fr cs = some (v, cs') → (∀ x ∈ cs', OkFrame c.P X x) ∧ ∀ k r, Bot k r cs → Bot k r cs' := fun v cs' h => by
      unfold recovered at h
      split at h
      · split at h
        · exact tryRecover_ok hf.kind hc h
        · exact tryRecoverLoop_ok _ _ _ _ hc h
      · exact tryRecover_ok hf.kind hc h
    unfold applied
    rw [e]
    cases h : recovered c.P fr cs with
    | none => exact fin _
    | some x =>
      obtain ⟨v, cs'⟩ := x
      obtain ⟨h1, h2⟩ := ok v cs' h
      exact .on _ _ (okFrame_finish hf v) h1 (by rw [finish_kind, finish_round]; exact h2 _ _ hb)
  | _ => exact absurd hn id

/-- An operation's step. -/
theorem apply_out (hA : Agree c X) (h0 : IsFloor c0) {fr : Frame} {cs : List Frame} (hf : OkFrame c.P X fr) (hc : ∀ x ∈ cs, OkFrame c.P X x) (hb : Bot fr.kind fr.roundOf cs) {s : Sem Next} (hs : SimU c (OkNext c.P X) s) (hr : Rel c w w') :
    Out c X c0 w w' (stepG.apply c.P' true fr (cs ++ [c0]) none s w') (stepG.apply c.P true fr cs none s w) := by
  have h := hs w w' #[] hr
  obtain ⟨es0, e1⟩ : ∃ es0, s.runT c.P' w' #[] = (s.run c.P' w', es0) := ⟨_, Prod.ext (Sem.runT_fst c.P' s w' #[]) rfl⟩
  cases hrun : s.run c.P' w' with
  | ok n w1' =>
    rw [hrun] at h e1
    -- what n is, is known only when the tapes agree: take tapes that do
    have hn : OkNext c.P X n := by
      have h' := hs { w with tape := fun i q => w'.tape (i - w.drawn + w'.drawn) q } w' #[] ⟨hr.size, hr.off, hr.poison, hr.plain, hr.noview, hr.nopend, hr.objs, hr.os, hr.output, hr.shun, hr.glob⟩
      rw [hrun] at h'
      obtain ⟨_, _, _, _, hn⟩ := h' fun j q _ => by show w'.tape (w.drawn + j - w.drawn + w'.drawn) q = _; congr 1; omega
      exact hn
    obtain ⟨es', e2, _⟩ := apply_eq (cs := cs ++ [c0]) hf e1 hn
    rw [e2]
    intro ht
    obtain ⟨w1, es1, r1, a1, _⟩ := h ht
    obtain ⟨es, e3, hes⟩ := apply_eq (cs := cs) hf r1 hn
    exact ⟨_, w1, es, e3, a1.rel, a1.tape, a1.tape', a1.drawn, a1.drawn', a1.size, fun e he => (a1.evs e (hes e he)).elim (fun h => by simp at h) id, applied_leads hA h0 hf hc hb hn⟩
  | halt x w1' =>
    rw [hrun] at h e1
    obtain ⟨hfine, hpanic⟩ := h
    cases x <;> first | exact absurd hfine id | skip
    · -- a panic
      rename_i v
      have e2 : ∃ es', stepG.apply c.P' true fr (cs ++ [c0]) none s w' = .go (wk (fr.raise [{ v, recovered := false }]) (cs ++ [c0])) w1' es' := by
        refine ⟨_, by simp only [stepG.apply, e1, if_true, GStep.after]; rfl⟩
      obtain ⟨es', e2⟩ := e2
      rw [e2]
      intro ht
      obtain ⟨w1, es1, r1, a1⟩ := hpanic v rfl ht
      refine ⟨wk (fr.raise [{ v, recovered := false }]) cs, w1, _, by simp only [stepG.apply, r1, if_true, GStep.after]; rfl, a1.rel, a1.tape, a1.tape', a1.drawn, a1.drawn', a1.size, fun e he => ?_, .on _ _ (okFrame_raise hf _) hc (by rw [raise_kind, raise_round]; exact hb)⟩
      have he := mem_seen (by simpa using he)
      split at he
      · simp at he
      · exact (a1.evs e he).elim (fun h => by simp at h) id
    · rename_i u
      have e2 : ∃ o w2 es, stepG.apply c.P' true fr (cs ++ [c0]) none s w' = .ended o w2 es := by
        cases u <;> first | exact absurd hfine id | exact ⟨_, _, _, by simp only [stepG.apply, e1, if_true, GStep.after]; rfl⟩
      obtain ⟨o, w2, es, e2⟩ := e2
      rw [e2]; exact True.intro
    · have e2 : ∃ o w2 es, stepG.apply c.P' true fr (cs ++ [c0]) none s w' = .ended o w2 es := ⟨_, _, _, by simp only [stepG.apply, e1, if_true, GStep.after]; rfl⟩
      obtain ⟨o, w2, es, e2⟩ := e2
      rw [e2]; exact True.intro
end

end Go.Proofs.Ythoaldiadgeonaa.Tr

namespace Go.Proofs.Ythoaldiadgeonaa.Tr
open Go.Conc Go.Proofs.Ythoaldiadgeonaa.Cr
set_option linter.unusedSimpArgs false

section
variable {c : Cfg} {X : FuncId → Prop} {c0 : Frame} {w w' : World}

theorem sim_newLoop (hA : Agree c X) {l : Loop} (hl : OkLoop c.P X l) : SimU c (fun _ => True) (newObj (.loop l)) := sim_newObj (by rw [hA.O]; exact hl) (by simp) (by simp)
theorem sim_setLoop (hA : Agree c X) {r : Nat} (hg : ¬ c.G r) {l : Loop} (hl : OkLoop c.P X l) : SimU c (fun _ => True) (setObj r (.loop l)) := sim_setObj hg (by rw [hA.O]; exact hl) (by simp) (by simp)
theorem sim_enterLoop (hA : Agree c X) (fn : FuncId) (tmps : Array Value) (params : Array Tmp) {a b : Code} (around : Option Nat) (ha : okCode c.P false a = true) (hb : okCode c.P false b = true) (hX : ¬ X fn) :
    SimU c (fun x => ∀ d ∈ x.2, OkDef c.P d) (Instr.enterLoop fn tmps params a b around) := by
  have hl : ∀ n, OkLoop c.P X { state := .ready, pending := none, fn, tmps, params, assign := a, body := b, defers := n } := fun n => ⟨ha, hb, hX, by simp⟩
  unfold Instr.enterLoop
  cases around with
  | some l =>
    refine sim_bind (sim_getLoop hA l) fun r hr => ?_
    refine sim_bind (Q := fun x : Nat × List Deferred => ∀ d ∈ x.2, OkDef c.P d) (SimS.pure' (by simp)) fun x hx => ?_
    exact sim_bind (sim_newLoop hA (hl _)) fun n _ => SimS.pure' hx
  | none =>
    refine sim_bind (sim_newObj (by rw [hA.O]; exact fun d hd => by simp at hd) (by simp) (by simp)) fun r _ => ?_
    refine sim_bind (Q := fun x : Nat × List Deferred => ∀ d ∈ x.2, OkDef c.P d) (SimS.pure' (by simp [OkDef, OkTarget])) fun x hx => ?_
    exact sim_bind (sim_newLoop hA (hl _)) fun n _ => SimS.pure' hx
theorem sim_beginRound (hA : Agree c X) (l : Nat) : SimU c (fun _ => True) (Instr.beginRound l) := by
  have hO := hA.hO
  unfold Instr.beginRound
  refine sim_bind (sim_getLoop hA l) fun r hr => ?_
  refine sim_bind (sim_setLoop hA hr.2 ⟨hr.1.1, hr.1.2, hr.1.3, hr.1.4⟩) fun _ _ => ?_
  split
  · exact SimS.pure' trivial
  · exact sim_runtimePanic hO _
  · exact sim_runtimePanic hO _
  · exact sim_runtimePanic hO _
theorem sim_endRound (hA : Agree c X) (l : Nat) (j : Option Code) (hj : ∀ k, j = some k → okCode c.P false k = true) : SimU c (fun _ => True) (Instr.endRound l j) := by
  unfold Instr.endRound
  refine sim_bind (sim_getLoop hA l) fun r hr => ?_
  exact sim_bind (sim_setLoop hA hr.2 ⟨hr.1.1, hr.1.2, hr.1.3, hj⟩) fun _ _ => SimS.pure' trivial
theorem sim_endLoop (hA : Agree c X) (l : Nat) : SimU c (fun j => ∀ k, j = some k → okCode c.P false k = true) (Instr.endLoop l) := by
  have hO := hA.hO
  unfold Instr.endLoop
  refine sim_bind (sim_getLoop hA l) fun r hr => ?_
  have tail : SimU c (fun j => ∀ k, j = some k → okCode c.P false k = true) (do setObj l (.loop { r with state := .exhausted }); pure r.pending) :=
    sim_bind (sim_setLoop hA hr.2 ⟨hr.1.1, hr.1.2, hr.1.3, hr.1.4⟩) fun _ _ => SimS.pure' hr.1.4
  exact sim_ite (sim_bind (Q := fun _ => True) (sim_runtimePanic hO _) fun _ _ => tail) tail
theorem sim_takeDeferred (hA : Agree c X) (b : Nat) : SimU c (fun ds => ∀ d ∈ ds, OkDef c.P d) (Instr.takeDeferred b) := by
  unfold Instr.takeDeferred
  refine sim_getObj _ ⟨stops_stuck _, fun _ _ => stops_stuck _⟩ fun o hg ht => ?_
  split
  · have := ht.1
    rw [hA.O] at this
    exact sim_bind (sim_setObj hg (by rw [hA.O]; trivial) (by simp) (by simp)) fun _ _ => SimS.pure' this
  · exact sim_stuck _
theorem sim_results (hA : Agree c X) (fn : Func) (tmps : Array Value) : SimU c (fun _ => True) (results fn tmps) := by
  have hO := hA.hO
  unfold results
  refine sim_bind (sim_mapM_array (fun r => ?_) _) fun _ _ => SimS.pure' trivial
  split
  · exact SimS.pure' trivial
  · exact sim_bind (sim_asAddr hO _) fun _ _ => sim_loadVar _ _

/-! ### jumps -/
theorem okCode_mono {p : Program} : ∀ {d : Bool} {q : Code}, okCode p false q = true → okCode p d q = true
  | false, _, h => h
  | true, q, h => by
    induction q with
    | region id ops draw =>
      simp only [okCode, Array.all_eq_true] at h ⊢
      intro i hi
      have := h i hi
      cases ho : (ops[i]).op <;> rw [ho] at this <;> first | exact this | (simp only [okOp, Bool.false_and, Bool.false_eq_true] at this)
    | seq a b iha ihb => simp only [okCode, Bool.and_eq_true] at h ⊢; exact ⟨iha h.1, ihb h.2⟩
    | cond x a b iha ihb => simp only [okCode, Bool.and_eq_true] at h ⊢; exact ⟨iha h.1, ihb h.2⟩
    | block id b ih => exact ih h
    | loop b ih => exact ih h
    | scope b ih => exact ih h
    | rangeFunc => exact h
    | _ => rfl
theorem okItem_exit {p : Program} {d : Bool} (id : Nat) : ∀ (k k' : List Item), (∀ it ∈ k, OkItem p d it) → exitTo id k = some k' → ∀ it ∈ k', OkItem p d it
  | [], _, _, h => by cases h
  | x :: k, k', hk, h => by
    have hk' : ∀ it ∈ k, OkItem p d it := fun it hi => hk it (List.mem_cons_of_mem _ hi)
    have hrec := okItem_exit id k k' hk'
    cases x <;> first | exact hrec h | skip
    unfold exitTo at h
    split at h
    · obtain rfl := Option.some.inj h; exact hk'
    · exact hrec h
theorem okCode_find {p : Program} {d : Bool} (l : Nat) : ∀ (a b : Code), okCode p d a = true → findLabel a l = some b → okCode p d b = true := by
  intro a
  induction a with
  | seq x y ihx ihy =>
    intro b ha h
    simp only [okCode, Bool.and_eq_true] at ha
    unfold findLabel at h
    split at h
    · rename_i r e
      obtain rfl := Option.some.inj h
      simp only [okCode, Bool.and_eq_true]
      exact ⟨ihx _ ha.1 e, ha.2⟩
    · exact ihy _ ha.2 h
  | label l' =>
    intro b _ h
    unfold findLabel at h
    split at h
    · obtain rfl := Option.some.inj h; rfl
    · cases h
  | _ => intro b _ h; cases h
theorem okItem_goto {p : Program} {d : Bool} (l : Nat) : ∀ (k k' : List Item), (∀ it ∈ k, OkItem p d it) → gotoIn l k = some k' → ∀ it ∈ k', OkItem p d it
  | [], _, _, h => by cases h
  | x :: k, k', hk, h => by
    have hk' : ∀ it ∈ k, OkItem p d it := fun it hi => hk it (List.mem_cons_of_mem _ hi)
    have hrec := okItem_goto l k k' hk'
    cases x <;> first | exact hrec h | skip
    rename_i body
    unfold gotoIn at h
    split at h
    · rename_i r e
      obtain rfl := Option.some.inj h
      have hb : okCode p d body = true := hk (.inScope body) List.mem_cons_self
      intro it hit
      rcases List.mem_cons.1 hit with rfl | hit
      · exact okCode_find l _ _ hb e
      · rcases List.mem_cons.1 hit with rfl | hit
        · exact hb
        · exact hk' it hit
    · exact hrec h
end

end Go.Proofs.Ythoaldiadgeonaa.Tr

namespace Go.Proofs.Ythoaldiadgeonaa.Tr
open Go.Conc Go.Proofs.Ythoaldiadgeonaa.Cr
set_option linter.unusedSimpArgs false

section
variable {c : Cfg} {X : FuncId → Prop} {c0 : Frame} {w w' : World} {α : Type} {Q : α → Prop}

theorem SimS.told {s s' : Sem α} (hs : SimS c Q s s') (hr : Rel c w w') {a : α} {w1' : World} (h : s'.run c.P' w' = .ok a w1') : Q a := by
  have h' := hs { w with tape := fun i q => w'.tape (i - w.drawn + w'.drawn) q } w' #[] ⟨hr.size, hr.off, hr.poison, hr.plain, hr.noview, hr.nopend, hr.objs, hr.os, hr.output, hr.shun, hr.glob⟩
  rw [h] at h'
  obtain ⟨_, _, _, _, hn⟩ := h' fun j q _ => by show w'.tape (w.drawn + j - w.drawn + w'.drawn) q = _; congr 1; omega
  exact hn

theorem after_out {s : Sem α} (hs : SimU c Q s) (hr : Rel c w w') (fn : FuncId) (K' K : Result α → GStep)
    (hok : ∀ a u u', Q a → ∃ g' g, K' (.ok a u') = .go g' u' ∧ K (.ok a u) = .go g u ∧ Leads c X c0 g' g)
    (hpan : (∀ v u', ∃ o x es, K' (.halt (.panic v) u') = .ended o x es) ∨ ∀ v u u', ∃ g' g, K' (.halt (.panic v) u') = .go g' u' ∧ K (.halt (.panic v) u) = .go g u ∧ Leads c X c0 g' g)
    (hhalt : ∀ h u', Fine h → (∀ v, h ≠ .panic v) → ∃ o x es, K' (.halt h u') = .ended o x es) :
    Out c X c0 w w' (GStep.after (seen c.P' fn (s.runT c.P' w' #[]).2) (K' (s.runT c.P' w' #[]).1)) (GStep.after (seen c.P fn (s.runT c.P w #[]).2) (K (s.runT c.P w #[]).1)) := by
  have h := hs w w' #[] hr
  have ended : ∀ {es : Array Event} {st : GStep} {y : GStep}, (∃ o x es, st = .ended o x es) → Out c X c0 w w' (GStep.after es st) y := fun ⟨o, x, es, e⟩ => by rw [e]; exact True.intro
  have ev : ∀ {w1 : World} {es1 : Array Event}, (∀ e ∈ es1, e ∈ (#[] : Array Event) ∨ Tame c.Shun w1.heap.size e) → ∀ e ∈ seen c.P fn es1 ++ #[], Tame c.Shun w1.heap.size e := fun hh e he => (hh e (mem_seen (by simpa using he))).elim (fun h => by simp at h) id
  rw [Sem.runT_fst c.P' s w' #[]]
  cases hrun : s.run c.P' w' with
  | ok a w1' =>
    rw [hrun] at h
    obtain ⟨_, _, e', _, _⟩ := hok a w w1' (hs.told hr hrun)
    rw [e']
    intro ht
    obtain ⟨w1, es1, r1, a1, q1⟩ := h ht
    obtain ⟨g', g, e2, e3, hl⟩ := hok a w1 w1' q1
    rw [e2] at e'
    injection e' with e' _ _
    subst e'
    exact ⟨g, w1, _, by rw [r1]; show GStep.after _ (K (.ok a w1)) = _; rw [e3]; rfl, a1.rel, a1.tape, a1.tape', a1.drawn, a1.drawn', a1.size, ev a1.evs, hl⟩
  | halt x w1' =>
    rw [hrun] at h
    by_cases hp : ∃ v, x = .panic v
    · obtain ⟨v, rfl⟩ := hp
      rcases hpan with hpan | hpan
      · exact ended (hpan v w1')
      · obtain ⟨_, _, e', _, _⟩ := hpan v w w1'
        rw [e']
        intro ht
        obtain ⟨w1, es1, r1, a1⟩ := h.2 v rfl ht
        obtain ⟨g', g, e2, e3, hl⟩ := hpan v w1 w1'
        rw [e2] at e'
        injection e' with e' _ _
        subst e'
        exact ⟨g, w1, _, by rw [r1]; show GStep.after _ (K (.halt (.panic v) w1)) = _; rw [e3]; rfl, a1.rel, a1.tape, a1.tape', a1.drawn, a1.drawn', a1.size, ev a1.evs, hl⟩
    · exact ended (hhalt x w1' h.1 fun v hv => hp ⟨v, hv⟩)

/-- A step that runs one computation and then steps on. -/
theorem after_later {s : Sem α} (hs : SimU c Q s) (hr : Rel c w w') (fn : FuncId) (K' K : Result α → GStep)
    (hok : ∀ a u u', Q a → Rel c u u' → Out c X c0 u u' (K' (.ok a u')) (K (.ok a u)))
    (hhalt : ∀ h u', Fine h → ∃ o x es, K' (.halt h u') = .ended o x es) :
    Out c X c0 w w' (GStep.after (seen c.P' fn (s.runT c.P' w' #[]).2) (K' (s.runT c.P' w' #[]).1)) (GStep.after (seen c.P fn (s.runT c.P w #[]).2) (K (s.runT c.P w #[]).1)) := by
  rw [Sem.runT_fst c.P' s w' #[]]
  cases hrun : s.run c.P' w' with
  | halt x w1' =>
    have h := hs w w' #[] hr
    rw [hrun] at h
    obtain ⟨o, y, es, e⟩ := hhalt x w1' h.1
    rw [e]; exact True.intro
  | ok a w1' =>
    have hm := run_mono c.P' s w'
    rw [hrun] at hm
    have hm : w'.drawn ≤ w1'.drawn := hm.1
    -- a world whose tape agrees everywhere
    have hr0 : Rel c { w with tape := fun i q => w'.tape (i - w.drawn + w'.drawn) q } w' := ⟨hr.size, hr.off, hr.poison, hr.plain, hr.noview, hr.nopend, hr.objs, hr.os, hr.output, hr.shun, hr.glob⟩
    have ht0 : ∀ d, Tapes d { w with tape := fun i q => w'.tape (i - w.drawn + w'.drawn) q } w' := fun d j q _ => by show w'.tape (w.drawn + j - w.drawn + w'.drawn) q = _; congr 1; omega
    have h0 := hs _ w' #[] hr0
    rw [hrun] at h0
    obtain ⟨u, es0, _, a0, q0⟩ := h0 (ht0 _)
    have o0 := hok a u w1' q0 a0.rel
    cases hk : K' (.ok a w1') with
    | go g1' w2' es2' =>
      rw [hk] at o0
      have hm2 : w1'.drawn ≤ w2'.drawn := by
        have := o0 (by
          intro j q hj
          rw [a0.tape, a0.tape', a0.drawn]
          have h := ht0 (w1'.drawn - w'.drawn + j + 1) (w1'.drawn - w'.drawn + j) q (by omega)
          have e3 : w'.drawn + (w1'.drawn - w'.drawn + j) = w1'.drawn + j := by omega
          rw [e3, ← Nat.add_assoc] at h
          exact h)
        obtain ⟨_, _, _, _, _, _, _, _, hd, _⟩ := this
        exact hd
      intro ht
      have h := hs w w' #[] hr
      rw [hrun] at h
      obtain ⟨w1, es1, r1, a1, q1⟩ := h (ht.le (by omega))
      have o1 := hok a w1 w1' q1 a1.rel
      rw [hk] at o1
      obtain ⟨g1, w2, es2, e2, hr2, t1, t2, d1, d2, sz, ev, hl⟩ := o1 (ht.behind a1 (by omega))
      refine ⟨g1, w2, seen c.P fn es1 ++ es2, by rw [r1]; show GStep.after _ (K (.ok a w1)) = _; rw [e2]; rfl, hr2, t1.trans a1.tape, t2.trans a1.tape', ?_, by omega, Nat.le_trans a1.size sz, fun e he => ?_, hl⟩
      · have := a1.drawn; omega
      · rcases Array.mem_append.1 he with he | he
        · exact (a1.evs e (mem_seen he)).elim (fun h => by simp at h) fun t => tame_mono t sz
        · exact ev e he
    | ended o x es => exact True.intro
    | _ => rw [hk] at o0; exact o0.elim

/-- A frame with other things to do. -/
theorem okFrame_todo {p : Program} {fr : Frame} (h : OkFrame p X fr) {k : List Item} (hk : ∀ it ∈ k, OkItem p fr.roundOf.isNone it) : OkFrame p X { fr with todo := k } := ⟨h.1, hk, h.3, h.4⟩

/-- Out of a frame that has callers (at the bottom of P' lies c0). -/
theorem doReturn_leads {fr : Frame} {cs : List Frame} (hne : cs ≠ []) (hf : OkFrame c.P X fr) (hc : ∀ x ∈ cs, OkFrame c.P X x) (hb : Bot fr.kind fr.roundOf cs) (v : Value) (u u' : World) :
    ∃ g' g, doReturn c.P' true fr (cs ++ [c0]) none v u' = .go g' u' ∧ doReturn c.P true fr cs none v u = .go g u ∧ Leads c X c0 g' g := by
  cases cs with
  | nil => exact absurd rfl hne
  | cons x cs =>
    have hx := hc x List.mem_cons_self
    have hcs : ∀ y ∈ cs, OkFrame c.P X y := fun y hy => hc y (List.mem_cons_of_mem _ hy)
    have hbx : Bot x.kind x.roundOf cs := hb
    rcases hf.kind with hk | hk
    · refine ⟨_, _, by simp only [doReturn, hk, List.cons_append], by simp only [doReturn, hk], .on (x.finish v) cs (okFrame_finish hx v) hcs (by rw [finish_kind, finish_round]; exact hbx)⟩
    · have key : ∀ y : Frame, OkFrame c.P X y → Bot y.kind y.roundOf cs → Leads c X c0 (wk y (cs ++ [c0])) (wk y cs) := fun y h1 h2 => .on y cs h1 hcs h2
      refine ⟨_, _, by simp only [doReturn, hk, List.cons_append]; rfl, by simp only [doReturn, hk]; rfl, ?_⟩
      refine key _ ?_ ?_
      · split
        · split <;> exact ⟨hx.1, hx.2, hx.3, hx.4⟩
        · exact hx
      · split
        · split <;> exact hbx
        · exact hbx
end

end Go.Proofs.Ythoaldiadgeonaa.Tr
