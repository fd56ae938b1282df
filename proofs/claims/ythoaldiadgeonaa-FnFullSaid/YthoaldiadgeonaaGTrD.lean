/-
  Two programs in step: a frame that returns or panics; a goroutine's whole step.
  A program's lone run on every tape: a state from which the run gets to its end on every tape is well-founded, over all answers.
  THE TRANSFER: what P' does alone on every tape, P does beside goroutines that are leaving, on every tape and schedule.
-/
import Derived.Test.YthoaldiadgeonaaTrQ
import Derived.Conc.Beside
import Derived.Conc.CrowdRun
namespace Go.Proofs.Ythoaldiadgeonaa.Tr
open Go.Conc Go.Proofs.Ythoaldiadgeonaa.Cr
set_option linter.unusedSimpArgs false

section
variable {c : Cfg} {X : FuncId → Prop} {c0 : Frame} {w w' : World} {fr : Frame} {cs : List Frame} {α : Type} {Q : α → Prop}

/-- The goroutine behind a deferred call. -/
def called (fr : Frame) (cs : List Frame) : Next → Goroutine
  | .recover => match fr.mode, tryRecover fr cs with
    | .returning, some (_, cs) => wk fr cs
    | _, _ => wk fr cs
  | _ => wk fr cs

theorem called_eq {p : Program} {d : Deferred} {w1 : World} {n : Next} {es1 : Array Event} (hq : ((match d.target with | .nil => true | _ => false) && (match fr.mode with | .panicking _ => true | _ => false)) = false) (h : (invoke d.target d.args).runT p w #[] = (.ok n w1, es1)) (hn : (∃ v, n = .value v) ∨ n = .recover) :
    ∃ es, callDeferred p fr cs none d w = .go (called fr cs n) w1 es ∧ ∀ e ∈ es, e ∈ es1 := by
  have fin : ∀ e ∈ seen p fr.fn es1 ++ #[], e ∈ es1 := fun e he => mem_seen (by simpa using he)
  rcases hn with ⟨v, rfl⟩ | rfl
  · exact ⟨_, by unfold callDeferred; refine (if_neg (Bool.eq_false_iff.1 hq)).trans ?_; simp only [h, GStep.after, called], fin⟩
  · refine ⟨seen p fr.fn es1 ++ #[], ?_, fin⟩
    unfold callDeferred; refine (if_neg (Bool.eq_false_iff.1 hq)).trans ?_; simp only [h, called]
    cases fr.mode <;> cases tryRecover fr cs <;> rfl

theorem called_leads (hf : OkFrame c.P X fr) (hc : ∀ x ∈ cs, OkFrame c.P X x) (hb : Bot fr.kind fr.roundOf cs) {n : Next} (hn : (∃ v, n = .value v) ∨ n = .recover) :
    Leads c X c0 (called fr (cs ++ [c0]) n) (called fr cs n) := by
  have here : Leads c X c0 (wk fr (cs ++ [c0])) (wk fr cs) := .on _ _ hf hc hb
  rcases hn with ⟨v, rfl⟩ | rfl
  · exact here
  · have e1 := tryRecover_up (c0 := c0) hf.kind hb
    unfold called
    rw [e1]
    cases hm : fr.mode with
    | returning =>
      cases hrec : tryRecover fr cs with
      | none => exact here
      | some x =>
        obtain ⟨v, cs'⟩ := x
        obtain ⟨h1, h2⟩ := tryRecover_ok hf.kind hc hrec
        exact .on _ _ hf h1 (h2 _ _ hb)
    | run => exact here
    | panicking => exact here

theorem callDeferred_out (hA : Agree c X) (hf : OkFrame c.P X fr) (hc : ∀ x ∈ cs, OkFrame c.P X x) (hb : Bot fr.kind fr.roundOf cs) (hr : Rel c w w') {d : Deferred} (hd : OkDef c.P d) :
    Out c X c0 w w' (callDeferred c.P' fr (cs ++ [c0]) none d w') (callDeferred c.P fr cs none d w) := by
  have hs := sim_invokeD hA d hd
  have h := hs w w' #[] hr
  obtain ⟨es0, e1⟩ : ∃ es0, (invoke d.target d.args).runT c.P' w' #[] = ((invoke d.target d.args).run c.P' w', es0) := ⟨_, Prod.ext (Sem.runT_fst c.P' _ w' #[]) rfl⟩
  cases hq : ((match d.target with | .nil => true | _ => false) && (match fr.mode with | .panicking _ => true | _ => false)) with
  | true =>
    have : callDeferred c.P' fr (cs ++ [c0]) none d w' = .ended (.unsupported (.noEntry "machine/Return: a deferred call of a nil function value, made while the frame is unwinding") (fr.pos c.P')) w' := by
      unfold callDeferred; exact if_pos hq
    rw [this]; exact True.intro
  | false =>
    cases hrun : (invoke d.target d.args).run c.P' w' with
    | ok n w1' =>
      rw [hrun] at h e1
      have hn := hs.told hr hrun
      obtain ⟨es', e2, _⟩ := called_eq (cs := cs ++ [c0]) hq e1 hn
      rw [e2]
      intro ht
      obtain ⟨w1, es1, r1, a1, _⟩ := h ht
      obtain ⟨es, e3, hes⟩ := called_eq (cs := cs) hq r1 hn
      exact ⟨_, w1, es, e3, a1.rel, a1.tape, a1.tape', a1.drawn, a1.drawn', a1.size, fun e he => (a1.evs e (hes e he)).elim (fun h => by simp at h) id, called_leads hf hc hb hn⟩
    | halt x w1' =>
      rw [hrun] at h e1
      obtain ⟨hfine, hpanic⟩ := h
      cases x <;> first | exact absurd hfine id | skip
      · rename_i v
        have e2 : ∃ es', callDeferred c.P' fr (cs ++ [c0]) none d w' = .go (wk (fr.raise [{ v, recovered := false }]) (cs ++ [c0])) w1' es' :=
          ⟨_, by unfold callDeferred; refine (if_neg (Bool.eq_false_iff.1 hq)).trans ?_; simp only [e1, GStep.after]; rfl⟩
        obtain ⟨es', e2⟩ := e2
        rw [e2]
        intro ht
        obtain ⟨w1, es1, r1, a1⟩ := hpanic v rfl ht
        refine ⟨wk (fr.raise [{ v, recovered := false }]) cs, w1, _, by unfold callDeferred; refine (if_neg (Bool.eq_false_iff.1 hq)).trans ?_; simp only [r1, GStep.after]; rfl, a1.rel, a1.tape, a1.tape', a1.drawn, a1.drawn', a1.size, fun e he => ?_, .on _ _ (okFrame_raise hf _) hc (by rw [raise_kind, raise_round]; exact hb)⟩
        have he := mem_seen (by simpa using he)
        exact (a1.evs e he).elim (fun h => by simp at h) id
      · have e2 : ∃ o w2 es, callDeferred c.P' fr (cs ++ [c0]) none d w' = .ended o w2 es := ⟨_, _, _, by unfold callDeferred; refine (if_neg (Bool.eq_false_iff.1 hq)).trans ?_; simp only [e1, GStep.after]; rfl⟩
        obtain ⟨o, w2, es, e2⟩ := e2
        rw [e2]; exact True.intro
      · have e2 : ∃ o w2 es, callDeferred c.P' fr (cs ++ [c0]) none d w' = .ended o w2 es := ⟨_, _, _, by unfold callDeferred; refine (if_neg (Bool.eq_false_iff.1 hq)).trans ?_; simp only [e1, GStep.after]; rfl⟩
        obtain ⟨o, w2, es, e2⟩ := e2
        rw [e2]; exact True.intro

theorem unwind_out (hA : Agree c X) (hR : ∀ f, ¬ X f → (c.fs[f]?).map (·.results) = (c.P.funcs[f]?).map (·.results)) (hf : OkFrame c.P X fr) (hc : ∀ x ∈ cs, OkFrame c.P X x) (hb : Bot fr.kind fr.roundOf cs) (hne : fr.defers = [] → cs ≠ []) (hr : Rel c w w') :
    Out c X c0 w w' (unwind c.P' true fr (cs ++ [c0]) none w') (unwind c.P true fr cs none w) := by
  have hds := hf.defers
  have hcat : ∀ p, fr.catches p = false := fun p => by
    unfold Frame.catches
    split
    · rename_i e
      exact absurd (hf.items _ (by rw [e]; exact List.mem_cons_self)) id
    · rfl
  cases hd : fr.defers with
  | cons d ds =>
    rw [hd] at hds
    have hd0 := hds d List.mem_cons_self
    have hds' : ∀ x ∈ ds, OkDef c.P x := fun x hx => hds x (List.mem_cons_of_mem _ hx)
    have hf' : ∀ ds', (∀ x ∈ ds', OkDef c.P x) → OkFrame c.P X { fr with defers := ds' } := fun ds' h => ⟨hf.1, hf.2, h, hf.4⟩
    by_cases ht : ∃ b, d.target = .collected b
    · obtain ⟨b, ht⟩ := ht
      have key : ∀ p cs w, unwind p true fr cs none w = GStep.after (seen p fr.fn ((Instr.takeDeferred b).runT p w #[]).2) (match ((Instr.takeDeferred b).runT p w #[]).1 with
          | .ok calls w => .go (wk { fr with defers := calls ++ ds } cs) w
          | .halt _ w => .ended (.stuck "the deferred calls of a range-over-func loop have been taken" (fr.pos p)) w) := fun p cs w => by
        obtain ⟨t, a⟩ := d
        simp only at ht
        subst ht
        simp only [unwind, hd]
        rfl
      rw [key, key]
      exact after_out (sim_takeDeferred hA b) hr fr.fn
        (fun r => match r with
          | .ok calls w => .go (wk { fr with defers := calls ++ ds } (cs ++ [c0])) w
          | .halt _ w => .ended (.stuck "the deferred calls of a range-over-func loop have been taken" (fr.pos c.P')) w)
        (fun r => match r with
          | .ok calls w => .go (wk { fr with defers := calls ++ ds } cs) w
          | .halt _ w => .ended (.stuck "the deferred calls of a range-over-func loop have been taken" (fr.pos c.P)) w)
        (fun l u u' hl => ⟨_, _, rfl, rfl, .on _ _ (hf' _ fun x hx => (List.mem_append.1 hx).elim (hl x) (hds' x)) hc hb⟩)
        (.inl fun v u' => ⟨_, _, _, rfl⟩) (fun h u' _ _ => ⟨_, _, _, rfl⟩)
    · have key : ∀ p cs w, unwind p true fr cs none w = callDeferred p { fr with defers := ds } cs none d w := fun p cs w => by
        obtain ⟨t, a⟩ := d
        unfold unwind
        rw [hd]
        cases t <;> first | exact absurd ⟨_, rfl⟩ ht | rfl
      rw [key, key]
      exact callDeferred_out hA (hf' ds hds') hc hb hr hd0
  | nil =>
    cases cs with
    | nil => exact absurd rfl (hne hd)
    | cons x cs =>
      have hx := hc x List.mem_cons_self
      have hcs : ∀ y ∈ cs, OkFrame c.P X y := fun y hy => hc y (List.mem_cons_of_mem _ hy)
      cases hm : fr.mode with
      | run => simp only [unwind, hd, hm]; exact True.intro
      | panicking chain =>
        simp only [unwind, hd, hm, hcat, Bool.false_eq_true, if_false, List.cons_append]
        exact .here hr (.on _ _ (okFrame_raise hx _) hcs (by rw [raise_kind, raise_round]; exact hb))
      | returning =>
        have h2 := hR fr.fn hf.fn
        cases he : c.P.funcs[fr.fn]? with
        | none =>
          rw [he] at h2
          have he' : c.P'.funcs[fr.fn]? = none := by
            show c.fs[fr.fn]? = none
            cases hq : c.fs[fr.fn]? with
            | none => rfl
            | some y => rw [hq] at h2; cases h2
          simp only [unwind, hd, hm, he, he']
          obtain ⟨g', g, e1, e2, hl⟩ := doReturn_leads (c0 := c0) (cs := x :: cs) (by simp) hf hc hb (fr.tmps.getD 0 undef) w w'
          rw [e1, e2]
          exact .here hr hl
        | some fn =>
          rw [he] at h2
          obtain ⟨fn', he', hres⟩ : ∃ fn', c.P'.funcs[fr.fn]? = some fn' ∧ fn'.results = fn.results := by
            show ∃ fn', c.fs[fr.fn]? = some fn' ∧ _
            cases hq : c.fs[fr.fn]? with
            | none => rw [hq] at h2; cases h2
            | some y => rw [hq] at h2; exact ⟨y, rfl, Option.some.inj h2⟩
          have hrs : results fn' fr.tmps = results fn fr.tmps := by unfold results; rw [hres]
          have key : ∀ p cs w fn, p.funcs[fr.fn]? = some fn → unwind p true fr cs none w = GStep.after (seen p fr.fn ((results fn fr.tmps).runT p w #[]).2) (match ((results fn fr.tmps).runT p w #[]).1 with
              | .ok v w => doReturn p true fr cs none v w
              | .halt (.stuck s) w => .ended (.stuck s (fr.pos p)) w
              | .halt _ w => .ended (.stuck "return: the result variables cannot be read" (fr.pos p)) w) := fun p cs w fn e => by
            simp only [unwind, hd, hm, e]
            rfl
          rw [key _ _ _ _ he', key _ _ _ _ he, hrs]
          refine after_out (sim_results hA fn fr.tmps) hr fr.fn
            (fun r => match r with
              | .ok v w => doReturn c.P' true fr (x :: cs ++ [c0]) none v w
              | .halt (.stuck s) w => .ended (.stuck s (fr.pos c.P')) w
              | .halt _ w => .ended (.stuck "return: the result variables cannot be read" (fr.pos c.P')) w)
            (fun r => match r with
              | .ok v w => doReturn c.P true fr (x :: cs) none v w
              | .halt (.stuck s) w => .ended (.stuck s (fr.pos c.P)) w
              | .halt _ w => .ended (.stuck "return: the result variables cannot be read" (fr.pos c.P)) w)
            (fun v u u' _ => doReturn_leads (by simp) hf hc hb v u u') (.inl fun v u' => ⟨_, _, _, rfl⟩) (fun h u' _ _ => ?_)
          cases h <;> exact ⟨_, _, _, rfl⟩

/-- A GOROUTINE'S WHOLE STEP. -/
theorem step_out (hA : Agree c X) (hR : ∀ f, ¬ X f → (c.fs[f]?).map (·.results) = (c.P.funcs[f]?).map (·.results)) (h0 : IsFloor c0) (hf : OkFrame c.P X fr) (hc : ∀ x ∈ cs, OkFrame c.P X x) (hb : Bot fr.kind fr.roundOf cs) (hne : fr.mode ≠ .run → fr.defers = [] → cs ≠ []) (hr : Rel c w w') :
    Out c X c0 w w' (stepG c.P' true (wk fr (cs ++ [c0])) w') (stepG c.P true (wk fr cs) w) := by
  cases hm : fr.mode with
  | run =>
    have key : ∀ p cs w, stepG p true (wk fr cs) w = stepG.exec p true true fr cs none w := fun p cs w => by
      simp only [stepG, hm]
    rw [key, key]
    exact exec_out hA h0 hf hc hb hr
  | returning =>
    have key : ∀ p cs w, stepG p true (wk fr cs) w = unwind p true fr cs none w := fun p cs w => by
      simp only [stepG, hm]
    rw [key, key]
    exact unwind_out hA hR hf hc hb (hne (by rw [hm]; simp)) hr
  | panicking =>
    have key : ∀ p cs w, stepG p true (wk fr cs) w = unwind p true fr cs none w := fun p cs w => by
      simp only [stepG, hm]
    rw [key, key]
    exact unwind_out hA hR hf hc hb (hne (by rw [hm]; simp)) hr
end

end Go.Proofs.Ythoaldiadgeonaa.Tr

namespace Go.Proofs.Ythoaldiadgeonaa.Tr
open Go.Conc Go.Proofs.Ythoaldiadgeonaa.Cr
set_option linter.unusedSimpArgs false

/-- A program in step with itself. -/
abbrev selfC (Q : Program) (V : Nat → Prop) : Cfg := { P := Q, fs := Q.funcs, Shun := fun _ => False, G := V, V := V, wv := fun r => .view ⟨r, 0, none⟩ 0, n0 := 0, O := OkObj Q fun _ => False }
abbrev NoF : FuncId → Prop := fun _ => False

/-- The world with another tape. -/
def re (τ : Tape) (w : World) : World := { w with tape := τ }
def Agr (τ : Tape) (w : World) : Prop := ∀ i q, i < w.drawn → τ i q = w.tape i q

structure St where
  fr : Frame
  cs : List Frame
  w : World

structure Inv (Q : Program) (V : Nat → Prop) (s : St) : Prop where
  fr : OkFrame Q NoF s.fr
  cs : ∀ x ∈ s.cs, OkFrame Q NoF x
  bot : Bot s.fr.kind s.fr.roundOf s.cs
  rel : Rel (selfC Q V) s.w s.w

def Leaf (s : St) : Prop := s.fr.mode ≠ .run ∧ s.fr.defers = [] ∧ s.cs = []

/-- The bottom frame: what gets to it ends the run. -/
structure Dead (Q : Program) (c0 : Frame) : Prop where
  floor : IsFloor c0
  dead : ∀ x, ((∃ v, x = c0.finish v) ∨ ∃ ch, x = c0.raise ch) → ∀ w, ∃ o w1, step Q (lone x [] w) = .ended o w1

section
variable {Q : Program} {V : Nat → Prop} {c0 : Frame} {f : FuncId} {R : Value → World → Prop} {s s' : St}

theorem lone_inj {fr fr' : Frame} {cs cs' : List Frame} {w w' : World} (h : lone fr cs w = lone fr' cs' w') : fr = fr' ∧ cs = cs' ∧ w = w' := by
  unfold lone at h
  injection h with h1 h2 h3
  have h2 := congrArg (fun a : Array Goroutine => a.toList) h2
  simp only [List.cons.injEq, Goroutine.mk.injEq, and_true, true_and] at h2
  exact ⟨h2.1, h2.2, h1⟩

theorem rel_re {c : Cfg} {w w' : World} (h : Rel c w w') (τ τ' : Tape) : Rel c (re τ w) (re τ' w') := ⟨h.size, h.off, h.poison, h.plain, h.noview, h.nopend, h.objs, h.os, h.output, h.shun, h.glob⟩

/-- A STEP LOOKS AT NO MORE OF THE TAPE THAN IT DRAWS. -/
theorem loc (hA : Agree (selfC Q V) NoF) (h0 : IsFloor c0) (hi : Inv Q V s) (hl : ¬ Leaf s) {τ : Tape} {g1 g2 : Goroutine} {w1 w2 : World} {es1 es2 : Array Event}
    (h1 : stepG Q true (wk s.fr (s.cs ++ [c0])) s.w = .go g1 w1 es1) (hτ : ∀ i q, i < w1.drawn → τ i q = s.w.tape i q)
    (h2 : stepG Q true (wk s.fr (s.cs ++ [c0])) (re τ s.w) = .go g2 w2 es2) :
    g2 = g1 ∧ w2 = re τ w1 ∧ w1.tape = s.w.tape ∧ s.w.drawn ≤ w1.drawn ∧ ∃ s1 : St, g1 = wk s1.fr (s1.cs ++ [c0]) ∧ s1.w = w1 ∧ Inv Q V s1 := by
  have hne : s.fr.mode ≠ .run → s.fr.defers = [] → s.cs ≠ [] := fun a b c => hl ⟨a, b, c⟩
  have hR : ∀ f, ¬ NoF f → ((selfC Q V).fs[f]?).map (·.results) = ((selfC Q V).P.funcs[f]?).map (·.results) := fun _ _ => rfl
  have o1 := step_out (w := re τ s.w) (w' := s.w) hA hR h0 hi.fr hi.cs hi.bot hne (rel_re hi.rel τ s.w.tape)
  have o2 := step_out (w := re τ s.w) (w' := re τ s.w) hA hR h0 hi.fr hi.cs hi.bot hne (rel_re hi.rel τ τ)
  change Out _ _ _ _ _ (stepG Q true _ _) (stepG Q true _ _) at o1
  change Out _ _ _ _ _ (stepG Q true _ _) (stepG Q true _ _) at o2
  rw [h1] at o1
  rw [h2] at o2
  obtain ⟨g, wb, es, e3, r3, t3, t3', d3, d3', z3, _, l3⟩ := o1 (fun j q hj => hτ (s.w.drawn + j) q (by omega))
  obtain ⟨g', wb', es', e4, r4, t4, t4', d4, d4', z4, _, l4⟩ := o2 (fun _ _ _ => rfl)
  have d4' : s.w.drawn ≤ w2.drawn := d4'
  have d3 : wb.drawn = s.w.drawn + (w1.drawn - s.w.drawn) := d3
  have d4 : wb'.drawn = s.w.drawn + (w2.drawn - s.w.drawn) := d4
  rw [e3] at e4
  injection e4 with eg ew _
  subst eg ew
  cases l3 with
  | entry _ _ _ _ hX => exact hX.elim
  | on fr1 cs1 hf1 hc1 hb1 =>
    generalize hgq : wk fr1 cs1 = gq at l4
    cases l4 with
    | entry _ _ _ _ hX => exact hX.elim
    | on fr2 cs2 hf2 hc2 hb2 =>
      injection hgq with e1 e2
      subst e1 e2
      refine ⟨rfl, ?_, t3', d3', ⟨fr1, cs1, w1⟩, rfl, rfl, hf1, hc1, hb1, ⟨rfl, fun _ _ => rfl, r3.poison, fun r o h ho => ⟨fun _ => by
        rw [r3.poison _ h] at ho
        rcases (selfC Q V).po_cases r with ⟨_, eo⟩ | ⟨hn, _⟩
        · rw [eo] at ho; cases ho; exact ⟨trivial, rfl⟩
        · exact absurd h hn, fun hn => absurd h hn⟩, r3.noview, r3.nopend, r3.objs, rfl, rfl, fun _ h => h.elim, fun r h => .inl h, Nat.zero_le _⟩⟩
      have hh : w2.heap = w1.heap := Array.ext_getElem? fun r => by
        by_cases hv : V r
        · exact (r4.poison r hv).trans (r3.poison r hv).symm
        · exact (r4.off r hv).symm.trans (r3.off r hv)
      have ho : w2.os = w1.os := r4.os.symm.trans r3.os
      have hu : w2.output = w1.output := r4.output.symm.trans r3.output
      have hd : w2.drawn = w1.drawn := by omega
      have ht : w2.tape = τ := t4'
      obtain ⟨h, t, d, o, u⟩ := w2
      obtain ⟨h', t', d', o', u'⟩ := w1
      simp only at hh ho hu hd ht
      subst hh ho hu hd ht
      rfl

/-- From here the run gets to the end of f, on every tape. -/
def Gets (Q : Program) (c0 : Frame) (f : FuncId) (R : Value → World → Prop) (s : St) : Prop :=
  ∀ τ, Agr τ s.w → ∃ n fr' w' v, runN Q n (lone s.fr (s.cs ++ [c0]) (re τ s.w)) = .next (lone fr' [c0] w') ∧ fr'.fn = f ∧ fr'.leaving Q w' (.returned v) ∧ R v w'

theorem leaf_of_end {fr' : Frame} {w' : World} {v : Value} {w : World} (h : lone s.fr (s.cs ++ [c0]) w = lone fr' [c0] w') (hv : fr'.leaving Q w' (.returned v)) : Leaf s := by
  obtain ⟨rfl, h2, rfl⟩ := lone_inj h
  obtain ⟨hm, hd, _⟩ := hv
  have : s.cs = [] := by
    cases hc : s.cs with
    | nil => rfl
    | cons x cs => rw [hc] at h2; simp at h2
  exact ⟨by rw [hm]; simp, hd, this⟩

/-- There is a next step, on every tape. -/
theorem Gets.step (hA : Agree (selfC Q V) NoF) (h0 : IsFloor c0) (hi : Inv Q V s) (hl : ¬ Leaf s) (hG : Gets Q c0 f R s) {τ : Tape} (hτ : Agr τ s.w) :
    ∃ g1 w1 es, stepG Q true (wk s.fr (s.cs ++ [c0])) (re τ s.w) = .go g1 w1 es := by
  obtain ⟨n, fr', w', v, hr, _, hv, _⟩ := hG τ hτ
  cases n with
  | zero => exact absurd (leaf_of_end (by simpa [runN] using hr) hv) hl
  | succ n =>
    have hne : s.fr.mode ≠ .run → s.fr.defers = [] → s.cs ≠ [] := fun a b c => hl ⟨a, b, c⟩
    have hR : ∀ f, ¬ NoF f → ((selfC Q V).fs[f]?).map (·.results) = ((selfC Q V).P.funcs[f]?).map (·.results) := fun _ _ => rfl
    have o1 := step_out (w := re τ s.w) (w' := re τ s.w) hA hR h0 hi.fr hi.cs hi.bot hne (rel_re hi.rel τ τ)
    change Out _ _ _ _ _ (stepG Q true _ _) (stepG Q true _ _) at o1
    cases hs : stepG Q true (wk s.fr (s.cs ++ [c0])) (re τ s.w) with
    | go g1 w1 es => exact ⟨g1, w1, es, rfl⟩
    | ended o w1 es =>
      have : Go.step Q (lone s.fr (s.cs ++ [c0]) (re τ s.w)) = .ended o w1 := step_lone_ended (by rw [show stepG Q true _ (re τ s.w) = _ from hs]; rfl)
      simp only [runN, this] at hr
      cases hr
    | _ => rw [hs] at o1; exact o1.elim

theorem lone_step {g1 : Goroutine} {w w1 : World} {es : Array Event} {fr : Frame} {cs : List Frame} (h : stepG Q true (wk s.fr (s.cs ++ [c0])) w = .go g1 w1 es) (hg : g1 = wk fr cs) : Go.step Q (lone s.fr (s.cs ++ [c0]) w) = .next (lone fr cs w1) := by
  subst hg
  exact step_lone_go (by rw [show stepG Q true _ w = _ from h]; rfl)

/-- The next state, on some tape. -/
def Nx (Q : Program) (c0 : Frame) (s' s : St) : Prop := ¬ Leaf s ∧ ∃ τ es, Agr τ s.w ∧ stepG Q true (wk s.fr (s.cs ++ [c0])) (re τ s.w) = .go (wk s'.fr (s'.cs ++ [c0])) s'.w es

theorem Nx.next (hA : Agree (selfC Q V) NoF) (h0 : IsFloor c0) (hi : Inv Q V s) (hG : Gets Q c0 f R s) (hN : Nx Q c0 s' s) :
    Inv Q V s' ∧ Gets Q c0 f R s' ∧ (∀ i q, i < s.w.drawn → s'.w.tape i q = s.w.tape i q) ∧ s.w.drawn ≤ s'.w.drawn ∧
      ∀ τ', Agr τ' s'.w → Go.step Q (lone s.fr (s.cs ++ [c0]) (re τ' s.w)) = .next (lone s'.fr (s'.cs ++ [c0]) (re τ' s'.w)) := by
  obtain ⟨hl, τ, es, hτ, h1⟩ := hN
  have hi2 : Inv Q V ⟨s.fr, s.cs, re τ s.w⟩ := ⟨hi.fr, hi.cs, hi.bot, rel_re hi.rel τ τ⟩
  have hl2 : ¬ Leaf ⟨s.fr, s.cs, re τ s.w⟩ := hl
  obtain ⟨_, _, ht, hd, s1, e1, e2, hi1⟩ := loc (τ := τ) hA h0 hi2 hl2 h1 (fun _ _ _ => rfl) h1
  have hs1 : s1 = s' := by
    obtain ⟨a, b, d⟩ := s1
    obtain ⟨a', b', d'⟩ := s'
    injection e1 with e3 e4
    simp only at e2 e3 e4
    subst e2 e3
    have := List.append_cancel_right e4
    subst this
    rfl
  subst hs1
  have ht : s1.w.tape = τ := ht
  have hd : s.w.drawn ≤ s1.w.drawn := hd
  have key : ∀ τ', Agr τ' s1.w → Go.step Q (lone s.fr (s.cs ++ [c0]) (re τ' s.w)) = .next (lone s1.fr (s1.cs ++ [c0]) (re τ' s1.w)) := fun τ' h' => by
    have ha : Agr τ' s.w := fun i q hq => by rw [h' i q (by omega), ht, hτ i q hq]
    obtain ⟨g2, w2, es2, h2⟩ := hG.step hA h0 hi hl ha
    obtain ⟨eg, ew, _⟩ := loc (τ := τ') hA h0 hi2 hl2 h1 (fun i q hq => by rw [h' i q hq, ht]; rfl) h2
    rw [ew] at h2
    exact lone_step h2 eg
  refine ⟨hi1, fun τ' h' => ?_, fun i q hq => by rw [ht, hτ i q hq], hd, key⟩
  have ha : Agr τ' s.w := fun i q hq => by rw [h' i q (by omega), ht, hτ i q hq]
  obtain ⟨n, fr', w', v, hr, hf, hv, hR⟩ := hG τ' ha
  cases n with
  | zero => exact absurd (leaf_of_end (by simpa [runN] using hr) hv) hl
  | succ n =>
    simp only [runN, key τ' h'] at hr
    exact ⟨n, fr', w', v, hr, hf, hv, hR⟩

/-- WELL-FOUNDED, OVER ALL ANSWERS. -/
theorem Gets.acc (hA : Agree (selfC Q V) NoF) (h0 : IsFloor c0) (hi : Inv Q V s) (hG : Gets Q c0 f R s) : Acc (Nx Q c0) s := by
  apply Classical.byContradiction
  intro hbad
  let B := { s : St // Inv Q V s ∧ Gets Q c0 f R s ∧ ¬ Acc (Nx Q c0) s }
  have nxt : ∀ b : B, ∃ b' : B, Nx Q c0 b'.1 b.1 := fun ⟨s, hi, hG, hb⟩ => by
    have : ∃ s', Nx Q c0 s' s ∧ ¬ Acc (Nx Q c0) s' := by
      apply Classical.byContradiction
      intro hn
      exact hb (Acc.intro s fun s' h => Classical.byContradiction fun h' => hn ⟨s', h, h'⟩)
    obtain ⟨s', h1, h2⟩ := this
    obtain ⟨i', g', _⟩ := h1.next hA h0 hi hG
    exact ⟨⟨s', i', g', h2⟩, h1⟩
  let F : Nat → B := fun k => Nat.rec ⟨s, hi, hG, hbad⟩ (fun _ b => Classical.choose (nxt b)) k
  have hF : ∀ k, Nx Q c0 (F (k + 1)).1 (F k).1 := fun k => Classical.choose_spec (nxt (F k))
  have hnx := fun k => (hF k).next hA h0 (F k).2.1 (F k).2.2.1
  have mono : ∀ j d, (F j).1.w.drawn ≤ (F (j + d)).1.w.drawn ∧ ∀ i q, i < (F j).1.w.drawn → (F (j + d)).1.w.tape i q = (F j).1.w.tape i q := fun j d => by
    induction d with
    | zero => exact ⟨Nat.le_refl _, fun _ _ _ => rfl⟩
    | succ d ih =>
      obtain ⟨_, _, h3, h4, _⟩ := hnx (j + d)
      exact ⟨Nat.le_trans ih.1 h4, fun i q hq => (h3 i q (Nat.lt_of_lt_of_le hq ih.1)).trans (ih.2 i q hq)⟩
  have both : ∀ j k i q, i < (F j).1.w.drawn → i < (F k).1.w.drawn → (F j).1.w.tape i q = (F k).1.w.tape i q := fun j k i q hj hk => by
    rcases Nat.le_total j k with h | h
    · obtain ⟨d, rfl⟩ := Nat.le.dest h
      exact ((mono j d).2 i q hj).symm
    · obtain ⟨d, rfl⟩ := Nat.le.dest h
      exact (mono k d).2 i q hk
  have hτ : ∃ τ : Tape, ∀ k, Agr τ (F k).1.w := by
    refine ⟨fun i q => open Classical in if h : ∃ k, i < (F k).1.w.drawn then (F (Classical.choose h)).1.w.tape i q else 0, fun k i q hq => ?_⟩
    have h : ∃ k, i < (F k).1.w.drawn := ⟨k, hq⟩
    have e : (open Classical in if h : ∃ k, i < (F k).1.w.drawn then (F (Classical.choose h)).1.w.tape i q else 0) = (F (Classical.choose h)).1.w.tape i q := dif_pos h
    exact e.trans (both _ _ i q (Classical.choose_spec h) hq)
  obtain ⟨τ, hτ⟩ := hτ
  have hrun : ∀ k, runN Q k (lone (F 0).1.fr ((F 0).1.cs ++ [c0]) (re τ (F 0).1.w)) = .next (lone (F k).1.fr ((F k).1.cs ++ [c0]) (re τ (F k).1.w)) := fun k => by
    induction k with
    | zero => rfl
    | succ k ih =>
      obtain ⟨_, _, _, _, h5⟩ := hnx k
      rw [runN_add, ih]
      simp only [runN, h5 τ (hτ (k + 1))]
  obtain ⟨n, fr', w', v, hr, _, hv, _⟩ := (F 0).2.2.1 τ (hτ 0)
  rw [hrun n] at hr
  injection hr with hr
  exact (hF n).1 (leaf_of_end hr hv)

/-- Behind a leaf. -/
theorem leaf_next (hd0 : Dead Q c0) (hi : Inv Q V s) (hl : Leaf s) (w : World) :
    (∃ o w1, Go.step Q (lone s.fr (s.cs ++ [c0]) w) = .ended o w1) ∨ ∃ x w1, Go.step Q (lone s.fr (s.cs ++ [c0]) w) = .next (lone x [] w1) ∧ ∃ o w2, Go.step Q (lone x [] w1) = .ended o w2 := by
  obtain ⟨hm, hds, hcs⟩ := hl
  have hk : s.fr.kind = .normal := by have := hi.bot; rw [hcs] at this; exact this.1
  have hcat : s.fr.catches Q = false := by
    unfold Frame.catches
    split
    · rename_i e
      exact absurd (hi.fr.items _ (by rw [e]; exact List.mem_cons_self)) id
    · rfl
  rw [hcs, List.nil_append]
  have fin : ∀ v w1, Go.step Q (lone s.fr [c0] w) = .next (lone (c0.finish v) [] w1) → (∃ o w1, Go.step Q (lone s.fr [c0] w) = .ended o w1) ∨ ∃ x w1, Go.step Q (lone s.fr [c0] w) = .next (lone x [] w1) ∧ ∃ o w2, Go.step Q (lone x [] w1) = .ended o w2 := fun v w1 h => .inr ⟨_, w1, h, hd0.dead _ (.inl ⟨v, rfl⟩) w1⟩
  cases hmo : s.fr.mode with
  | run => exact absurd hmo hm
  | panicking chain => exact .inr ⟨c0.raise chain, w, step_lone_go (by simp [stepG, unwind, hds, hmo, hcat]), hd0.dead _ (.inr ⟨chain, rfl⟩) w⟩
  | returning =>
    cases hf : Q.funcs[s.fr.fn]? with
    | none => exact fin (s.fr.tmps.getD 0 undef) w (step_lone_go (by simp [stepG, unwind, doReturn, hds, hmo, hf, hk]))
    | some fn =>
      cases hr : (results fn s.fr.tmps).run Q w with
      | ok v w1 => exact fin v w1 (step_lone_go (by simp [stepG, unwind, doReturn, hds, hmo, hf, hk, hr]))
      | halt x w1 =>
        left
        have : ∃ o, ((stepG Q true { frame := s.fr, callers := [c0], status := .running, dying := none } w).bare) = .ended o w1 := by
          simp only [stepG, unwind, hds, hmo, hf]
          have : (results fn s.fr.tmps).runT Q w #[] = (.halt x w1, ((results fn s.fr.tmps).runT Q w #[]).2) := Prod.ext ((Sem.runT_fst Q _ w #[]).trans hr) rfl
          rw [this]
          cases x <;> exact ⟨_, rfl⟩
        obtain ⟨o, h⟩ := this
        exact ⟨o, w1, step_lone_ended h⟩

/-- Along a run to a state that has callers. -/
theorem runs_gets (hA : Agree (selfC Q V) NoF) (hd0 : Dead Q c0) : ∀ (N : Nat) (s : St), Inv Q V s → Gets Q c0 f R s → ∀ s' : St, s'.cs ≠ [] → runN Q N (lone s.fr (s.cs ++ [c0]) s.w) = .next (lone s'.fr (s'.cs ++ [c0]) s'.w) →
    Inv Q V s' ∧ Gets Q c0 f R s' ∧ (s' = s ∨ Relation.TransGen (Nx Q c0) s' s) ∧ s'.w.tape = s.w.tape ∧ s.w.drawn ≤ s'.w.drawn
  | 0, s, hi, hG, s', _, h => by
    simp only [runN, Stepped.next.injEq] at h
    obtain ⟨h1, h2, h3⟩ := lone_inj h
    replace h2 := List.append_cancel_right h2
    clear h
    obtain ⟨a, b, d⟩ := s
    obtain ⟨a', b', d'⟩ := s'
    simp only at h1 h2 h3
    subst h1 h2 h3
    exact ⟨hi, hG, .inl rfl, rfl, Nat.le_refl _⟩
  | N + 1, s, hi, hG, s', hne, h => by
    by_cases hl : Leaf s
    · rcases leaf_next hd0 hi hl s.w with ⟨o, w1, e⟩ | ⟨x, w1, e, o, w2, e2⟩
      · simp only [runN, e] at h
        cases h
      · simp only [runN, e] at h
        cases N with
        | zero =>
          simp only [runN, Stepped.next.injEq] at h
          have := (lone_inj h).2.1
          simp at this
        | succ N =>
          simp only [runN, e2] at h
          cases h
    · obtain ⟨g1, w1, es, h1⟩ := hG.step (τ := s.w.tape) hA hd0.floor hi hl (fun _ _ _ => rfl)
      obtain ⟨_, _, ht, hd, s1, e1, e2, hi1⟩ := loc (τ := s.w.tape) hA hd0.floor hi hl h1 (fun _ _ _ => rfl) h1
      subst e2
      rw [e1] at h1
      have hN : Nx Q c0 s1 s := ⟨hl, s.w.tape, es, fun _ _ _ => rfl, h1⟩
      obtain ⟨_, hG1, _, _, _⟩ := hN.next hA hd0.floor hi hG
      have hst := lone_step (w := s.w) h1 rfl
      simp only [runN, hst] at h
      obtain ⟨a, b, d, e, f'⟩ := runs_gets hA hd0 N s1 hi1 hG1 s' hne h
      exact ⟨a, b, .inr (d.elim (fun e => e ▸ .single hN) fun d => .tail d hN), e.trans ht, Nat.le_trans hd f'⟩

/-- At a leaf the run is at its end. -/
theorem Gets.leaf (hd0 : Dead Q c0) (hi : Inv Q V s) (hl : Leaf s) (hG : Gets Q c0 f R s) {τ : Tape} (hτ : Agr τ s.w) : s.fr.fn = f ∧ ∃ v, s.fr.leaving Q (re τ s.w) (.returned v) ∧ R v (re τ s.w) := by
  obtain ⟨n, fr', w', v, hr, hf, hv, hR⟩ := hG τ hτ
  cases n with
  | zero =>
    simp only [runN, Stepped.next.injEq] at hr
    obtain ⟨rfl, _, rfl⟩ := lone_inj hr
    exact ⟨hf, v, hv, hR⟩
  | succ n =>
    rcases leaf_next hd0 hi hl (re τ s.w) with ⟨o, w1, e⟩ | ⟨x, w1, e, o, w2, e2⟩
    · simp only [runN, e] at hr
      cases hr
    · simp only [runN, e] at hr
      cases n with
      | zero =>
        simp only [runN, Stepped.next.injEq] at hr
        have := (lone_inj hr).2.1
        simp at this
      | succ n =>
        simp only [runN, e2] at hr
        cases hr
end

end Go.Proofs.Ythoaldiadgeonaa.Tr

namespace Go.Proofs.Ythoaldiadgeonaa.Tr
open Go.Conc Go.Proofs.Ythoaldiadgeonaa.Cr
open Go.ConcN (sumTo)
set_option linter.unusedSimpArgs false

/-- What was there at the start and is not to be known. -/
structure Old where
  V : Nat → Prop
  wv : Nat → Obj
  n0 : Nat
  tp : Tape

abbrev cfgOf (P : Program) (fs : Array Func) (X : FuncId → Prop) (V : Old) (Shun : Loc → Prop) (G : Nat → Prop) : Cfg := { P := P, fs := fs, Shun := Shun, G := G, V := V.V, wv := V.wv, n0 := V.n0, O := OkObj P X }
abbrev progOf (P : Program) (fs : Array Func) : Program := { toTables := P.toTables, funcs := fs }

/-- The two programs; how the functions of X are served. -/
structure Bridge (P : Program) (fs : Array Func) (X : FuncId → Prop) (V : Old) (c0 : Frame) : Prop where
  agree : ∀ Shun G, Agree (cfgOf P fs X V Shun G) X
  res : ∀ f, ¬ X f → (fs[f]?).map (·.results) = (P.funcs[f]?).map (·.results)
  self : Agree (selfC (progOf P fs) V.V) NoF
  dead : Dead (progOf P fs) c0
  serve : ∀ fo, X fo → ∀ (args : Array Value) (x : Frame) (cs : List Frame) (wp : World), Rel (selfC (progOf P fs) V.V) wp wp →
    (∃ N fr1 w1, runN (progOf P fs) N (lone (Frame.enter (progOf P fs) fo args .normal) (x :: cs ++ [c0]) wp) = .next (lone fr1 (x :: cs ++ [c0]) w1) ∧ ∃ o w2, Go.step (progOf P fs) (lone fr1 (x :: cs ++ [c0]) w1) = .ended o w2) ∨
    ∃ N fr1 w1 v, runN (progOf P fs) N (lone (Frame.enter (progOf P fs) fo args .normal) (x :: cs ++ [c0]) wp) = .next (lone fr1 (x :: cs ++ [c0]) w1) ∧ fr1.leaving (progOf P fs) w1 (.returned v) ∧
      ∀ (Shun : Loc → Prop) (G : Nat → Prop) (gs : Array Goroutine) (w : World) (sl : Option (Nat × Nat)) (t : Trace) (q : Nat → Nat),
        gs[0]? = some (wk (Frame.enter P fo args .normal) (x :: cs)) → Fr P Shun gs w t q → Rel (cfgOf P fs X V Shun G) w wp →
        ∃ (N : Nat) (gs' : Array Goroutine) (wr : World) (sl' : Option (Nat × Nat)) (t' : Trace) (q' : Nat → Nat) (Shun' : Loc → Prop) (G' : Nat → Prop),
          runNT P N (crowd gs w sl) t = (.next (crowd gs' wr sl'), t') ∧ gs'[0]? = some (wk (x.finish v) cs) ∧ Fr P Shun' gs' wr t' q' ∧ Rel (cfgOf P fs X V Shun' G') wr w1 ∧ wr.tape = w.tape

/-- What is told at the end. -/
def Told2 (P : Program) (fs : Array Func) (X : FuncId → Prop) (V : Old) (R : Value → World → Prop) (v : Value) (w : World) : Prop := ∃ w' Shun G, R v w' ∧ Rel (cfgOf P fs X V Shun G) w w' ∧ w.tape = V.tp

section
variable {P : Program} {fs : Array Func} {X : FuncId → Prop} {V : Old} {c0 : Frame} {f : FuncId} {R : Value → World → Prop}

/-- P's goroutine 0 beside P''s. -/
structure Pair (P : Program) (fs : Array Func) (X : FuncId → Prop) (V : Old) (s : St) (Shun : Loc → Prop) (G : Nat → Prop) (g : Goroutine) (w : World) : Prop where
  fr : OkFrame P X s.fr
  cs : ∀ x ∈ s.cs, OkFrame P X x
  bot : Bot s.fr.kind s.fr.roundOf s.cs
  g : g = wk s.fr s.cs
  rel : Rel (cfgOf P fs X V Shun G) w s.w
  tape : w.tape = V.tp
/-- .. at the entry of a function of X. -/
structure PairX (P : Program) (fs : Array Func) (X : FuncId → Prop) (V : Old) (s : St) (Shun : Loc → Prop) (G : Nat → Prop) (g : Goroutine) (w : World) (fo : FuncId) (args : Array Value) : Prop where
  x : X fo
  ne : s.cs ≠ []
  fr : s.fr = Frame.enter (progOf P fs) fo args .normal
  cs : ∀ x ∈ s.cs, OkFrame P X x
  bot : Bot .normal none s.cs
  g : g = wk (Frame.enter P fo args .normal) s.cs
  rel : Rel (cfgOf P fs X V Shun G) w s.w
  tape : w.tape = V.tp

theorem rel_at {c : Cfg} {w w' : World} (h : Rel c w w') (d : Nat) : Rel c (w.at d) w' := ⟨h.size, h.off, h.poison, h.plain, h.noview, h.nopend, h.objs, h.os, h.output, h.shun, h.glob⟩

theorem runN_then {m m' : Machine} {r : Stepped} {N K : Nat} (h : runN P N m = .next m') (hk : runN P K m' = r) : runN P (N + K) m = r := by
  rw [runN_add, h]; exact hk

/-- The run ends well. -/
abbrev EndsWell (P : Program) (Post : Value → World → Prop) (m : Machine) (t : Trace) : Prop :=
  ∃ M last o w' t', runNT P (M + 1) m t = (.ended o w', t') ∧ runN P M m = .next last ∧ Go.step P last = .ended o w' ∧ Good P Post last o w' t'
theorem EndsWell.ahead {Post : Value → World → Prop} {m m' : Machine} {t t' : Trace} {N : Nat} (h : runNT P N m t = (.next m', t')) (hk : EndsWell P Post m' t') : EndsWell P Post m t := by
  obtain ⟨M, last, o, w', t2, h1, h2, h3, h4⟩ := hk
  have hN : runN P N m = .next m' := by rw [← runNT_fst P N m t, h]
  refine ⟨N + M, last, o, w', t2, ?_, runN_then hN h2, h3, h4⟩
  rw [show N + M + 1 = N + (M + 1) by omega, runNT_add, h]
  exact h1

/-- One step of the two. -/
theorem pair_step (B : Bridge P fs X V c0) {s : St} {Shun : Loc → Prop} {G : Nat → Prop} {gs : Array Goroutine} {a : Goroutine} {w : World} {sl : Option (Nat × Nat)} {t : Trace} {q : Nat → Nat}
    (hi : Inv (progOf P fs) V.V s) (hG : Gets (progOf P fs) c0 f R s) (hl : ¬ Leaf s) (hp : Pair P fs X V s Shun G a w) (h0 : gs[0]? = some a) (hF : Fr P Shun gs w t q) :
    ∃ (N : Nat) (gs' : Array Goroutine) (a' : Goroutine) (w' : World) (sl' : Option (Nat × Nat)) (t' : Trace) (q' : Nat → Nat) (s1 : St),
      runNT P N (crowd gs w sl) t = (.next (crowd gs' w' sl'), t') ∧ gs'[0]? = some a' ∧ Fr P Shun gs' w' t' q' ∧ Nx (progOf P fs) c0 s1 s ∧ (Pair P fs X V s1 Shun G a' w' ∨ ∃ fo args, PairX P fs X V s1 Shun G a' w' fo args) := by
  have hne : s.fr.mode ≠ .run → s.fr.defers = [] → s.cs ≠ [] := fun a b c => hl ⟨a, b, c⟩
  have hA := B.agree Shun G
  have e0 := hp.g
  have key : Goes P true AtRel (DF Shun) (fun a' w' => ∃ s1, Nx (progOf P fs) c0 s1 s ∧ (Pair P fs X V s1 Shun G a' w' ∨ ∃ fo args, PairX P fs X V s1 Shun G a' w' fo args)) 1 a w := by
    refine .inr ⟨by rw [e0], fun w₁ hr => ?_⟩
    obtain ⟨d, rfl⟩ := hr
    -- the tape of P''s step: as P's is from here on
    obtain ⟨τ, hτ⟩ : ∃ τ : Tape, τ = fun i q => if i < s.w.drawn then s.w.tape i q else (w.at d).tape ((w.at d).drawn + (i - s.w.drawn)) q := ⟨_, rfl⟩
    have hag : Agr τ s.w := fun i q hq => by rw [hτ]; simp [hq]
    obtain ⟨g1, w1, es, h1⟩ := hG.step B.self B.dead.floor hi hl hag
    have hrel : Rel (cfgOf P fs X V Shun G) (w.at d) (re τ s.w) := by
      have := rel_at hp.rel d
      exact ⟨this.size, this.off, this.poison, this.plain, this.noview, this.nopend, this.objs, this.os, this.output, this.shun, this.glob⟩
    have o1 := step_out (c0 := c0) hA B.res B.dead.floor hp.fr hp.cs hp.bot hne hrel
    change Out _ _ _ _ _ (stepG (progOf P fs) true _ _) (stepG P true _ _) at o1
    rw [h1] at o1
    obtain ⟨g, wb, es', e3, r3, t3, t3', d3, d3', z3, ev, l3⟩ := o1 (fun j q _ => by
      show (w.at d).tape ((w.at d).drawn + j) q = τ (s.w.drawn + j) q
      have e1 : ¬ s.w.drawn + j < s.w.drawn := by omega
      have e2 : s.w.drawn + j - s.w.drawn = j := by omega
      rw [hτ]
      simp only [if_neg e1, e2])
    rw [e0, e3]
    refine ⟨⟨z3, ev⟩, fun w₂ hr2 => ?_⟩
    obtain ⟨d2, rfl⟩ := hr2
    cases l3 with
    | on fr1 cs1 hf1 hc1 hb1 => exact ⟨⟨fr1, cs1, w1⟩, ⟨hl, τ, es, hag, h1⟩, .inl ⟨hf1, hc1, hb1, rfl, rel_at r3 d2, t3.trans hp.tape⟩⟩
    | entry fo args cs1 hne1 hX hc1 hb1 => exact ⟨⟨Frame.enter (progOf P fs) fo args .normal, cs1, w1⟩, ⟨hl, τ, es, hag, h1⟩, .inr ⟨fo, args, hX, hne1, rfl, hc1, hb1, rfl, rel_at r3 d2, t3.trans hp.tape⟩⟩
  obtain ⟨N, gs', a', w', sl', t', q', hr, _, h0', ⟨s1, hN, hs⟩, hF', _⟩ := fr_walk (fun _ _ _ h => h) _ 1 gs a w sl t q (Nat.le_refl _) h0 hF key
  exact ⟨N, gs', a', w', sl', t', q', s1, hr, h0', hF', hN, hs⟩

/-- At the end. -/
theorem pair_end (B : Bridge P fs X V c0) (hres : ∀ fn, P.funcs[f]? = some fn → ∀ tmps, ∃ v, results fn tmps = pure v) (hnx : ¬ X f) (hinit : P.inits.idxOf? f = none) {s : St} {Shun : Loc → Prop} {G : Nat → Prop} {gs : Array Goroutine} {a : Goroutine} {w : World} {sl : Option (Nat × Nat)} {t : Trace} {q : Nat → Nat}
    (hi : Inv (progOf P fs) V.V s) (hG : Gets (progOf P fs) c0 f R s) (hl : Leaf s) (hp : Pair P fs X V s Shun G a w) (h0 : gs[0]? = some a) (hF : Fr P Shun gs w t q) : EndsWell P (Told2 P fs X V R) (crowd gs w sl) t := by
  obtain ⟨hfn, v, ⟨hm, hd, hk, fn', hf', hrun⟩, hR⟩ := hG.leaf (τ := s.w.tape) B.dead hi hl (fun _ _ _ => rfl)
  obtain ⟨fn, hf⟩ : ∃ fn, P.funcs[f]? = some fn := by
    have := B.res f hnx
    rw [← hfn] at this ⊢
    rw [show fs[s.fr.fn]? = some fn' from hf'] at this
    cases h : P.funcs[s.fr.fn]? with
    | none => rw [h] at this; cases this
    | some y => exact ⟨y, rfl⟩
  have hrr : fn'.results = fn.results := by
    have := B.res f hnx
    rw [hf, ← hfn, show fs[s.fr.fn]? = some fn' from hf'] at this
    exact Option.some.inj this
  have hcs := hl.2.2
  obtain ⟨u, hu⟩ := hres fn hf s.fr.tmps
  have hrs : results fn' s.fr.tmps = results fn s.fr.tmps := by unfold results; rw [hrr]
  rw [hrs, hu] at hrun
  have huv : u = v := by injection hrun
  subst huv
  refine beside_ends (D := fun _ _ _ => False) (Shun := Shun) (B := w.heap.size) (n := 0) (fun _ _ _ h => h.elim) h0 hF.leav hF.past fun w₁ hr => ?_
  obtain ⟨d, rfl⟩ := hr
  rw [hp.g]
  refine ⟨rfl, u, seen P s.fr.fn #[] ++ #[], ?_, fun e he => ?_, s.w, Shun, G, hR, rel_at hp.rel d, hp.tape⟩
  · have hf2 : P.funcs[s.fr.fn]? = some fn := hfn ▸ hf
    have hin : P.inits.idxOf? s.fr.fn = none := hfn ▸ hinit
    cases hmm : s.fr.mode with
    | run => rw [hmm] at hm; cases hm
    | panicking => rw [hmm] at hm; cases hm
    | returning =>
      have hrt : (results fn s.fr.tmps).runT P (w.at d) #[] = (.ok u (w.at d), #[]) := by rw [hu]; rfl
      simp only [stepG, unwind, hd, hmm, hf2, hrt, hcs, doReturn, hk, hin]
      rfl
  · simp [seen] at he

theorem trans_gen {α : Type} {r : α → α → Prop} {a b d : α} (h : Relation.TransGen r a b) (k : Relation.TransGen r b d) : Relation.TransGen r a d := by
  induction k with
  | single k => exact .tail h k
  | tail _ k ih => exact .tail ih k

/-- THE TRANSFER. -/
theorem pair_ends (B : Bridge P fs X V c0) (hres : ∀ fn, P.funcs[f]? = some fn → ∀ tmps, ∃ v, results fn tmps = pure v) (hnx : ¬ X f) (hinit : P.inits.idxOf? f = none) {s : St} (hacc : Acc (Relation.TransGen (Nx (progOf P fs) c0)) s) :
    ∀ (Shun : Loc → Prop) (G : Nat → Prop) (gs : Array Goroutine) (a : Goroutine) (w : World) (sl : Option (Nat × Nat)) (t : Trace) (q : Nat → Nat), Inv (progOf P fs) V.V s → Gets (progOf P fs) c0 f R s → Pair P fs X V s Shun G a w → gs[0]? = some a → Fr P Shun gs w t q →
      EndsWell P (Told2 P fs X V R) (crowd gs w sl) t := by
  induction hacc with
  | intro s _ ih =>
    intro Shun G gs a w sl t q hi hG hp h0 hF
    by_cases hl : Leaf s
    · exact pair_end B hres hnx hinit hi hG hl hp h0 hF
    obtain ⟨N, gs1, a1, w1, sl1, t1, q1, s1, hr1, h01, hF1, hN, hs⟩ := pair_step (sl := sl) B hi hG hl hp h0 hF
    refine EndsWell.ahead hr1 ?_
    obtain ⟨hi1, hG1, _⟩ := hN.next B.self B.dead.floor hi hG
    rcases hs with hs | ⟨fo, args, hs⟩
    · exact ih s1 (.single hN) _ _ _ _ _ _ _ _ hi1 hG1 hs h01 hF1
    · obtain ⟨x, cs, ecs⟩ : ∃ x cs, s1.cs = x :: cs := by
        cases h : s1.cs with
        | nil => exact absurd h hs.ne
        | cons x cs => exact ⟨x, cs, rfl⟩
      have hc := hs.cs
      have hb := hs.bot
      have hg := hs.g
      rw [ecs] at hc hb hg
      rcases B.serve fo hs.x args x cs s1.w hi1.rel with ⟨K, fr1, w2, hrun, o, w3, hend⟩ | ⟨K, fr1, w2, v, hrun, hleav, hserve⟩
      · -- P' does not get through: but it does
        exfalso
        obtain ⟨hi2, hG2, _⟩ := runs_gets B.self B.dead K s1 hi1 hG1 ⟨fr1, x :: cs, w2⟩ (by simp) (by rw [hs.fr, ecs]; exact hrun)
        obtain ⟨g, w4, es, h4⟩ := hG2.step (τ := w2.tape) B.self B.dead.floor hi2 (fun h => by have := h.2.2; cases this) (fun _ _ _ => rfl)
        have h5 : Go.step (progOf P fs) (lone fr1 (x :: cs ++ [c0]) w2) = .ended o w3 := hend
        obtain ⟨_, _, _, _, s5, e5, _⟩ := loc (τ := w2.tape) B.self B.dead.floor hi2 (fun h => by have := h.2.2; cases this) h4 (fun _ _ _ => rfl) h4
        have h6 := lone_step (s := ⟨fr1, x :: cs, w2⟩) h4 e5
        have h6 : Go.step (progOf P fs) (lone fr1 (x :: cs ++ [c0]) w2) = _ := h6
        rw [h5] at h6
        cases h6
      · obtain ⟨hi2, hG2, hR2, _⟩ := runs_gets B.self B.dead K s1 hi1 hG1 ⟨fr1, x :: cs, w2⟩ (by simp) (by rw [hs.fr, ecs]; exact hrun)
        have hl2 : ¬ Leaf ⟨fr1, x :: cs, w2⟩ := fun h => by have := h.2.2; cases this
        obtain ⟨g, w4, es, h4⟩ := hG2.step (τ := w2.tape) B.self B.dead.floor hi2 hl2 (fun _ _ _ => rfl)
        obtain ⟨_, _, _, _, s5, e5, e6, hi5⟩ := loc (τ := w2.tape) B.self B.dead.floor hi2 hl2 h4 (fun _ _ _ => rfl) h4
        have h6 := lone_step (s := ⟨fr1, x :: cs, w2⟩) h4 e5
        have h6 : Go.step (progOf P fs) (lone fr1 (x :: (cs ++ [c0])) w2) = _ := h6
        rw [step_leave_returned hleav] at h6
        injection h6 with h6
        obtain ⟨e7, e8, e9⟩ := lone_inj h6
        replace e8 := List.append_cancel_right e8
        obtain rfl : s5 = ⟨x.finish v, cs, w2⟩ := by
          obtain ⟨a5, b5, d5⟩ := s5
          simp only at e6 e7 e8 e9
          subst e7 e8 e6 e9
          rfl
        rw [e5] at h4
        have hN5 : Nx (progOf P fs) c0 ⟨x.finish v, cs, w2⟩ ⟨fr1, x :: cs, w2⟩ := ⟨hl2, w2.tape, es, fun _ _ _ => rfl, by rw [← e6] at h4; exact h4⟩
        obtain ⟨_, hG5, _⟩ := hN5.next B.self B.dead.floor hi2 hG2
        obtain ⟨M, gs6, w6, sl6, t6, q6, Shun6, G6, r6, h06, hF6, hrel6, ht6⟩ := hserve Shun G gs1 w1 sl1 t1 q1 (by rw [h01, hg]) hF1 hs.rel
        refine EndsWell.ahead r6 ?_
        have hxf := hc x List.mem_cons_self
        have hT : Relation.TransGen (Nx (progOf P fs) c0) ⟨x.finish v, cs, w2⟩ s := by
          rcases hR2 with h | h
          · rw [h] at hN5; exact .tail (.single hN5) hN
          · exact .tail (trans_gen (.single hN5) h) hN
        exact ih _ hT _ _ _ _ _ _ _ _ hi5 hG5 ⟨okFrame_finish hxf v, fun y hy => hc y (List.mem_cons_of_mem _ hy), by rw [finish_kind, finish_round]; exact hb, rfl, hrel6, ht6.trans hs.tape⟩ h06 hF6

end

end Go.Proofs.Ythoaldiadgeonaa.Tr
