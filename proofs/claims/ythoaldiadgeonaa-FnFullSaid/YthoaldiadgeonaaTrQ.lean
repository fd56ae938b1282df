/-
  Two programs in step: what a frame carries out.
-/
import Derived.Test.YthoaldiadgeonaaGTrC
namespace Go.Proofs.Ythoaldiadgeonaa.Tr
open Go.Conc Go.Proofs.Ythoaldiadgeonaa.Cr
set_option linter.unusedSimpArgs false

section
variable {c : Cfg} {X : FuncId → Prop} {c0 : Frame} {w w' : World} {fr : Frame} {cs : List Frame}

/-- A frame is left: by its end, by a jump. -/
theorem leave_out (hA : Agree c X) (hf : OkFrame c.P X fr) (hc : ∀ x ∈ cs, OkFrame c.P X x) (hb : Bot fr.kind fr.roundOf cs) (hr : Rel c w w') (jump : Option Code) (hj : ∀ k, jump = some k → okCode c.P false k = true) {K' K : GStep}
    (e0 : fr.roundOf = none → ((∃ o x es, K' = .ended o x es) ∨ (K' = .go (wk { fr with mode := .returning } (cs ++ [c0])) w' ∧ K = .go (wk { fr with mode := .returning } cs) w)))
    (e1 : ∀ l, fr.roundOf = some l → K' = GStep.after (seen c.P' fr.fn ((Instr.endRound l jump).runT c.P' w' #[]).2) (match ((Instr.endRound l jump).runT c.P' w' #[]).1 with | .ok v w => doReturn c.P' true fr (cs ++ [c0]) none v w | .halt _ w => .ended (.stuck "range over a function: no such loop" (fr.pos c.P')) w)
      ∧ K = GStep.after (seen c.P fr.fn ((Instr.endRound l jump).runT c.P w #[]).2) (match ((Instr.endRound l jump).runT c.P w #[]).1 with | .ok v w => doReturn c.P true fr cs none v w | .halt _ w => .ended (.stuck "range over a function: no such loop" (fr.pos c.P)) w)) :
    Out c X c0 w w' K' K := by
  cases hro : fr.roundOf with
  | none =>
    rcases e0 hro with ⟨o, x, es, e⟩ | ⟨e, e'⟩
    · rw [e]; exact True.intro
    · rw [e, e']; exact .here hr (.on _ _ ⟨hf.1, hf.2, hf.3, hf.4⟩ hc hb)
  | some l =>
    obtain ⟨a, b⟩ := e1 l hro
    rw [a, b]
    have hne : cs ≠ [] := fun e => by subst e; exact absurd hb.2 (by rw [hro]; simp)
    exact after_out (sim_endRound hA l jump hj) hr fr.fn
      (fun r => match r with | .ok v w => doReturn c.P' true fr (cs ++ [c0]) none v w | .halt _ w => .ended (.stuck "range over a function: no such loop" (fr.pos c.P')) w)
      (fun r => match r with | .ok v w => doReturn c.P true fr cs none v w | .halt _ w => .ended (.stuck "range over a function: no such loop" (fr.pos c.P)) w)
      (fun v u u' _ => doReturn_leads hne hf hc hb v u u') (.inl fun v u' => ⟨_, _, _, rfl⟩) (fun h u' _ _ => ⟨_, _, _, rfl⟩)

set_option maxHeartbeats 4000000 in
theorem exec_out (hA : Agree c X) (h0 : IsFloor c0) (hf : OkFrame c.P X fr) (hc : ∀ x ∈ cs, OkFrame c.P X x) (hb : Bot fr.kind fr.roundOf cs) (hr : Rel c w w') :
    Out c X c0 w w' (stepG.exec c.P' true true fr (cs ++ [c0]) none w') (stepG.exec c.P true true fr cs none w) := by
  have to : ∀ k : List Item, (∀ it ∈ k, OkItem c.P fr.roundOf.isNone it) → Out c X c0 w w' (.go (wk { fr with todo := k } (cs ++ [c0])) w') (.go (wk { fr with todo := k } cs) w) := fun k hk => .here hr (.on _ _ (okFrame_todo hf hk) hc hb)
  have hi := hf.items
  cases ht : fr.todo with
  | nil =>
    refine leave_out hA hf hc hb hr none (by simp) (fun e => .inr ?_) (fun l e => ?_)
    · constructor <;> simp [stepG.exec, ht, e]
    · constructor <;> simp only [stepG.exec, ht, e] <;> rfl
  | cons it k =>
    rw [ht] at hi
    have hit := hi it List.mem_cons_self
    have hk : ∀ x ∈ k, OkItem c.P fr.roundOf.isNone x := fun x hx => hi x (List.mem_cons_of_mem _ hx)
    have two : ∀ a b : Item, OkItem c.P fr.roundOf.isNone a → OkItem c.P fr.roundOf.isNone b → ∀ x ∈ a :: b :: k, OkItem c.P fr.roundOf.isNone x := fun a b ha hb x hx => by
      rcases List.mem_cons.1 hx with rfl | hx
      · exact ha
      · exact (List.mem_cons.1 hx).elim (fun e => e ▸ hb) (hk x)
    have one : ∀ a : Item, OkItem c.P fr.roundOf.isNone a → ∀ x ∈ a :: k, OkItem c.P fr.roundOf.isNone x := fun a ha x hx => (List.mem_cons.1 hx).elim (fun e => e ▸ ha) (hk x)
    cases it with
    | inBlock id => simp only [stepG.exec, ht]; exact to _ hk
    | inScope b => simp only [stepG.exec, ht]; exact to _ hk
    | inLoop b => simp only [stepG.exec, ht]; exact to _ (two _ _ hit hit)
    | call => exact absurd hit id
    | extern => exact absurd hit id
    | inRangeFunc l => simp only [stepG.exec, ht]; exact True.intro
    | beginRound =>
      have key : ∀ p cs w, stepG.exec p true true fr cs none w = stepG.apply p true fr cs none (do fr.roundOf.elim (stuck "beginRound: no round") Instr.beginRound; pure .skip) w := fun p cs w => by
        simp only [stepG.exec, ht]
      rw [key, key]
      refine apply_out hA h0 hf hc hb (sim_skip ?_) hr
      cases fr.roundOf with
      | none => exact sim_stuck _
      | some l => exact sim_beginRound hA l
    | endRangeFunc l =>
      have key : ∀ p cs w, stepG.exec p true true fr cs none w = GStep.after (seen p fr.fn ((Instr.endLoop l).runT p w #[]).2) (match ((Instr.endLoop l).runT p w #[]).1 with
          | .ok jump w => .go (wk { fr with todo := (jump.map Item.code).toList ++ k } cs) w
          | .halt (.panic v) w => .go (wk (fr.raise [{ v, recovered := false }]) cs) w
          | .halt _ w => .ended (.stuck "range over a function: no such loop" (fr.pos p)) w) := fun p cs w => by
        simp only [stepG.exec, ht]; rfl
      rw [key, key]
      refine after_out (sim_endLoop hA l) hr fr.fn
        (fun r => match r with
          | .ok jump w => .go (wk { fr with todo := (jump.map Item.code).toList ++ k } (cs ++ [c0])) w
          | .halt (.panic v) w => .go (wk (fr.raise [{ v, recovered := false }]) (cs ++ [c0])) w
          | .halt _ w => .ended (.stuck "range over a function: no such loop" (fr.pos c.P')) w)
        (fun r => match r with
          | .ok jump w => .go (wk { fr with todo := (jump.map Item.code).toList ++ k } cs) w
          | .halt (.panic v) w => .go (wk (fr.raise [{ v, recovered := false }]) cs) w
          | .halt _ w => .ended (.stuck "range over a function: no such loop" (fr.pos c.P)) w)
        (fun j u u' hj => ⟨_, _, rfl, rfl, .on _ _ (okFrame_todo hf fun it hit => ?_) hc hb⟩)
        (.inr fun v u u' => ⟨_, _, rfl, rfl, .on _ _ (okFrame_raise hf _) hc (by rw [raise_kind, raise_round]; exact hb)⟩)
        (fun h u' _ hv => ?_)
      · cases j with
        | none => exact hk it hit
        | some q =>
          rcases List.mem_cons.1 hit with rfl | hit
          · exact okCode_mono (hj q rfl)
          · exact hk it hit
      · cases h <;> first | exact absurd rfl (hv _) | exact ⟨_, _, _, rfl⟩
    | inRegion ops todo =>
      have hops : (ops.all fun o => okOp c.P fr.roundOf.isNone o.op) = true := hit
      cases todo with
      | nil => simp only [stepG.exec, ht]; exact to _ hk
      | cons i rest =>
        have hfin := Out.here hr (.on (c0 := c0) (fr.finish undef) cs (okFrame_finish hf undef) hc (by rw [finish_kind, finish_round]; exact hb))
        have key : ∀ p cs w, stepG.exec p true true fr cs none w = if ((ops[i]?).map (Region.wanted · (yielded ops fr.tmps))).getD false then stepG.oper p true fr cs none w else .go (wk (fr.finish undef) cs) w := fun p cs w => by
          simp only [stepG.exec, ht]
        rw [key, key]
        by_cases hwt : ((ops[i]?).map (Region.wanted · (yielded ops fr.tmps))).getD false = true
        · rw [if_pos hwt, if_pos hwt]
          have hop : fr.oper? = ops[i]? := by simp only [Frame.oper?, ht]
          cases ho : ops[i]? with
          | none =>
            have e : ∀ p cs w, stepG.oper p true fr cs none w = .ended (.stuck "no operation here" (fr.pos p)) w := fun p cs w => by simp only [stepG.oper, hop, ho]
            rw [e]; exact True.intro
          | some o =>
            have hok : okOp c.P fr.roundOf.isNone o.op = true := by
              obtain ⟨hlt, e⟩ := Array.getElem?_eq_some_iff.1 ho
              have := Array.all_eq_true.1 hops i hlt
              rw [e] at this; exact this
            have e : ∀ p cs w, stepG.oper p true fr cs none w = stepG.apply p true fr cs none (execOp fr.eval o) w := fun p cs w => by
              simp only [stepG.oper, hop, ho]
              cases hro : fr.roundOf with
              | none => rfl
              | some l =>
                rw [hro] at hok
                cases hoo : o.op <;> first | rfl | (rw [hoo] at hok; simp [okOp] at hok)
            rw [e, e]
            exact apply_out hA h0 hf hc hb (sim_execOp hA _ o hok) hr
        · rw [if_neg hwt, if_neg hwt]; exact hfin
    | code q =>
      have hq : okCode c.P fr.roundOf.isNone q = true := hit
      cases q with
      | skip => simp only [stepG.exec, ht]; exact to _ hk
      | label => simp only [stepG.exec, ht]; exact to _ hk
      | seq a b =>
        simp only [okCode, Bool.and_eq_true] at hq
        simp only [stepG.exec, ht]; exact to _ (two _ _ hq.1 hq.2)
      | block id b => simp only [stepG.exec, ht]; exact to _ (two _ _ hq trivial)
      | loop b => simp only [stepG.exec, ht]; exact to _ (two _ _ hq hq)
      | scope b => simp only [stepG.exec, ht]; exact to _ (two _ _ hq hq)
      | cond x a b =>
        simp only [okCode, Bool.and_eq_true] at hq
        simp only [stepG.exec, ht]
        split
        · rename_i v e
          cases v
          · exact to _ (one _ hq.2)
          · exact to _ (one _ hq.1)
        · exact True.intro
      | ret =>
        refine leave_out hA hf hc hb hr (some .ret) (fun k e => by cases e; rfl) (fun e => .inr ?_) (fun l e => ?_)
        · constructor <;> simp [stepG.exec, ht, e]
        · constructor <;> simp only [stepG.exec, ht, e] <;> rfl
      | refuse => simp only [stepG.exec, ht]; exact True.intro
      | exit id =>
        cases hx : exitTo id k with
        | some k' =>
          simp only [stepG.exec, ht, hx, Option.elim]
          exact to _ (okItem_exit id k k' hk hx)
        | none =>
          refine leave_out hA hf hc hb hr (some (.exit id)) (fun k e => by cases e; rfl) (fun e => .inl ?_) (fun l e => ?_)
          · simp only [stepG.exec, ht, hx, Option.elim, e]; exact ⟨_, _, _, rfl⟩
          · constructor <;> simp only [stepG.exec, ht, hx, Option.elim, e] <;> rfl
      | goto l =>
        cases hx : gotoIn l k with
        | some k' =>
          simp only [stepG.exec, ht, hx, Option.elim]
          exact to _ (okItem_goto l k k' hk hx)
        | none =>
          refine leave_out hA hf hc hb hr (some (.goto l)) (fun k e => by cases e; rfl) (fun e => .inl ?_) (fun l e => ?_)
          · simp only [stepG.exec, ht, hx, Option.elim, e]; exact ⟨_, _, _, rfl⟩
          · constructor <;> simp only [stepG.exec, ht, hx, Option.elim, e] <;> rfl
      | region id ops draw =>
        have hops : (ops.all fun o => okOp c.P fr.roundOf.isNone o.op) = true := hq
        cases draw with
        | false => simp only [stepG.exec, ht, Bool.not_false, if_true]; exact to _ (one _ hops)
        | true =>
          have e : ∀ (p : Program) (w : World), (choose (.order fr.fn id)).run p w = .ok (w.tape w.drawn (.order fr.fn id)) { w with drawn := w.drawn + 1 } := fun p w => by simp [choose, Sem.run, Question.forced, Question.cut]
          simp only [stepG.exec, ht, Bool.not_true, Bool.false_eq_true, if_false, e]
          intro htp
          have h2 := htp 0 (.order fr.fn id) (by show 0 < w'.drawn + 1 - w'.drawn; omega)
          have h2 : w.tape w.drawn (.order fr.fn id) = w'.tape w'.drawn (.order fr.fn id) := h2
          refine ⟨wk { fr with todo := .inRegion ops (Region.schedule (c.P.follows .mixedOrders) ops (w'.tape w'.drawn (.order fr.fn id))) :: k } cs, { w with drawn := w.drawn + 1 }, #[], by rw [h2], ⟨hr.size, hr.off, hr.poison, hr.plain, hr.noview, hr.nopend, hr.objs, hr.os, hr.output, hr.shun, hr.glob⟩, rfl, rfl, ?_, Nat.le_succ _, Nat.le_refl _, fun e he => by simp at he, .on _ _ (okFrame_todo hf (one _ hops)) hc hb⟩
          show w.drawn + 1 = w.drawn + (w'.drawn + 1 - w'.drawn); omega
      | rangeFunc f params a b =>
        simp only [okCode, Bool.and_eq_true] at hq
        have key : ∀ p cs w, stepG.exec p true true fr cs none w = GStep.after (seen p fr.fn ((Instr.enterLoop fr.fn fr.tmps params a b fr.roundOf).runT p w #[]).2) (match ((Instr.enterLoop fr.fn fr.tmps params a b fr.roundOf).runT p w #[]).1 with
            | .ok (l, mark) w => stepG.apply p true { fr with todo := .inRangeFunc l :: k, defers := mark ++ fr.defers } cs none (do let d ← resolve { fr with todo := .inRangeFunc l :: k, defers := mark ++ fr.defers }.eval { callee := .value f, args := #[.const (.func (.yield l) #[] #[])], argTypes := #[] } 0; invoke d.target d.args) w
            | .halt _ w => .ended (.stuck "range over a function: no such loop" (fr.pos p)) w) := fun p cs w => by
          simp only [stepG.exec, ht]; rfl
        rw [key, key]
        refine after_later (sim_enterLoop hA fr.fn fr.tmps params fr.roundOf hq.1 hq.2 hf.fn) hr fr.fn
          (fun r => match r with
            | .ok (l, mark) w => stepG.apply c.P' true { fr with todo := .inRangeFunc l :: k, defers := mark ++ fr.defers } (cs ++ [c0]) none (do let d ← resolve { fr with todo := .inRangeFunc l :: k, defers := mark ++ fr.defers }.eval { callee := .value f, args := #[.const (.func (.yield l) #[] #[])], argTypes := #[] } 0; invoke d.target d.args) w
            | .halt _ w => .ended (.stuck "range over a function: no such loop" (fr.pos c.P')) w)
          (fun r => match r with
            | .ok (l, mark) w => stepG.apply c.P true { fr with todo := .inRangeFunc l :: k, defers := mark ++ fr.defers } cs none (do let d ← resolve { fr with todo := .inRangeFunc l :: k, defers := mark ++ fr.defers }.eval { callee := .value f, args := #[.const (.func (.yield l) #[] #[])], argTypes := #[] } 0; invoke d.target d.args) w
            | .halt _ w => .ended (.stuck "range over a function: no such loop" (fr.pos c.P)) w)
          (fun x u u' hx hu => ?_) (fun h u' _ => ⟨_, _, _, rfl⟩)
        obtain ⟨l, mark⟩ := x
        have hf' : OkFrame c.P X { fr with todo := .inRangeFunc l :: k, defers := mark ++ fr.defers } := ⟨hf.1, one _ trivial, fun d hd => (List.mem_append.1 hd).elim (hx d) (hf.3 d), hf.4⟩
        exact apply_out hA h0 hf' hc hb (sim_bind (sim_resolve _ _ _ rfl) fun d hd => sim_invoke hA _ _ hd) hu
end

end Go.Proofs.Ythoaldiadgeonaa.Tr
