/-
  A calculus for a lone run that gets through or ends: what holds if it gets through. (No panic is let in.)
  The changed body of orders, operation by operation, on whatever it is given.
  The changed body of orders, whole: it gets through only if every ask is one, and then tells the orders.
  The changed body of orders, whole.
-/
import Derived.Test.YthoaldiadgeonaaGTrD
import Derived.Test.YthoaldiadgeonaaTq
import Derived.Test.YthoaldiadgeonaaGGoG
import Derived.Conc.SmallLaws
namespace Go.Proofs.Ythoaldiadgeonaa.Tq
open Go.Proofs.Ythoaldiadgeonaa.Tr
set_option linter.unusedSimpArgs false

/-- The run ends at once in this frame. -/
def Dies (P : Program) (m : Machine) (cs : List Frame) : Prop := ∃ fr1 w1, Steps P m (lone fr1 cs w1) ∧ ∃ o w2, Go.step P (lone fr1 cs w1) = .ended o w2
theorem Dies.of_steps {P : Program} {m m' : Machine} {cs : List Frame} (h : Steps P m m') (k : Dies P m' cs) : Dies P m cs :=
  let ⟨fr1, w1, h1, h2⟩ := k; ⟨fr1, w1, h.trans h1, h2⟩

/-- Of this code: the run dies (if d lets it), or it comes through and Q holds. -/
def Dz (P : Program) (d : Prop) (c : Code) (Q : Exit → Act → World → Prop) (a : Act) (w : World) : Prop :=
  ∀ (b : Frame), b.kind ≠ .early → ∀ (k : List Item) (cs : List Frame), (d ∧ Dies P (lone (b.at a (.code c :: k)) cs w) cs) ∨ ∃ e a' w', Q e a' w' ∧ Arrives P (lone (b.at a (.code c :: k)) cs w) b k cs e a' w'

section
variable {P : Program} {d : Prop} {Q : Exit → Act → World → Prop} {a : Act} {w : World}

theorem Dz.skip (h : Q .normal a w) : Dz P d .skip Q a w := fun _ _ _ _ => .inr ⟨.normal, a, w, h, .one step_skip⟩
theorem Dz.exit {id : Nat} (h : Q (.exit id) a w) : Dz P d (.exit id) Q a w := fun _ _ _ _ => .inr ⟨.exit id, a, w, h, fun _ hk => .one (step_exit hk)⟩
theorem Dz.ret (h : Q .ret a w) : Dz P d .ret Q a w := fun _ _ _ _ => .inr ⟨.ret, a, w, h, _, .one step_ret⟩
theorem Dz.refuse (hd : d) (s : String) : Dz P d (.refuse s) Q a w := fun b _ k cs => .inl ⟨hd, _, w, .refl _ _, _, w, step_lone_ended (by simp [stepG, stepG.exec, Frame.at]; rfl)⟩

theorem Dz.seq {x y : Code} (h : Dz P d x (Exit.then (Dz P d y Q) Q) a w) : Dz P d (.seq x y) Q a w := by
  intro b hb k cs
  rcases h b hb (.code y :: k) cs with h | ⟨e, a₁, w₁, hq, harr⟩
  · exact .inl ⟨h.1, .of_steps (.one step_seq) h.2⟩
  cases e with
  | normal =>
    rcases hq b hb k cs with h2 | ⟨e₂, a₂, w₂, hq₂, harr₂⟩
    · exact .inl ⟨h2.1, .of_steps (.head step_seq harr) h2.2⟩
    · exact .inr ⟨e₂, a₂, w₂, hq₂, .of_steps (.head step_seq harr) harr₂⟩
  | exit id => exact .inr ⟨_, a₁, w₁, hq, .of_steps (.one step_seq) (.pass (x := .code y) rfl (fun _ _ => .inl (by simp)) harr)⟩
  | goto l => exact .inr ⟨_, a₁, w₁, hq, .of_steps (.one step_seq) (.pass (x := .code y) rfl (fun _ _ => .inl (by simp)) harr)⟩
  | ret => exact .inr ⟨_, a₁, w₁, hq, .of_steps (.one step_seq) (.pass (x := .code y) rfl (fun _ _ => .inl (by simp)) harr)⟩
  | panic ch => exact .inr ⟨_, a₁, w₁, hq, .of_steps (.one step_seq) (.pass (x := .code y) rfl (fun _ _ => .inl (by simp)) harr)⟩
  | outgrown => exact .inr ⟨_, a₁, w₁, hq, .of_steps (.one step_seq) (.pass (x := .code y) rfl (fun _ _ => .inl (by simp)) harr)⟩

theorem Dz.cond {c : Operand} {x y : Code} {t : Bool} (hc : a.eval c = .bool t) (h : Dz P d (if t then x else y) Q a w) : Dz P d (.cond c x y) Q a w := by
  intro b hb k cs
  rcases h b hb k cs with h | ⟨e, a', w', q, r⟩
  · exact .inl ⟨h.1, .of_steps (.one (step_cond hc)) h.2⟩
  · exact .inr ⟨e, a', w', q, .of_steps (.one (step_cond hc)) r⟩

theorem Dz.block {id : Nat} {c : Code} (h : Dz P d c (Exit.inBlock id Q) a w) : Dz P d (.block id c) Q a w := by
  intro b hb k cs
  rcases h b hb (.inBlock id :: k) cs with h | ⟨e, a₁, w₁, hq, harr⟩
  · exact .inl ⟨h.1, .of_steps (.one step_block) h.2⟩
  cases e with
  | normal => exact .inr ⟨.normal, a₁, w₁, hq, .head step_block (Steps.trans harr (.one step_inBlock))⟩
  | exit id' =>
    by_cases hid : id' = id
    · simp only [Exit.inBlock, hid, if_true] at hq
      exact .inr ⟨.normal, a₁, w₁, hq, .head step_block (harr k (by simp [exitTo, hid]))⟩
    · simp only [Exit.inBlock, hid, if_false] at hq
      refine .inr ⟨.exit id', a₁, w₁, hq, fun k' hk => .head step_block (harr k' ?_)⟩
      have : (id == id') = false := by simp; exact fun h => hid h.symm
      simp [exitTo, this, hk]
  | goto l => exact .inr ⟨_, a₁, w₁, hq, fun k' hk => .head step_block (harr k' (by simp [gotoIn, hk]))⟩
  | ret => exact .inr ⟨_, a₁, w₁, hq, .of_steps (.one step_block) harr⟩
  | panic ch => exact .inr ⟨_, a₁, w₁, hq, .of_steps (.one step_block) harr⟩
  | outgrown => exact .inr ⟨_, a₁, w₁, hq, .of_steps (b := b) (k := k) (cs := cs) (e := .outgrown) (.one step_block) harr⟩

theorem Dz.loop {c : Code} (I : Act → World → Prop) (μ : Act → World → Nat) (h₀ : I a w)
    (round : ∀ a w, I a w → Dz P d c (Exit.then (fun a' w' => I a' w' ∧ μ a' w' < μ a w) Q) a w) : Dz P d (.loop c) Q a w := by
  intro b hb k cs
  have key : ∀ n a w, μ a w = n → I a w → (d ∧ Dies P (lone (b.at a (.code c :: .inLoop c :: k)) cs w) cs) ∨
      ∃ e a' w', Q e a' w' ∧ Arrives P (lone (b.at a (.code c :: .inLoop c :: k)) cs w) b k cs e a' w' := by
    intro n
    induction n using Nat.strongRecOn with
    | _ n ih =>
      intro a w hn hI
      rcases round a w hI b hb (.inLoop c :: k) cs with h | ⟨e, a₁, w₁, hq, harr⟩
      · exact .inl h
      cases e with
      | normal =>
        obtain ⟨hI₁, hlt⟩ := hq
        rcases ih (μ a₁ w₁) (hn ▸ hlt) a₁ w₁ rfl hI₁ with h2 | ⟨e₂, a₂, w₂, hq₂, harr₂⟩
        · exact .inl ⟨h2.1, .of_steps (Steps.trans harr (.one step_inLoop)) h2.2⟩
        · exact .inr ⟨e₂, a₂, w₂, hq₂, .of_steps (Steps.trans harr (.one step_inLoop)) harr₂⟩
      | exit id => exact .inr ⟨_, a₁, w₁, hq, .pass (x := .inLoop c) rfl (fun _ _ => .inl (by simp)) harr⟩
      | goto l => exact .inr ⟨_, a₁, w₁, hq, .pass (x := .inLoop c) rfl (fun _ _ => .inl (by simp)) harr⟩
      | ret => exact .inr ⟨_, a₁, w₁, hq, .pass (x := .inLoop c) rfl (fun _ _ => .inl (by simp)) harr⟩
      | panic ch => exact .inr ⟨_, a₁, w₁, hq, .pass (x := .inLoop c) rfl (fun _ _ => .inl (by simp)) harr⟩
      | outgrown => exact .inr ⟨_, a₁, w₁, hq, .pass (x := .inLoop c) rfl (fun _ _ => .inl (by simp)) harr⟩
  rcases key _ a w rfl h₀ with h | ⟨e, a', w', hq, harr⟩
  · exact .inl ⟨h.1, .of_steps (.one step_loop) h.2⟩
  · exact .inr ⟨e, a', w', hq, .of_steps (.one step_loop) harr⟩

theorem Dz.mono {c : Code} {Q' : Exit → Act → World → Prop} (h : Dz P d c Q a w) (hq : ∀ e a w, Q e a w → Q' e a w) : Dz P d c Q' a w :=
  fun b hb k cs => (h b hb k cs).imp id fun ⟨e, a', w', q, r⟩ => ⟨e, a', w', hq _ _ _ q, r⟩

/-- What an operation may do: give a value, be skipped, or end the run. -/
def Upn (d : Prop) (o : Oper) (a : Act) (K : Act → World → Prop) : Result Next → Prop
  | .ok (.value v) w1 => K (a.put o.dst v) w1
  | .ok .skip w1 => K (a.put o.dst undef) w1
  | .halt h _ => d ∧ Fine h ∧ ∀ v, h ≠ .panic v
  | _ => False

theorem Dz.op {id : Nat} {o : Oper} (hg : o.guard = none) (h : Upn d o a (Q .normal) ((execOp a.eval o).run P w)) : Dz P d (.region id #[o] false) Q a w := by
  intro b hb k cs
  have hw : Region.wanted o (yielded #[o] a.tmps) = true := by unfold Region.wanted; rw [hg]
  have st1 : Go.step P (lone (b.at a (.code (.region id #[o] false) :: k)) cs w) = .next (lone (b.at a (.inRegion #[o] [0] :: k)) cs w) := step_region
  have hs := stepG_op (P := P) (b := b) (a := a) (k := k) (cs := cs) (w := w) (ops := #[o]) (i := 0) (rest := []) (o := o) rfl hw
  have fin : ∀ v w1, Q .normal (a.put o.dst v) w1 → Go.step P (lone (b.at a (.inRegion #[o] [0] :: k)) cs w) = .next (lone ((b.at a (.inRegion #[o] [0] :: k)).finish v) cs w1) →
      (d ∧ Dies P (lone (b.at a (.code (.region id #[o] false) :: k)) cs w) cs) ∨ ∃ e a' w', Q e a' w' ∧ Arrives P (lone (b.at a (.code (.region id #[o] false) :: k)) cs w) b k cs e a' w' := fun v w1 hq e => by
    rw [Frame.finish_at] at e
    exact .inr ⟨.normal, a.put o.dst v, w1, hq, .head st1 (.head e (.one step_region_end))⟩
  cases hr : (execOp a.eval o).run P w with
  | ok n w1 =>
    rw [hr] at h
    have hrT : (execOp a.eval o).runT P w #[] = (.ok n w1, ((execOp a.eval o).runT P w #[]).2) := Prod.ext ((Sem.runT_fst P _ w #[]).trans hr) rfl
    cases n with
    | value v => exact fin v w1 h (step_lone_go (by rw [show stepG P true _ w = _ from hs]; simp only [stepG.apply, if_true]; rw [hrT]; rfl))
    | skip => exact fin undef w1 h (step_lone_go (by rw [show stepG P true _ w = _ from hs]; simp only [stepG.apply, if_true]; rw [hrT]; rfl))
    | _ => exact h.elim
  | halt x w1 =>
    rw [hr] at h
    obtain ⟨h0, h1, h2⟩ := h
    have hrT : (execOp a.eval o).runT P w #[] = (.halt x w1, ((execOp a.eval o).runT P w #[]).2) := Prod.ext ((Sem.runT_fst P _ w #[]).trans hr) rfl
    refine .inl ⟨h0, _, w, .one st1, ?_⟩
    have : ∃ o', (stepG P true { frame := b.at a (.inRegion #[o] [0] :: k), callers := cs, status := .running, dying := none } w).bare = .ended o' w1 := by
      rw [hs]
      simp only [stepG.apply, if_true]
      rw [hrT]
      cases x with
      | panic v => exact absurd rfl (h2 v)
      | stuck s => exact ⟨_, rfl⟩
      | unsupported u => cases u <;> first | exact h1.elim | exact ⟨_, rfl⟩
      | _ => exact h1.elim
    obtain ⟨o', h'⟩ := this
    exact ⟨o', w1, step_lone_ended h'⟩

/-! ### slots -/
theorem eval_tmp {i : Nat} {v : Value} (h : a.tmps[i]? = some v) : a.eval (.tmp i) = v := by
  simp [Act.eval, Array.getD_eq_getD_getElem?, h]
theorem put_tmps (a : Act) (d : Nat) (v : Value) : (a.put (some d) v).tmps = a.tmps.setIfInBounds d v := rfl
theorem put_none (a : Act) (v : Value) : a.put none v = a := rfl
theorem put_size (a : Act) (d : Nat) (v : Value) : (a.put (some d) v).tmps.size = a.tmps.size := by simp [put_tmps]
theorem put_ne {a : Act} {d i : Nat} {v u : Value} (h : a.tmps[i]? = some u) (hne : d ≠ i) : (a.put (some d) v).tmps[i]? = some u := by
  rw [put_tmps, Array.getElem?_setIfInBounds_ne hne]; exact h
theorem put_eq {a : Act} {d : Nat} {v : Value} (h : d < a.tmps.size) : (a.put (some d) v).tmps[d]? = some v := by
  rw [put_tmps, Array.getElem?_setIfInBounds_self_of_lt h]
end

end Go.Proofs.Ythoaldiadgeonaa.Tq

namespace Go.Proofs.Ythoaldiadgeonaa.Tq
open Go.Proofs.Ythoaldiadgeonaa.Tr Go.Proofs.Ythoaldiadgeonaa.Cr Go.RowKit Go.Conc
set_option linter.unusedSimpArgs false
set_option maxRecDepth 100000

section
variable {P : Program} {dd : Prop} {Q : Exit → Act → World → Prop} {K : Act → World → Prop} {a : Act} {w : World} {V : Nat → Prop}

theorem dz_then {d : Tmp} {op : Op} {rest : Code} (h : Upn dd (opr (some d) op) a (Dz P dd rest Q) ((execOp a.eval (opr (some d) op)).run P w)) : Dz P dd (andThen d op rest) Q a w :=
  Dz.seq (Dz.op rfl h)
theorem dz_last {d : Tmp} {op : Op} (h : Upn dd (opr (some d) op) a (Q .normal) ((execOp a.eval (opr (some d) op)).run P w)) : Dz P dd (R d op) Q a w := Dz.op rfl h
theorem dz_do {op : Op} {rest : Code} (h : Upn dd (opr none op) a (Dz P dd rest Q) ((execOp a.eval (opr none op)).run P w)) : Dz P dd (.seq (R0 op) rest) Q a w := Dz.seq (Dz.op rfl h)
/-- What a test gives. -/
def Tst (Ky Kn : Act → World → Prop) (a : Act) (w : World) : Prop := ∃ t, a.tmps[4]? = some (.bool t) ∧ (t = true → Ky a w) ∧ (t = false → Kn a w)
theorem Upn.mono {o : Oper} {K' : Act → World → Prop} {r : Result Next} (h : Upn dd o a K r) (hk : ∀ a w, K a w → K' a w) : Upn dd o a K' r := by
  unfold Upn at h ⊢
  split at h <;> first | exact hk _ _ h | exact h | exact h.elim
theorem dz_must {op : Op} {rest : Code} (h : Upn dd (opr (some 4) op) a (Tst (Dz P dd rest Q) fun _ _ => dd) ((execOp a.eval (opr (some 4) op)).run P w)) : Dz P dd (must op rest) Q a w := by
  refine Dz.seq (Dz.op rfl (h.mono fun a1 w1 ⟨t, h4, hy, hn⟩ => ?_))
  refine Dz.seq (Dz.cond (t := t) (eval_tmp h4) ?_)
  cases t with
  | true => exact Dz.skip (hy rfl)
  | false => exact Dz.refuse (hn rfl) _
theorem dz_while {op : Op} {id : Nat} {rest : Code} (h : Upn dd (opr (some 4) op) a (Tst (Dz P dd rest Q) (Q (.exit id))) ((execOp a.eval (opr (some 4) op)).run P w)) : Dz P dd (while' op id rest) Q a w := by
  refine Dz.seq (Dz.op rfl (h.mono fun a1 w1 ⟨t, h4, hy, hn⟩ => ?_))
  refine Dz.seq (Dz.cond (t := t) (eval_tmp h4) ?_)
  cases t with
  | true => exact Dz.skip (hy rfl)
  | false => exact Dz.exit (hn rfl)

/-! ### the operations -/
theorem upn_ok {o : Oper} {v : Value} {w1 : World} (h : (execOp a.eval o).run P w = .ok (.value v) w1) (hk : K (a.put o.dst v) w1) : Upn dd o a K ((execOp a.eval o).run P w) := by
  rw [h]; exact hk
theorem upn_halt {o : Oper} {x : Halt} {w1 : World} (hd : dd) (h : (execOp a.eval o).run P w = .halt x w1) (h1 : Fine x) (h2 : ∀ v, x ≠ .panic v) : Upn dd o a K ((execOp a.eval o).run P w) := by
  rw [h]; exact ⟨hd, h1, h2⟩

theorem up_move {d : Tmp} {x : Operand} {v : Value} (hx : a.eval x = v) (hk : K (a.put (some d) v) w) : Upn dd (opr (some d) (.move x)) a K ((execOp a.eval (opr (some d) (.move x))).run P w) :=
  upn_ok (by simp only [execOp, hx]; rfl) hk

theorem up_bin {d : Tmp} {op : BinOp} {x y : Operand} {p q : Int} {v : Value} (hx : a.eval x = .int .i64 p) (hy : a.eval y = .int .i64 q) (hv : (binOp op 3 (.int .i64 p) (.int .i64 q)).run P w = .ok v w) (hk : K (a.put (some d) v) w) :
    Upn dd (opr (some d) (bin op x y)) a K ((execOp a.eval (opr (some d) (bin op x y))).run P w) := by
  refine upn_ok ?_ hk
  have hg : eqGuard op 3 x y (.int .i64 p) (.int .i64 q) = pure () := by unfold eqGuard; cases op <;> rfl
  simp only [execOp, hx, hy, hg]
  show (Sem.bind (Sem.bind (pure ()) fun _ => binOp op 3 (.int .i64 p) (.int .i64 q)) fun v => pure (Next.value v)).run P w = _
  rw [Sem.run_bind']
  show Result.andThen ((binOp op 3 (.int .i64 p) (.int .i64 q)).run P w) _ = _
  rw [hv]; rfl
/-- A bound, of whatever is there. -/
theorem up_chk {d : Tmp} {op : BinOp} (hop : op = .geq ∨ op = .leq) {x : Operand} {k : Int} {v : Value} (hx : a.eval x = v) (hd : dd ∨ ∃ z, v = .int .i64 z)
    (hk : ∀ z, v = .int .i64 z → K (a.put (some d) (.bool (if op = .geq then decide (z ≥ k) else decide (z ≤ k)))) w) :
    Upn dd (opr (some d) (bin op x (cst k))) a K ((execOp a.eval (opr (some d) (bin op x (cst k)))).run P w) := by
  have hc : a.eval (cst k) = .int .i64 k := rfl
  by_cases hv : ∃ z, v = .int .i64 z
  · obtain ⟨z, rfl⟩ := hv
    refine up_bin hx hc ?_ (hk z rfl)
    rcases hop with rfl | rfl <;> rfl
  · have hdd : dd := hd.resolve_right hv
    have hg : ∀ y, eqGuard op 3 x (cst k) v y = pure () := fun y => by unfold eqGuard; rcases hop with rfl | rfl <;> rfl
    have hs : ∃ z, (binOp op 3 v (.int .i64 k)).run P w = .halt z w ∧ Fine z ∧ ∀ u, z ≠ .panic u := by
      have st : ∀ {s : Sem Value} {m : String}, s = stuck m → ∃ z, s.run P w = .halt z w ∧ Fine z ∧ ∀ u, z ≠ .panic u := fun h => by rw [h]; exact ⟨_, rfl, trivial, by simp⟩
      cases v with
      | int kk z =>
        have hne : kk ≠ .i64 := fun h => hv ⟨z, by rw [h]⟩
        refine st (m := "BinOp: operands of different kinds") ?_
        rcases hop with rfl | rfl <;> (unfold binOp; simp [hne])
      | pointer x => rcases hop with rfl | rfl <;> (cases x <;> exact ⟨_, rfl, trivial, by simp⟩)
      | _ => rcases hop with rfl | rfl <;> exact ⟨_, rfl, trivial, by simp⟩
    obtain ⟨z, hz, h1, h2⟩ := hs
    refine upn_halt (w1 := w) (x := z) hdd ?_ h1 h2
    simp only [execOp, hx, hc, hg]
    show (Sem.bind (Sem.bind (pure ()) fun _ => binOp op 3 v (.int .i64 k)) fun v => pure (Next.value v)).run P w = _
    rw [Sem.run_bind']
    show Result.andThen ((binOp op 3 v (.int .i64 k)).run P w) _ = _
    rw [hz]; rfl

theorem up_val {o : Oper} {s : Sem Value} (he : execOp a.eval o = (s >>= fun v => pure (Next.value v))) {v : Value} {w1 : World} (h : s.run P w = .ok v w1) (hk : K (a.put o.dst v) w1) : Upn dd o a K ((execOp a.eval o).run P w) := by
  refine upn_ok ?_ hk
  rw [he]
  show (Sem.bind s _).run P w = _
  rw [Sem.run_bind', h]; rfl
theorem up_valHalt {o : Oper} {s : Sem Value} (he : execOp a.eval o = (s >>= fun v => pure (Next.value v))) {x : Halt} {w1 : World} (hd : dd) (h : s.run P w = .halt x w1) (h1 : Fine x) (h2 : ∀ v, x ≠ .panic v) : Upn dd o a K ((execOp a.eval o).run P w) := by
  refine upn_halt (w1 := w1) (x := x) hd ?_ h1 h2
  rw [he]
  show (Sem.bind s _).run P w = _
  rw [Sem.run_bind', h]; rfl

/-- len, of whatever is there. -/
theorem up_len {v : Value} (hx : a.eval (.tmp 0) = v) (hd : dd ∨ ∃ b n c, v = .slice b n c) (hk : ∀ b n c, v = .slice b n c → K (a.put (some 1) (.int .i64 n)) w) :
    Upn dd (opr (some 1) (.call { callee := .builtin .len, args := #[.tmp 0], argTypes := #[40] })) a K ((execOp a.eval (opr (some 1) (.call { callee := .builtin .len, args := #[.tmp 0], argTypes := #[40] }))).run Tryq.prog w) := by
  have he : ∀ w', (execOp a.eval (opr (some 1) (.call { callee := .builtin .len, args := #[.tmp 0], argTypes := #[40] }))).run Tryq.prog w' = (do let u ← Builtin.len_ #[40] 3 #[v]; pure (Next.value u)).run Tryq.prog w' := fun w' => by
    simp [execOp, resolve, invoke, builtin, hx]
  rw [he]
  cases v with
  | slice b n c =>
    have : (do let u ← Builtin.len_ #[40] 3 #[Value.slice b n c]; pure (Next.value u)).run Tryq.prog w = .ok (.value (.int .i64 n)) w := by
      simp [Builtin.len_, goInt]
    rw [this]
    exact hk b n c rfl
  | _ => exact ⟨hd.resolve_right (by rintro ⟨_, _, _, h⟩; cases h), trivial, by simp⟩

theorem up_nil {d : Tmp} {b : Option Addr} {n c : Nat} (hx : a.eval (.tmp 0) = .slice b n c) (hk : K (a.put (some d) (.bool b.isSome)) w) :
    Upn dd (opr (some d) (.binOp .neq 40 (.tmp 0) (.const (.slice none 0 0)) 40)) a K ((execOp a.eval (opr (some d) (.binOp .neq 40 (.tmp 0) (.const (.slice none 0 0)) 40))).run Tryq.prog w) := by
  have hc : a.eval (.const (.slice none 0 0)) = .slice none 0 0 := rfl
  have hb : (binOp .neq 40 (.slice b n c) (.slice none 0 0)).run Tryq.prog w = .ok (.bool b.isSome) w := by
    have : (Op.equal 40 (.slice b n c) (.slice none 0 0)).run Tryq.prog w = .ok (!b.isSome) w := by
      show (Op.equalIn 10000 _ _ _).run Tryq.prog w = _
      unfold Op.equalIn
      cases b <;> simp
    show (Sem.bind (Op.equal 40 (.slice b n c) (.slice none 0 0)) _).run Tryq.prog w = _
    rw [Sem.run_bind', this]
    cases b <;> rfl
  refine up_val (v := .bool b.isSome) (w1 := w) (s := do eqGuard .neq 40 (.tmp 0) (.const (.slice none 0 0)) (.slice b n c) (.slice none 0 0); binOp .neq 40 (.slice b n c) (.slice none 0 0)) ?_ ?_ hk
  · simp only [execOp, hx, hc]
  · show (Sem.bind (pure ()) _).run Tryq.prog w = _
    exact hb

theorem up_ixAsk {d : Tmp} {ad : Addr} {n c i : Nat} (hx : a.eval (.tmp 0) = .slice (some ad) n c) (hi : a.eval (.tmp 3) = .int .i64 i) (hlt : i < n) (hk : K (a.put (some d) (.pointer (some (ad.add (i * 2))))) w) :
    Upn dd (opr (some d) (.indexAddr 40 (.tmp 0) (.tmp 3))) a K ((execOp a.eval (opr (some d) (.indexAddr 40 (.tmp 0) (.tmp 3)))).run Tryq.prog w) := by
  have h2 : (0 : Int) ≤ i ∧ (i : Int) < n := by omega
  refine up_val (s := Instr.indexAt 40 (.slice (some ad) n c) (.int .i64 i)) (v := .pointer (some (ad.add (i * 2)))) (w1 := w) (by simp only [execOp, hx, hi]) ?_ hk
  simp [Instr.indexAt, asIntOf, h2, hlt]
theorem up_ixInt {d : Tmp} {ad : Addr} {n c i : Nat} (hx : a.eval (.tmp 2) = .slice (some ad) n c) (hi : a.eval (.tmp 3) = .int .i64 i) (hlt : i < n) (hk : K (a.put (some d) (.pointer (some (ad.add i)))) w) :
    Upn dd (opr (some d) (.indexAddr 30 (.tmp 2) (.tmp 3))) a K ((execOp a.eval (opr (some d) (.indexAddr 30 (.tmp 2) (.tmp 3)))).run Tryq.prog w) := by
  have h2 : (0 : Int) ≤ i ∧ (i : Int) < n := by omega
  refine up_val (s := Instr.indexAt 30 (.slice (some ad) n c) (.int .i64 i)) (v := .pointer (some (ad.add i))) (w1 := w) (by simp only [execOp, hx, hi]) ?_ hk
  simp [Instr.indexAt, asIntOf, h2, hlt]

theorem andThen_assoc {α β γ : Type} (r : Result α) (f : α → World → Result β) (g : β → World → Result γ) : (r.andThen f).andThen g = r.andThen fun a w => (f a w).andThen g := by cases r <;> rfl
theorem load_at {Pr : Program} {ad : Addr} {v : Value} (h : w.cell? ad = some v) : (load ad .plain).run Pr w = .ok v w := by simp only [load, Sem.run, h]
theorem load_far (hr : Rel (selfC P V) w w) {ad : Addr} (h : w.cell? ad = none) : ∃ x, (load ad .plain).run P w = .halt x w ∧ Fine x ∧ ∀ v, x ≠ .panic v := by
  obtain ⟨x, e, h1, h2⟩ := far_fine hr P ad (Go.Mode.plain == Go.Mode.atomic)
  exact ⟨x, by simp only [load, Sem.run, h, e], h1, h2⟩

/-- An ask is read, of whatever is there. -/
theorem up_load {ad : Addr} (hr : dd → Rel (selfC Tryq.prog V) w w) (hx : a.eval (.tmp 5) = .pointer (some ad)) (hd : dd ∨ ∃ u v, w.cell? ad = some u ∧ w.cell? (ad.add 1) = some v) (hk : ∀ u v, w.cell? ad = some u → w.cell? (ad.add 1) = some v → K (a.put (some 6) (.agg #[u, v])) w) :
    Upn dd (opr (some 6) (.load 43 (.tmp 5))) a K ((execOp a.eval (opr (some 6) (.load 43 (.tmp 5)))).run Tryq.prog w) := by
  have he : ∀ w', (Instr.loadAt 43 (.pointer (some ad))).run Tryq.prog w' = (do let u ← load ad .plain; let v ← load (ad.add 1) .plain; pure (Value.agg #[u, v])).run Tryq.prog w' := fun w' => by
    simp [Instr.loadAt, Instr.sureAddr, loadVar, loadCells, loadCellsFrom, Addr.add, andThen_assoc]
  have e0 : execOp a.eval (opr (some 6) (.load 43 (.tmp 5))) = (Instr.loadAt 43 (.pointer (some ad)) >>= fun v => pure (Next.value v)) := by simp only [execOp, hx]
  cases h1 : w.cell? ad with
  | none =>
    have hdd : dd := hd.resolve_right (by rintro ⟨_, _, h, _⟩; rw [h1] at h; cases h)
    obtain ⟨x, e, f1, f2⟩ := load_far (hr hdd) h1
    refine up_valHalt e0 (x := x) (w1 := w) hdd ?_ f1 f2
    rw [he]
    show (Sem.bind (load ad .plain) _).run Tryq.prog w = _
    rw [Sem.run_bind', e]; rfl
  | some u =>
    have e1 := load_at (Pr := Tryq.prog) h1
    cases h2 : w.cell? (ad.add 1) with
    | none =>
      have hdd : dd := hd.resolve_right (by rintro ⟨_, _, _, h⟩; rw [h2] at h; cases h)
      obtain ⟨x, e, f1, f2⟩ := load_far (hr hdd) h2
      refine up_valHalt e0 (x := x) (w1 := w) hdd ?_ f1 f2
      rw [he]
      show (Sem.bind (load ad .plain) _).run Tryq.prog w = _
      rw [Sem.run_bind', e1]
      show (Sem.bind (load (ad.add 1) .plain) _).run Tryq.prog w = _
      rw [Sem.run_bind', e]; rfl
    | some v =>
      refine up_val e0 (v := .agg #[u, v]) (w1 := w) ?_ (hk u v h1 h2)
      rw [he]
      show (Sem.bind (load ad .plain) _).run Tryq.prog w = _
      rw [Sem.run_bind', e1]
      show (Sem.bind (load (ad.add 1) .plain) _).run Tryq.prog w = _
      rw [Sem.run_bind', load_at h2]; rfl
theorem up_field0 {d : Tmp} {u v : Value} (hx : a.eval (.tmp 6) = .agg #[u, v]) (hk : K (a.put (some d) u) w) : Upn dd (opr (some d) (.field 43 (.tmp 6) 0)) a K ((execOp a.eval (opr (some d) (.field 43 (.tmp 6) 0))).run Tryq.prog w) := by
  refine up_val (s := Instr.field 43 (.agg #[u, v]) 0) (v := u) (w1 := w) (by simp only [execOp, hx]) ?_ hk
  simp [Instr.field, part, asAgg]
theorem up_field1 {d : Tmp} {u v : Value} (hx : a.eval (.tmp 6) = .agg #[u, v]) (hk : K (a.put (some d) v) w) : Upn dd (opr (some d) (.field 43 (.tmp 6) 1)) a K ((execOp a.eval (opr (some d) (.field 43 (.tmp 6) 1))).run Tryq.prog w) := by
  refine up_val (s := Instr.field 43 (.agg #[u, v]) 1) (v := v) (w1 := w) (by simp only [execOp, hx]) ?_ hk
  simp [Instr.field, part, asAgg]

/-- Poison. -/
theorem up_chan (hk : K (a.put (some 12) (.chan (some w.heap.size))) (w.alloc poisoned)) : Upn dd (opr (some 12) chanOp) a K ((execOp a.eval (opr (some 12) chanOp)).run Tryq.prog w) := by
  have h1 : Tryq.prog.underlying 58 = some (.chan .both 71) := by kernel_rfl
  have h2 : (Tryq.prog.info? 71).map (·.bytes) = some 16 := by kernel_rfl
  obtain ⟨i, hi, hb⟩ := Option.map_eq_some_iff.1 h2
  have := run_makeChan (P := Tryq.prog) (w := w) h1 hi .i64 0 (by omega) (by rw [hb]; omega)
  exact up_val (s := Instr.makeChan 58 (.int .i64 0)) (by simp only [execOp]; rfl) this hk
theorem up_make {n : Nat} (hn : n < 100000) (hx : a.eval (.tmp 1) = .int .i64 n) (hk : K (a.put (some 2) (.slice (some ⟨w.heap.size, 0, none⟩) n n)) (w.alloc (.cells (lc (fun _ => 0) n) 3))) :
    Upn dd (opr (some 2) (.makeSlice 30 (.tmp 1) (.tmp 1))) a K ((execOp a.eval (opr (some 2) (.makeSlice 30 (.tmp 1) (.tmp 1)))).run Tryq.prog w) := by
  have h1 : Tryq.prog.underlying 30 = some (.slice 3) := by kernel_rfl
  have h2 : (Tryq.prog.info? 3).map (fun i => (i.bytes, i.size, i.zero)) = some (8, 1, some (.int .i64 0)) := by kernel_rfl
  obtain ⟨i, hi, hb⟩ := Option.map_eq_some_iff.1 h2
  obtain ⟨b1, b2, b3⟩ : i.bytes = 8 ∧ i.size = 1 ∧ i.zero = some (.int .i64 0) := by simpa using hb
  have := run_make (P := Tryq.prog) w 30 3 i (.int .i64 0) h1 hi b3 .i64 .i64 n n (by omega) (by omega) (by rw [b1]; omega) (by omega)
  rw [b2] at this
  refine up_val (s := Instr.makeSlice 30 (.int .i64 n) (.int .i64 n)) (by simp only [execOp, hx]) this ?_
  have e : w.alloc (.cells (madeCells (Value.cells (.int .i64 0)) (n * 1)) 3) = w.alloc (.cells (lc (fun _ => 0) n) 3) := by
    rw [← lc_zero]; simp [Value.cells]
  first | exact hk | (simp only [Nat.mul_one] at *; rw [← lc_zero] at hk; simpa [Value.cells] using hk)
/-- Slot 38 is none. -/
theorem dz_arity {rest : Code} (hd : dd ∨ a.tmps.size ≤ 38) (h : a.tmps.size ≤ 38 → Dz P dd rest Q a w) : Dz P dd (.seq arity rest) Q a w := by
  refine Dz.seq ?_
  intro b hb k cs
  have st1 : Go.step P (lone (b.at a (.code arity :: k)) cs w) = .next (lone (b.at a (.inRegion arityOps [0, 1] :: k)) cs w) := step_region
  have hs := stepG_op (P := P) (b := b) (a := a) (k := k) (cs := cs) (w := w) (ops := arityOps) (i := 0) (rest := [1]) (o := opr (some 38) (.move (.const (.bool true)))) rfl rfl
  have st2 : Go.step P (lone (b.at a (.inRegion arityOps [0, 1] :: k)) cs w) = .next (lone (b.at (a.put (some 38) (.bool true)) (.inRegion arityOps [1] :: k)) cs w) := by
    have e := Frame.finish_at b a arityOps 0 [1] k (.bool true)
    refine step_lone_go ?_
    rw [show stepG P true _ w = _ from hs]
    simp only [stepG.apply, if_true]
    have hrT : (execOp a.eval (opr (some 38) (.move (.const (.bool true))))).runT P w #[] = (.ok (.value (.bool true)) w, #[]) := rfl
    rw [hrT]
    show GStep.go { frame := (b.at a (.inRegion arityOps [0, 1] :: k)).finish (.bool true), callers := cs, status := .running, dying := none } w #[] = _
    rw [e]; rfl
  by_cases hsz : a.tmps.size ≤ 38
  · have ea : a.put (some 38) (.bool true) = a := by
      obtain ⟨T, ds⟩ := a
      show (⟨T.setIfInBounds 38 (.bool true), ds⟩ : Act) = _
      rw [Array.setIfInBounds_eq_of_size_le hsz]
    rw [ea] at st2
    have hT : a.tmps[38]? = none := Array.getElem?_eq_none hsz
    have st3 : Go.step P (lone (b.at a (.inRegion arityOps [1] :: k)) cs w) = .next (lone (b.at a (.inRegion arityOps [] :: k)) cs w) := by
      have := step_op_skip (P := P) (b := b) (a := a) (k := k) (cs := cs) (w := w) (ops := arityOps) (i := 1) (rest := []) (by simp [arityOps, Region.wanted, yielded, hT])
      exact this
    exact .inr ⟨.normal, a, w, h hsz, .head st1 (.head st2 (.head st3 (.one step_region_end)))⟩
  · have hlt : 38 < a.tmps.size := by omega
    have hT : (a.put (some 38) (.bool true)).tmps[38]? = some (.bool true) := put_eq hlt
    have hs2 := stepG_op (P := P) (b := b) (a := a.put (some 38) (.bool true)) (k := k) (cs := cs) (w := w) (ops := arityOps) (i := 1) (rest := []) rfl (by simp [arityOps, Region.wanted, yielded, hT])
    refine .inl ⟨hd.resolve_right hsz, _, w, .head st1 (.one st2), ?_⟩
    have : ∃ o', (stepG P true { frame := b.at (a.put (some 38) (.bool true)) (.inRegion arityOps [1] :: k), callers := cs, status := .running, dying := none } w).bare = .ended o' w := by
      rw [hs2]
      exact ⟨_, rfl⟩
    obtain ⟨o', h'⟩ := this
    exact ⟨o', w, step_lone_ended h'⟩
theorem up_store {ad : Addr} {k : Int} {u : Value} (hx : a.eval (.tmp 13) = .pointer (some ad)) (hy : a.eval (.tmp 9) = .int .i64 k) (hc : w.cell? ad = some u) (hf : w.frozen? ad = false) (hk : K a (w.setCell ad (.int .i64 k))) :
    Upn dd (opr none (.store 3 (.tmp 13) (.tmp 9))) a K ((execOp a.eval (opr none (.store 3 (.tmp 13) (.tmp 9)))).run Tryq.prog w) := by
  have he : execOp a.eval (opr none (.store 3 (.tmp 13) (.tmp 9))) = (do Instr.storeAt 3 (.pointer (some ad)) (.int .i64 k); pure .skip) := by simp only [execOp, hx, hy]
  rw [he]
  have : (do Instr.storeAt 3 (.pointer (some ad)) (.int .i64 k); pure Next.skip : Sem Next).run Tryq.prog w = .ok .skip (w.setCell ad (.int .i64 k)) := by
    simp [Instr.storeAt, Instr.sureAddr, storeVar, Value.cells, storeCells, store, Addr.add, hc, hf, Sem.run]
  rw [this]; exact hk

/-! ### slots of the loops -/
structure Sl (a : Act) (b : Option Addr) (n c i : Nat) : Prop where
  size : a.tmps.size = 38
  defers : a.defers = []
  s0 : a.tmps[0]? = some (.slice b n c)
  s1 : a.tmps[1]? = some (.int .i64 n)
  s3 : a.tmps[3]? = some (.int .i64 i)
theorem Sl.put {b : Option Addr} {n c i : Nat} (h : Sl a b n c i) (d : Nat) (v : Value) (h0 : d ≠ 0) (h1 : d ≠ 1) (h3 : d ≠ 3) : Sl (a.put (some d) v) b n c i :=
  ⟨(put_size a d v).trans h.size, h.defers, put_ne h.s0 h0, put_ne h.s1 h1, put_ne h.s3 h3⟩
theorem Sl.put3 {b : Option Addr} {n c i : Nat} (h : Sl a b n c i) (j : Nat) : Sl (a.put (some 3) (.int .i64 j)) b n c j :=
  ⟨(put_size a 3 _).trans h.size, h.defers, put_ne h.s0 (by omega), put_ne h.s1 (by omega), put_eq (by rw [h.size]; omega)⟩
def muf (n : Nat) (a : Act) : Nat := match a.tmps[3]? with | some (Value.int _ i) => n - i.toNat | _ => 0
theorem Sl.muf {b : Option Addr} {n c i : Nat} (h : Sl a b n c i) : muf n a = n - i := by unfold Tq.muf; rw [h.s3]; simp

/-- The next ask. -/
theorem dz_next {b : Option Addr} {n c i : Nat} (hn : n < 100000) (hi : i < n) (h : Sl a b n c i) (hq : Q .normal (a.put (some 3) (.int .i64 (i + 1 : Nat))) w) : Dz P dd next3 Q a w := by
  refine dz_last (up_bin (p := i) (q := 1) (eval_tmp h.s3) rfl (v := .int .i64 (i + 1 : Nat)) ?_ hq)
  have e : IntKind.i64.wrap ((i : Int) + 1) = ((i + 1 : Nat) : Int) := by rw [IntWalk.i64_in _ (by omega)]; simp
  show (Op.intArith .add .i64 i 1).run P w = _
  simp [Op.intArith, e]
/-- Is there one more? -/
theorem dz_more {b : Option Addr} {n c i : Nat} {rest : Code} (h : Sl a b n c i) (hy : i < n → Dz P dd rest Q (a.put (some 4) (.bool true)) w) (hno : n ≤ i → Q (.exit 0) (a.put (some 4) (.bool false)) w) : Dz P dd (while' (bin .lss (.tmp 3) (.tmp 1)) 0 rest) Q a w := by
  refine dz_while (up_bin (p := i) (q := n) (eval_tmp h.s3) (eval_tmp h.s1) (v := .bool (decide ((i : Int) < n))) rfl ?_)
  refine ⟨_, put_eq (by rw [h.size]; omega), fun ht => ?_, fun hf => ?_⟩
  · rw [ht]; exact hy (by have := of_decide_eq_true ht; omega)
  · rw [hf]; exact hno (by have := of_decide_eq_false hf; omega)

/-- An ask. -/
def AskAt (w : World) (b : Option Addr) (j : Nat) : Prop :=
  ∃ A off x m : Nat, b = some ⟨A, off, none⟩ ∧ w.cell? ⟨A, off + j * 2, none⟩ = some (.int .i64 x) ∧ w.cell? ⟨A, off + j * 2 + 1, none⟩ = some (.int .i64 m) ∧ x ≤ 1000 ∧ 1 ≤ m ∧ m ≤ 15000 ∧ A < w.heap.size
theorem cell_spot {ad : Addr} {v : Value} (h : w.cell? ad = some v) : ad.spot = none ∧ ad.block < w.heap.size := by
  unfold World.cell? at h
  split at h
  · rename_i e
    refine ⟨?_, (Array.getElem?_eq_some_iff.1 e).1⟩
    split at h
    · cases h
    · rename_i hs; cases hsp : ad.spot <;> simp_all
  · cases h

set_option maxHeartbeats 4000000 in
theorem look_dz {b : Option Addr} {n c : Nat} (hn : n < 100000) (hr : dd → Rel (selfC Tryq.prog V) w w) (h : Sl a b n c 0) (hv : dd ∨ ∀ j, j < n → AskAt w b j) (hq : ∀ a', Sl a' b n c n → (∀ j, j < n → AskAt w b j) → Q .normal a' w) : Dz Tryq.prog dd (.block 0 (.loop look)) Q a w := by
  refine Dz.block (Dz.loop (fun a' w' => w' = w ∧ ∃ i, i ≤ n ∧ Sl a' b n c i ∧ ∀ j, j < i → AskAt w b j) (fun a _ => muf n a) ⟨rfl, 0, by omega, h, fun j hj => absurd hj (by omega)⟩ ?_)
  rintro a1 w1 ⟨rfl, i, hi, hS, hA⟩
  have hmu := hS.muf
  refine dz_more hS (fun hlt => ?_) (fun hge => ?_)
  · have hv1 : dd ∨ AskAt w1 b i := hv.imp id fun h => h i hlt
    clear hv
    replace hS := hS.put 4 (.bool true) (by omega) (by omega) (by omega)
    generalize a1.put (some 4) (.bool true) = a2 at hS ⊢
    refine dz_must (up_nil (eval_tmp hS.s0) ⟨_, put_eq (by rw [hS.size]; omega), fun hb => ?_, fun hb => hv1.resolve_right (by rintro ⟨_, _, _, _, e, _⟩; rw [e] at hb; cases hb)⟩)
    obtain ⟨ad, rfl⟩ := Option.isSome_iff_exists.1 hb
    replace hS := hS.put 4 (.bool (some ad).isSome) (by omega) (by omega) (by omega)
    generalize a2.put (some 4) (.bool (some ad).isSome) = a3 at hS ⊢
    refine dz_then (up_ixAsk (eval_tmp hS.s0) (eval_tmp hS.s3) hlt ?_)
    have h5 := put_eq (a := a3) (d := 5) (v := .pointer (some (ad.add (i * 2)))) (by rw [hS.size]; omega)
    replace hS := hS.put 5 (.pointer (some (ad.add (i * 2)))) (by omega) (by omega) (by omega)
    generalize a3.put (some 5) (.pointer (some (ad.add (i * 2)))) = a4 at hS h5 ⊢
    have eads : ∀ A off : Nat, ad = ⟨A, off, none⟩ → ad.add (i * 2) = ⟨A, off + i * 2, none⟩ ∧ (ad.add (i * 2)).add 1 = ⟨A, off + i * 2 + 1, none⟩ := fun A off e => by
      have : ad.add (i * 2) = ⟨A, off + i * 2, none⟩ := by
        rw [e]
        unfold Addr.add
        split
        · rename_i hz; simp [hz]
        · rfl
      exact ⟨this, by rw [this]; simp [Addr.add]⟩
    have hv2 : dd ∨ ∃ x m : Nat, w1.cell? (ad.add (i * 2)) = some (.int .i64 x) ∧ w1.cell? ((ad.add (i * 2)).add 1) = some (.int .i64 m) ∧ x ≤ 1000 ∧ 1 ≤ m ∧ m ≤ 15000 := hv1.imp id fun ⟨A, off, x, m, e, h1, h2, h3, h4, h5, _⟩ => by
      injection e with e
      obtain ⟨e1, e2⟩ := eads A off e
      exact ⟨x, m, by rw [e1]; exact h1, by rw [e2]; exact h2, h3, h4, h5⟩
    refine dz_then (up_load hr (eval_tmp h5) (hv2.imp id fun ⟨x, m, h1, h2, _⟩ => ⟨_, _, h1, h2⟩) fun u v hu hv => ?_)
    replace hv2 : dd ∨ ∃ x m : Nat, u = .int .i64 x ∧ v = .int .i64 m ∧ x ≤ 1000 ∧ 1 ≤ m ∧ m ≤ 15000 := hv2.imp id fun ⟨x, m, h1, h2, h3⟩ => ⟨x, m, Option.some.inj (hu.symm.trans h1), Option.some.inj (hv.symm.trans h2), h3⟩
    have h6 := put_eq (a := a4) (d := 6) (v := .agg #[u, v]) (by rw [hS.size]; omega)
    replace hS := hS.put 6 (.agg #[u, v]) (by omega) (by omega) (by omega)
    generalize a4.put (some 6) (.agg #[u, v]) = a5 at hS h6 ⊢
    refine dz_then (up_field0 (eval_tmp h6) ?_)
    have h7 := put_eq (a := a5) (v := u) (d := 7) (by rw [hS.size]; omega)
    replace h6 := put_ne (d := 7) (v := u) h6 (by omega)
    replace hS := hS.put 7 u (by omega) (by omega) (by omega)
    generalize a5.put (some 7) u = a6 at hS h6 h7 ⊢
    refine dz_then (up_field1 (eval_tmp h6) ?_)
    have h8 := put_eq (a := a6) (v := v) (d := 8) (by rw [hS.size]; omega)
    replace h7 := put_ne (d := 8) (v := v) h7 (by omega)
    replace hS := hS.put 8 v (by omega) (by omega) (by omega)
    generalize a6.put (some 8) v = a7 at hS h7 h8 ⊢
    clear h5 h6
    refine dz_must (up_chk (.inl rfl) (eval_tmp h7) (hv2.imp id fun ⟨x, _, h, _⟩ => ⟨_, h⟩) fun x hx => ⟨_, put_eq (by rw [hS.size]; omega), fun ht1 => ?_, fun hf1 => hv2.resolve_right (by
      rintro ⟨x', m', e1, _, h3, _⟩
      rw [hx] at e1; injection e1 with _ e1
      simp at hf1; omega)⟩)
    subst hx
    generalize hq1 : (if BinOp.geq = .geq then decide (x ≥ 0) else decide (x ≤ 0)) = q1 at ht1 ⊢
    replace h8 := put_ne (d := 4) (v := .bool q1) h8 (by omega)
    replace h7 := put_ne (d := 4) (v := .bool q1) h7 (by omega)
    replace hS := hS.put 4 (.bool q1) (by omega) (by omega) (by omega)
    generalize a7.put (some 4) (.bool q1) = a8 at hS h7 h8 ⊢
    refine dz_must (up_chk (.inr rfl) (eval_tmp h7) (.inr ⟨_, rfl⟩) fun x' hx' => ⟨_, put_eq (by rw [hS.size]; omega), fun ht2 => ?_, fun hf2 => hv2.resolve_right (by
      rintro ⟨x2, m2, e1, _, h3, _⟩
      injection hx' with _ hx'
      injection e1 with _ e1
      simp at hf2; omega)⟩)
    injection hx' with _ hx'
    subst hx'
    generalize hq2 : (if BinOp.leq = .geq then decide (x ≥ 1000) else decide (x ≤ 1000)) = q2 at ht2 ⊢
    replace h8 := put_ne (d := 4) (v := .bool q2) h8 (by omega)
    replace hS := hS.put 4 (.bool q2) (by omega) (by omega) (by omega)
    generalize a8.put (some 4) (.bool q2) = a9 at hS h8 ⊢
    refine dz_must (up_chk (.inl rfl) (eval_tmp h8) (hv2.imp id fun ⟨_, m, _, h, _⟩ => ⟨_, h⟩) fun m hm => ⟨_, put_eq (by rw [hS.size]; omega), fun ht3 => ?_, fun hf3 => hv2.resolve_right (by
      rintro ⟨x', m', _, e1, _, h3, _⟩
      rw [hm] at e1; injection e1 with _ e1
      simp at hf3; omega)⟩)
    subst hm
    generalize hq3 : (if BinOp.geq = .geq then decide (m ≥ 1) else decide (m ≤ 1)) = q3 at ht3 ⊢
    replace h8 := put_ne (d := 4) (v := .bool q3) h8 (by omega)
    replace hS := hS.put 4 (.bool q3) (by omega) (by omega) (by omega)
    generalize a9.put (some 4) (.bool q3) = a10 at hS h8 ⊢
    refine dz_must (up_chk (.inr rfl) (eval_tmp h8) (.inr ⟨_, rfl⟩) fun m' hm' => ⟨_, put_eq (by rw [hS.size]; omega), fun ht4 => ?_, fun hf4 => hv2.resolve_right (by
      rintro ⟨x2, m2, _, e1, _, _, h3⟩
      injection hm' with _ hm'
      injection e1 with _ e1
      simp at hf4; omega)⟩)
    injection hm' with _ hm'
    subst hm'
    generalize hq4 : (if BinOp.leq = .geq then decide (m ≥ 15000) else decide (m ≤ 15000)) = q4 at ht4 ⊢
    replace hS := hS.put 4 (.bool q4) (by omega) (by omega) (by omega)
    generalize a10.put (some 4) (.bool q4) = a11 at hS ⊢
    rw [← hq1] at ht1
    rw [← hq2] at ht2
    rw [← hq3] at ht3
    rw [← hq4] at ht4
    have b1 : 0 ≤ x := by simpa using ht1
    have b2 : x ≤ 1000 := by simpa using ht2
    have b3 : 1 ≤ m := by simpa using ht3
    have b4 : m ≤ 15000 := by simpa using ht4
    refine dz_next hn hlt hS ⟨⟨rfl, i + 1, by omega, hS.put3 (i + 1), fun j hj => ?_⟩, ?_⟩
    · rcases Nat.lt_succ_iff_lt_or_eq.1 hj with hj | rfl
      · exact hA j hj
      · -- the ask just read
        obtain ⟨hsp, hlt2⟩ := cell_spot hu
        have e1 : ((x.toNat : Nat) : Int) = x := by omega
        have e2 : ((m.toNat : Nat) : Int) = m := by omega
        have hadd : ad.spot = none ∧ ad.add (j * 2) = ⟨ad.block, ad.off + j * 2, none⟩ := by
          obtain ⟨B, o, s⟩ := ad
          by_cases hz : j * 2 = 0
          · simp only [Addr.add, hz, if_true] at hsp ⊢
            subst hsp; simp
          · rcases Nat.eq_zero_or_pos j with rfl | hpos
            · omega
            · -- the first ask was read, too
              obtain ⟨A, off, _, _, hb', _⟩ := hA 0 hpos
              injection hb' with hb'
              injection hb' with _ _ hs'
              subst hs'
              simp [Addr.add, hz]
        obtain ⟨hs0, ha⟩ := hadd
        rw [ha] at hu hv hlt2
        refine ⟨ad.block, ad.off, x.toNat, m.toNat, ?_, by rw [e1]; exact hu, by rw [e2]; exact hv, by omega, by omega, by omega, hlt2⟩
        obtain ⟨B, o, s⟩ := ad
        simp only at hs0
        subst hs0; rfl
    · rw [(hS.put3 (i + 1)).muf, hmu]; omega
  · have : i = n := by omega
    subst this
    show Exit.inBlock 0 Q (.exit 0) _ _
    simp only [Exit.inBlock, if_true]
    exact hq _ (hS.put 4 _ (by omega) (by omega) (by omega)) hA

end

end Go.Proofs.Ythoaldiadgeonaa.Tq

namespace Go.Proofs.Ythoaldiadgeonaa.Tq
open Go.Proofs.Ythoaldiadgeonaa.Tr Go.Proofs.Ythoaldiadgeonaa.Cr Go.RowKit Go.Conc
open Go.ConcN (upd upd_same upd_ne)
set_option linter.unusedSimpArgs false
set_option maxRecDepth 100000

section
variable {P : Program} {dd : Prop} {Q : Exit → Act → World → Prop} {K : Act → World → Prop} {a : Act} {w wp : World} {V : Nat → Prop}

/-! ### slots -/
def Has (a : Act) (l : List (Nat × Value)) : Prop := a.tmps.size = 38 ∧ a.defers = [] ∧ ∀ i v, (i, v) ∈ l → a.tmps[i]? = some v
theorem Has.put {l : List (Nat × Value)} (h : Has a l) (d : Nat) (v : Value) (hd : d < 38) (l' : List (Nat × Value)) (hl : ∀ p ∈ l', p = (d, v) ∨ (d ≠ p.1 ∧ p ∈ l)) : Has (a.put (some d) v) l' := by
  refine ⟨(put_size a d v).trans h.1, h.2.1, fun i u hi => ?_⟩
  rcases hl _ hi with e | ⟨hne, hm⟩
  · injection e with e1 e2
    subst e1 e2
    exact put_eq (by rw [h.1]; exact hd)
  · exact put_ne (h.2.2 i u hm) hne
theorem Has.get {l : List (Nat × Value)} (h : Has a l) {i : Nat} {v : Value} (hm : (i, v) ∈ l) : a.eval (.tmp i) = v := eval_tmp (h.2.2 i v hm)
theorem Has.sub {l l' : List (Nat × Value)} (h : Has a l) (hl : ∀ p ∈ l', p ∈ l) : Has a l' := ⟨h.1, h.2.1, fun i v hi => h.2.2 i v (hl _ hi)⟩

/-! ### one order -/
def Ord (x m k : Nat) : Prop := 1 ≤ k ∧ k ≤ 15000 ∧ (∀ j, 1 ≤ j → j < k → x ^ j % m ≠ 1 % m) ∧ x ^ k % m = 1 % m
abbrev V64 (k : Nat) : Value := .int .i64 (k : Int)
def muK (a : Act) : Nat := match a.tmps[9]? with | some (Value.int _ k) => 15000 - k.toNat | _ => 0

theorem rem_run {p q : Nat} (hq : 1 ≤ q) (w : World) : (binOp .rem 3 (V64 p) (V64 q)).run P w = .ok (V64 (p % q)) w := by
  have h0 : ¬ (q : Int) = 0 := by omega
  have e : Int.tmod (p : Int) (q : Int) = ((p % q : Nat) : Int) := by
    rw [Int.tmod_eq_emod_of_nonneg (by omega)]; simp
  show (Op.intDiv .rem .i64 p q).run P w = _
  unfold Op.intDiv
  rw [if_neg h0]
  simp only [e]
  rfl

set_option maxHeartbeats 2000000 in
theorem turn_dz {x m : Nat} (hx : x ≤ 1000) (hm : 1 ≤ m) (hm2 : m ≤ 15000) (hv : dd ∨ ∃ K, Ord x m K) {B : List (Nat × Value)} (hB : ∀ p ∈ B, p.1 < 4) (h : Has a ((7, V64 x) :: (8, V64 m) :: (9, V64 1) :: (10, V64 (x % m)) :: (11, V64 (1 % m)) :: B))
    (hq : ∀ a' k, Has a' ((9, V64 k) :: B) → Ord x m k → Q .normal a' w) : Dz P dd (.block 1 (.loop turn)) Q a w := by
  refine Dz.block (Dz.loop (fun a' w' => w' = w ∧ ∃ k, 1 ≤ k ∧ k ≤ 15000 ∧ Has a' ((7, V64 x) :: (8, V64 m) :: (9, V64 k) :: (10, V64 (x ^ k % m)) :: (11, V64 (1 % m)) :: B) ∧ ∀ j, 1 ≤ j → j < k → x ^ j % m ≠ 1 % m) (fun a _ => muK a)
    ⟨rfl, 1, Nat.le_refl _, by omega, by simpa using h, fun j h1 h2 => absurd h1 (by omega)⟩ ?_)
  rintro a1 w1 ⟨rfl, k, hk1, hk2, hH, hmin⟩
  have hmu : muK a1 = 15000 - k := by unfold muK; rw [hH.2.2 9 (V64 k) (by simp)]; simp
  have hBn : ∀ d, 4 ≤ d → ∀ p ∈ B, d ≠ p.1 := fun d hd p hp => by have := hB p hp; omega
  refine dz_while (up_bin (p := (x ^ k % m : Nat)) (q := (1 % m : Nat)) (hH.get (by simp)) (hH.get (by simp)) (v := .bool (((x ^ k % m : Nat) : Int) != ((1 % m : Nat) : Int))) rfl ⟨_, put_eq (by rw [hH.1]; omega), fun ht => ?_, fun hf => ?_⟩)
  · replace hH := hH.put 4 (.bool (((x ^ k % m : Nat) : Int) != ((1 % m : Nat) : Int))) (by omega) ((7, V64 x) :: (8, V64 m) :: (9, V64 k) :: (10, V64 (x ^ k % m)) :: (11, V64 (1 % m)) :: B) (fun p hp => .inr ⟨by
      rcases List.mem_cons.1 hp with rfl | hp; · (dsimp only; omega)
      rcases List.mem_cons.1 hp with rfl | hp; · (dsimp only; omega)
      rcases List.mem_cons.1 hp with rfl | hp; · (dsimp only; omega)
      rcases List.mem_cons.1 hp with rfl | hp; · (dsimp only; omega)
      rcases List.mem_cons.1 hp with rfl | hp; · (dsimp only; omega)
      exact hBn 4 (by omega) p hp, hp⟩)
    generalize a1.put (some 4) (.bool (((x ^ k % m : Nat) : Int) != ((1 % m : Nat) : Int))) = a2 at hH ⊢
    have e9 : IntKind.i64.wrap ((k : Int) + 1) = ((k + 1 : Nat) : Int) := by rw [IntWalk.i64_in _ (by omega)]; simp
    refine dz_then (up_bin (p := k) (q := 1) (hH.get (by simp)) rfl (v := V64 (k + 1)) (by show (Op.intArith .add .i64 k 1).run P _ = _; simp [Op.intArith, e9]) ?_)
    replace hH := hH.put 9 (V64 (k + 1)) (by omega) ((7, V64 x) :: (8, V64 m) :: (9, V64 (k + 1)) :: (10, V64 (x ^ k % m)) :: (11, V64 (1 % m)) :: B) (fun p hp => by
      rcases List.mem_cons.1 hp with rfl | hp; · exact .inr ⟨by dsimp only; omega, by simp⟩
      rcases List.mem_cons.1 hp with rfl | hp; · exact .inr ⟨by dsimp only; omega, by simp⟩
      rcases List.mem_cons.1 hp with rfl | hp; · exact .inl rfl
      rcases List.mem_cons.1 hp with rfl | hp; · exact .inr ⟨by dsimp only; omega, by simp⟩
      rcases List.mem_cons.1 hp with rfl | hp; · exact .inr ⟨by dsimp only; omega, by simp⟩
      exact .inr ⟨hBn 9 (by omega) p hp, by simp [hp]⟩)
    generalize a2.put (some 9) (V64 (k + 1)) = a3 at hH ⊢
    refine dz_must (up_bin (p := (k + 1 : Nat)) (q := 15000) (hH.get (by simp)) rfl (v := .bool (decide (((k + 1 : Nat) : Int) ≤ 15000))) rfl ⟨_, put_eq (by rw [hH.1]; omega), fun ht2 => ?_, fun hf2 => hv.resolve_right (by
      rintro ⟨K, h1, h2, h3, h4⟩
      have hk4 : ¬ k + 1 ≤ 15000 := by have := of_decide_eq_false hf2; omega
      rcases Nat.lt_trichotomy K k with h | rfl | h
      · exact hmin K h1 h h4
      · rw [h4] at ht; simp at ht
      · omega)⟩)
    have hk3 : k + 1 ≤ 15000 := by have := of_decide_eq_true ht2; omega
    replace hH := hH.put 4 (.bool (decide (((k + 1 : Nat) : Int) ≤ 15000))) (by omega) ((7, V64 x) :: (8, V64 m) :: (9, V64 (k + 1)) :: (10, V64 (x ^ k % m)) :: (11, V64 (1 % m)) :: B) (fun p hp => .inr ⟨by
      rcases List.mem_cons.1 hp with rfl | hp; · (dsimp only; omega)
      rcases List.mem_cons.1 hp with rfl | hp; · (dsimp only; omega)
      rcases List.mem_cons.1 hp with rfl | hp; · (dsimp only; omega)
      rcases List.mem_cons.1 hp with rfl | hp; · (dsimp only; omega)
      rcases List.mem_cons.1 hp with rfl | hp; · (dsimp only; omega)
      exact hBn 4 (by omega) p hp, hp⟩)
    generalize a3.put (some 4) (.bool (decide (((k + 1 : Nat) : Int) ≤ 15000))) = a4 at hH ⊢
    have hlt : x ^ k % m < m := Nat.mod_lt _ (by omega)
    have hmul : x ^ k % m * x ≤ 15000 * 1000 := Nat.mul_le_mul (by omega) hx
    have e10 : IntKind.i64.wrap (((x ^ k % m : Nat) : Int) * (x : Int)) = ((x ^ k % m * x : Nat) : Int) := by
      have e : ((x ^ k % m : Nat) : Int) * (x : Int) = ((x ^ k % m * x : Nat) : Int) := by simp
      rw [e, IntWalk.i64_in _ (by omega)]
    refine dz_then (up_bin (p := (x ^ k % m : Nat)) (q := x) (hH.get (by simp)) (hH.get (by simp)) (v := V64 (x ^ k % m * x)) (by show (Op.intArith .mul .i64 _ _).run P _ = _; simp only [Op.intArith, e10]; rfl) ?_)
    replace hH := hH.put 10 (V64 (x ^ k % m * x)) (by omega) ((7, V64 x) :: (8, V64 m) :: (9, V64 (k + 1)) :: (10, V64 (x ^ k % m * x)) :: (11, V64 (1 % m)) :: B) (fun p hp => by
      rcases List.mem_cons.1 hp with rfl | hp; · exact .inr ⟨by dsimp only; omega, by simp⟩
      rcases List.mem_cons.1 hp with rfl | hp; · exact .inr ⟨by dsimp only; omega, by simp⟩
      rcases List.mem_cons.1 hp with rfl | hp; · exact .inr ⟨by dsimp only; omega, by simp⟩
      rcases List.mem_cons.1 hp with rfl | hp; · exact .inl rfl
      rcases List.mem_cons.1 hp with rfl | hp; · exact .inr ⟨by dsimp only; omega, by simp⟩
      exact .inr ⟨hBn 10 (by omega) p hp, by simp [hp]⟩)
    generalize a4.put (some 10) (V64 (x ^ k % m * x)) = a5 at hH ⊢
    refine dz_last (up_bin (p := (x ^ k % m * x : Nat)) (q := m) (hH.get (by simp)) (hH.get (by simp)) (v := V64 (x ^ k % m * x % m)) (rem_run hm _) ?_)
    have e11 : x ^ k % m * x % m = x ^ (k + 1) % m := by rw [Nat.pow_succ, Nat.mod_mul_mod]
    rw [e11]
    replace hH := hH.put 10 (V64 (x ^ (k + 1) % m)) (by omega) ((7, V64 x) :: (8, V64 m) :: (9, V64 (k + 1)) :: (10, V64 (x ^ (k + 1) % m)) :: (11, V64 (1 % m)) :: B) (fun p hp => by
      rcases List.mem_cons.1 hp with rfl | hp; · exact .inr ⟨by dsimp only; omega, by simp⟩
      rcases List.mem_cons.1 hp with rfl | hp; · exact .inr ⟨by dsimp only; omega, by simp⟩
      rcases List.mem_cons.1 hp with rfl | hp; · exact .inr ⟨by dsimp only; omega, by simp⟩
      rcases List.mem_cons.1 hp with rfl | hp; · exact .inl rfl
      rcases List.mem_cons.1 hp with rfl | hp; · exact .inr ⟨by dsimp only; omega, by simp⟩
      exact .inr ⟨hBn 10 (by omega) p hp, by simp [hp]⟩)
    refine ⟨⟨rfl, k + 1, by omega, hk3, hH, fun j h1 h2 => ?_⟩, ?_⟩
    · rcases Nat.lt_succ_iff_lt_or_eq.1 h2 with h2 | rfl
      · exact hmin j h1 h2
      · intro he
        rw [he] at ht
        simp at ht
    · have : muK (a5.put (some 10) (V64 (x ^ (k + 1) % m))) = 15000 - (k + 1) := by unfold muK; rw [hH.2.2 9 (V64 (k + 1)) (by simp)]; simp
      show muK _ < muK a1
      omega
  · show Exit.inBlock 1 Q (.exit 1) _ _
    simp only [Exit.inBlock, if_true]
    refine hq _ k ?_ ⟨hk1, hk2, hmin, ?_⟩
    · exact hH.put 4 _ (by omega) ((9, V64 k) :: B) (fun p hp => .inr ⟨by
        rcases List.mem_cons.1 hp with rfl | hp; · (dsimp only; omega)
        exact hBn 4 (by omega) p hp, by
        rcases List.mem_cons.1 hp with rfl | hp
        · simp
        · simp [hp]⟩)
    · have : ((x ^ k % m : Nat) : Int) = ((1 % m : Nat) : Int) := by simpa using hf
      omega

/-! ### worlds -/
/-- So many poisoned blocks have been laid. -/
structure Ev (wp w : World) (k : Nat) : Prop where
  tape : w.tape = wp.tape
  os : w.os = wp.os
  output : w.output = wp.output
  size : w.heap.size = wp.heap.size + k
  low : ∀ b, b < wp.heap.size → w.heap[b]? = wp.heap[b]?
  new : ∀ b, wp.heap.size ≤ b → b < wp.heap.size + k → w.heap[b]? = some poisoned
theorem Ev.refl (w : World) : Ev w w 0 := ⟨rfl, rfl, rfl, rfl, fun _ _ => rfl, fun b h1 h2 => absurd h2 (by omega)⟩
theorem Ev.alloc {k : Nat} (h : Ev wp w k) : Ev wp (w.alloc poisoned) (k + 1) := by
  have hz : (w.alloc poisoned).heap.size = w.heap.size + 1 := by show (w.heap.push _).size = _; simp
  refine ⟨h.tape, h.os, h.output, by rw [hz, h.size]; omega, fun b hb => ?_, fun b h1 h2 => ?_⟩
  · rw [alloc_at (by have := h.size; omega)]; exact h.low b hb
  · by_cases e : b < w.heap.size
    · rw [alloc_at e]; exact h.new b h1 (by have := h.size; omega)
    · have : b = w.heap.size := by have := h.size; omega
      subst this
      exact alloc_new

theorem lay_dz {b : Option Addr} {n c k : Nat} (hn : n < 100000) (hE : Ev wp w k) (h : Sl a b n c 0) (hq : ∀ a' w', Sl a' b n c n → Ev wp w' (k + 3 * n) → Q .normal a' w') : Dz Tryq.prog dd (.block 0 (.loop lay)) Q a w := by
  refine Dz.block (Dz.loop (fun a' w' => ∃ i, i ≤ n ∧ Sl a' b n c i ∧ Ev wp w' (k + 3 * i)) (fun a _ => muf n a) ⟨0, by omega, h, hE⟩ ?_)
  rintro a1 w1 ⟨i, hi, hS, hE1⟩
  have hmu := hS.muf
  refine dz_more hS (fun hlt => ?_) (fun hge => ?_)
  · replace hS := hS.put 4 (.bool true) (by omega) (by omega) (by omega)
    generalize a1.put (some 4) (.bool true) = a2 at hS ⊢
    refine dz_then (up_chan ?_)
    replace hS := hS.put 12 (.chan (some w1.heap.size)) (by omega) (by omega) (by omega)
    generalize a2.put (some 12) (.chan (some w1.heap.size)) = a3 at hS ⊢
    replace hE1 := hE1.alloc
    generalize w1.alloc poisoned = w2 at hE1 ⊢
    refine dz_then (up_chan ?_)
    replace hS := hS.put 12 (.chan (some w2.heap.size)) (by omega) (by omega) (by omega)
    generalize a3.put (some 12) (.chan (some w2.heap.size)) = a4 at hS ⊢
    replace hE1 := hE1.alloc
    generalize w2.alloc poisoned = w3 at hE1 ⊢
    refine dz_then (up_chan ?_)
    replace hS := hS.put 12 (.chan (some w3.heap.size)) (by omega) (by omega) (by omega)
    generalize a4.put (some 12) (.chan (some w3.heap.size)) = a5 at hS ⊢
    replace hE1 := hE1.alloc
    generalize w3.alloc poisoned = w4 at hE1 ⊢
    refine dz_next hn hlt hS ⟨⟨i + 1, by omega, hS.put3 (i + 1), by have e : k + 3 * (i + 1) = k + 3 * i + 1 + 1 + 1 := by omega
                                                                    rw [e]; exact hE1⟩, ?_⟩
    rw [(hS.put3 (i + 1)).muf, hmu]; omega
  · have : i = n := by omega
    subst this
    show Exit.inBlock 0 Q (.exit 0) _ _
    simp only [Exit.inBlock, if_true]
    exact hq _ _ (hS.put 4 _ (by omega) (by omega) (by omega)) hE1
end

end Go.Proofs.Ythoaldiadgeonaa.Tq

namespace Go.Proofs.Ythoaldiadgeonaa.Tq
open Go.Proofs.Ythoaldiadgeonaa.Tr Go.Proofs.Ythoaldiadgeonaa.Cr Go.RowKit Go.Conc
open Go.ConcN (upd upd_same upd_ne)
open Go.Joins (cell_of_block unfrozen_of_block block_setCell)
set_option linter.unusedSimpArgs false
set_option maxRecDepth 100000

section
variable {P : Program} {dd : Prop} {Q : Exit → Act → World → Prop} {K : Act → World → Prop} {a : Act} {w wp : World} {V : Nat → Prop}

/-- The list has been laid, too. -/
structure EvL (wp w : World) (k n : Nat) (f : Nat → Int) (j : Nat) : Prop where
  tape : w.tape = wp.tape
  os : w.os = wp.os
  output : w.output = wp.output
  size : w.heap.size = wp.heap.size + k + 1 + j
  low : ∀ b, b < wp.heap.size → w.heap[b]? = wp.heap[b]?
  list : w.heap[wp.heap.size + k]? = some (.cells (lc f n) 3)
  new : ∀ b, wp.heap.size ≤ b → b < wp.heap.size + k + 1 + j → b ≠ wp.heap.size + k → w.heap[b]? = some poisoned
theorem EvL.of {k n : Nat} (h : Ev wp w k) : EvL wp (w.alloc (.cells (lc (fun _ => 0) n) 3)) k n (fun _ => 0) 0 := by
  have hz : (w.alloc (.cells (lc (fun _ => 0) n) 3)).heap.size = w.heap.size + 1 := by show (w.heap.push _).size = _; simp
  have hs := h.size
  refine ⟨h.tape, h.os, h.output, by rw [hz, hs], fun b hb => ?_, by rw [← hs]; exact alloc_new, fun b h1 h2 h3 => ?_⟩
  · rw [alloc_at (by omega)]; exact h.low b hb
  · rw [alloc_at (by omega)]; exact h.new b h1 (by omega)
theorem EvL.alloc {k n j : Nat} {f : Nat → Int} (h : EvL wp w k n f j) : EvL wp (w.alloc poisoned) k n f (j + 1) := by
  have hz : (w.alloc poisoned).heap.size = w.heap.size + 1 := by show (w.heap.push _).size = _; simp
  have hs := h.size
  refine ⟨h.tape, h.os, h.output, by rw [hz, hs]; omega, fun b hb => ?_, by rw [alloc_at (by omega)]; exact h.list, fun b h1 h2 h3 => ?_⟩
  · rw [alloc_at (by omega)]; exact h.low b hb
  · by_cases e : b < w.heap.size
    · rw [alloc_at e]; exact h.new b h1 (by omega) h3
    · have : b = w.heap.size := by omega
      subst this
      exact alloc_new
theorem EvL.set {k n j : Nat} {f : Nat → Int} (h : EvL wp w k n f j) (i : Nat) (v : Int) : EvL wp (w.setCell ⟨wp.heap.size + k, i, none⟩ (.int .i64 v)) k n (upd f i v) j := by
  refine ⟨h.tape, h.os, h.output, by rw [setCell_size]; exact h.size, fun b hb => ?_, ?_, fun b h1 h2 h3 => ?_⟩
  · rw [setCell_at _ _ _ (by show b ≠ wp.heap.size + k; omega)]; exact h.low b hb
  · rw [block_setCell h.list, lc_set]
  · rw [setCell_at _ _ _ h3]; exact h.new b h1 h2 h3
theorem EvL.cell {k n j : Nat} {f : Nat → Int} (h : EvL wp w k n f j) {ad : Addr} {v : Value} (hb : ad.block < wp.heap.size) (hc : wp.cell? ad = some v) : w.cell? ad = some v := by
  rw [← hc]; unfold World.cell?; rw [h.low _ hb]

/-- An ask and its order. -/
def Done (w : World) (b : Option Addr) (j : Nat) (k : Int) : Prop :=
  ∃ A off x m ord : Nat, b = some ⟨A, off, none⟩ ∧ w.cell? ⟨A, off + j * 2, none⟩ = some (V64 x) ∧ w.cell? ⟨A, off + j * 2 + 1, none⟩ = some (V64 m) ∧ x ≤ 1000 ∧ 1 ≤ m ∧ m ≤ 15000 ∧ A < w.heap.size ∧ Ord x m ord ∧ k = ord

theorem up_loadK {ad : Addr} {u v : Value} (hx : a.eval (.tmp 5) = .pointer (some ad)) (hu : w.cell? ad = some u) (hv : w.cell? (ad.add 1) = some v) (hk : K (a.put (some 6) (.agg #[u, v])) w) :
    Upn dd (opr (some 6) (.load 43 (.tmp 5))) a K ((execOp a.eval (opr (some 6) (.load 43 (.tmp 5)))).run Tryq.prog w) := by
  have he : (Instr.loadAt 43 (.pointer (some ad))).run Tryq.prog w = .ok (.agg #[u, v]) w := by
    have hv' : w.cell? { block := ad.block, off := ad.off + 1 } = some v := by simpa [Addr.add] using hv
    simp [Instr.loadAt, Instr.sureAddr, loadVar, loadCells, loadCellsFrom, Addr.add, hu, hv']
  exact up_val (s := Instr.loadAt 43 (.pointer (some ad))) (by simp only [execOp, hx]) he hk

theorem Has.sl {l : List (Nat × Value)} {b : Option Addr} {n c i : Nat} (h : Has a l) (h0 : (0, .slice b n c) ∈ l) (h1 : (1, V64 n) ∈ l) (h3 : (3, V64 i) ∈ l) : Sl a b n c i :=
  ⟨h.1, h.2.1, h.2.2 _ _ h0, h.2.2 _ _ h1, h.2.2 _ _ h3⟩

set_option maxHeartbeats 4000000 in
theorem work_dz {b : Option Addr} {n c k : Nat} (hn : n < 100000) (hA : ∀ j, j < n → AskAt wp b j) (hv : dd ∨ ∀ j, j < n → ∃ o, Done wp b j o) (hE : EvL wp w k n (fun _ => 0) 0)
    (h : Has a [(0, .slice b n c), (1, V64 n), (2, .slice (some ⟨wp.heap.size + k, 0, none⟩) n n), (3, V64 0)])
    (hq : ∀ a' w' f, Has a' [(2, .slice (some ⟨wp.heap.size + k, 0, none⟩) n n)] → EvL wp w' k n f n → (∀ j, j < n → Done wp b j (f j)) → Q .normal a' w') : Dz Tryq.prog dd (.block 0 (.loop work)) Q a w := by
  refine Dz.block (Dz.loop (fun a' w' => ∃ i f, i ≤ n ∧ Has a' [(0, .slice b n c), (1, V64 n), (2, .slice (some ⟨wp.heap.size + k, 0, none⟩) n n), (3, V64 i)] ∧ EvL wp w' k n f i ∧ ∀ j, j < i → Done wp b j (f j)) (fun a _ => muf n a)
    ⟨0, fun _ => 0, by omega, h, hE, fun j hj => absurd hj (by omega)⟩ ?_)
  rintro a1 w1 ⟨i, f, hi, hH, hE1, hD⟩
  have hS : Sl a1 b n c i := hH.sl (b := b) (n := n) (c := c) (i := i) (by simp) (by simp) (by simp)
  have hmu := hS.muf
  refine dz_more hS (fun hlt => ?_) (fun hge => ?_)
  · obtain ⟨A, off, x, m, rfl, hu, hv', hx, hm1, hm2, hAlt⟩ := hA i hlt
    replace hH := hH.put 4 (.bool true) (by omega) [(0, .slice (some ⟨A, off, none⟩) n c), (1, V64 n), (2, .slice (some ⟨wp.heap.size + k, 0, none⟩) n n), (3, V64 i)] (by simp)
    generalize a1.put (some 4) (.bool true) = a2 at hH ⊢
    have eadd : (⟨A, off, none⟩ : Addr).add (i * 2) = ⟨A, off + i * 2, none⟩ := by
      unfold Addr.add
      split
      · rename_i hz; simp [hz]
      · rfl
    refine dz_then (up_ixAsk (ad := ⟨A, off, none⟩) (n := n) (c := c) (i := i) (hH.get (by simp)) (hH.get (by simp)) hlt ?_)
    rw [eadd]
    replace hH := hH.put 5 (.pointer (some ⟨A, off + i * 2, none⟩)) (by omega) [(5, .pointer (some ⟨A, off + i * 2, none⟩)), (0, .slice (some ⟨A, off, none⟩) n c), (1, V64 n), (2, .slice (some ⟨wp.heap.size + k, 0, none⟩) n n), (3, V64 i)] (by simp)
    generalize a2.put (some 5) (.pointer (some ⟨A, off + i * 2, none⟩)) = a3 at hH ⊢
    refine dz_then (up_loadK (u := V64 x) (v := V64 m) (hH.get (by simp)) (hE1.cell hAlt hu) (by
      have : (⟨A, off + i * 2, none⟩ : Addr).add 1 = ⟨A, off + i * 2 + 1, none⟩ := by simp [Addr.add]
      rw [this]; exact hE1.cell hAlt hv') ?_)
    replace hH := hH.put 6 (.agg #[V64 x, V64 m]) (by omega) [(6, .agg #[V64 x, V64 m]), (0, .slice (some ⟨A, off, none⟩) n c), (1, V64 n), (2, .slice (some ⟨wp.heap.size + k, 0, none⟩) n n), (3, V64 i)] (by simp)
    generalize a3.put (some 6) (.agg #[V64 x, V64 m]) = a4 at hH ⊢
    refine dz_then (up_field0 (u := V64 x) (v := V64 m) (hH.get (by simp)) ?_)
    replace hH := hH.put 7 (V64 x) (by omega) [(6, .agg #[V64 x, V64 m]), (7, V64 x), (0, .slice (some ⟨A, off, none⟩) n c), (1, V64 n), (2, .slice (some ⟨wp.heap.size + k, 0, none⟩) n n), (3, V64 i)] (by simp)
    generalize a4.put (some 7) (V64 x) = a5 at hH ⊢
    refine dz_then (up_field1 (u := V64 x) (v := V64 m) (hH.get (by simp)) ?_)
    replace hH := hH.put 8 (V64 m) (by omega) [(7, V64 x), (8, V64 m), (0, .slice (some ⟨A, off, none⟩) n c), (1, V64 n), (2, .slice (some ⟨wp.heap.size + k, 0, none⟩) n n), (3, V64 i)] (by simp)
    generalize a5.put (some 8) (V64 m) = a6 at hH ⊢
    refine dz_then (up_move (v := V64 1) rfl ?_)
    replace hH := hH.put 9 (V64 1) (by omega) [(7, V64 x), (8, V64 m), (9, V64 1), (0, .slice (some ⟨A, off, none⟩) n c), (1, V64 n), (2, .slice (some ⟨wp.heap.size + k, 0, none⟩) n n), (3, V64 i)] (by simp)
    generalize a6.put (some 9) (V64 1) = a7 at hH ⊢
    refine dz_then (up_bin (p := x) (q := m) (hH.get (by simp)) (hH.get (by simp)) (v := V64 (x % m)) (rem_run hm1 _) ?_)
    replace hH := hH.put 10 (V64 (x % m)) (by omega) [(7, V64 x), (8, V64 m), (9, V64 1), (10, V64 (x % m)), (0, .slice (some ⟨A, off, none⟩) n c), (1, V64 n), (2, .slice (some ⟨wp.heap.size + k, 0, none⟩) n n), (3, V64 i)] (by simp)
    generalize a7.put (some 10) (V64 (x % m)) = a8 at hH ⊢
    refine dz_then (up_bin (p := (1 : Nat)) (q := m) rfl (hH.get (by simp)) (v := V64 (1 % m)) (rem_run hm1 _) ?_)
    replace hH := hH.put 11 (V64 (1 % m)) (by omega) [(7, V64 x), (8, V64 m), (9, V64 1), (10, V64 (x % m)), (11, V64 (1 % m)), (0, .slice (some ⟨A, off, none⟩) n c), (1, V64 n), (2, .slice (some ⟨wp.heap.size + k, 0, none⟩) n n), (3, V64 i)] (by simp)
    generalize a8.put (some 11) (V64 (1 % m)) = a9 at hH ⊢
    have hvi : dd ∨ ∃ K, Tq.Ord x m K := hv.imp id fun h => by
      obtain ⟨_, A', off', x', m', o, e, h1, h2, _, _, _, _, h3, _⟩ := h i hlt
      injection e with e
      injection e with e1 e2
      subst e1 e2
      rw [hu] at h1
      rw [hv'] at h2
      injection h1 with h1
      injection h1 with _ h1
      injection h2 with h2
      injection h2 with _ h2
      have e3 : x' = x := by omega
      have e4 : m' = m := by omega
      subst e3 e4
      exact ⟨o, h3⟩
    refine Dz.seq (turn_dz hx hm1 hm2 hvi (B := [(0, .slice (some ⟨A, off, none⟩) n c), (1, V64 n), (2, .slice (some ⟨wp.heap.size + k, 0, none⟩) n n), (3, V64 i)]) (by simp) hH fun a10 ord hH2 hord => ?_)
    show Dz Tryq.prog dd _ _ a10 w1
    have eadd2 : (⟨wp.heap.size + k, 0, none⟩ : Addr).add i = ⟨wp.heap.size + k, i, none⟩ := by
      unfold Addr.add
      split
      · rename_i hz; simp [hz]
      · simp
    refine dz_then (up_ixInt (ad := ⟨wp.heap.size + k, 0, none⟩) (n := n) (c := n) (i := i) (hH2.get (by simp)) (hH2.get (by simp)) hlt ?_)
    rw [eadd2]
    replace hH2 := hH2.put 13 (.pointer (some ⟨wp.heap.size + k, i, none⟩)) (by omega) [(13, .pointer (some ⟨wp.heap.size + k, i, none⟩)), (9, V64 ord), (0, .slice (some ⟨A, off, none⟩) n c), (1, V64 n), (2, .slice (some ⟨wp.heap.size + k, 0, none⟩) n n), (3, V64 i)] (by simp)
    generalize a10.put (some 13) (.pointer (some ⟨wp.heap.size + k, i, none⟩)) = a11 at hH2 ⊢
    have hcell : w1.cell? ⟨wp.heap.size + k, i, none⟩ = some (.int .i64 (f i)) := (cell_of_block hE1.list i).trans (by rw [lc_get, if_pos hlt])
    refine dz_do (up_store (ad := ⟨wp.heap.size + k, i, none⟩) (k := ord) (hH2.get (by simp)) (hH2.get (by simp)) hcell (unfrozen_of_block hE1.list i) ?_)
    have hE2 := hE1.set i ord
    generalize w1.setCell ⟨wp.heap.size + k, i, none⟩ (.int .i64 ord) = w2 at hE2 ⊢
    refine dz_then (up_chan ?_)
    replace hH2 := hH2.put 12 (.chan (some w2.heap.size)) (by omega) [(0, .slice (some ⟨A, off, none⟩) n c), (1, V64 n), (2, .slice (some ⟨wp.heap.size + k, 0, none⟩) n n), (3, V64 i)] (by simp)
    generalize a11.put (some 12) (.chan (some w2.heap.size)) = a12 at hH2 ⊢
    replace hE2 := hE2.alloc
    generalize w2.alloc poisoned = w3 at hE2 ⊢
    have hS2 : Sl a12 (some ⟨A, off, none⟩) n c i := hH2.sl (b := some ⟨A, off, none⟩) (n := n) (c := c) (i := i) (by simp) (by simp) (by simp)
    refine dz_next hn hlt hS2 ⟨⟨i + 1, upd f i ord, by omega, hH2.put 3 (V64 (i + 1)) (by omega) _ (by simp), hE2, fun j hj => ?_⟩, ?_⟩
    · by_cases e : j = i
      · subst e
        exact ⟨A, off, x, m, ord, rfl, hu, hv', hx, hm1, hm2, hAlt, hord, upd_same ..⟩
      · rw [upd_ne f _ e]; exact hD j (by omega)
    · rw [(hS2.put3 (i + 1)).muf, hmu]; omega
  · have : i = n := by omega
    subst this
    show Exit.inBlock 0 Q (.exit 0) _ _
    simp only [Exit.inBlock, if_true]
    exact hq _ _ f (hH.put 4 _ (by omega) [(2, .slice (some ⟨wp.heap.size + k, 0, none⟩) i i)] (by simp)) hE1 hD

set_option maxHeartbeats 4000000 in
/-- WHOLE: who gets through met nothing but asks. -/
theorem orders_dz (hr : dd → Rel (selfC Tryq.prog V) wp wp) {T : Array Value} (hT : 38 ≤ T.size) (hv : dd ∨ (T.size ≤ 38 ∧ ∃ b n c, T[0]? = some (.slice b n c) ∧ n < 100000 ∧ ∀ j, j < n → ∃ o, Done wp b j o))
    (hq : ∀ b n c a' w' f, T.size = 38 → T[0]? = some (.slice b n c) → n < 100000 → Has a' [(2, .slice (some ⟨wp.heap.size + (3 + 3 * n), 0, none⟩) n n)] → EvL wp w' (3 + 3 * n) n f n → (∀ j, j < n → Done wp b j (f j)) → Q .ret a' w') :
    Dz Tryq.prog dd ordersBody Q ⟨T, []⟩ wp := by
  refine dz_arity (hv.imp id fun h => h.1) fun hsz => ?_
  have hs : T.size = 38 := by have : T.size ≤ 38 := hsz; omega
  obtain ⟨v0, hv0⟩ : ∃ v, T[0]? = some v := ⟨T[0], Array.getElem?_eq_getElem (by omega)⟩
  have hH0 : Has ⟨T, []⟩ [(0, v0)] := ⟨hs, rfl, fun i v hi => by
    simp only [List.mem_singleton, Prod.mk.injEq] at hi
    obtain ⟨rfl, rfl⟩ := hi
    exact hv0⟩
  generalize (⟨T, []⟩ : Act) = a0 at hH0 ⊢
  refine dz_then (up_len (v := v0) (hH0.get (by simp)) (hv.imp id fun ⟨_, b, n, c, h, _⟩ => ⟨b, n, c, Option.some.inj (hv0.symm.trans h)⟩) fun b n c hbn => ?_)
  subst hbn
  have hv1 : dd ∨ (n < 100000 ∧ ∀ j, j < n → ∃ o, Done wp b j o) := hv.imp id fun ⟨_, b', n', c', h, h1, h2⟩ => by
    rw [hv0] at h
    injection h with h
    injection h with e1 e2 _
    subst e1 e2
    exact ⟨h1, h2⟩
  clear hv
  replace hH0 := hH0.put 1 (V64 n) (by omega) [(0, .slice b n c), (1, V64 n)] (by simp)
  generalize a0.put (some 1) (.int .i64 n) = a1 at hH0 ⊢
  refine dz_must (up_bin (p := n) (q := 100000) (hH0.get (by simp)) rfl (v := .bool (decide ((n : Int) < 100000))) rfl ⟨_, put_eq (by rw [hH0.1]; omega), fun ht => ?_, fun hf => hv1.resolve_right (fun h => by have := of_decide_eq_false hf; omega)⟩)
  have hn : n < 100000 := by have := of_decide_eq_true ht; omega
  replace hH0 := hH0.put 4 (.bool (decide ((n : Int) < 100000))) (by omega) [(0, .slice b n c), (1, V64 n)] (by simp)
  generalize a1.put (some 4) (.bool (decide ((n : Int) < 100000))) = a2 at hH0 ⊢
  refine dz_then (up_move (v := V64 0) rfl ?_)
  replace hH0 := hH0.put 3 (V64 0) (by omega) [(0, .slice b n c), (1, V64 n), (3, V64 0)] (by simp)
  generalize a2.put (some 3) (V64 0) = a3 at hH0 ⊢
  refine Dz.seq (look_dz hn hr (hH0.sl (b := b) (n := n) (c := c) (i := 0) (by simp) (by simp) (by simp)) (hv1.imp id fun h j hj => let ⟨_, A, off, x, m, _, e, h1, h2, h3, h4, h5, h6, _⟩ := h.2 j hj; ⟨A, off, x, m, e, h1, h2, h3, h4, h5, h6⟩) fun a4 hS hA => ?_)
  show Dz Tryq.prog dd _ _ a4 wp
  clear hH0
  have hE := Ev.refl wp
  refine dz_then (up_chan ?_)
  replace hS := hS.put 12 (.chan (some wp.heap.size)) (by omega) (by omega) (by omega)
  generalize a4.put (some 12) (.chan (some wp.heap.size)) = a5 at hS ⊢
  replace hE := hE.alloc
  generalize wp.alloc poisoned = w1 at hE ⊢
  refine dz_then (up_chan ?_)
  replace hS := hS.put 12 (.chan (some w1.heap.size)) (by omega) (by omega) (by omega)
  generalize a5.put (some 12) (.chan (some w1.heap.size)) = a6 at hS ⊢
  replace hE := hE.alloc
  generalize w1.alloc poisoned = w2 at hE ⊢
  refine dz_then (up_chan ?_)
  replace hS := hS.put 12 (.chan (some w2.heap.size)) (by omega) (by omega) (by omega)
  generalize a6.put (some 12) (.chan (some w2.heap.size)) = a7 at hS ⊢
  replace hE := hE.alloc
  generalize w2.alloc poisoned = w3 at hE ⊢
  refine dz_then (up_move (v := V64 0) rfl ?_)
  replace hS := hS.put3 0
  generalize a7.put (some 3) (V64 0) = a8 at hS ⊢
  refine Dz.seq (lay_dz hn hE hS fun a9 w4 hS2 hE2 => ?_)
  show Dz Tryq.prog dd _ _ a9 w4
  have hH : Has a9 [(0, .slice b n c), (1, V64 n)] := ⟨hS2.size, hS2.defers, fun i v hi => by
    simp only [List.mem_cons, List.not_mem_nil, or_false, Prod.mk.injEq] at hi
    rcases hi with ⟨rfl, rfl⟩ | ⟨rfl, rfl⟩
    · exact hS2.s0
    · exact hS2.s1⟩
  refine dz_then (up_make (n := n) hn (hH.get (by simp)) ?_)
  have hz : w4.heap.size = wp.heap.size + (3 + 3 * n) := by have := hE2.size; omega
  have hE3 := EvL.of (n := n) hE2
  have e3 : 0 + 1 + 1 + 1 + 3 * n = 3 + 3 * n := by omega
  rw [e3] at hE3
  rw [hz]
  replace hH := hH.put 2 (.slice (some ⟨wp.heap.size + (3 + 3 * n), 0, none⟩) n n) (by omega) [(0, .slice b n c), (1, V64 n), (2, .slice (some ⟨wp.heap.size + (3 + 3 * n), 0, none⟩) n n)] (by simp)
  generalize a9.put (some 2) (.slice (some ⟨wp.heap.size + (3 + 3 * n), 0, none⟩) n n) = a10 at hH ⊢
  generalize w4.alloc (.cells (lc (fun _ => 0) n) 3) = w5 at hE3 ⊢
  refine dz_then (up_move (v := V64 0) rfl ?_)
  replace hH := hH.put 3 (V64 0) (by omega) [(0, .slice b n c), (1, V64 n), (2, .slice (some ⟨wp.heap.size + (3 + 3 * n), 0, none⟩) n n), (3, V64 0)] (by simp)
  generalize a10.put (some 3) (V64 0) = a11 at hH ⊢
  refine Dz.seq (work_dz hn hA (hv1.imp id fun h => h.2) hE3 hH fun a12 w6 f hH2 hE4 hD => ?_)
  exact Dz.ret (hq b n c a12 w6 f hs hv0 hn hH2 hE4 hD)
end

end Go.Proofs.Ythoaldiadgeonaa.Tq
