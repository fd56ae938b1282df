/-
  One goroutine's steps in company, as a calculus over what is held of the world: GF F n g: from g, in whatever world that satisfies F, at most n own steps to a stop.
  The order of a number in company: what the function does once it has laid its receiver's own variable.
  A worker of the program's orders, in company, whatever order its statement draws: up to the making of the variable of the order's receiver, and from there up to the sending.
  A worker of the program's orders in company: from its birth up to the sending, and from there into sync.WaitGroup's Done.
  What a worker of the program's orders suffers and may do, and its whole script.
-/
import Derived.Test.YthoaldiadgeonaaGGoA
import Derived.Conc.WgWords
import Derived.Conc.CompanyDraw
import Derived.Lib.Hide
import Derived.WalkKit
namespace Go.Proofs.Ythoaldiadgeonaa.Cr
open Go.Conc Go.ConcR Go.RowKit Go.Conc.Lib Go.ConcR.Gen

variable {P : Program} {main : Bool} {R : World → World → Prop} {D : World → World → Array Event → Prop} {Stop : Goroutine → World → Prop} {F : World → Prop}

/-- A block of plain cells, or a channel. -/
def PlainObj : Obj → Prop
  | .cells _ _ fr => fr = (0, 0)
  | .chan .. => True
  | _ => False
def PlainAt (w : World) (b : Nat) : Prop := ∃ o, w.heap[b]? = some o ∧ PlainObj o
theorem PlainAt.setCell {w : World} {b : Nat} (h : PlainAt w b) (a : Addr) (v : Value) : PlainAt (w.setCell a v) b := by
  obtain ⟨o, h1, h2⟩ := h
  unfold PlainAt World.setCell
  simp only [Array.getElem?_modify, h1]
  by_cases e : a.block = b
  · simp only [e, if_true, Option.map_some]
    refine ⟨_, rfl, ?_⟩
    cases o <;> simp_all [PlainObj]
  · simp only [e, if_false]
    exact ⟨o, rfl, h2⟩
theorem PlainAt.of_eq {w w' : World} {b : Nat} (h : PlainAt w b) (e : w'.heap[b]? = w.heap[b]?) : PlainAt w' b := let ⟨o, h1, h2⟩ := h; ⟨o, e.trans h1, h2⟩

/-- What is held is kept by the others; a step that does nothing is let by. -/
structure Hold (R : World → World → Prop) (D : World → World → Array Event → Prop) (F : World → Prop) : Prop where
  rel : ∀ w w₁, F w → R w w₁ → F w₁
  none : ∀ w, D w w #[]

def GF (P : Program) (main : Bool) (R : World → World → Prop) (D : World → World → Array Event → Prop) (Stop : Goroutine → World → Prop) (F : World → Prop) (n : Nat) (g : Goroutine) : Prop :=
  ∀ w, F w → Goes P main R D Stop n g w

theorem GF.stop (E : Hold R D F) {n : Nat} {g : Goroutine} (h : ∀ w, F w → Stop g w) : GF P main R D Stop F n g :=
  fun w hw => Goes.stop fun w₁ h₁ => h w₁ (E.rel w w₁ hw h₁)

theorem GF.ctl (E : Hold R D F) {n : Nat} {g g' : Goroutine} (hs : g.status = .running) (law : ∀ w, stepG P main g w = .go g' w #[]) (h : GF P main R D Stop F n g') : GF P main R D Stop F (n + 1) g :=
  fun w hw => Goes.step hs fun w₁ h₁ => by rw [law w₁]; exact ⟨E.none w₁, h w₁ (E.rel w w₁ hw h₁)⟩

/-- A step that lists something and leaves the world. -/
theorem GF.says (E : Hold R D F) {n : Nat} {g g' : Goroutine} {es : Array Event} (hs : g.status = .running) (law : ∀ w, stepG P main g w = .go g' w es) (hd : ∀ w, F w → D w w es) (h : GF P main R D Stop F n g') : GF P main R D Stop F (n + 1) g :=
  fun w hw => Goes.step hs fun w₁ h₁ => by rw [law w₁]; exact ⟨hd w₁ (E.rel w w₁ hw h₁), h w₁ (E.rel w w₁ hw h₁)⟩

section
variable {b : Frame} {a : Act} {k : List Item} {cs : List Frame}

theorem GF.cond (E : Hold R D F) {n : Nat} {c : Operand} {x y : Code} {t : Bool} (ht : a.eval c = .bool t) (h : GF P main R D Stop F n (G (b.at a (.code (if t then x else y) :: k)) cs)) :
    GF P main R D Stop F (n + 1) (G (b.at a (.code (.cond c x y) :: k)) cs) := GF.ctl E rfl (fun _ => stepG_cond ht) h

theorem GF.seq (E : Hold R D F) {n : Nat} {x y : Code} (h : GF P main R D Stop F n (G (b.at a (.code x :: .code y :: k)) cs)) : GF P main R D Stop F (n + 1) (G (b.at a (.code (.seq x y) :: k)) cs) := GF.ctl E rfl (fun _ => stepG_seq) h
theorem GF.nop (E : Hold R D F) {n : Nat} (h : GF P main R D Stop F n (G (b.at a k) cs)) : GF P main R D Stop F (n + 1) (G (b.at a (.code .skip :: k)) cs) := GF.ctl E rfl (fun _ => stepG_skip) h
theorem GF.label (E : Hold R D F) {n l : Nat} (h : GF P main R D Stop F n (G (b.at a k) cs)) : GF P main R D Stop F (n + 1) (G (b.at a (.code (.label l) :: k)) cs) := GF.ctl E rfl (fun _ => stepG_label) h
theorem GF.inBlock (E : Hold R D F) {n id : Nat} (h : GF P main R D Stop F n (G (b.at a k) cs)) : GF P main R D Stop F (n + 1) (G (b.at a (.inBlock id :: k)) cs) := GF.ctl E rfl (fun _ => stepG_inBlock) h
theorem GF.block (E : Hold R D F) {n id : Nat} {c : Code} (h : GF P main R D Stop F n (G (b.at a (.code c :: .inBlock id :: k)) cs)) : GF P main R D Stop F (n + 1) (G (b.at a (.code (.block id c) :: k)) cs) := GF.ctl E rfl (fun _ => stepG_block) h
theorem GF.loop (E : Hold R D F) {n : Nat} {c : Code} (h : GF P main R D Stop F n (G (b.at a (.code c :: .inLoop c :: k)) cs)) : GF P main R D Stop F (n + 1) (G (b.at a (.code (.loop c) :: k)) cs) := GF.ctl E rfl (fun _ => stepG_loop) h
theorem GF.inLoop (E : Hold R D F) {n : Nat} {c : Code} (h : GF P main R D Stop F n (G (b.at a (.code c :: .inLoop c :: k)) cs)) : GF P main R D Stop F (n + 1) (G (b.at a (.inLoop c :: k)) cs) := GF.ctl E rfl (fun _ => stepG_inLoop) h
theorem GF.regEnd (E : Hold R D F) {n : Nat} {ops : Array Oper} (h : GF P main R D Stop F n (G (b.at a k) cs)) : GF P main R D Stop F (n + 1) (G (b.at a (.inRegion ops [] :: k)) cs) := GF.ctl E rfl (fun _ => stepG_region_end) h
theorem GF.ret (E : Hold R D F) {n : Nat} (h : GF P main R D Stop F n (G { b.at a (.code .ret :: k) with mode := .returning } cs)) : GF P main R D Stop F (n + 1) (G (b.at a (.code .ret :: k)) cs) := GF.ctl E rfl (fun _ => stepG_ret') h
theorem GF.fin (E : Hold R D F) {n : Nat} (h : GF P main R D Stop F n (G { b.at a [] with mode := .returning } cs)) : GF P main R D Stop F (n + 1) (G (b.at a []) cs) := GF.ctl E rfl (fun _ => stepG_end) h

theorem GF.reg (E : Hold R D F) {n : Nat} {id : Nat} {ops : Array Oper} (h : GF P main R D Stop F n (G (b.at a (.inRegion ops (List.range ops.size) :: k)) cs)) :
    GF P main R D Stop F (n + 1) (G (b.at a (.code (.region id ops false) :: k)) cs) := GF.ctl E rfl (fun _ => stepG_region) h

theorem GF.skip (E : Hold R D F) {n : Nat} {ops : Array Oper} {i : Nat} {rest : List Nat} {o : Oper} (ho : ops[i]? = some o) (hw : Region.wanted o (yielded ops a.tmps) = false)
    (h : GF P main R D Stop F n (G (b.at (a.put o.dst undef) (.inRegion ops rest :: k)) cs)) : GF P main R D Stop F (n + 1) (G (b.at a (.inRegion ops (i :: rest) :: k)) cs) :=
  GF.ctl E rfl (fun _ => stepG_unwanted ho hw) h

theorem GF.exit (E : Hold R D F) {n : Nat} {id : Nat} {k' : List Item} (hx : exitTo id k = some k') (h : GF P main R D Stop F n (G (b.at a k') cs)) :
    GF P main R D Stop F (n + 1) (G (b.at a (.code (.exit id) :: k)) cs) := GF.ctl E rfl (fun _ => stepG_exit hx) h

/-- An operation that looks at slots alone. -/
def plainOp : Op → Bool
  | .call _ | .go _ | .defer _ | .send .. | .recv .. | .select .. | .panic _ | .load .. | .store .. | .alloc .. | .box .. => false
  | _ => true

theorem GF.oper (E : Hold R D F) {n : Nat} {ops : Array Oper} {i : Nat} {rest : List Nat} {o : Oper} (ho : ops[i]? = some o) (hw : Region.wanted o (yielded ops a.tmps) = true) (hk : b.kind ≠ .early) (_hp : plainOp o.op = true)
    (h : ∀ w, F w → ∀ K : Act → World → Prop, (∀ a', ((∀ e ∈ (execOp a.eval o).events P w #[], False) ∧ GF P main R D Stop F n (G (b.at a' (.inRegion ops rest :: k)) cs)) → K a' w) → uponK o a K ((execOp a.eval o).run P w)) :
    GF P main R D Stop F (n + 1) (G (b.at a (.inRegion ops (i :: rest) :: k)) cs) := fun w hF => Goes.step rfl fun w₁ h₁ => by
  have hF₁ := E.rel w w₁ hF h₁
  refine goes_oper_k ho hw hk fun K hK => h w₁ hF₁ K fun a' ⟨he, hg⟩ => hK a' w₁ ⟨?_, hg w₁ hF₁⟩
  have hnil : listed P b.fn a o w₁ = #[] := Array.eq_empty_iff_forall_not_mem.2 fun e hm => he e (mem_listed hm)
  rw [hnil]
  exact E.none w₁

/-- An operation that leaves the world and may read. -/
theorem GF.operE (E : Hold R D F) {n : Nat} {ops : Array Oper} {i : Nat} {rest : List Nat} {o : Oper} (ho : ops[i]? = some o) (hw : Region.wanted o (yielded ops a.tmps) = true) (hk : b.kind ≠ .early) (loud : (P.funcs[b.fn]?).any (·.norace) = false)
    (h : ∀ w, F w → ∀ K : Act → World → Prop, (∀ a' es, ((execOp a.eval o).events P w #[] = es ∧ (∀ e ∈ es, ∀ f, e.loc ≠ .mark (.extern f)) ∧ D w w es ∧ GF P main R D Stop F n (G (b.at a' (.inRegion ops rest :: k)) cs)) → K a' w) → uponK o a K ((execOp a.eval o).run P w)) :
    GF P main R D Stop F (n + 1) (G (b.at a (.inRegion ops (i :: rest) :: k)) cs) := fun w hF => Goes.step rfl fun w₁ h₁ => by
  have hF₁ := E.rel w w₁ hF h₁
  refine goes_oper_k ho hw hk fun K hK => h w₁ hF₁ K fun a' es ⟨he, hm, hd, hg⟩ => hK a' w₁ ⟨?_, hg w₁ hF₁⟩
  have hl : listed P b.fn a o w₁ = es := by unfold listed; rw [he]; exact seen_eq loud hm
  rw [hl]
  exact hd

theorem GF.call (E : Hold R D F) {n : Nat} {ops : Array Oper} {i : Nat} {rest : List Nat} {o : Oper} {f : FuncId} {fn : Func} {c : Code} {args : Array Operand} {ats : Array TypeId}
    (ho : ops[i]? = some o) (hw : Region.wanted o (yielded ops a.tmps) = true) (hk : b.kind ≠ .early) (hop : o.op = .call { callee := .value (.func f), args, argTypes := ats })
    (hf : P.funcs[f]? = some fn) (hname : (fn.name == "runtime.NumGoroutine") = false) (hb : fn.body = some c)
    (h : GF P main R D Stop F n (G ((base f).at { tmps := args.map a.eval ++ Array.replicate (fn.ntmps - (args.map a.eval).size) undef, defers := [] } [.code c]) (b.at a (.inRegion ops (i :: rest) :: k) :: cs))) :
    GF P main R D Stop F (n + 1) (G (b.at a (.inRegion ops (i :: rest) :: k)) cs) := fun w hF => Goes.step rfl fun w₁ h₁ =>
  goes_call ho hw hk hop hf hname hb ⟨E.none w₁, h w₁ (E.rel w w₁ hF h₁)⟩

theorem GF.leave1 (E : Hold R D F) {n : Nat} {fn : Func} {todo : List Item} {b₀ : Frame} {a₀ : Act} {ops : Array Oper} {i : Nat} {rest : List Nat} {t : Tmp} (hn : b.kind = .normal) (hd : a.defers = []) (hf : P.funcs[b.fn]? = some fn) (hr : fn.results = #[.tmp t])
    (h : GF P main R D Stop F n (G (b₀.at (a₀.put ((ops[i]?).bind (·.dst)) (a.tmps.getD t undef)) (.inRegion ops rest :: k)) cs)) :
    GF P main R D Stop F (n + 1) (G { b.at a todo with mode := .returning } (b₀.at a₀ (.inRegion ops (i :: rest) :: k) :: cs)) := fun w hF => Goes.step rfl fun w₁ h₁ =>
  goes_leave1 hn hd hf hr ⟨E.none w₁, h w₁ (E.rel w w₁ hF h₁)⟩

theorem GF.leave0 (E : Hold R D F) {n : Nat} {fn : Func} {todo : List Item} {b₀ : Frame} {a₀ : Act} {ops : Array Oper} {i : Nat} {rest : List Nat} (hn : b.kind = .normal) (hd : a.defers = []) (hf : P.funcs[b.fn]? = some fn) (hr : fn.results = #[])
    (h : GF P main R D Stop F n (G (b₀.at (a₀.put ((ops[i]?).bind (·.dst)) (.tuple #[])) (.inRegion ops rest :: k)) cs)) :
    GF P main R D Stop F (n + 1) (G { b.at a todo with mode := .returning } (b₀.at a₀ (.inRegion ops (i :: rest) :: k) :: cs)) := fun w hF => Goes.step rfl fun w₁ h₁ =>
  goes_leave0 hn hd hf hr ⟨E.none w₁, h w₁ (E.rel w w₁ hF h₁)⟩

theorem GF.conv (E : Hold R D F) {n : Nat} {ops : Array Oper} {i : Nat} {rest : List Nat} {o : Oper} {ad : Addr} (ho : ops[i]? = some o) (hw : Region.wanted o (yielded ops a.tmps) = true) (hk : b.kind ≠ .early)
    (h : ∀ w, F w → (execOp a.eval o).run P w = .ok (.value (.pointer (some ad))) w ∧ (execOp a.eval o).events P w #[] = #[])
    (hg : GF P main R D Stop F n (G (b.at (a.put o.dst (.pointer (some ad))) (.inRegion ops rest :: k)) cs)) :
    GF P main R D Stop F (n + 1) (G (b.at a (.inRegion ops (i :: rest) :: k)) cs) := fun w hF => Goes.step rfl fun w₁ h₁ => by
  have hF₁ := E.rel w w₁ hF h₁
  obtain ⟨h1, h2⟩ := h w₁ hF₁
  have hnil : listed P b.fn a o w₁ = #[] := Array.eq_empty_iff_forall_not_mem.2 fun e hm => by have := mem_listed hm; rw [h2] at this; simp at this
  rw [stepG_value ho hw hk h1]
  exact ⟨by rw [hnil]; exact E.none w₁, hg w₁ hF₁⟩
end


theorem GF.defer (E : Hold R D F) {b : Frame} {a : Act} {k : List Item} {cs : List Frame} {n : Nat} {ops : Array Oper} {i : Nat} {rest : List Nat} {o : Oper} {f : FuncId} {xs : Array Operand} {ats : Array TypeId} (ho : ops[i]? = some o) (hw : Region.wanted o (yielded ops a.tmps) = true) (hk : b.kind ≠ .early)
    (hop : o.op = .defer { callee := .value (.func f), args := xs, argTypes := ats })
    (h : GF P main R D Stop F n (G (b.at (Act.put ⟨a.tmps, dcall f (xs.map a.eval) :: a.defers⟩ o.dst undef) (.inRegion ops rest :: k)) cs)) : GF P main R D Stop F (n + 1) (G (b.at a (.inRegion ops (i :: rest) :: k)) cs) :=
  GF.ctl E rfl (fun _ => stepG_defer ho hw hk hop) h

theorem GF.more {n : Nat} {g : Goroutine} (h : GF P main R D Stop F n g) : GF P main R D Stop F (n + 1) g := fun w hw => (h w hw).more
theorem GF.le {n m : Nat} {g : Goroutine} (h : GF P main R D Stop F n g) (hm : n ≤ m) : GF P main R D Stop F m g := by
  obtain ⟨d, rfl⟩ := Nat.exists_eq_add_of_le hm
  clear hm
  induction d with
  | zero => exact h
  | succ d ih => exact ih.more

/-- The deferred 'race.Enable()'. -/
theorem unwind_enable {L : WgLink} (H : WgLib P L) {b : Frame} {a : Act} {todo : List Item} {cs : List Frame} {ds : List Deferred} (hd : a.defers = dcall L.enable #[] :: ds) (w : World) :
    stepG P main (G { b.at a todo with mode := .returning } cs) w = .go (G { b.at ⟨a.tmps, ds⟩ todo with mode := .returning } cs) w #[mk .enable] :=
  stepG_unwind_entry (v := .tuple #[]) hd H.f_enable (x_enable_n L) (x_enable_b L) (x_enable_x L) (x_enable_f L) (by simp [Extern.Race.none_]) (by simp [mk]) (by simp [mk])

/-- A step that says one thing and leaves the world, as a stop. -/
def AtSay (P : Program) (main : Bool) (m : Mark) (Next : Goroutine → World → Prop) (g : Goroutine) (w : World) : Prop :=
  g.status = .running ∧ ∃ g', stepG P main g w = .go g' w #[mk m] ∧ Next g' w

theorem listed_nil {b : Frame} {a : Act} {o : Oper} {w : World} (he : (execOp a.eval o).events P w #[] = #[]) : listed P b.fn a o w = #[] := by
  unfold listed
  rw [he, seen_none]

/-- A new block, as one step. -/
theorem box_step {b : Frame} {a : Act} {k : List Item} {cs : List Frame} {ops : Array Oper} {i : Nat} {rest : List Nat} {o : Oper} {w : World} {ob : Obj} (ho : ops[i]? = some o) (hw : Region.wanted o (yielded ops a.tmps) = true) (hk : b.kind ≠ .early)
    (hr : (execOp a.eval o).run P w = .ok (.value (.pointer (some ⟨w.heap.size, 0, none⟩))) (w.alloc ob)) (he : (execOp a.eval o).events P w #[] = #[]) :
    stepG P main (G (b.at a (.inRegion ops (i :: rest) :: k)) cs) w = .go (G (b.at (a.put o.dst (.pointer (some ⟨w.heap.size, 0, none⟩))) (.inRegion ops rest :: k)) cs) (w.alloc ob) #[] := by
  rw [stepG_value ho hw hk hr, listed_nil he]

/-! ### a region that draws its order -/
section
variable {b : Frame} {a : Act} {k : List Item} {cs : List Frame} {ops : Array Oper}

/-- What is still to come up, given what has. -/
def lin (ops : Array Oper) (fuel t : Nat) (listed : Array Bool) : List Nat := Region.linearise.go .any ops fuel t listed []

theorem GF.any (P : Program) (main : Bool) (R : World → World → Prop) (D : World → World → Array Event → Prop) (Stop : Goroutine → World → Prop) (F : World → Prop) {n fuel : Nat} {listed : Array Bool} {xs : List Nat} (hr : Region.ready .any ops listed = xs) (hne : xs ≠ [])
    (h : ∀ i ∈ xs, ∀ t, GF P main R D Stop F n (G (b.at a (.inRegion ops (i :: lin ops fuel t (listed.setIfInBounds i true)) :: k)) cs)) (t : Nat) :
    GF P main R D Stop F n (G (b.at a (.inRegion ops (lin ops (fuel + 1) t listed) :: k)) cs) := by
  have hlt : t % xs.length < xs.length := Nat.mod_lt _ (by cases xs with | nil => exact absurd rfl hne | cons _ _ => simp)
  have e : lin ops (fuel + 1) t listed = xs[t % xs.length] :: lin ops fuel (t / xs.length) (listed.setIfInBounds xs[t % xs.length] true) := by
    unfold lin
    simp only [Region.linearise.go]
    change (match (Region.ready .any ops listed)[t % (Region.ready .any ops listed).length]? with
      | some i => Region.linearise.go .any ops fuel (t / (Region.ready .any ops listed).length) (listed.setIfInBounds i true) [i]
      | none => [].reverse) = _
    rw [hr, List.getElem?_eq_getElem hlt]
    simp only []
    rw [linearise_go_acc]
    rfl
  rw [e]
  exact h _ (List.getElem_mem hlt) _

theorem GF.draw (E : Hold R D F) (hd : ∀ w, D w { w with drawn := w.drawn + 1 } #[]) (hF : ∀ w : World, F w → F { w with drawn := w.drawn + 1 }) (hm : P.follows .mixedOrders = true) {n id : Nat}
    (h : ∀ t, GF P main R D Stop F n (G (b.at a (.inRegion ops (lin ops ops.size t (Array.replicate ops.size false)) :: k)) cs)) :
    GF P main R D Stop F (n + 1) (G (b.at a (.code (.region id ops true) :: k)) cs) := fun w hw => Goes.step rfl fun w₁ h₁ => by
  rw [stepG_region_draw]
  refine ⟨hd w₁, ?_⟩
  have hF₁ := hF w₁ (E.rel w w₁ hw h₁)
  have e : ∀ t, Region.schedule (P.follows .mixedOrders) ops t = lin ops ops.size t (Array.replicate ops.size false) := fun t => by
    simp only [Region.schedule, hm, Bool.true_or, if_true]
    rfl
  rw [e]
  exact h _ _ hF₁
end

end Go.Proofs.Ythoaldiadgeonaa.Cr

namespace Go.Proofs.Ythoaldiadgeonaa.Cr
open Go.Conc Go.ConcR Go.RowKit Go.Conc.Lib Go.ConcR.Gen

noncomputable def ordBody : Code := Try.f46.body.getD .skip
noncomputable def ordOps0 : Array Oper := match ordBody with | .seq (.region _ ops _) _ => ops | _ => #[]
noncomputable def ordTail : Code := match ordBody with | .seq _ c => c | _ => .skip
noncomputable def ordLoop : Code := match ordTail with | .seq _ (.seq (.seq _ (.block _ (.loop c))) _) => c | _ => .skip
noncomputable def ordEnd : Code := match ordTail with | .seq _ (.seq (.seq _ (.block _ (.loop _))) c) => c | _ => .skip
theorem ordLoud : (Try.prog.funcs[(base 46).fn]?).any (·.norace) = false := by kernel_rfl

variable {main : Bool} {R : World → World → Prop} {D : World → World → Array Event → Prop} {F : World → Prop} {Stop : Goroutine → World → Prop}

set_option maxRecDepth 100000 in
set_option maxHeartbeats 8000000 in
theorem order_loop (E : Hold R D F) {β x n m : Nat} (hx : x ≤ 1000) (hn : 1 ≤ n) (hn2 : n ≤ 15000) (hm2 : m ≤ 15000)
    (hno : ∀ j, 1 ≤ j → j < m → x ^ j % n ≠ 1 % n) (hyes : x ^ m % n = 1 % n)
    (cells : ∀ w, F w → w.cell? ⟨β, 0, none⟩ = some (.int .i64 x) ∧ w.cell? ⟨β, 1, none⟩ = some (.int .i64 n))
    (rd0 : ∀ w, F w → D w w #[⟨.cell ⟨β, 0, none⟩, false, false⟩]) (rd1 : ∀ w, F w → D w w #[⟨.cell ⟨β, 1, none⟩, false, false⟩])
    {b₀ : Frame} {a₀ : Act} {ops₀ : Array Oper} {i₀ : Nat} {rest₀ : List Nat} {k₀ : List Item} {cs : List Frame} {mT : Nat}
    (hT : GF Try.prog main R D Stop F mT (G (b₀.at (a₀.put ((ops₀[i₀]?).bind (·.dst)) (.int .i64 m)) (.inRegion ops₀ rest₀ :: k₀)) cs)) :
    ∀ (r j : Nat), j + r = m → 1 ≤ j → ∀ v5 v6 v7 v8 v9 v10 v11 v12 v13 v14 v15 v16 v17 v18 v19 v20 v21 v22 v23 v24 : Value, GF Try.prog main R D Stop F (mT + 40 * r + 40)
      (G ((base 46).at ⟨#[.agg #[.int .i64 x, .int .i64 n], .pointer (some ⟨β, 0, none⟩), .int .i64 0, .int .i64 j, .int .i64 ((x ^ j % n : Nat) : Int), v5, v6, v7, v8, v9, v10, v11, v12, v13, v14, v15, v16, v17, v18, v19, v20, v21, v22, v23, v24], []⟩ [.code ordLoop, .inLoop ordLoop, .inBlock 0, .code ordEnd]) (b₀.at a₀ (.inRegion ops₀ (i₀ :: rest₀) :: k₀) :: cs)) := by
  have hn0 : ¬ n = 0 := by omega
  have hn0' : ¬ (n : Int) = 0 := by omega
  have hrl : ∀ j, x ^ j % n < n := fun j => Nat.mod_lt _ (by omega)
  obtain ⟨u, hu⟩ : ∃ u, 1 % n = u := ⟨_, rfl⟩
  have T1 : Int.tmod 1 (n : Int) = (u : Int) := by rw [← hu]; exact (Int.ofNat_tmod 1 n).symm
  rw [hu] at hno hyes
  have HN := _root_.Go.Lib.hid hno; have HY := _root_.Go.Lib.hid hyes; have HR := _root_.Go.Lib.hid hrl
  clear hno hyes hrl hu
  intro r
  induction r with
  | zero =>
    intro j hjm hj1 v5 v6 v7 v8 v9 v10 v11 v12 v13 v14 v15 v16 v17 v18 v19 v20 v21 v22 v23 v24
    obtain rfl : j = m := by omega
    rw [HY.out]
    have q1 : ((u : Int) != (u : Int)) = false := by simp
    simp only [ordLoop, ordEnd, ordTail, ordBody, Try.f46, Option.getD_some]
    repeat (first
      | refine GF.seq E ?_
      | refine GF.regEnd E ?_
      | refine GF.nop E ?_
      | (refine GF.reg E ?_; simp only [List.size_toArray, List.length_cons, List.length_nil, Nat.reduceAdd, Nat.zero_add, List.range, List.range.loop])
      | (refine GF.cond E (t := true) rfl ?_; simp only [↓reduceIte])
      | (refine GF.cond E (t := false) rfl ?_; simp only [Bool.false_eq_true, ↓reduceIte])
      | (refine GF.oper E rfl rfl (base_kind _) rfl (fun w hF K hK => ?_); go_simp; refine hK _ ⟨?_, ?_⟩; (· intro e he; first | (simp [go_sem] at he; done) | (simp [go_sem, *] at he; done)); clear hK K hF w; (try (walk_nrm)))
      | (refine GF.operE E rfl rfl (base_kind _) ordLoud (fun w hF K hK => ?_); have c0 := (cells w hF).1; go_simp; refine hK _ #[⟨.cell ⟨β, 0, none⟩, false, false⟩] ⟨by simp [go_sem, *], by simp, rd0 w hF, ?_⟩; clear hK K c0 hF w; (try (walk_nrm)))
      | (refine GF.operE E rfl rfl (base_kind _) ordLoud (fun w hF K hK => ?_); have c1 := (cells w hF).2; go_simp; refine hK _ #[⟨.cell ⟨β, 1, none⟩, false, false⟩] ⟨by simp [go_sem, *], by simp, rd1 w hF, ?_⟩; clear hK K c1 hF w; (try (walk_nrm)))
      | refine GF.ret E ?_
      | refine GF.block E ?_
      | refine GF.inBlock E ?_)
    refine GF.exit E rfl ?_
    repeat (first
      | refine GF.seq E ?_
      | refine GF.regEnd E ?_
      | refine GF.nop E ?_
      | (refine GF.reg E ?_; simp only [List.size_toArray, List.length_cons, List.length_nil, Nat.reduceAdd, Nat.zero_add, List.range, List.range.loop])
      | (refine GF.cond E (t := true) rfl ?_; simp only [↓reduceIte])
      | (refine GF.cond E (t := false) rfl ?_; simp only [Bool.false_eq_true, ↓reduceIte])
      | (refine GF.oper E rfl rfl (base_kind _) rfl (fun w hF K hK => ?_); go_simp; refine hK _ ⟨?_, ?_⟩; (· intro e he; first | (simp [go_sem] at he; done) | (simp [go_sem, *] at he; done)); clear hK K hF w; (try (walk_nrm)))
      | (refine GF.operE E rfl rfl (base_kind _) ordLoud (fun w hF K hK => ?_); have c0 := (cells w hF).1; go_simp; refine hK _ #[⟨.cell ⟨β, 0, none⟩, false, false⟩] ⟨by simp [go_sem, *], by simp, rd0 w hF, ?_⟩; clear hK K c0 hF w; (try (walk_nrm)))
      | (refine GF.operE E rfl rfl (base_kind _) ordLoud (fun w hF K hK => ?_); have c1 := (cells w hF).2; go_simp; refine hK _ #[⟨.cell ⟨β, 1, none⟩, false, false⟩] ⟨by simp [go_sem, *], by simp, rd1 w hF, ?_⟩; clear hK K c1 hF w; (try (walk_nrm)))
      | refine GF.ret E ?_
      | refine GF.block E ?_
      | refine GF.inBlock E ?_)
    exact (GF.leave1 E rfl rfl Try.func46 rfl hT).le (by omega)
  | succ r ih =>
    intro j hjm hj1 v5 v6 v7 v8 v9 v10 v11 v12 v13 v14 v15 v16 v17 v18 v19 v20 v21 v22 v23 v24
    have IH := ih (j + 1) (by omega) (by omega)
    have hne := HN.out j hj1 (by omega)
    have hlt := HR.out j
    have hjs : x ^ (j + 1) % n = x ^ j % n * x % n := by rw [Nat.pow_succ, Nat.mod_mul_mod]
    rw [hjs, show ((j + 1 : Nat) : Int) = (j : Int) + 1 by simp] at IH
    obtain ⟨q, hq⟩ : ∃ q, x ^ j % n = q := ⟨_, rfl⟩
    rw [hq] at hne hlt IH ⊢
    have q1 : ((q : Int) != (u : Int)) = true := by simp; omega
    have q2 : ¬ q = u := hne
    have T2 : Int.tmod ((q : Int) * (x : Int)) (n : Int) = ((q * x % n : Nat) : Int) := by rw [← Int.natCast_mul]; exact (Int.ofNat_tmod (q * x) n).symm
    have hqx : q * x ≤ 15000 * 1000 := Nat.mul_le_mul (by omega) hx
    have W1 : IntKind.i64.wrap ((q : Int) * (x : Int)) = (q : Int) * (x : Int) := by rw [← Int.natCast_mul]; exact IntWalk.i64_in _ (by omega)
    obtain ⟨y, hy⟩ : ∃ y, q * x % n = y := ⟨_, rfl⟩
    rw [hy] at T2 IH
    have hyl : y < n := by rw [← hy]; exact Nat.mod_lt _ (by omega)
    have W2 : IntKind.i64.wrap (y : Int) = (y : Int) := IntWalk.i64_in _ (by omega)
    have W3 : IntKind.i64.wrap ((j : Int) + 1) = (j : Int) + 1 := IntWalk.i64_in _ (by omega)
    have IH' := _root_.Go.Lib.hid IH
    clear IH hjs hq hy hqx
    refine GF.le (n := mT + 40 * r + 40 + 40) ?_ (by omega)
    simp only [ordLoop, ordEnd, ordTail, ordBody, Try.f46, Option.getD_some] at IH' ⊢
    repeat (first
      | refine GF.seq E ?_
      | refine GF.regEnd E ?_
      | refine GF.nop E ?_
      | (refine GF.reg E ?_; simp only [List.size_toArray, List.length_cons, List.length_nil, Nat.reduceAdd, Nat.zero_add, List.range, List.range.loop])
      | (refine GF.cond E (t := true) rfl ?_; simp only [↓reduceIte])
      | (refine GF.cond E (t := false) rfl ?_; simp only [Bool.false_eq_true, ↓reduceIte])
      | (refine GF.oper E rfl rfl (base_kind _) rfl (fun w hF K hK => ?_); go_simp; refine hK _ ⟨?_, ?_⟩; (· intro e he; first | (simp [go_sem] at he; done) | (simp [go_sem, *] at he; done)); clear hK K hF w; (try (walk_nrm)))
      | (refine GF.operE E rfl rfl (base_kind _) ordLoud (fun w hF K hK => ?_); have c0 := (cells w hF).1; go_simp; refine hK _ #[⟨.cell ⟨β, 0, none⟩, false, false⟩] ⟨by simp [go_sem, *], by simp, rd0 w hF, ?_⟩; clear hK K c0 hF w; (try (walk_nrm)))
      | (refine GF.operE E rfl rfl (base_kind _) ordLoud (fun w hF K hK => ?_); have c1 := (cells w hF).2; go_simp; refine hK _ #[⟨.cell ⟨β, 1, none⟩, false, false⟩] ⟨by simp [go_sem, *], by simp, rd1 w hF, ?_⟩; clear hK K c1 hF w; (try (walk_nrm)))
      | refine GF.ret E ?_
      | refine GF.block E ?_
      | refine GF.inBlock E ?_)
    refine GF.inLoop E ?_
    exact (IH'.out _ _ _ _ _ _ _ _ _ _ _ _ _ _ _ _ _ _ _ _).le (by omega)

set_option maxRecDepth 100000 in
set_option maxHeartbeats 8000000 in
/-- From the moment at which its receiver's variable lies in block β. -/
theorem order_go (E : Hold R D F) {β x n m : Nat} (hx : x ≤ 1000) (hn : 1 ≤ n) (hn2 : n ≤ 15000) (hm : 1 ≤ m) (hm2 : m ≤ 15000)
    (hno : ∀ j, 1 ≤ j → j < m → x ^ j % n ≠ 1 % n) (hyes : x ^ m % n = 1 % n)
    (cells : ∀ w, F w → w.cell? ⟨β, 0, none⟩ = some (.int .i64 x) ∧ w.cell? ⟨β, 1, none⟩ = some (.int .i64 n))
    (rd0 : ∀ w, F w → D w w #[⟨.cell ⟨β, 0, none⟩, false, false⟩]) (rd1 : ∀ w, F w → D w w #[⟨.cell ⟨β, 1, none⟩, false, false⟩])
    {b₀ : Frame} {a₀ : Act} {ops₀ : Array Oper} {i₀ : Nat} {rest₀ : List Nat} {k₀ : List Item} {cs : List Frame} {mT : Nat}
    (hT : GF Try.prog main R D Stop F mT (G (b₀.at (a₀.put ((ops₀[i₀]?).bind (·.dst)) (.int .i64 m)) (.inRegion ops₀ rest₀ :: k₀)) cs)) :
    GF Try.prog main R D Stop F (mT + 40 * m + 80)
      (G ((base 46).at ⟨#[.agg #[.int .i64 x, .int .i64 n], .pointer (some ⟨β, 0, none⟩), undef, undef, undef, undef, undef, undef, undef, undef, undef, undef, undef, undef, undef, undef, undef, undef, undef, undef, undef, undef, undef, undef, undef], []⟩ [.inRegion ordOps0 [1], .code ordTail]) (b₀.at a₀ (.inRegion ops₀ (i₀ :: rest₀) :: k₀) :: cs)) := by
  have HL := _root_.Go.Lib.hid (order_loop E hx hn hn2 hm2 hno hyes cells rd0 rd1 hT (m - 1) 1 (by omega) (Nat.le_refl _))
  have hn0 : ¬ n = 0 := by omega
  have hn0' : ¬ (n : Int) = 0 := by omega
  have T1 : Int.tmod (x : Int) (n : Int) = ((x ^ 1 % n : Nat) : Int) := by rw [Nat.pow_one]; exact (Int.ofNat_tmod x n).symm
  obtain ⟨y, hy⟩ : ∃ y, x ^ 1 % n = y := ⟨_, rfl⟩
  rw [hy] at T1 HL
  have hyl : y < n := by rw [← hy]; exact Nat.mod_lt _ (by omega)
  have W2 : IntKind.i64.wrap (y : Int) = (y : Int) := IntWalk.i64_in _ (by omega)
  clear hy hno hyes
  refine GF.le (n := mT + 40 * (m - 1) + 40 + 60) ?_ (by omega)
  simp only [ordOps0, ordLoop, ordEnd, ordTail, ordBody, Try.f46, Option.getD_some] at HL ⊢
  repeat (first
    | refine GF.seq E ?_
    | refine GF.regEnd E ?_
    | refine GF.nop E ?_
    | (refine GF.reg E ?_; simp only [List.size_toArray, List.length_cons, List.length_nil, Nat.reduceAdd, Nat.zero_add, List.range, List.range.loop])
    | (refine GF.cond E (t := true) rfl ?_; simp only [↓reduceIte])
    | (refine GF.cond E (t := false) rfl ?_; simp only [Bool.false_eq_true, ↓reduceIte])
    | (refine GF.oper E rfl rfl (base_kind _) rfl (fun w hF K hK => ?_); go_simp; refine hK _ ⟨?_, ?_⟩; (· intro e he; first | (simp [go_sem] at he; done) | (simp [go_sem, *] at he; done)); clear hK K hF w; (try (walk_nrm)))
    | (refine GF.operE E rfl rfl (base_kind _) ordLoud (fun w hF K hK => ?_); have c0 := (cells w hF).1; go_simp; refine hK _ #[⟨.cell ⟨β, 0, none⟩, false, false⟩] ⟨by simp [go_sem, *], by simp, rd0 w hF, ?_⟩; clear hK K c0 hF w; (try (walk_nrm)))
    | (refine GF.operE E rfl rfl (base_kind _) ordLoud (fun w hF K hK => ?_); have c1 := (cells w hF).2; go_simp; refine hK _ #[⟨.cell ⟨β, 1, none⟩, false, false⟩] ⟨by simp [go_sem, *], by simp, rd1 w hF, ?_⟩; clear hK K c1 hF w; (try (walk_nrm)))
    | refine GF.ret E ?_
    | refine GF.block E ?_
    | refine GF.inBlock E ?_)
  refine GF.loop E ?_
  exact (HL.out _ _ _ _ _ _ _ _ _ _ _ _ _ _ _ _ _ _ _ _).le (by omega)

end Go.Proofs.Ythoaldiadgeonaa.Cr

namespace Go.Proofs.Ythoaldiadgeonaa.Cr
open Go.Conc Go.ConcR Go.RowKit Go.Conc.Lib Go.ConcR.Gen

noncomputable def wkBody : Code := Try.f49.body.getD .skip
noncomputable def wkOps : Array Oper := match wkBody with | .seq _ (.region _ ops _) => ops | _ => #[]
def wkB : Frame := baseD 49
noncomputable def bot : Frame := { (default : Frame) with fn := Try.prog.funcs.size, defers := [], mode := .panicking [goexitEntry] }
theorem wkLoud : (Try.prog.funcs[wkB.fn]?).any (·.norace) = false := by kernel_rfl
theorem wkKind : wkB.kind ≠ .early := by intro h; cases h

/-- The stop ahead of a new block. -/
def StBox (o : Obj) (Next : Nat → Goroutine → World → Prop) (g : Goroutine) (w : World) : Prop :=
  g.status = .running ∧ ∃ g', stepG Try.prog false g w = .go g' (w.alloc o) #[] ∧ Next w.heap.size g' (w.alloc o)
/-- The stop ahead of a sending. -/
def StSend (Ch : Nat) (v : Value) (K : Goroutine → World → Prop) (g : Goroutine) (w : World) : Prop :=
  g.status = .running ∧ stepG Try.prog false g w = .comm g #[scase Ch v (.tuple #[])] true .send w #[] ∧ ∀ w', K (Go.Conc.served g undef) w'

variable {R : World → World → Prop} {D : World → World → Array Event → Prop} {Fw : World → Prop} {Rb : Nat → World → World → Prop} {Db : Nat → World → World → Array Event → Prop} {Fb : Nat → World → Prop} {K : Goroutine → World → Prop}

/-- What a worker's boxes hold. -/
structure WkF (Ch cb pb ab j x n : Nat) (w : World) : Prop where
  ch : w.cell? ⟨cb, 0, none⟩ = some (.chan (some Ch))
  pl : w.cell? ⟨pb, 0, none⟩ = some (.int .i64 j)
  a0 : w.cell? ⟨ab, 0, none⟩ = some (.int .i64 x)
  a1 : w.cell? ⟨ab, 1, none⟩ = some (.int .i64 n)
/-- What a worker may list. -/
structure WkD (cb pb ab : Nat) (D : World → World → Array Event → Prop) (F : World → Prop) : Prop where
  ch : ∀ w, F w → D w w #[⟨.cell ⟨cb, 0, none⟩, false, false⟩]
  pl : ∀ w, F w → D w w #[⟨.cell ⟨pb, 0, none⟩, false, false⟩]
  ask : ∀ w, F w → D w w #[⟨.cell ⟨ab, 0, none⟩, false, false⟩, ⟨.cell ⟨ab, 1, none⟩, false, false⟩]

set_option maxRecDepth 100000 in
set_option maxHeartbeats 8000000 in
theorem work_region {Wg Ch cb pb ab j x n m : Nat} (E : Hold R D Fw) (Eb : ∀ β, Hold (Rb β) (Db β) (Fb β)) (wf : ∀ w, Fw w → WkF Ch cb pb ab j x n w) (wfb : ∀ β w, Fb β w → WkF Ch cb pb ab j x n w) (wd : WkD cb pb ab D Fw) (wdb : ∀ β, WkD cb pb ab (Db β) (Fb β))
    (hbox : ∀ w, Fw w → Fb w.heap.size (w.alloc (.cells #[.int .i64 x, .int .i64 n] 43)))
    (hx : x ≤ 1000) (hn : 1 ≤ n) (hn2 : n ≤ 15000) (hm : 1 ≤ m) (hm2 : m ≤ 15000) (hno : ∀ j, 1 ≤ j → j < m → x ^ j % n ≠ 1 % n) (hyes : x ^ m % n = 1 % n)
    (cells : ∀ β w, Fb β w → w.cell? ⟨β, 0, none⟩ = some (.int .i64 x) ∧ w.cell? ⟨β, 1, none⟩ = some (.int .i64 n))
    (rd0 : ∀ β w, Fb β w → Db β w w #[⟨.cell ⟨β, 0, none⟩, false, false⟩]) (rd1 : ∀ β w, Fb β w → Db β w w #[⟨.cell ⟨β, 1, none⟩, false, false⟩])
    {ds : List Deferred} {cs : List Frame}
    (hK : ∀ w', K (G (wkB.at ⟨#[.pointer (some ⟨Wg, 0, none⟩), .pointer (some ⟨cb, 0, none⟩), .pointer (some ⟨pb, 0, none⟩), .pointer (some ⟨ab, 0, none⟩), .chan (some Ch), .int .i64 j, .agg #[.int .i64 x, .int .i64 n], .int .i64 m, .agg #[.int .i64 j, .int .i64 m]], ds⟩ [.inRegion wkOps []]) cs) w') :
    ∀ t, GF Try.prog false R D (StBox (.cells #[.int .i64 x, .int .i64 n] 43) fun β g w => Goes Try.prog false (Rb β) (Db β) (StSend Ch (.agg #[.int .i64 j, .int .i64 m]) K) (12 + 40 * m + 80) g w) Fw 40
      (G (wkB.at ⟨#[.pointer (some ⟨Wg, 0, none⟩), .pointer (some ⟨cb, 0, none⟩), .pointer (some ⟨pb, 0, none⟩), .pointer (some ⟨ab, 0, none⟩), undef, undef, undef, undef, undef], ds⟩ [.inRegion wkOps (lin wkOps 6 t #[false, false, false, false, false, false])]) cs) := by
  have HNO := _root_.Go.Lib.hid hno; have HYES := _root_.Go.Lib.hid hyes; have HKK := _root_.Go.Lib.hid hK
  clear hno hyes hK
  --STATE T01234
  have T01234 : ∀ β t, GF Try.prog false (Rb β) (Db β) (StSend Ch (.agg #[.int .i64 j, .int .i64 m]) K) (Fb β) 4 (G (wkB.at ⟨#[.pointer (some ⟨Wg, 0, none⟩), .pointer (some ⟨cb, 0, none⟩), .pointer (some ⟨pb, 0, none⟩), .pointer (some ⟨ab, 0, none⟩), .chan (some Ch), .int .i64 j, .agg #[.int .i64 x, .int .i64 n], .int .i64 m, .agg #[.int .i64 j, .int .i64 m]], ds⟩ [.inRegion wkOps (lin wkOps 1 t #[true, true, true, true, true, false])]) cs) := by
    intro β
    have hK := HKK.out
    simp only [wkOps, wkBody, Try.f49, Option.getD_some] at hK ⊢
    refine GF.any Try.prog false (Rb β) (Db β) (StSend Ch (.agg #[.int .i64 j, .int .i64 m]) K) (Fb β) (xs := [5]) (by kernel_rfl) (by simp) ?_
    intro i hi t
    simp only [List.mem_cons, List.not_mem_nil, or_false] at hi
    subst hi
    refine GF.stop (Eb β) (fun w hF => ⟨rfl, ?_, fun w' => ?_⟩)
    · rw [stepG_comm (cases := #[scase Ch (.agg #[.int .i64 j, .int .i64 m]) (.tuple #[])]) (blocking := true) (shape := .send) (w' := w) rfl rfl wkKind (by simp [execOp, scase, Act.eval])]
      rw [listed_nil (by simp [execOp, Act.eval])]
    · rw [served_G]
      exact hK w'
  --STATE T0123
  have T0123 : ∀ β t, GF Try.prog false (Rb β) (Db β) (StSend Ch (.agg #[.int .i64 j, .int .i64 m]) K) (Fb β) 6 (G (wkB.at ⟨#[.pointer (some ⟨Wg, 0, none⟩), .pointer (some ⟨cb, 0, none⟩), .pointer (some ⟨pb, 0, none⟩), .pointer (some ⟨ab, 0, none⟩), .chan (some Ch), .int .i64 j, .agg #[.int .i64 x, .int .i64 n], .int .i64 m, undef], ds⟩ [.inRegion wkOps (lin wkOps 2 t #[true, true, true, true, false, false])]) cs) := by
    intro β
    have h4 := T01234 β
    simp only [wkOps, wkBody, Try.f49, Option.getD_some] at h4 ⊢
    refine GF.any Try.prog false (Rb β) (Db β) (StSend Ch (.agg #[.int .i64 j, .int .i64 m]) K) (Fb β) (xs := [4]) (by kernel_rfl) (by simp) ?_
    intro i hi t
    simp only [List.mem_cons, List.not_mem_nil, or_false] at hi
    subst hi
    refine GF.le (n := 4 + 1) ?_ (by omega)
    refine GF.oper (Eb β) rfl rfl wkKind rfl (fun w hF K' hK' => ?_)
    go_simp
    refine hK' _ ⟨?_, ?_⟩
    · intro e he; first | (simp [go_sem] at he; done) | (simp [go_sem, *] at he; done)
    clear hK' K' hF w
    exact h4 t
  --STATE T1234
  have T1234 : ∀ β t, GF Try.prog false (Rb β) (Db β) (StSend Ch (.agg #[.int .i64 j, .int .i64 m]) K) (Fb β) 6 (G (wkB.at ⟨#[.pointer (some ⟨Wg, 0, none⟩), .pointer (some ⟨cb, 0, none⟩), .pointer (some ⟨pb, 0, none⟩), .pointer (some ⟨ab, 0, none⟩), undef, .int .i64 j, .agg #[.int .i64 x, .int .i64 n], .int .i64 m, .agg #[.int .i64 j, .int .i64 m]], ds⟩ [.inRegion wkOps (lin wkOps 2 t #[false, true, true, true, true, false])]) cs) := by
    intro β
    have h0 := T01234 β
    simp only [wkOps, wkBody, Try.f49, Option.getD_some] at h0 ⊢
    refine GF.any Try.prog false (Rb β) (Db β) (StSend Ch (.agg #[.int .i64 j, .int .i64 m]) K) (Fb β) (xs := [0]) (by kernel_rfl) (by simp) ?_
    intro i hi t
    simp only [List.mem_cons, List.not_mem_nil, or_false] at hi
    subst hi
    refine GF.le (n := 4 + 1) ?_ (by omega)
    refine GF.operE (Eb β) rfl rfl wkKind wkLoud (fun w hF K' hK' => ?_)
    obtain ⟨c1, c2, c3, c4⟩ := (wfb β w hF)
    go_simp
    refine hK' _ #[⟨.cell ⟨cb, 0, none⟩, false, false⟩] ⟨by simp [go_sem, *], by simp, (wdb β).ch w hF, ?_⟩
    clear hK' K' c1 c2 c3 c4 hF w
    exact h0 t
  --STATE T012
  have T012 : ∀ t, GF Try.prog false R D (StBox (.cells #[.int .i64 x, .int .i64 n] 43) fun β g w => Goes Try.prog false (Rb β) (Db β) (StSend Ch (.agg #[.int .i64 j, .int .i64 m]) K) (12 + 40 * m + 80) g w) Fw 34 (G (wkB.at ⟨#[.pointer (some ⟨Wg, 0, none⟩), .pointer (some ⟨cb, 0, none⟩), .pointer (some ⟨pb, 0, none⟩), .pointer (some ⟨ab, 0, none⟩), .chan (some Ch), .int .i64 j, .agg #[.int .i64 x, .int .i64 n], undef, undef], ds⟩ [.inRegion wkOps (lin wkOps 3 t #[true, true, true, false, false, false])]) cs) := by
    have h3 := T0123
    simp only [wkOps, wkBody, Try.f49, Option.getD_some] at h3 ⊢
    refine GF.any Try.prog false R D (StBox (.cells #[.int .i64 x, .int .i64 n] 43) fun β g w => Goes Try.prog false (Rb β) (Db β) (StSend Ch (.agg #[.int .i64 j, .int .i64 m]) K) (12 + 40 * m + 80) g w) Fw (xs := [3]) (by kernel_rfl) (by simp) ?_
    intro i hi t
    simp only [List.mem_cons, List.not_mem_nil, or_false] at hi
    subst hi
    refine GF.le (n := 12 + 1) ?_ (by omega)
    refine GF.call E rfl rfl wkKind rfl Try.func46 (by kernel_rfl) rfl ?_
    simp only [Try.f46]
    walk_nrm
    refine GF.seq E ?_
    refine GF.reg E ?_
    simp only [List.size_toArray, List.length_cons, List.length_nil, Nat.reduceAdd, Nat.zero_add, List.range, List.range.loop]
    refine GF.stop E (fun w hF => ⟨rfl, _, box_step rfl rfl (base_kind _) (by go_simp) (by simp [go_sem]), ?_⟩)
    have hO := order_go (Stop := StSend Ch (.agg #[.int .i64 j, .int .i64 m]) K) (main := false) (Eb w.heap.size) hx hn hn2 hm hm2 HNO.out HYES.out (cells _) (rd0 _) (rd1 _) (b₀ := wkB) (a₀ := ⟨#[.pointer (some ⟨Wg, 0, none⟩), .pointer (some ⟨cb, 0, none⟩), .pointer (some ⟨pb, 0, none⟩), .pointer (some ⟨ab, 0, none⟩), .chan (some Ch), .int .i64 j, .agg #[.int .i64 x, .int .i64 n], undef, undef], ds⟩) (ops₀ := wkOps) (i₀ := 3) (rest₀ := lin wkOps 2 t #[true, true, true, true, false, false]) (k₀ := []) (cs := cs) (mT := 12) (by simp only [wkOps, wkBody, Try.f49, Option.getD_some]; walk_nrm; exact (h3 _ t).le (by omega)) _ (hbox w hF)
    simp only [wkOps, wkBody, Try.f49, ordOps0, ordTail, ordBody, Try.f46, Option.getD_some] at hO
    walk_nrm
    exact hO
  --STATE T023
  have T023 : ∀ β t, GF Try.prog false (Rb β) (Db β) (StSend Ch (.agg #[.int .i64 j, .int .i64 m]) K) (Fb β) 8 (G (wkB.at ⟨#[.pointer (some ⟨Wg, 0, none⟩), .pointer (some ⟨cb, 0, none⟩), .pointer (some ⟨pb, 0, none⟩), .pointer (some ⟨ab, 0, none⟩), .chan (some Ch), undef, .agg #[.int .i64 x, .int .i64 n], .int .i64 m, undef], ds⟩ [.inRegion wkOps (lin wkOps 3 t #[true, false, true, true, false, false])]) cs) := by
    intro β
    have h1 := T0123 β
    simp only [wkOps, wkBody, Try.f49, Option.getD_some] at h1 ⊢
    refine GF.any Try.prog false (Rb β) (Db β) (StSend Ch (.agg #[.int .i64 j, .int .i64 m]) K) (Fb β) (xs := [1]) (by kernel_rfl) (by simp) ?_
    intro i hi t
    simp only [List.mem_cons, List.not_mem_nil, or_false] at hi
    subst hi
    refine GF.le (n := 6 + 1) ?_ (by omega)
    refine GF.operE (Eb β) rfl rfl wkKind wkLoud (fun w hF K' hK' => ?_)
    obtain ⟨c1, c2, c3, c4⟩ := (wfb β w hF)
    go_simp
    refine hK' _ #[⟨.cell ⟨pb, 0, none⟩, false, false⟩] ⟨by simp [go_sem, *], by simp, (wdb β).pl w hF, ?_⟩
    clear hK' K' c1 c2 c3 c4 hF w
    exact h1 t
  --STATE T123
  have T123 : ∀ β t, GF Try.prog false (Rb β) (Db β) (StSend Ch (.agg #[.int .i64 j, .int .i64 m]) K) (Fb β) 8 (G (wkB.at ⟨#[.pointer (some ⟨Wg, 0, none⟩), .pointer (some ⟨cb, 0, none⟩), .pointer (some ⟨pb, 0, none⟩), .pointer (some ⟨ab, 0, none⟩), undef, .int .i64 j, .agg #[.int .i64 x, .int .i64 n], .int .i64 m, undef], ds⟩ [.inRegion wkOps (lin wkOps 3 t #[false, true, true, true, false, false])]) cs) := by
    intro β
    have h0 := T0123 β
    have h4 := T1234 β
    simp only [wkOps, wkBody, Try.f49, Option.getD_some] at h0 h4 ⊢
    refine GF.any Try.prog false (Rb β) (Db β) (StSend Ch (.agg #[.int .i64 j, .int .i64 m]) K) (Fb β) (xs := [0, 4]) (by kernel_rfl) (by simp) ?_
    intro i hi t
    simp only [List.mem_cons, List.not_mem_nil, or_false] at hi
    rcases hi with rfl | rfl
    · refine GF.le (n := 6 + 1) ?_ (by omega)
      refine GF.operE (Eb β) rfl rfl wkKind wkLoud (fun w hF K' hK' => ?_)
      obtain ⟨c1, c2, c3, c4⟩ := (wfb β w hF)
      go_simp
      refine hK' _ #[⟨.cell ⟨cb, 0, none⟩, false, false⟩] ⟨by simp [go_sem, *], by simp, (wdb β).ch w hF, ?_⟩
      clear hK' K' c1 c2 c3 c4 hF w
      exact h0 t
    · refine GF.le (n := 6 + 1) ?_ (by omega)
      refine GF.oper (Eb β) rfl rfl wkKind rfl (fun w hF K' hK' => ?_)
      go_simp
      refine hK' _ ⟨?_, ?_⟩
      · intro e he; first | (simp [go_sem] at he; done) | (simp [go_sem, *] at he; done)
      clear hK' K' hF w
      exact h4 t
  --STATE T01
  have T01 : ∀ t, GF Try.prog false R D (StBox (.cells #[.int .i64 x, .int .i64 n] 43) fun β g w => Goes Try.prog false (Rb β) (Db β) (StSend Ch (.agg #[.int .i64 j, .int .i64 m]) K) (12 + 40 * m + 80) g w) Fw 36 (G (wkB.at ⟨#[.pointer (some ⟨Wg, 0, none⟩), .pointer (some ⟨cb, 0, none⟩), .pointer (some ⟨pb, 0, none⟩), .pointer (some ⟨ab, 0, none⟩), .chan (some Ch), .int .i64 j, undef, undef, undef], ds⟩ [.inRegion wkOps (lin wkOps 4 t #[true, true, false, false, false, false])]) cs) := by
    have h2 := T012
    simp only [wkOps, wkBody, Try.f49, Option.getD_some] at h2 ⊢
    refine GF.any Try.prog false R D (StBox (.cells #[.int .i64 x, .int .i64 n] 43) fun β g w => Goes Try.prog false (Rb β) (Db β) (StSend Ch (.agg #[.int .i64 j, .int .i64 m]) K) (12 + 40 * m + 80) g w) Fw (xs := [2]) (by kernel_rfl) (by simp) ?_
    intro i hi t
    simp only [List.mem_cons, List.not_mem_nil, or_false] at hi
    subst hi
    refine GF.le (n := 34 + 1) ?_ (by omega)
    refine GF.operE E rfl rfl wkKind wkLoud (fun w hF K' hK' => ?_)
    obtain ⟨c1, c2, c3, c4⟩ := (wf w hF)
    go_simp
    refine hK' _ #[⟨.cell ⟨ab, 0, none⟩, false, false⟩, ⟨.cell ⟨ab, 1, none⟩, false, false⟩] ⟨by simp [go_sem, *], by simp, wd.ask w hF, ?_⟩
    clear hK' K' c1 c2 c3 c4 hF w
    exact h2 t
  --STATE T02
  have T02 : ∀ t, GF Try.prog false R D (StBox (.cells #[.int .i64 x, .int .i64 n] 43) fun β g w => Goes Try.prog false (Rb β) (Db β) (StSend Ch (.agg #[.int .i64 j, .int .i64 m]) K) (12 + 40 * m + 80) g w) Fw 36 (G (wkB.at ⟨#[.pointer (some ⟨Wg, 0, none⟩), .pointer (some ⟨cb, 0, none⟩), .pointer (some ⟨pb, 0, none⟩), .pointer (some ⟨ab, 0, none⟩), .chan (some Ch), undef, .agg #[.int .i64 x, .int .i64 n], undef, undef], ds⟩ [.inRegion wkOps (lin wkOps 4 t #[true, false, true, false, false, false])]) cs) := by
    have h1 := T012
    have h3 := T023
    simp only [wkOps, wkBody, Try.f49, Option.getD_some] at h1 h3 ⊢
    refine GF.any Try.prog false R D (StBox (.cells #[.int .i64 x, .int .i64 n] 43) fun β g w => Goes Try.prog false (Rb β) (Db β) (StSend Ch (.agg #[.int .i64 j, .int .i64 m]) K) (12 + 40 * m + 80) g w) Fw (xs := [1, 3]) (by kernel_rfl) (by simp) ?_
    intro i hi t
    simp only [List.mem_cons, List.not_mem_nil, or_false] at hi
    rcases hi with rfl | rfl
    · refine GF.le (n := 34 + 1) ?_ (by omega)
      refine GF.operE E rfl rfl wkKind wkLoud (fun w hF K' hK' => ?_)
      obtain ⟨c1, c2, c3, c4⟩ := (wf w hF)
      go_simp
      refine hK' _ #[⟨.cell ⟨pb, 0, none⟩, false, false⟩] ⟨by simp [go_sem, *], by simp, wd.pl w hF, ?_⟩
      clear hK' K' c1 c2 c3 c4 hF w
      exact h1 t
    · refine GF.le (n := 12 + 1) ?_ (by omega)
      refine GF.call E rfl rfl wkKind rfl Try.func46 (by kernel_rfl) rfl ?_
      simp only [Try.f46]
      walk_nrm
      refine GF.seq E ?_
      refine GF.reg E ?_
      simp only [List.size_toArray, List.length_cons, List.length_nil, Nat.reduceAdd, Nat.zero_add, List.range, List.range.loop]
      refine GF.stop E (fun w hF => ⟨rfl, _, box_step rfl rfl (base_kind _) (by go_simp) (by simp [go_sem]), ?_⟩)
      have hO := order_go (Stop := StSend Ch (.agg #[.int .i64 j, .int .i64 m]) K) (main := false) (Eb w.heap.size) hx hn hn2 hm hm2 HNO.out HYES.out (cells _) (rd0 _) (rd1 _) (b₀ := wkB) (a₀ := ⟨#[.pointer (some ⟨Wg, 0, none⟩), .pointer (some ⟨cb, 0, none⟩), .pointer (some ⟨pb, 0, none⟩), .pointer (some ⟨ab, 0, none⟩), .chan (some Ch), undef, .agg #[.int .i64 x, .int .i64 n], undef, undef], ds⟩) (ops₀ := wkOps) (i₀ := 3) (rest₀ := lin wkOps 3 t #[true, false, true, true, false, false]) (k₀ := []) (cs := cs) (mT := 12) (by simp only [wkOps, wkBody, Try.f49, Option.getD_some]; walk_nrm; exact (h3 _ t).le (by omega)) _ (hbox w hF)
      simp only [wkOps, wkBody, Try.f49, ordOps0, ordTail, ordBody, Try.f46, Option.getD_some] at hO
      walk_nrm
      exact hO
  --STATE T12
  have T12 : ∀ t, GF Try.prog false R D (StBox (.cells #[.int .i64 x, .int .i64 n] 43) fun β g w => Goes Try.prog false (Rb β) (Db β) (StSend Ch (.agg #[.int .i64 j, .int .i64 m]) K) (12 + 40 * m + 80) g w) Fw 36 (G (wkB.at ⟨#[.pointer (some ⟨Wg, 0, none⟩), .pointer (some ⟨cb, 0, none⟩), .pointer (some ⟨pb, 0, none⟩), .pointer (some ⟨ab, 0, none⟩), undef, .int .i64 j, .agg #[.int .i64 x, .int .i64 n], undef, undef], ds⟩ [.inRegion wkOps (lin wkOps 4 t #[false, true, true, false, false, false])]) cs) := by
    have h0 := T012
    have h3 := T123
    simp only [wkOps, wkBody, Try.f49, Option.getD_some] at h0 h3 ⊢
    refine GF.any Try.prog false R D (StBox (.cells #[.int .i64 x, .int .i64 n] 43) fun β g w => Goes Try.prog false (Rb β) (Db β) (StSend Ch (.agg #[.int .i64 j, .int .i64 m]) K) (12 + 40 * m + 80) g w) Fw (xs := [0, 3]) (by kernel_rfl) (by simp) ?_
    intro i hi t
    simp only [List.mem_cons, List.not_mem_nil, or_false] at hi
    rcases hi with rfl | rfl
    · refine GF.le (n := 34 + 1) ?_ (by omega)
      refine GF.operE E rfl rfl wkKind wkLoud (fun w hF K' hK' => ?_)
      obtain ⟨c1, c2, c3, c4⟩ := (wf w hF)
      go_simp
      refine hK' _ #[⟨.cell ⟨cb, 0, none⟩, false, false⟩] ⟨by simp [go_sem, *], by simp, wd.ch w hF, ?_⟩
      clear hK' K' c1 c2 c3 c4 hF w
      exact h0 t
    · refine GF.le (n := 12 + 1) ?_ (by omega)
      refine GF.call E rfl rfl wkKind rfl Try.func46 (by kernel_rfl) rfl ?_
      simp only [Try.f46]
      walk_nrm
      refine GF.seq E ?_
      refine GF.reg E ?_
      simp only [List.size_toArray, List.length_cons, List.length_nil, Nat.reduceAdd, Nat.zero_add, List.range, List.range.loop]
      refine GF.stop E (fun w hF => ⟨rfl, _, box_step rfl rfl (base_kind _) (by go_simp) (by simp [go_sem]), ?_⟩)
      have hO := order_go (Stop := StSend Ch (.agg #[.int .i64 j, .int .i64 m]) K) (main := false) (Eb w.heap.size) hx hn hn2 hm hm2 HNO.out HYES.out (cells _) (rd0 _) (rd1 _) (b₀ := wkB) (a₀ := ⟨#[.pointer (some ⟨Wg, 0, none⟩), .pointer (some ⟨cb, 0, none⟩), .pointer (some ⟨pb, 0, none⟩), .pointer (some ⟨ab, 0, none⟩), undef, .int .i64 j, .agg #[.int .i64 x, .int .i64 n], undef, undef], ds⟩) (ops₀ := wkOps) (i₀ := 3) (rest₀ := lin wkOps 3 t #[false, true, true, true, false, false]) (k₀ := []) (cs := cs) (mT := 12) (by simp only [wkOps, wkBody, Try.f49, Option.getD_some]; walk_nrm; exact (h3 _ t).le (by omega)) _ (hbox w hF)
      simp only [wkOps, wkBody, Try.f49, ordOps0, ordTail, ordBody, Try.f46, Option.getD_some] at hO
      walk_nrm
      exact hO
  --STATE T23
  have T23 : ∀ β t, GF Try.prog false (Rb β) (Db β) (StSend Ch (.agg #[.int .i64 j, .int .i64 m]) K) (Fb β) 10 (G (wkB.at ⟨#[.pointer (some ⟨Wg, 0, none⟩), .pointer (some ⟨cb, 0, none⟩), .pointer (some ⟨pb, 0, none⟩), .pointer (some ⟨ab, 0, none⟩), undef, undef, .agg #[.int .i64 x, .int .i64 n], .int .i64 m, undef], ds⟩ [.inRegion wkOps (lin wkOps 4 t #[false, false, true, true, false, false])]) cs) := by
    intro β
    have h0 := T023 β
    have h1 := T123 β
    simp only [wkOps, wkBody, Try.f49, Option.getD_some] at h0 h1 ⊢
    refine GF.any Try.prog false (Rb β) (Db β) (StSend Ch (.agg #[.int .i64 j, .int .i64 m]) K) (Fb β) (xs := [0, 1]) (by kernel_rfl) (by simp) ?_
    intro i hi t
    simp only [List.mem_cons, List.not_mem_nil, or_false] at hi
    rcases hi with rfl | rfl
    · refine GF.le (n := 8 + 1) ?_ (by omega)
      refine GF.operE (Eb β) rfl rfl wkKind wkLoud (fun w hF K' hK' => ?_)
      obtain ⟨c1, c2, c3, c4⟩ := (wfb β w hF)
      go_simp
      refine hK' _ #[⟨.cell ⟨cb, 0, none⟩, false, false⟩] ⟨by simp [go_sem, *], by simp, (wdb β).ch w hF, ?_⟩
      clear hK' K' c1 c2 c3 c4 hF w
      exact h0 t
    · refine GF.le (n := 8 + 1) ?_ (by omega)
      refine GF.operE (Eb β) rfl rfl wkKind wkLoud (fun w hF K' hK' => ?_)
      obtain ⟨c1, c2, c3, c4⟩ := (wfb β w hF)
      go_simp
      refine hK' _ #[⟨.cell ⟨pb, 0, none⟩, false, false⟩] ⟨by simp [go_sem, *], by simp, (wdb β).pl w hF, ?_⟩
      clear hK' K' c1 c2 c3 c4 hF w
      exact h1 t
  --STATE T0
  have T0 : ∀ t, GF Try.prog false R D (StBox (.cells #[.int .i64 x, .int .i64 n] 43) fun β g w => Goes Try.prog false (Rb β) (Db β) (StSend Ch (.agg #[.int .i64 j, .int .i64 m]) K) (12 + 40 * m + 80) g w) Fw 38 (G (wkB.at ⟨#[.pointer (some ⟨Wg, 0, none⟩), .pointer (some ⟨cb, 0, none⟩), .pointer (some ⟨pb, 0, none⟩), .pointer (some ⟨ab, 0, none⟩), .chan (some Ch), undef, undef, undef, undef], ds⟩ [.inRegion wkOps (lin wkOps 5 t #[true, false, false, false, false, false])]) cs) := by
    have h1 := T01
    have h2 := T02
    simp only [wkOps, wkBody, Try.f49, Option.getD_some] at h1 h2 ⊢
    refine GF.any Try.prog false R D (StBox (.cells #[.int .i64 x, .int .i64 n] 43) fun β g w => Goes Try.prog false (Rb β) (Db β) (StSend Ch (.agg #[.int .i64 j, .int .i64 m]) K) (12 + 40 * m + 80) g w) Fw (xs := [1, 2]) (by kernel_rfl) (by simp) ?_
    intro i hi t
    simp only [List.mem_cons, List.not_mem_nil, or_false] at hi
    rcases hi with rfl | rfl
    · refine GF.le (n := 36 + 1) ?_ (by omega)
      refine GF.operE E rfl rfl wkKind wkLoud (fun w hF K' hK' => ?_)
      obtain ⟨c1, c2, c3, c4⟩ := (wf w hF)
      go_simp
      refine hK' _ #[⟨.cell ⟨pb, 0, none⟩, false, false⟩] ⟨by simp [go_sem, *], by simp, wd.pl w hF, ?_⟩
      clear hK' K' c1 c2 c3 c4 hF w
      exact h1 t
    · refine GF.le (n := 36 + 1) ?_ (by omega)
      refine GF.operE E rfl rfl wkKind wkLoud (fun w hF K' hK' => ?_)
      obtain ⟨c1, c2, c3, c4⟩ := (wf w hF)
      go_simp
      refine hK' _ #[⟨.cell ⟨ab, 0, none⟩, false, false⟩, ⟨.cell ⟨ab, 1, none⟩, false, false⟩] ⟨by simp [go_sem, *], by simp, wd.ask w hF, ?_⟩
      clear hK' K' c1 c2 c3 c4 hF w
      exact h2 t
  --STATE T1
  have T1 : ∀ t, GF Try.prog false R D (StBox (.cells #[.int .i64 x, .int .i64 n] 43) fun β g w => Goes Try.prog false (Rb β) (Db β) (StSend Ch (.agg #[.int .i64 j, .int .i64 m]) K) (12 + 40 * m + 80) g w) Fw 38 (G (wkB.at ⟨#[.pointer (some ⟨Wg, 0, none⟩), .pointer (some ⟨cb, 0, none⟩), .pointer (some ⟨pb, 0, none⟩), .pointer (some ⟨ab, 0, none⟩), undef, .int .i64 j, undef, undef, undef], ds⟩ [.inRegion wkOps (lin wkOps 5 t #[false, true, false, false, false, false])]) cs) := by
    have h0 := T01
    have h2 := T12
    simp only [wkOps, wkBody, Try.f49, Option.getD_some] at h0 h2 ⊢
    refine GF.any Try.prog false R D (StBox (.cells #[.int .i64 x, .int .i64 n] 43) fun β g w => Goes Try.prog false (Rb β) (Db β) (StSend Ch (.agg #[.int .i64 j, .int .i64 m]) K) (12 + 40 * m + 80) g w) Fw (xs := [0, 2]) (by kernel_rfl) (by simp) ?_
    intro i hi t
    simp only [List.mem_cons, List.not_mem_nil, or_false] at hi
    rcases hi with rfl | rfl
    · refine GF.le (n := 36 + 1) ?_ (by omega)
      refine GF.operE E rfl rfl wkKind wkLoud (fun w hF K' hK' => ?_)
      obtain ⟨c1, c2, c3, c4⟩ := (wf w hF)
      go_simp
      refine hK' _ #[⟨.cell ⟨cb, 0, none⟩, false, false⟩] ⟨by simp [go_sem, *], by simp, wd.ch w hF, ?_⟩
      clear hK' K' c1 c2 c3 c4 hF w
      exact h0 t
    · refine GF.le (n := 36 + 1) ?_ (by omega)
      refine GF.operE E rfl rfl wkKind wkLoud (fun w hF K' hK' => ?_)
      obtain ⟨c1, c2, c3, c4⟩ := (wf w hF)
      go_simp
      refine hK' _ #[⟨.cell ⟨ab, 0, none⟩, false, false⟩, ⟨.cell ⟨ab, 1, none⟩, false, false⟩] ⟨by simp [go_sem, *], by simp, wd.ask w hF, ?_⟩
      clear hK' K' c1 c2 c3 c4 hF w
      exact h2 t
  --STATE T2
  have T2 : ∀ t, GF Try.prog false R D (StBox (.cells #[.int .i64 x, .int .i64 n] 43) fun β g w => Goes Try.prog false (Rb β) (Db β) (StSend Ch (.agg #[.int .i64 j, .int .i64 m]) K) (12 + 40 * m + 80) g w) Fw 38 (G (wkB.at ⟨#[.pointer (some ⟨Wg, 0, none⟩), .pointer (some ⟨cb, 0, none⟩), .pointer (some ⟨pb, 0, none⟩), .pointer (some ⟨ab, 0, none⟩), undef, undef, .agg #[.int .i64 x, .int .i64 n], undef, undef], ds⟩ [.inRegion wkOps (lin wkOps 5 t #[false, false, true, false, false, false])]) cs) := by
    have h0 := T02
    have h1 := T12
    have h3 := T23
    simp only [wkOps, wkBody, Try.f49, Option.getD_some] at h0 h1 h3 ⊢
    refine GF.any Try.prog false R D (StBox (.cells #[.int .i64 x, .int .i64 n] 43) fun β g w => Goes Try.prog false (Rb β) (Db β) (StSend Ch (.agg #[.int .i64 j, .int .i64 m]) K) (12 + 40 * m + 80) g w) Fw (xs := [0, 1, 3]) (by kernel_rfl) (by simp) ?_
    intro i hi t
    simp only [List.mem_cons, List.not_mem_nil, or_false] at hi
    rcases hi with rfl | rfl | rfl
    · refine GF.le (n := 36 + 1) ?_ (by omega)
      refine GF.operE E rfl rfl wkKind wkLoud (fun w hF K' hK' => ?_)
      obtain ⟨c1, c2, c3, c4⟩ := (wf w hF)
      go_simp
      refine hK' _ #[⟨.cell ⟨cb, 0, none⟩, false, false⟩] ⟨by simp [go_sem, *], by simp, wd.ch w hF, ?_⟩
      clear hK' K' c1 c2 c3 c4 hF w
      exact h0 t
    · refine GF.le (n := 36 + 1) ?_ (by omega)
      refine GF.operE E rfl rfl wkKind wkLoud (fun w hF K' hK' => ?_)
      obtain ⟨c1, c2, c3, c4⟩ := (wf w hF)
      go_simp
      refine hK' _ #[⟨.cell ⟨pb, 0, none⟩, false, false⟩] ⟨by simp [go_sem, *], by simp, wd.pl w hF, ?_⟩
      clear hK' K' c1 c2 c3 c4 hF w
      exact h1 t
    · refine GF.le (n := 12 + 1) ?_ (by omega)
      refine GF.call E rfl rfl wkKind rfl Try.func46 (by kernel_rfl) rfl ?_
      simp only [Try.f46]
      walk_nrm
      refine GF.seq E ?_
      refine GF.reg E ?_
      simp only [List.size_toArray, List.length_cons, List.length_nil, Nat.reduceAdd, Nat.zero_add, List.range, List.range.loop]
      refine GF.stop E (fun w hF => ⟨rfl, _, box_step rfl rfl (base_kind _) (by go_simp) (by simp [go_sem]), ?_⟩)
      have hO := order_go (Stop := StSend Ch (.agg #[.int .i64 j, .int .i64 m]) K) (main := false) (Eb w.heap.size) hx hn hn2 hm hm2 HNO.out HYES.out (cells _) (rd0 _) (rd1 _) (b₀ := wkB) (a₀ := ⟨#[.pointer (some ⟨Wg, 0, none⟩), .pointer (some ⟨cb, 0, none⟩), .pointer (some ⟨pb, 0, none⟩), .pointer (some ⟨ab, 0, none⟩), undef, undef, .agg #[.int .i64 x, .int .i64 n], undef, undef], ds⟩) (ops₀ := wkOps) (i₀ := 3) (rest₀ := lin wkOps 4 t #[false, false, true, true, false, false]) (k₀ := []) (cs := cs) (mT := 12) (by simp only [wkOps, wkBody, Try.f49, Option.getD_some]; walk_nrm; exact (h3 _ t).le (by omega)) _ (hbox w hF)
      simp only [wkOps, wkBody, Try.f49, ordOps0, ordTail, ordBody, Try.f46, Option.getD_some] at hO
      walk_nrm
      exact hO
  --STATE T
  have T : ∀ t, GF Try.prog false R D (StBox (.cells #[.int .i64 x, .int .i64 n] 43) fun β g w => Goes Try.prog false (Rb β) (Db β) (StSend Ch (.agg #[.int .i64 j, .int .i64 m]) K) (12 + 40 * m + 80) g w) Fw 40 (G (wkB.at ⟨#[.pointer (some ⟨Wg, 0, none⟩), .pointer (some ⟨cb, 0, none⟩), .pointer (some ⟨pb, 0, none⟩), .pointer (some ⟨ab, 0, none⟩), undef, undef, undef, undef, undef], ds⟩ [.inRegion wkOps (lin wkOps 6 t #[false, false, false, false, false, false])]) cs) := by
    have h0 := T0
    have h1 := T1
    have h2 := T2
    simp only [wkOps, wkBody, Try.f49, Option.getD_some] at h0 h1 h2 ⊢
    refine GF.any Try.prog false R D (StBox (.cells #[.int .i64 x, .int .i64 n] 43) fun β g w => Goes Try.prog false (Rb β) (Db β) (StSend Ch (.agg #[.int .i64 j, .int .i64 m]) K) (12 + 40 * m + 80) g w) Fw (xs := [0, 1, 2]) (by kernel_rfl) (by simp) ?_
    intro i hi t
    simp only [List.mem_cons, List.not_mem_nil, or_false] at hi
    rcases hi with rfl | rfl | rfl
    · refine GF.le (n := 38 + 1) ?_ (by omega)
      refine GF.operE E rfl rfl wkKind wkLoud (fun w hF K' hK' => ?_)
      obtain ⟨c1, c2, c3, c4⟩ := (wf w hF)
      go_simp
      refine hK' _ #[⟨.cell ⟨cb, 0, none⟩, false, false⟩] ⟨by simp [go_sem, *], by simp, wd.ch w hF, ?_⟩
      clear hK' K' c1 c2 c3 c4 hF w
      exact h0 t
    · refine GF.le (n := 38 + 1) ?_ (by omega)
      refine GF.operE E rfl rfl wkKind wkLoud (fun w hF K' hK' => ?_)
      obtain ⟨c1, c2, c3, c4⟩ := (wf w hF)
      go_simp
      refine hK' _ #[⟨.cell ⟨pb, 0, none⟩, false, false⟩] ⟨by simp [go_sem, *], by simp, wd.pl w hF, ?_⟩
      clear hK' K' c1 c2 c3 c4 hF w
      exact h1 t
    · refine GF.le (n := 38 + 1) ?_ (by omega)
      refine GF.operE E rfl rfl wkKind wkLoud (fun w hF K' hK' => ?_)
      obtain ⟨c1, c2, c3, c4⟩ := (wf w hF)
      go_simp
      refine hK' _ #[⟨.cell ⟨ab, 0, none⟩, false, false⟩, ⟨.cell ⟨ab, 1, none⟩, false, false⟩] ⟨by simp [go_sem, *], by simp, wd.ask w hF, ?_⟩
      clear hK' K' c1 c2 c3 c4 hF w
      exact h2 t
  exact T

end Go.Proofs.Ythoaldiadgeonaa.Cr

namespace Go.Proofs.Ythoaldiadgeonaa.Cr
open Go.Conc Go.ConcR Go.RowKit Go.Conc.Lib Go.ConcR.Gen

/-- The cells of a block that stands all the while: the list of asks. -/
instance pay : ConcR.Payload := ⟨43⟩

/-- What a go statement of orders holds: the group, the channel's variable, the place's, the ask's. -/
def wkCall (Wg cb pb ab : Nat) : Deferred := { target := .fn (.func 49) #[.pointer (some ⟨Wg, 0, none⟩), .pointer (some ⟨cb, 0, none⟩), .pointer (some ⟨pb, 0, none⟩), .pointer (some ⟨ab, 0, none⟩)], args := #[] }

theorem wk_born (Wg cb pb ab : Nat) (w : World) : stepG Try.prog false (born Try.prog (wkCall Wg cb pb ab)) w =
    .go (G (wkB.at ⟨#[.pointer (some ⟨Wg, 0, none⟩), .pointer (some ⟨cb, 0, none⟩), .pointer (some ⟨pb, 0, none⟩), .pointer (some ⟨ab, 0, none⟩), undef, undef, undef, undef, undef], []⟩ [.code wkBody]) [bot]) w #[] := by
  simp [born, wkCall, stepG, unwind, callDeferred, invoke, callFunc, Try.func49, Try.f49, seen, GStep.after, G, Frame.enter, Frame.at, wkB, baseD, bot, wkBody]

variable {R : World → World → Prop} {D : World → World → Array Event → Prop} {Fw : World → Prop} {Stop : Goroutine → World → Prop}

set_option maxRecDepth 100000 in
theorem wk_start (E : Hold R D Fw) (hd : ∀ w, D w { w with drawn := w.drawn + 1 } #[]) (hF : ∀ w : World, Fw w → Fw { w with drawn := w.drawn + 1 }) {Wg cb pb ab n : Nat}
    (h : ∀ t, GF Try.prog false R D Stop Fw n (G (wkB.at ⟨#[.pointer (some ⟨Wg, 0, none⟩), .pointer (some ⟨cb, 0, none⟩), .pointer (some ⟨pb, 0, none⟩), .pointer (some ⟨ab, 0, none⟩), undef, undef, undef, undef, undef], [dcall 50 #[.pointer (some ⟨Wg, 0, none⟩)]]⟩
      [.inRegion wkOps (lin wkOps 6 t #[false, false, false, false, false, false])]) [bot])) :
    GF Try.prog false R D Stop Fw (n + 6) (born Try.prog (wkCall Wg cb pb ab)) := by
  refine GF.ctl E rfl (fun _ => wk_born _ _ _ _ _) ?_
  simp only [wkOps, wkBody, Try.f49, Option.getD_some] at h ⊢
  refine GF.seq E ?_
  refine GF.reg E ?_
  simp only [List.size_toArray, List.length_cons, List.length_nil, Nat.zero_add, List.range, List.range.loop]
  refine GF.defer E rfl rfl wkKind rfl ?_
  walk_nrm
  refine GF.regEnd E ?_
  exact GF.draw E hd hF (Checked.mixed Try.checked) h

/-- The way out of a worker's own function, once Done has left. -/
theorem wk_tail (T : Array Value) : QuitsD Try.prog 2 0 (G { wkB.at ⟨T, []⟩ [] with mode := .returning } [bot]) := by
  refine QuitsD.ctl (g' := G bot []) rfl (fun w => ?_) ?_
  · simp [G, stepG, unwind, doReturn, results, Frame.at, wkB, baseD, bot, Try.func49, Try.f49, seen, GStep.after, goexitEntry]
  refine QuitsD.ctl (g' := { G bot [] with status := .finished }) rfl (fun w => ?_) ⟨rfl, rfl⟩
  simp [G, stepG, unwind, bot, goexitEntry, Frame.catches]
  rfl

open Go.ConcN Go.ConcN.Gen in
set_option maxRecDepth 100000 in
/-- Behind the sending. -/
theorem wk_done {Wg C n k : Nat} {Own Rd : Nat → Loc → Prop} {val : Value} {T : Array Value} (w : World) (hK : WgLive wgl.tWg Wg w ∧ Has C (k - 1) val w) :
    Goes Try.prog false (RW wgl.tWg Wg C n 0 (k - 1)) (DWs Wg Own Rd C n k) (AtR0 Try.prog wgl.tWg Wg C n 0 k val) 30 (G (wkB.at ⟨T, [dcall 50 #[.pointer (some ⟨Wg, 0, none⟩)]]⟩ [.inRegion wkOps []]) [bot]) w := by
  have E : Hold (RW wgl.tWg Wg C n 0 (k - 1)) (DWs Wg Own Rd C n k) (fun w => WgLive wgl.tWg Wg w ∧ Has C (k - 1) val w) := ⟨fun _ _ h r => kn_rely h r, fun w => dws_none (by intro e he; simp at he)⟩
  refine (?_ : GF Try.prog false (RW wgl.tWg Wg C n 0 (k - 1)) (DWs Wg Own Rd C n k) (AtR0 Try.prog wgl.tWg Wg C n 0 k val) (fun w => WgLive wgl.tWg Wg w ∧ Has C (k - 1) val w) 30 _) w hK
  refine GF.regEnd E ?_
  refine GF.fin E ?_
  refine GF.ctl E rfl (fun w => stepG_unwind_enter (a := ⟨T, [dcall 50 #[.pointer (some ⟨Wg, 0, none⟩)]]⟩) rfl Try.func50 (nm_done wgl) rfl) ?_
  refine GF.le (n := 23) ?_ (by omega)
  intro w hK
  have hA := @doneN _ wgl Try.prog wgLib Own Rd Wg C n 0 k val _ [bot] 2 rfl (wk_tail T) w hK
  simp only [body_done, doneFn, Option.getD_some] at hA
  walk_nrm
  exact hA

end Go.Proofs.Ythoaldiadgeonaa.Cr

namespace Go.Proofs.Ythoaldiadgeonaa.Cr
open Go.Conc Go.ConcR Go.RowKit Go.Conc.Lib Go.ConcR.Gen
open Go.ConcN (WgLive Has RW DWs AtR0)

/-- What a worker suffers: the blocks below L stand, but the group's and the channel's; and the blocks that it has made. -/
structure RK (Wg Ch L : Nat) (own : Nat → Prop) (w w₁ : World) : Prop where
  low : ∀ b, b < L → b ≠ Wg → b ≠ Ch → w₁.heap[b]? = w.heap[b]?
  own : ∀ b, own b → w₁.heap[b]? = w.heap[b]?
  live : WgLive wgl.tWg Wg w → WgLive wgl.tWg Wg w₁
  size : w.heap.size ≤ w₁.heap.size
/-- The world but for the count of draws. -/
structure Same (w w' : World) : Prop where
  heap : w'.heap = w.heap
  tape : w'.tape = w.tape
  os : w'.os = w.os
  output : w'.output = w.output
theorem Same.refl (w : World) : Same w w := ⟨rfl, rfl, rfl, rfl⟩
/-- What a worker may do on its way: read below L, and what it has made. -/
structure DK (Wg Ch lo L : Nat) (own : Nat → Prop) (w w' : World) (es : Array Event) : Prop where
  same : Same w w'
  evs : ∀ e ∈ es, ∃ a : Addr, e = ⟨.cell a, false, false⟩ ∧ a.block ≠ Wg ∧ a.block ≠ Ch ∧ lo ≤ a.block ∧ (a.block < L ∨ own a.block)

theorem RK.refl {Wg Ch L : Nat} {own : Nat → Prop} (w : World) : RK Wg Ch L own w w := ⟨fun _ _ _ _ => rfl, fun _ _ => rfl, id, Nat.le_refl _⟩
theorem RK.trans {Wg Ch L : Nat} {own : Nat → Prop} {a b c : World} (h : RK Wg Ch L own a b) (h' : RK Wg Ch L own b c) : RK Wg Ch L own a c :=
  ⟨fun x h1 h2 h3 => (h'.low x h1 h2 h3).trans (h.low x h1 h2 h3), fun x hx => (h'.own x hx).trans (h.own x hx), h'.live ∘ h.live, Nat.le_trans h.size h'.size⟩
theorem DK.none {Wg Ch lo L : Nat} {own : Nat → Prop} (w : World) : DK Wg Ch lo L own w w #[] := ⟨Same.refl w, fun e he => by simp at he⟩
theorem DK.read {Wg Ch lo L : Nat} {own : Nat → Prop} {w : World} {ads : List Addr} (h : ∀ a ∈ ads, a.block ≠ Wg ∧ a.block ≠ Ch ∧ lo ≤ a.block ∧ (a.block < L ∨ own a.block)) : DK Wg Ch lo L own w w (ads.map fun a => (⟨.cell a, false, false⟩ : Event)).toArray :=
  ⟨Same.refl w, fun e he => by
    simp only [List.mem_toArray, List.mem_map] at he
    obtain ⟨a, ha, rfl⟩ := he
    exact ⟨a, rfl, h a ha⟩⟩

theorem live_same {Wg : Nat} {w w' : World} (h : w'.heap[Wg]? = w.heap[Wg]?) (hl : WgLive wgl.tWg Wg w) : WgLive wgl.tWg Wg w' := by
  obtain ⟨st, sm, hw⟩ := hl
  exact ⟨st, sm, h.trans hw⟩

/-- Where a worker's places lie. -/
structure WkP (Wg Ch cb pb ab C lo L : Nat) : Prop where
  lo : lo ≤ cb ∧ lo ≤ pb ∧ lo ≤ ab ∧ lo ≤ L
  cb : cb < L ∧ cb ≠ Wg ∧ cb ≠ Ch
  pb : pb < L ∧ pb ≠ Wg ∧ pb ≠ Ch
  ab : ab < L ∧ ab ≠ Wg ∧ ab ≠ Ch
  C : C < L ∧ C ≠ Wg ∧ C ≠ Ch
  wg : Wg < L
  ch : Ch < L

/-- What it knows. -/
structure WkK (Wg Ch cb pb ab C L j x n i : Nat) (val : Value) (w : World) : Prop where
  f : WkF Ch cb pb ab j x n w
  live : WgLive wgl.tWg Wg w
  has : Has C i val w
  size : L ≤ w.heap.size

section
variable {Wg Ch cb pb ab C lo L j x n i : Nat} {val : Value} {own : Nat → Prop} {w w₁ : World}

theorem cell_eq {b : Nat} (h : w₁.heap[b]? = w.heap[b]?) (o : Nat) : w₁.cell? ⟨b, o, none⟩ = w.cell? ⟨b, o, none⟩ := by simp [World.cell?, h]

theorem WkK.rely (p : WkP Wg Ch cb pb ab C lo L) (h : WkK Wg Ch cb pb ab C L j x n i val w) (r : RK Wg Ch L own w w₁) : WkK Wg Ch cb pb ab C L j x n i val w₁ := by
  have e1 := r.low cb p.cb.1 p.cb.2.1 p.cb.2.2
  have e2 := r.low pb p.pb.1 p.pb.2.1 p.pb.2.2
  have e3 := r.low ab p.ab.1 p.ab.2.1 p.ab.2.2
  have e4 := r.low C p.C.1 p.C.2.1 p.C.2.2
  exact ⟨⟨(cell_eq e1 0).trans h.f.ch, (cell_eq e2 0).trans h.f.pl, (cell_eq e3 0).trans h.f.a0, (cell_eq e3 1).trans h.f.a1⟩, r.live h.live, (cell_eq e4 i).trans h.has, Nat.le_trans h.size r.size⟩

/-- And, with its own variable. -/
structure WkKb (Wg Ch cb pb ab C L j x n i : Nat) (val : Value) (β : Nat) (w : World) : Prop extends WkK Wg Ch cb pb ab C L j x n i val w where
  c0 : w.cell? ⟨β, 0, none⟩ = some (.int .i64 x)
  c1 : w.cell? ⟨β, 1, none⟩ = some (.int .i64 n)
  big : L ≤ β

theorem WkKb.rely {β : Nat} (p : WkP Wg Ch cb pb ab C lo L) (h : WkKb Wg Ch cb pb ab C L j x n i val β w) (r : RK Wg Ch L (· = β) w w₁) : WkKb Wg Ch cb pb ab C L j x n i val β w₁ :=
  ⟨h.toWkK.rely p r, (cell_eq (r.own β rfl) 0).trans h.c0, (cell_eq (r.own β rfl) 1).trans h.c1, h.big⟩

theorem wk_hold (p : WkP Wg Ch cb pb ab C lo L) : Hold (RK Wg Ch L fun _ => False) (DK Wg Ch lo L fun _ => False) (WkK Wg Ch cb pb ab C L j x n i val) :=
  ⟨fun _ _ h r => h.rely p r, DK.none⟩
theorem wk_holdb (p : WkP Wg Ch cb pb ab C lo L) (β : Nat) : Hold (RK Wg Ch L (· = β)) (DK Wg Ch lo L (· = β)) (WkKb Wg Ch cb pb ab C L j x n i val β) :=
  ⟨fun _ _ h r => h.rely p r, DK.none⟩

theorem wk_may (p : WkP Wg Ch cb pb ab C lo L) (Fw : World → Prop) (own : Nat → Prop) : WkD cb pb ab (DK Wg Ch lo L own) Fw where
  ch := fun w _ => by
    have := DK.read (Wg := Wg) (Ch := Ch) (lo := lo) (L := L) (own := own) (w := w) (ads := [⟨cb, 0, none⟩]) (by simp; exact ⟨p.cb.2.1, p.cb.2.2, p.lo.1, .inl p.cb.1⟩)
    simpa using this
  pl := fun w _ => by
    have := DK.read (Wg := Wg) (Ch := Ch) (lo := lo) (L := L) (own := own) (w := w) (ads := [⟨pb, 0, none⟩]) (by simp; exact ⟨p.pb.2.1, p.pb.2.2, p.lo.2.1, .inl p.pb.1⟩)
    simpa using this
  ask := fun w _ => by
    have := DK.read (Wg := Wg) (Ch := Ch) (lo := lo) (L := L) (own := own) (w := w) (ads := [⟨ab, 0, none⟩, ⟨ab, 1, none⟩]) (by simp; exact ⟨p.ab.2.1, p.ab.2.2, p.lo.2.2.1, .inl p.ab.1⟩)
    simpa using this

theorem alloc_at {b : Nat} {o : Obj} (h : b < w.heap.size) : (w.alloc o).heap[b]? = w.heap[b]? := by
  show (w.heap.push o)[b]? = _
  rw [Array.getElem?_push_lt h, Array.getElem?_eq_getElem h]
theorem alloc_new {o : Obj} : (w.alloc o).heap[w.heap.size]? = some o := by
  show (w.heap.push o)[w.heap.size]? = _
  simp

theorem WkK.box (p : WkP Wg Ch cb pb ab C lo L) (h : WkK Wg Ch cb pb ab C L j x n i val w) : WkKb Wg Ch cb pb ab C L j x n i val w.heap.size (w.alloc (.cells #[.int .i64 x, .int .i64 n] 43)) := by
  have e1 : (w.alloc (.cells #[.int .i64 x, .int .i64 n] 43)).heap[cb]? = w.heap[cb]? := alloc_at (Nat.lt_of_lt_of_le p.cb.1 h.size)
  have e2 : (w.alloc (.cells #[.int .i64 x, .int .i64 n] 43)).heap[pb]? = w.heap[pb]? := alloc_at (Nat.lt_of_lt_of_le p.pb.1 h.size)
  have e3 : (w.alloc (.cells #[.int .i64 x, .int .i64 n] 43)).heap[ab]? = w.heap[ab]? := alloc_at (Nat.lt_of_lt_of_le p.ab.1 h.size)
  have e4 : (w.alloc (.cells #[.int .i64 x, .int .i64 n] 43)).heap[C]? = w.heap[C]? := alloc_at (Nat.lt_of_lt_of_le p.C.1 h.size)
  have e5 : (w.alloc (.cells #[.int .i64 x, .int .i64 n] 43)).heap[Wg]? = w.heap[Wg]? := alloc_at (Nat.lt_of_lt_of_le p.wg h.size)
  refine ⟨⟨⟨(cell_eq e1 0).trans h.f.ch, (cell_eq e2 0).trans h.f.pl, (cell_eq e3 0).trans h.f.a0, (cell_eq e3 1).trans h.f.a1⟩, live_same e5 h.live, (cell_eq e4 i).trans h.has, ?_⟩, ?_, ?_, h.size⟩
  · have := h.size
    show L ≤ (w.heap.push _).size
    simp; omega
  · have e6 := alloc_new (w := w) (o := .cells #[.int .i64 x, .int .i64 n] 43)
    simp only [World.cell?, e6]; rfl
  · have e6 := alloc_new (w := w) (o := .cells #[.int .i64 x, .int .i64 n] 43)
    simp only [World.cell?, e6]; rfl

/-- The slots of a worker ahead of its sending. -/
def wkT (Wg Ch cb pb ab j x n m : Nat) : Array Value := #[.pointer (some ⟨Wg, 0, none⟩), .pointer (some ⟨cb, 0, none⟩), .pointer (some ⟨pb, 0, none⟩), .pointer (some ⟨ab, 0, none⟩), .chan (some Ch), .int .i64 j, .agg #[.int .i64 x, .int .i64 n], .int .i64 m, .agg #[.int .i64 j, .int .i64 m]]
/-- A worker that has sent. -/
noncomputable def wkSent (Wg Ch cb pb ab j x n m : Nat) : Goroutine := G (wkB.at ⟨wkT Wg Ch cb pb ab j x n m, [dcall 50 #[.pointer (some ⟨Wg, 0, none⟩)]]⟩ [.inRegion wkOps []]) [bot]

/-- A worker's way from its birth: to its own variable, and from there to the sending. -/
theorem work_go (p : WkP Wg Ch cb pb ab C lo L) {m : Nat} (hx : x ≤ 1000) (hn : 1 ≤ n) (hn2 : n ≤ 15000) (hm : 1 ≤ m) (hm2 : m ≤ 15000) (hno : ∀ j, 1 ≤ j → j < m → x ^ j % n ≠ 1 % n) (hyes : x ^ m % n = 1 % n) :
    GF Try.prog false (RK Wg Ch L fun _ => False) (DK Wg Ch lo L fun _ => False)
      (StBox (.cells #[.int .i64 x, .int .i64 n] 43) fun β g w => Goes Try.prog false (RK Wg Ch L (· = β)) (DK Wg Ch lo L (· = β)) (StSend Ch (.agg #[.int .i64 j, .int .i64 m]) fun g _ => g = wkSent Wg Ch cb pb ab j x n m) (12 + 40 * m + 80) g w)
      (WkK Wg Ch cb pb ab C L j x n i val) 46 (born Try.prog (wkCall Wg cb pb ab)) := by
  refine wk_start (wk_hold p) (fun w => ⟨⟨rfl, rfl, rfl, rfl⟩, fun e he => by simp at he⟩) (fun w h => ⟨⟨h.f.ch, h.f.pl, h.f.a0, h.f.a1⟩, h.live, h.has, h.size⟩) (n := 40) fun t => ?_
  have h := work_region (wk_hold (i := i) (val := val) p) (wk_holdb (i := i) (val := val) p) (Wg := Wg) (Ch := Ch) (j := j) (m := m) (K := fun g _ => g = wkSent Wg Ch cb pb ab j x n m) (fun w h => h.f) (fun β w h => h.f) (wk_may p _ _) (fun β => wk_may p _ _)
    (fun w h => h.box p) hx hn hn2 hm hm2 hno hyes (fun β w h => ⟨h.c0, h.c1⟩)
    (fun β w h => by have hb := h.big; have h1 := p.wg; have h2 := p.ch; have h3 := p.lo.2.2.2; simpa using DK.read (Wg := Wg) (Ch := Ch) (lo := lo) (L := L) (own := (· = β)) (w := w) (ads := [⟨β, 0, none⟩]) (by simp; omega))
    (fun β w h => by have hb := h.big; have h1 := p.wg; have h2 := p.ch; have h3 := p.lo.2.2.2; simpa using DK.read (Wg := Wg) (Ch := Ch) (lo := lo) (L := L) (own := (· = β)) (w := w) (ads := [⟨β, 1, none⟩]) (by simp; omega))
    (ds := [dcall 50 #[.pointer (some ⟨Wg, 0, none⟩)]]) (cs := [bot]) (fun _ => rfl) t
  exact h
end

end Go.Proofs.Ythoaldiadgeonaa.Cr
