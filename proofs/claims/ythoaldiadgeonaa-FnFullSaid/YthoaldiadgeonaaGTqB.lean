/-
  The bridge: the program and P' agree, and orders is served: what P' does alone with the changed body, the program does with goroutines.
  The bridge: orders is served; the bridge whole.
  From a contract of P' alone, on every tape, to the program's one good run, whatever the schedule.
  Rows that are given, at the start as P' has it.
-/
import Derived.Test.YthoaldiadgeonaaGTqA
import Derived.Test.YthoaldiadgeonaaTqA
import Derived.Test.YthoaldiadgeonaaGGoG
import Derived.Conc.LeavingOf
import Derived.Below
import Derived.Test.YthoaldiadgeonaaFrame
namespace Go.Proofs.Ythoaldiadgeonaa.Tq
open Go.Proofs.Ythoaldiadgeonaa.Tr Go.Proofs.Ythoaldiadgeonaa.Cr Go.RowKit Go.Conc
set_option linter.unusedSimpArgs false
set_option maxRecDepth 100000

abbrev fo : FuncId := 27
def X (f : FuncId) : Prop := changed.contains f = true

theorem lt_of_func {f : Nat} {fn : Func} (h : Try.prog.funcs[f]? = some fn) : f < 101 := by
  have := (Array.getElem?_eq_some_iff.1 h).1
  rw [size_P] at this; exact this
theorem lt_of_funcQ {f : Nat} {fn : Func} (h : Tryq.fs[f]? = some fn) : f < 101 := by
  have := (Array.getElem?_eq_some_iff.1 h).1
  rw [size_Q] at this; exact this

theorem stops_noFunc (f : FuncId) (args : Array Value) {c : Cfg} (hc : c.P'.funcs[f]? = some noFunc) : SimU c (OkNext c.P (fun f => X f)) (callFunc f args) ∧ ∀ Q : Next → Prop, SimU c Q (callFunc f args) := by
  have h1 : Extern.findNext noFunc = none := by kernel_rfl
  have h2 : (Extern.find noFunc).isNone = true := by kernel_rfl
  have h2 : Extern.find noFunc = none := Option.isNone_iff_eq_none.1 h2
  have key : ∀ Q : Next → Prop, SimU c Q (callFunc f args) := fun Q => by
    unfold callFunc
    refine SimS.prog ?_
    rw [hc]
    refine sim_stops fun w' => ?_
    have h3 : (noFunc.name == "runtime.NumGoroutine") = false := by kernel_rfl
    have h4 : (noFunc.name.endsWith ".init" && !noFunc.name.startsWith "(" && !noFunc.name.startsWith "gosem.") = false := by kernel_rfl
    refine ⟨.unsupported (.extern noFunc.name), w', ?_, trivial, by simp⟩
    simp only [h3, h1, h2, h4]
    rfl
  exact ⟨key _, key⟩

theorem agree (V : Old) (Shun : Loc → Prop) (G : Nat → Prop) : Agree (cfgOf Try.prog Tryq.fs X V Shun G) X := by
  refine ⟨rfl, size_Q.trans size_P.symm, fun f fn hf hb => ?_, fun f fn hf hb args => ?_⟩
  · rcases ag_all f (lt_of_func hf) with ⟨hx, fn1, b, e1, e2, e3, e4, _, e5⟩ | ⟨hx, fn1, fn', b, e1, e2, e3, e4, _, e6, e7, e8, _⟩ | ⟨hx, fn1, e1, _, e3⟩
    · obtain rfl : fn = fn1 := Option.some.inj (hf.symm.trans e1)
      refine ⟨e5, fn, e2, hb, rfl, rfl, fun _ => ⟨rfl, fun b' hb' => ?_⟩⟩
      rw [e3] at hb'
      obtain rfl := Option.some.inj hb'
      exact e4
    · obtain rfl : fn = fn1 := Option.some.inj (hf.symm.trans e1)
      exact ⟨e8, fn', e2, by rw [e4]; rfl, e6, e7, fun hn => absurd hx hn⟩
    · obtain rfl : fn = fn1 := Option.some.inj (hf.symm.trans e1)
      rw [e3] at hb; cases hb
  · rcases ag_all f (lt_of_func hf) with ⟨hx, fn1, b, e1, e2, e3, _⟩ | ⟨hx, fn1, fn', b, e1, e2, e3, _⟩ | ⟨hx, fn1, e1, e2, e3⟩
    · obtain rfl : fn = fn1 := Option.some.inj (hf.symm.trans e1)
      rw [e3] at hb; cases hb
    · obtain rfl : fn = fn1 := Option.some.inj (hf.symm.trans e1)
      rw [e3] at hb; cases hb
    · exact (stops_noFunc f args e2).1

theorem res (f : FuncId) (h : ¬ X f) : (Tryq.fs[f]?).map (·.results) = (Try.prog.funcs[f]?).map (·.results) := by
  cases hf : Try.prog.funcs[f]? with
  | none =>
    cases hq : Tryq.fs[f]? with
    | none => rfl
    | some fn =>
      have h1 := lt_of_funcQ hq
      have h2 := Array.getElem?_eq_none_iff.1 hf
      rw [size_P] at h2
      omega
  | some fn =>
    rcases ag_all f (lt_of_func hf) with ⟨hx, fn1, b, e1, e2, _⟩ | ⟨hx, _⟩ | ⟨hx, _⟩
    · rw [e2, ← hf, e1]
    · exact absurd hx h
    · exact absurd hx h

theorem self (V : Nat → Prop) : Agree (selfC (progOf Try.prog Tryq.fs) V) NoF := by
  refine ⟨rfl, rfl, fun f fn hf hb => ?_, fun f fn hf hb args => ?_⟩
  · have hf' : Tryq.fs[f]? = some fn := hf
    rcases ag_all f (lt_of_funcQ hf') with ⟨hx, fn1, b, e1, e2, e3, _, e4, e5⟩ | ⟨hx, fn1, fn', b, e1, e2, e3, e4, e5, e6, e7, e8, _⟩ | ⟨hx, fn1, e1, e2, e3⟩
    · obtain rfl : fn = fn1 := Option.some.inj (hf'.symm.trans e2)
      refine ⟨e5, fn, hf, hb, rfl, rfl, fun _ => ⟨rfl, fun b' hb' => ?_⟩⟩
      rw [e3] at hb'
      obtain rfl := Option.some.inj hb'
      exact e4
    · obtain rfl : fn = fn' := Option.some.inj (hf'.symm.trans e2)
      refine ⟨by rw [e6]; exact e8, fn, hf, hb, rfl, rfl, fun _ => ⟨rfl, fun b' hb' => ?_⟩⟩
      rw [e4] at hb'
      obtain rfl := Option.some.inj hb'
      exact e5
    · obtain rfl : fn = noFunc := Option.some.inj (hf'.symm.trans e2)
      cases hb
  · have hf' : Tryq.fs[f]? = some fn := hf
    rcases ag_all f (lt_of_funcQ hf') with ⟨hx, fn1, b, e1, e2, e3, _⟩ | ⟨hx, fn1, fn', b, e1, e2, e3, e4, _⟩ | ⟨hx, fn1, e1, e2, e3⟩
    · obtain rfl : fn = fn1 := Option.some.inj (hf'.symm.trans e2)
      rw [e3] at hb; cases hb
    · obtain rfl : fn = fn' := Option.some.inj (hf'.symm.trans e2)
      rw [e4] at hb; cases hb
    · exact (stops_noFunc (c := selfC (progOf Try.prog Tryq.fs) V) f args e2).2 _

/-- The bottom. -/
noncomputable def floor0 : Frame := { fn := 101, tmps := #[undef], todo := [.call { target := .nil, args := #[] } false "fmt's door, and nothing behind it" #[]], defers := [], mode := .run, kind := .normal }
theorem dead : Dead (progOf Try.prog Tryq.fs) floor0 := by
  refine ⟨⟨rfl, _, _, _, _, _, rfl⟩, fun x hx w => ?_⟩
  have hn : (progOf Try.prog Tryq.fs).funcs[101]? = none := Array.getElem?_eq_none (by show Tryq.fs.size ≤ _; rw [size_Q]; exact Nat.le_refl _)
  rcases hx with ⟨v, rfl⟩ | ⟨ch, rfl⟩
  · have h1 : (Extern.next "fmt's door, and nothing behind it").isNone = true := by kernel_rfl
    have h1 := Option.isNone_iff_eq_none.1 h1
    have : ∃ o, (stepG (progOf Try.prog Tryq.fs) true { frame := floor0.finish v, callers := [], status := .running, dying := none } w).bare = .ended o w := by
      have e : floor0.finish v = { floor0 with todo := [.extern "fmt's door, and nothing behind it" (#[].push v)] } := rfl
      rw [e]
      simp only [stepG, stepG.exec, floor0, h1, Option.elim]
      exact ⟨_, rfl⟩
    obtain ⟨o, h⟩ := this
    exact ⟨o, w, step_lone_ended h⟩
  · have hd : "fmt's door, and nothing behind it".startsWith "fmt's door" = true := by kernel_rfl
    have hc : (floor0.raise ch).catches (progOf Try.prog Tryq.fs) = true := by
      show (match (progOf Try.prog Tryq.fs).funcs[101]?, floor0.todo with
        | none, .call _ _ resume _ :: _ => resume.startsWith "fmt's door"
        | _, _ => false) = true
      rw [hn]
      exact hd
    have : ∃ o, (stepG (progOf Try.prog Tryq.fs) true { frame := floor0.raise ch, callers := [], status := .running, dying := none } w).bare = .ended o w := by
      have e : (stepG (progOf Try.prog Tryq.fs) true { frame := floor0.raise ch, callers := [], status := .running, dying := none } w) = unwind (progOf Try.prog Tryq.fs) true (floor0.raise ch) [] none w := rfl
      rw [e]
      have e1 : (floor0.raise ch).defers = [] := rfl
      have e2 : (floor0.raise ch).mode = .panicking ch := rfl
      unfold unwind
      rw [e1, e2]
      simp only [hc, if_true]
      exact ⟨_, rfl⟩
    obtain ⟨o, h⟩ := this
    exact ⟨o, w, step_lone_ended h⟩

end Go.Proofs.Ythoaldiadgeonaa.Tq

namespace Go.Proofs.Ythoaldiadgeonaa.Tq
open Go.Proofs.Ythoaldiadgeonaa.Tr Go.Proofs.Ythoaldiadgeonaa.Cr Go.RowKit Go.Conc
open Go.ConcN (ShN)
set_option linter.unusedSimpArgs false
set_option maxRecDepth 100000

theorem enter_q (args : Array Value) : Frame.enter (progOf Try.prog Tryq.fs) fo args .normal = (base fo).at ⟨args ++ Array.replicate (38 - args.size) undef, []⟩ [.code ordersBody] :=
  enter_at (P := progOf Try.prog Tryq.fs) args Tryq.func27 rfl
theorem enter_p (args : Array Value) : Frame.enter Try.prog fo args .normal = (base fo).at ⟨args ++ Array.replicate (38 - args.size) undef, []⟩ [.code osBody] :=
  enter_at (P := Try.prog) args Try.func27 rfl

theorem res_p (T : Array Value) : results Try.f27 T = pure (T.getD 2 undef) := by
  unfold results
  rw [Try.results27]
  simp [Array.mapM_eq_mapM_toList]
theorem res_q (T : Array Value) : results ordersQ T = pure (T.getD 2 undef) := by
  have : results ordersQ T = results Try.f27 T := rfl
  rw [this, res_p]
theorem slots38 {T : Array Value} {v : Value} (h : T.size = 38) (h0 : T[0]? = some v) : ∃ x1 x2 x3 x4 x5 x6 x7 x8 x9 x10 x11 x12 x13 x14 x15 x16 x17 x18 x19 x20 x21 x22 x23 x24 x25 x26 x27 x28 x29 x30 x31 x32 x33 x34 x35 x36 x37 : Value, T = #[v, x1, x2, x3, x4, x5, x6, x7, x8, x9, x10, x11, x12, x13, x14, x15, x16, x17, x18, x19, x20, x21, x22, x23, x24, x25, x26, x27, x28, x29, x30, x31, x32, x33, x34, x35, x36, x37] := by
  obtain ⟨l⟩ := T
  simp only [List.size_toArray] at h
  simp only [List.getElem?_toArray] at h0
  match l, h with
  | x0 :: x1 :: x2 :: x3 :: x4 :: x5 :: x6 :: x7 :: x8 :: x9 :: x10 :: x11 :: x12 :: x13 :: x14 :: x15 :: x16 :: x17 :: x18 :: x19 :: x20 :: x21 :: x22 :: x23 :: x24 :: x25 :: x26 :: x27 :: x28 :: x29 :: x30 :: x31 :: x32 :: x33 :: x34 :: x35 :: x36 :: x37 :: [], _ =>
    simp only [List.getElem?_cons_zero, Option.some.injEq] at h0
    subst h0
    exact ⟨x1, x2, x3, x4, x5, x6, x7, x8, x9, x10, x11, x12, x13, x14, x15, x16, x17, x18, x19, x20, x21, x22, x23, x24, x25, x26, x27, x28, x29, x30, x31, x32, x33, x34, x35, x36, x37, rfl⟩

section
variable {V : Old}

/-- What P' knows of the world behind orders. -/
structure Behind (wp w1 : World) (n : Nat) (f : Nat → Int) : Prop where
  ev : EvL wp w1 (3 + 3 * n) n f n

set_option maxHeartbeats 4000000 in
theorem rel_behind {Shun : Loc → Prop} {G : Nat → Prop} {w wp wr w1 : World} {n : Nat} {f : Nat → Int} {ord : Nat → Nat} (hwp : Rel (selfC (progOf Try.prog Tryq.fs) V.V) wp wp) (hr : Rel (cfgOf Try.prog Tryq.fs X V Shun G) w wp) (hE : EvL wp w1 (3 + 3 * n) n f n)
    (hf : ∀ j, j < n → f j = ord j) (hos : wr.os = w.os) (hout : wr.output = w.output) (hsz : wr.heap.size = w.heap.size + 4 + 4 * n) (hlow : ∀ b, b < w.heap.size → wr.heap[b]? = w.heap[b]?)
    (hplain : ∀ b, w.heap.size ≤ b → b < wr.heap.size → PlainAt wr b) (hlist : wr.heap[w.heap.size + 3 + 3 * n]? = some (.cells (lc (fun i => ord i) n) 3)) :
    Rel (cfgOf Try.prog Tryq.fs X V (fun l => Shun l ∨ ShN (w.heap.size + 2) l) (fun r => G r ∨ (wp.heap.size ≤ r ∧ r < wp.heap.size + 4 + 4 * n ∧ r ≠ wp.heap.size + (3 + 3 * n)))) wr w1 := by
  have hs := hr.size
  have hs1 := hE.size
  have hV : ∀ r, V.V r → r < wp.heap.size := fun r hv => (Array.getElem?_eq_some_iff.1 (hwp.poison r hv)).1
  have hG : ∀ r, G r → r < wp.heap.size := fun r hg => (Array.getElem?_eq_some_iff.1 (hr.poison r hg)).1
  have hnew : ∀ r o, wp.heap.size ≤ r → w1.heap[r]? = some o → o = poisoned ∨ ∃ cs, o = .cells cs 3 := fun r o h1 h2 => by
    have hlt := (Array.getElem?_eq_some_iff.1 h2).1
    by_cases e : r = wp.heap.size + (3 + 3 * n)
    · subst e
      rw [hE.list] at h2
      exact .inr ⟨_, (Option.some.inj h2).symm⟩
    · rw [hE.new r h1 (by omega) e] at h2
      exact .inl (Option.some.inj h2).symm
  refine ⟨by rw [hsz, hs1, hs]; omega, fun r hn => ?_, fun r hg => ?_, fun r o hg ho => ?_, fun r a t ho => ?_, fun r a t ho => ?_, fun r o ho => ?_, by rw [hos, hE.os]; exact hr.os, by rw [hout, hE.output]; exact hr.output, fun l hl => ?_, fun r hg => ?_, by rw [hs1]; have : V.n0 ≤ wp.heap.size := hr.glob.2; show V.n0 ≤ _; omega⟩
  · have hn1 : ¬ G r := fun h => hn (.inl h)
    have hn2 : ¬ (wp.heap.size ≤ r ∧ r < wp.heap.size + 4 + 4 * n ∧ r ≠ wp.heap.size + (3 + 3 * n)) := fun h => hn (.inr h)
    by_cases h1 : r < wp.heap.size
    · rw [hlow r (by omega), hE.low r h1]; exact hr.off r hn1
    · by_cases e : r = wp.heap.size + (3 + 3 * n)
      · subst e
        rw [hE.list]
        have e2 : wp.heap.size + (3 + 3 * n) = w.heap.size + 3 + 3 * n := by omega
        rw [e2, hlist]
        congr 2
        exact lc_congr fun i hi => (hf i hi).symm
      · have h2 : wp.heap.size + 4 + 4 * n ≤ r := by
          rcases Nat.lt_or_ge r (wp.heap.size + 4 + 4 * n) with h | h
          · exact absurd ⟨by omega, h, e⟩ hn2
          · exact h
        rw [Array.getElem?_eq_none (by omega), Array.getElem?_eq_none (by omega)]
  · rcases hg with hg | ⟨h1, h2, h3⟩
    · rw [hE.low r (hG r hg)]; exact hr.poison r hg
    · have hnv : ¬ V.V r := fun h => by have := hV r h; omega
      rw [hE.new r h1 (by omega) h3]
      rcases (cfgOf Try.prog Tryq.fs X V (fun l => Shun l ∨ ShN (w.heap.size + 2) l) (fun r => G r ∨ (wp.heap.size ≤ r ∧ r < wp.heap.size + 4 + 4 * n ∧ r ≠ wp.heap.size + (3 + 3 * n)))).po_cases r with ⟨hv, _⟩ | ⟨_, eo⟩
      · exact absurd hv hnv
      · rw [eo]
  · rcases hg with hg | ⟨h1, h2, h3⟩
    · have h4 := hG r hg
      rw [hlow r (by omega)] at ho
      exact hr.plain r o hg ho
    · obtain ⟨o', ho', hp⟩ := hplain r (by omega) (by omega)
      rw [ho] at ho'
      obtain rfl := Option.some.inj ho'
      refine ⟨fun hv => by have := hV r hv; omega, fun _ => ?_⟩
      cases o <;> first | exact hp | exact hp.elim
  · by_cases h1 : r < wp.heap.size
    · rw [hE.low r h1] at ho; exact .inl (hr.noview r a t ho)
    · rcases hnew r _ (by omega) ho with h | ⟨cs, h⟩ <;> cases h
  · by_cases h1 : r < wp.heap.size
    · rw [hE.low r h1] at ho; exact hr.nopend r a t ho
    · rcases hnew r _ (by omega) ho with h | ⟨cs, h⟩ <;> cases h
  · by_cases h1 : r < wp.heap.size
    · rw [hE.low r h1] at ho; exact hr.objs r o ho
    · rcases hnew r _ (by omega) ho with rfl | ⟨cs, rfl⟩ <;> trivial
  · rcases hl with hl | ⟨a, rfl, ha⟩
    · obtain ⟨a, e, hg⟩ := hr.shun l hl
      exact ⟨a, e, .inl hg⟩
    · exact ⟨a, rfl, .inr ⟨by have : a.block = w.heap.size + 2 := ha; omega, by have : a.block = w.heap.size + 2 := ha; omega, by have : a.block = w.heap.size + 2 := ha; omega⟩⟩
  · rcases hg with hg | ⟨h1, _⟩
    · exact hr.glob.1 r hg
    · exact .inr (Nat.le_trans hr.glob.2 h1)

/-- The program's side. -/
theorem serve_p {Shun : Loc → Prop} {G : Nat → Prop} {gs : Array Goroutine} {w wp w1 : World} {sl : Option (Nat × Nat)} {t : Trace} {q : Nat → Nat} {args : Array Value} {x : Frame} {cs : List Frame} {b : Option Addr} {n c : Nat} {f : Nat → Int}
    (hwp : Rel (selfC (progOf Try.prog Tryq.fs) V.V) wp wp) (hsz : (args ++ Array.replicate (38 - args.size) undef).size = 38) (h0 : (args ++ Array.replicate (38 - args.size) undef)[0]? = some (.slice b n c)) (hn : n < 100000)
    (hE : EvL wp w1 (3 + 3 * n) n f n) (hD : ∀ j, j < n → Done wp b j (f j))
    (hg : gs[0]? = some (wk (Frame.enter Try.prog fo args .normal) (x :: cs))) (hF : Fr Try.prog Shun gs w t q) (hr : Rel (cfgOf Try.prog Tryq.fs X V Shun G) w wp) :
    ∃ (N : Nat) (gs' : Array Goroutine) (wr : World) (sl' : Option (Nat × Nat)) (t' : Trace) (q' : Nat → Nat) (Shun' : Loc → Prop) (G' : Nat → Prop),
      runNT Try.prog N (crowd gs w sl) t = (.next (crowd gs' wr sl'), t') ∧ gs'[0]? = some (wk (x.finish (.slice (some ⟨wp.heap.size + (3 + 3 * n), 0, none⟩) n n)) cs) ∧ Fr Try.prog Shun' gs' wr t' q' ∧ Rel (cfgOf Try.prog Tryq.fs X V Shun' G') wr w1 ∧ wr.tape = w.tape := by
  have hs := hr.size
  -- the asks, as functions
  have hch : ∃ (A off : Nat) (ask : Nat → Nat × Nat) (ord : Nat → Nat), (0 < n → b = some ⟨A, off, none⟩ ∧ A < wp.heap.size) ∧ (n = 0 → A = w.heap.size + 1) ∧ ∀ j, j < n → wp.cell? ⟨A, off + j * 2, none⟩ = some (.int .i64 (ask j).1) ∧ wp.cell? ⟨A, off + j * 2 + 1, none⟩ = some (.int .i64 (ask j).2) ∧
      (ask j).1 ≤ 1000 ∧ 1 ≤ (ask j).2 ∧ (ask j).2 ≤ 15000 ∧ Ord (ask j).1 (ask j).2 (ord j) ∧ f j = ord j := by
    rcases Nat.eq_zero_or_pos n with rfl | hpos
    · exact ⟨w.heap.size + 1, 0, fun _ => (0, 1), fun _ => 0, fun h => absurd h (by omega), fun _ => rfl, fun j hj => absurd hj (by omega)⟩
    · obtain ⟨A, off, _, _, _, hb, _, _, _, _, _, hA, _⟩ := hD 0 hpos
      have : ∀ j, ∃ p : Nat × Nat × Nat, j < n → wp.cell? ⟨A, off + j * 2, none⟩ = some (.int .i64 p.1) ∧ wp.cell? ⟨A, off + j * 2 + 1, none⟩ = some (.int .i64 p.2.1) ∧ p.1 ≤ 1000 ∧ 1 ≤ p.2.1 ∧ p.2.1 ≤ 15000 ∧ Ord p.1 p.2.1 p.2.2 ∧ f j = p.2.2 := fun j => by
        by_cases hj : j < n
        · obtain ⟨A', off', xx, m, o, hb', h1, h2, h3, h4, h5, _, h6, h7⟩ := hD j hj
          rw [hb] at hb'
          injection hb' with hb'
          injection hb' with e1 e2
          subst e1 e2
          exact ⟨(xx, m, o), fun _ => ⟨h1, h2, h3, h4, h5, h6, h7⟩⟩
        · exact ⟨(0, 0, 0), fun h => absurd h hj⟩
      refine ⟨A, off, fun j => ((Classical.choose (this j)).1, (Classical.choose (this j)).2.1), fun j => (Classical.choose (this j)).2.2, fun _ => ⟨hb, hA⟩, fun h => by omega, fun j hj => Classical.choose_spec (this j) hj⟩
  obtain ⟨A, off, ask, ord, hb, hA0, hask⟩ := hch
  obtain ⟨x1, x2, x3, x4, x5, x6, x7, x8, x9, x10, x11, x12, x13, x14, x15, x16, x17, x18, x19, x20, x21, x22, x23, x24, x25, x26, x27, x28, x29, x30, x31, x32, x33, x34, x35, x36, x37, hT⟩ := slots38 hsz h0
  have hnG : 0 < n → ¬ G A := fun hpos => hr.cellG (hask 0 hpos).1
  have hin : wk (Frame.enter Try.prog fo args .normal) (x :: cs) = osIn #[.slice (b, c).1 n (b, c).2, x1, x2, x3, x4, x5, x6, x7, x8, x9, x10, x11, x12, x13, x14, x15, x16, x17, x18, x19, x20, x21, x22, x23, x24, x25, x26, x27, x28, x29, x30, x31, x32, x33, x34, x35, x36, x37] (x :: cs) := by
    rw [enter_p, hT]; rfl
  rw [hin] at hg
  obtain ⟨N, gs1, w2, sl1, t1, q1, T, hrun, hg1, hT2, hF1, htape, hos, hout, hsz2, hlow, hplain, hlist⟩ := orders_run (sl := sl) (A := A) (off := off) (cap := (b, c)) (ask := ask) (ord := ord) hn
    (fun i hi => by
      obtain ⟨_, _, h1, h2, h3, ⟨h4, h5, h6, h7⟩, _⟩ := hask i hi
      exact ⟨h1, h2, h3, h4, h5, h6, h7⟩) hF hg (fun h => (hb h).1) (fun h => by rw [hs]; exact (hb h).2) (by
      rcases Nat.eq_zero_or_pos n with h | h
      · have := hA0 h; omega
      · have := (hb h).2; omega) (by
      rcases Nat.eq_zero_or_pos n with h | h
      · have := hA0 h; omega
      · have := (hb h).2; omega)
    (fun i hi => hr.cell (hask i hi).1) (fun i hi => hr.cell (hask i hi).2.1)
    (fun l hl => by
      obtain ⟨a, e, hga⟩ := hr.shun l hl
      have hlt : a.block < w.heap.size := by rw [hs]; exact (Array.getElem?_eq_some_iff.1 (hr.poison _ hga)).1
      refine ⟨a, e, hlt, fun hAe => ?_⟩
      rcases Nat.eq_zero_or_pos n with h | h
      · have := hA0 h; omega
      · exact hnG h (hAe ▸ hga))
  have hrel := rel_behind hwp hr hE (ord := ord) (fun j hj => (hask j hj).2.2.2.2.2.2) hos hout hsz2 hlow hplain hlist
  -- the return
  have hv : T.getD 2 undef = .slice (some ⟨wp.heap.size + (3 + 3 * n), 0, none⟩) n n := by
    rw [Array.getD_eq_getD_getElem?, hT2]
    have e : w.heap.size + 3 + 3 * n = wp.heap.size + (3 + 3 * n) := by omega
    rw [e]; rfl
  have hstep : ∀ w₁, stepG Try.prog true (osRet T (x :: cs)) w₁ = .go (wk (x.finish (.slice (some ⟨wp.heap.size + (3 + 3 * n), 0, none⟩) n n)) cs) w₁ #[] := fun w₁ => by
    obtain ⟨fr, hfr⟩ : ∃ fr : Frame, fr = { (base fo).at ⟨T, []⟩ [.code .ret] with mode := .returning } := ⟨_, rfl⟩
    have e1 : osRet T (x :: cs) = wk fr (x :: cs) := by rw [hfr]; rfl
    have h1 : fr.defers = [] := by rw [hfr]; rfl
    have h2 : fr.mode = .returning := by rw [hfr]
    have h3 : fr.kind = .normal := by rw [hfr]; rfl
    have h4 : Try.prog.funcs[fr.fn]? = some Try.f27 := by rw [hfr]; exact Try.func27
    have h5 : (results Try.f27 fr.tmps).runT Try.prog w₁ #[] = (.ok (.slice (some ⟨wp.heap.size + (3 + 3 * n), 0, none⟩) n n) w₁, #[]) := by
      have : fr.tmps = T := by rw [hfr]; rfl
      rw [this, res_p, hv]; rfl
    rw [e1]
    simp only [stepG, unwind, h1, h2, h4, h5, doReturn, h3]
    rfl
  obtain ⟨N2, gs2, a2, w3, sl2, t2, q2, hrun2, _, hg2, ⟨rfl, hat⟩, hF2, _⟩ := fr_walk (Stop := fun g w' => g = wk (x.finish (.slice (some ⟨wp.heap.size + (3 + 3 * n), 0, none⟩) n n)) cs ∧ AtRel w2 w') (D := DF (fun l => Shun l ∨ ShN (w.heap.size + 2) l)) (fun _ _ _ h => h) _ 1 gs1 _ w2 sl1 t1 q1 (Nat.le_refl _) hg1 hF1
    (.inr ⟨rfl, fun w₁ hr1 => by
      rw [hstep]
      exact ⟨df_idle _, fun w₂ hr2 => ⟨rfl, atRel_trans _ _ _ hr1 hr2⟩⟩⟩)
  obtain ⟨d, rfl⟩ := hat
  exact ⟨N + N2, gs2, w2.at d, sl2, t2, q2, _, _, runNT_then hrun hrun2, hg2, hF2, rel_at hrel d, htape⟩

/-- THE BRIDGE. -/
theorem bridge (V : Old) : Bridge Try.prog Tryq.fs X V floor0 := by
  refine ⟨agree V, res, self V.V, dead, fun f hX args x cs wp hwp => ?_⟩
  by_cases hf : f = fo
  · subst hf
    have hT : 38 ≤ (args ++ Array.replicate (38 - args.size) undef).size := by simp; omega
    have hdz := orders_dz (Q := fun e a w' => e = .ret ∧ ∃ b n c f, (args ++ Array.replicate (38 - args.size) undef).size = 38 ∧ (args ++ Array.replicate (38 - args.size) undef)[0]? = some (.slice b n c) ∧ n < 100000 ∧ Has a [(2, .slice (some ⟨wp.heap.size + (3 + 3 * n), 0, none⟩) n n)] ∧ EvL wp w' (3 + 3 * n) n f n ∧ ∀ j, j < n → Done wp b j (f j)) (V := V.V) (dd := True) (fun _ => hwp) hT (.inl trivial)
      (fun b n c a' w' f h1 h2 h3 h4 h5 h6 => ⟨rfl, b, n, c, f, h1, h2, h3, h4, h5, h6⟩) (base fo) (by simp [base]) [] (x :: cs ++ [floor0])
    rw [enter_q]
    rcases hdz with ⟨_, fr1, w1, ⟨N, hN⟩, o, w2, h2⟩ | ⟨e, a', w1, ⟨rfl, b, n, c, f, h1, h2, h3, h4, h5, h6⟩, todo, N, hN⟩
    · exact .inl ⟨N, fr1, w1, hN, o, w2, h2⟩
    · have hl : ({ (base fo).at a' todo with mode := .returning } : Frame).leaving (progOf Try.prog Tryq.fs) w1 (.returned (.slice (some ⟨wp.heap.size + (3 + 3 * n), 0, none⟩) n n)) := by
        refine ⟨rfl, h4.2.1, rfl, ordersQ, Tryq.func27, ?_⟩
        have e3 : results ordersQ a'.tmps = pure (a'.tmps.getD 2 undef) := res_q _
        show (results ordersQ a'.tmps).run _ w1 = _
        rw [e3, Array.getD_eq_getD_getElem?, h4.2.2 2 (.slice (some ⟨wp.heap.size + (3 + 3 * n), 0, none⟩) n n) (by simp)]
        rfl
      exact .inr ⟨N, _, w1, _, hN, hl, fun Shun G gs w sl t q hg hF hr => serve_p hwp h1 h2 h3 h5 h6 hg hF hr⟩
  · -- not wanted
    left
    have hlt : f < 101 := by
      have : ∀ l : List Nat, (∀ i ∈ l, i < 101) → l.contains f = true → f < 101 := fun l hl h => hl f (by simpa using h)
      exact this changed (by decide +kernel) hX
    have hbody : ∃ s, ((Tryq.fs[f]?).bind (·.body)).getD (.refuse "unsupported: a function without a Go body is entered") = .refuse s := by
      rcases ag_all f hlt with ⟨hx, _⟩ | ⟨hx, fn1, fn', b, e1, e2, e3, e4, _, _, _, _, e5⟩ | ⟨hx, fn1, e1, e2, e3⟩
      · rw [show changed.contains f = true from hX] at hx; cases hx
      · rcases e5 with e5 | ⟨s, rfl⟩
        · exact absurd e5 hf
        · exact ⟨s, by rw [e2]; show ((some fn').bind (·.body)).getD _ = _; simp [e4]⟩
      · exact ⟨_, by rw [e2]; rfl⟩
    obtain ⟨s, hs⟩ := hbody
    refine ⟨0, _, wp, rfl, ?_⟩
    have : ∃ o, (stepG (progOf Try.prog Tryq.fs) true { frame := Frame.enter (progOf Try.prog Tryq.fs) f args .normal, callers := x :: cs ++ [floor0], status := .running, dying := none } wp).bare = .ended o wp := by
      have e : Frame.enter (progOf Try.prog Tryq.fs) f args .normal = { fn := f, tmps := args ++ Array.replicate (((Tryq.fs[f]?).map (·.ntmps)).getD 0 - args.size) undef, todo := [.code (.refuse s)], defers := [], mode := .run, kind := .normal } := by
        unfold Frame.enter
        show ({ fn := f, tmps := _, todo := [.code (((Tryq.fs[f]?).bind (·.body)).getD _)], defers := [], mode := .run, kind := .normal } : Frame) = _
        rw [hs]
      rw [e]
      exact ⟨_, rfl⟩
    obtain ⟨o, h⟩ := this
    exact ⟨o, wp, step_lone_ended h⟩
end

end Go.Proofs.Ythoaldiadgeonaa.Tq

namespace Go.Proofs.Ythoaldiadgeonaa.Tq
open Go.Proofs.Ythoaldiadgeonaa.Tr Go.Proofs.Ythoaldiadgeonaa.Cr Go.RowKit Go.Conc
set_option linter.unusedSimpArgs false

/-- What of the start P' is not to know. -/
def oldOf (W : World) : Old := { V := fun r => ∃ o, W.heap[r]? = some o ∧ Weird o, wv := fun r => (W.heap[r]?).getD poisoned, n0 := W.heap.size, tp := W.tape }
/-- The start, as P' has it. -/
noncomputable def tamed (W : World) : World := { W with heap := W.heap.mapIdx fun r o => open Classical in if Weird o then .view ⟨r, 0, none⟩ 0 else o }

section
variable {W : World}

theorem tamed_size : (tamed W).heap.size = W.heap.size := by show (W.heap.mapIdx _).size = _; simp
theorem tamed_at (r : Nat) : (tamed W).heap[r]? = (W.heap[r]?).map fun o => open Classical in if Weird o then .view ⟨r, 0, none⟩ 0 else o := by
  show (W.heap.mapIdx _)[r]? = _
  rw [Array.getElem?_mapIdx]
theorem tamed_keep {r : Nat} {o : Obj} (h : W.heap[r]? = some o) (hw : ¬ Weird o) : (tamed W).heap[r]? = some o := by
  rw [tamed_at, h]
  exact congrArg some (if_neg hw)
theorem tamed_weird {r : Nat} {o : Obj} (h : W.heap[r]? = some o) (hw : Weird o) : (tamed W).heap[r]? = some (.view ⟨r, 0, none⟩ 0) := by
  rw [tamed_at, h]
  exact congrArg some (if_pos hw)
theorem tamed_cases {r : Nat} {o : Obj} (h : (tamed W).heap[r]? = some o) : (W.heap[r]? = some o ∧ ¬ Weird o) ∨ ((oldOf W).V r ∧ o = .view ⟨r, 0, none⟩ 0) := by
  cases e : W.heap[r]? with
  | none => rw [tamed_at, e] at h; cases h
  | some u =>
    by_cases hw : Weird u
    · rw [tamed_weird e hw] at h
      exact .inr ⟨⟨u, e, hw⟩, (Option.some.inj h).symm⟩
    · rw [tamed_keep e hw] at h
      obtain rfl := Option.some.inj h
      exact .inl ⟨rfl, hw⟩

theorem okObj_tame {p : Program} {Y : FuncId → Prop} {o : Obj} (h : ¬ Weird o) : OkObj p Y o := by
  cases o <;> first | exact absurd trivial h | trivial

theorem rel_start : Rel (cfgOf Try.prog Tryq.fs X (oldOf W) (fun _ => False) (oldOf W).V) W (tamed W) := by
  refine ⟨tamed_size.symm, fun r hn => ?_, fun r hg => ?_, fun r o hg ho => ?_, fun r a t h => ?_, fun r a t h => ?_, fun r o h => ?_, rfl, rfl, fun l h => h.elim, fun r h => .inl h, by rw [tamed_size]; exact Nat.le_refl _⟩
  · cases e : W.heap[r]? with
    | none => rw [tamed_at, e]; rfl
    | some o => exact (tamed_keep e fun hw => hn ⟨o, e, hw⟩).symm
  · obtain ⟨o, e, hw⟩ := hg
    rw [tamed_weird e hw]
    rcases (cfgOf Try.prog Tryq.fs X (oldOf W) (fun _ => False) (oldOf W).V).po_cases r with ⟨_, eo⟩ | ⟨hn, _⟩
    · rw [eo]
    · exact absurd ⟨o, e, hw⟩ hn
  · refine ⟨fun _ => ?_, fun hn => absurd hg hn⟩
    obtain ⟨u, e, hw⟩ := hg
    rw [ho] at e
    obtain rfl := Option.some.inj e
    exact ⟨hw, by show o = (W.heap[r]?).getD poisoned; rw [ho]; rfl⟩
  · rcases tamed_cases h with ⟨h, hw⟩ | ⟨h, _⟩
    · exact absurd trivial hw
    · exact h
  · rcases tamed_cases h with ⟨h, hw⟩ | ⟨_, h⟩
    · exact hw trivial
    · cases h
  · rcases tamed_cases h with ⟨_, hw⟩ | ⟨_, rfl⟩
    · exact okObj_tame hw
    · trivial
theorem rel_startQ : Rel (selfC (progOf Try.prog Tryq.fs) (oldOf W).V) (tamed W) (tamed W) := by
  refine ⟨rfl, fun _ _ => rfl, fun r hg => ?_, fun r o hg ho => ?_, fun r a t h => ?_, fun r a t h => ?_, fun r o h => ?_, rfl, rfl, fun l h => h.elim, fun r h => .inl h, Nat.zero_le _⟩
  · obtain ⟨o, e, hw⟩ := hg
    rw [tamed_weird e hw]
    rcases (selfC (progOf Try.prog Tryq.fs) (oldOf W).V).po_cases r with ⟨_, eo⟩ | ⟨hn, _⟩
    · rw [eo]
    · exact absurd ⟨o, e, hw⟩ hn
  · refine ⟨fun _ => ?_, fun hn => absurd hg hn⟩
    obtain ⟨u, e, hw⟩ := hg
    rw [tamed_weird e hw] at ho
    obtain rfl := Option.some.inj ho
    exact ⟨trivial, rfl⟩
  · rcases tamed_cases h with ⟨h, hw⟩ | ⟨h, _⟩
    · exact absurd trivial hw
    · exact h
  · rcases tamed_cases h with ⟨h, hw⟩ | ⟨_, h⟩
    · exact hw trivial
    · cases h
  · rcases tamed_cases h with ⟨_, hw⟩ | ⟨_, rfl⟩
    · exact okObj_tame hw
    · trivial

/-- ████ THE RUN. ████ -/
theorem run_of_q {f : FuncId} {args : Array Value} {R : Value → World → Prop} (hnx : changed.contains f = false) (hinit : Try.prog.inits.idxOf? f = none) (hres : ∀ fn, Try.prog.funcs[f]? = some fn → ∀ tmps, ∃ v, results fn tmps = pure v)
    (hb : ∃ fn, Try.prog.funcs[f]? = some fn ∧ fn.body.isSome = true)
    (h : ∀ τ, Calls Tryq.prog f args (re τ (tamed W)) fun | .returned v, w' => R v w' | _, _ => False) :
    ∃ M last o w' t', runNT Try.prog (M + 1) (solo (G (Frame.enter Try.prog f args .normal) []) W) #[] = (.ended o w', t') ∧ runN Try.prog M (solo (G (Frame.enter Try.prog f args .normal) []) W) = .next last ∧
      Go.step Try.prog last = .ended o w' ∧ Conc.Good Try.prog (Told2 Try.prog Tryq.fs X (oldOf W) R) last o w' t' := by
  have hnX : ¬ X f := fun hx => by unfold X at hx; rw [hnx] at hx; cases hx
  obtain ⟨eE, hfr⟩ := okFrame_enter (agree (oldOf W) (fun _ => False) (oldOf W).V) args .normal hnX (.inl rfl) hb
  have eE : Frame.enter (progOf Try.prog Tryq.fs) f args .normal = Frame.enter Try.prog f args .normal := eE
  have hb2 : ∃ fn, (progOf Try.prog Tryq.fs).funcs[f]? = some fn ∧ fn.body.isSome = true := by
    obtain ⟨fn, e, hbs⟩ := hb
    obtain ⟨_, fn', e', hbs', _⟩ := (agree (oldOf W) (fun _ => False) (oldOf W).V).body f fn e hbs
    exact ⟨fn', e', hbs'⟩
  obtain ⟨_, hfrQ⟩ := okFrame_enter (self (oldOf W).V) args .normal (f := f) id (.inl rfl) hb2
  let s0 : St := ⟨Frame.enter (progOf Try.prog Tryq.fs) f args .normal, [], tamed W⟩
  have hi : Inv (progOf Try.prog Tryq.fs) (oldOf W).V s0 := ⟨hfrQ, fun x hx => (by cases hx), ⟨rfl, rfl⟩, rel_startQ⟩
  have hG : Gets (progOf Try.prog Tryq.fs) floor0 f R s0 := fun τ _ => by
    obtain ⟨e, w', fr, hR, hcomes, hfn, hleave⟩ := h τ [floor0]
    cases e with
    | panicked chain => exact hR.elim
    | outgrown => exact hR.elim
    | returned v =>
      obtain ⟨n, hn⟩ := hcomes
      exact ⟨n, fr, w', v, hn, hfn, hleave, hR⟩
  have hacc := (hG.acc (self (oldOf W).V) dead.floor hi).transGen
  have hF : Fr Try.prog (fun _ => False) #[wk (Frame.enter Try.prog f args .normal) []] W #[] (fun _ => 0) :=
    ⟨leavers_one _ _, past_nil.mono (Nat.zero_le _), fun i op x hi => by simp at hi, fun op hop => by simp at hop, fun op hop => by simp at hop⟩
  exact pair_ends (bridge (oldOf W)) hres hnX hinit hacc (fun _ => False) (oldOf W).V #[wk (Frame.enter Try.prog f args .normal) []] (wk (Frame.enter Try.prog f args .normal) []) W none #[] (fun _ => 0) hi hG
    ⟨by show OkFrame Try.prog X (Frame.enter (progOf Try.prog Tryq.fs) f args .normal); rw [eE]; exact hfr, fun x hx => (by cases hx), ⟨rfl, rfl⟩, (by show wk (Frame.enter Try.prog f args .normal) [] = wk (Frame.enter (progOf Try.prog Tryq.fs) f args .normal) []; rw [eE]), rel_start, rfl⟩ rfl hF

/-- What P' leaves as it was, the program leaves as it was. -/
theorem below_of {w' wr : World} {Shun : Loc → Prop} {G : Nat → Prop} (hb0 : ∃ τ, Below (re τ (tamed W)).heap.size (re τ (tamed W)) w') (hr : Rel (cfgOf Try.prog Tryq.fs X (oldOf W) Shun G) wr w') (ht : wr.tape = W.tape) : Below W.heap.size W wr := by
  obtain ⟨τ, hb⟩ := hb0
  have hz : W.heap.size ≤ w'.heap.size := by have h : (tamed W).heap.size ≤ w'.heap.size := hb.size; rw [tamed_size] at h; exact h
  have hblk : ∀ k, k < W.heap.size → w'.heap[k]? = (tamed W).heap[k]? := fun k hk => hb.block k (by show k < (tamed W).heap.size; rw [tamed_size]; exact hk)
  refine ⟨by rw [hr.os, hb.os]; rfl, ht, by rw [hr.output, hb.output]; rfl, by rw [hr.size]; exact hz, fun r hlt => ?_⟩
  have hs : r < wr.heap.size := by rw [hr.size]; omega
  by_cases hg : G r
  · rcases hr.glob.1 r hg with hv | hn
    · have e := Array.getElem?_eq_getElem hs
      have h1 := ((hr.plain r _ hg e).1 hv).2
      obtain ⟨o, eo, _⟩ := hv
      rw [e, h1]
      show some ((W.heap[r]?).getD poisoned) = _
      rw [eo]; rfl
    · exact absurd hlt (Nat.not_lt.2 hn)
  · rw [hr.off r hg, hblk r hlt]
    cases e : W.heap[r]? with
    | none => rw [tamed_at, e]; rfl
    | some o =>
      by_cases hw : Weird o
      · have h1 := hblk r hlt
        rw [tamed_weird e hw] at h1
        exact absurd (hr.noview r _ _ h1) hg
      · rw [tamed_keep e hw]
end

end Go.Proofs.Ythoaldiadgeonaa.Tq

namespace Go.Proofs.Ythoaldiadgeonaa.Tq
open Go.Proofs.Ythoaldiadgeonaa.Tr Go.RowKit

theorem results_one {fn : Func} {tmps : Array Value} {i : Nat} (h : fn.results = #[.tmp i]) : results fn tmps = pure (tmps.getD i undef) := by
  unfold results
  rw [h]
  simp [Array.mapM_eq_mapM_toList]
theorem cell_re {W : World} {ad : Addr} {v : Value} (h : W.cell? ad = some v) (τ : Tape) : (re τ (tamed W)).cell? ad = some v := by
  show (tamed W).cell? ad = _
  unfold World.cell? at h ⊢
  cases e2 : W.heap[ad.block]? with
  | none => rw [e2] at h; cases h
  | some o =>
    rw [e2] at h
    rw [tamed_keep e2 (by cases o <;> first | exact id | cases h)]
    exact h
theorem isRow_re {k : IntKind} {W : World} {a : Option Addr} {len cap : Nat} {zs : List Int} (h : IsRow k W a len cap zs) (τ : Tape) : IsRow k (re τ (tamed W)) a len cap zs := by
  rcases h with h | ⟨g, e, h1, h2, h3, h4, h5⟩
  · exact .inl h
  · exact .inr ⟨g, e, h1, h2, h3, fun j hx => cell_re (h4 j hx) τ, h5⟩

end Go.Proofs.Ythoaldiadgeonaa.Tq
