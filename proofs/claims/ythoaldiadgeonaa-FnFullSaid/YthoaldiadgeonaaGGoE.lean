/-
  Many workers and their starter, beside old leavers: where everybody stands, what holds of machine and trace, and how it bears the steps of others.
  Many workers and their starter, beside old leavers: what holds at every moment, and that each kind of step keeps it.
  Many workers and their starter, beside old leavers: the invariant with its measure; a step of a worker's, of an old leaver's.
-/
import Derived.Test.YthoaldiadgeonaaGGoD
import Derived.Conc.CrowdComm
import Derived.Conc.Beside
namespace Go.Proofs.Ythoaldiadgeonaa.Cr
open Go.Conc Go.ConcR Go.RowKit Go.Conc.Lib Go.ConcR.Gen
open Go.ConcN
open Go.Joins (cell_of_block unfrozen_of_block block_setCell)

/-- The phase's data. -/
structure Ph where
  Wg : Nat
  Ch : Nat
  cb : Nat
  A : Nat
  off : Nat
  n : Nat
  cap : Option Addr × Nat
  j0 : Nat
  N0 : Nat
  W0 : World
  ask : Nat → Nat × Nat
  ord : Nat → Nat
  cs : List Frame
  Shun : Loc → Prop

structure Ph.Ok (p : Ph) : Prop where
  pl : StP p.Wg p.Ch p.cb p.A
  chwg : p.Ch ≠ p.Wg
  n0 : p.N0 = p.W0.heap.size
  hn : p.n < 100000
  wg : p.N0 ≤ p.Wg ∧ p.Wg < p.N0 + 3
  ch : p.N0 ≤ p.Ch ∧ p.Ch < p.N0 + 3
  cb : p.N0 ≤ p.cb ∧ p.cb < p.N0 + 3
  sA : p.A < p.N0 + 3
  base : 0 < p.n → p.cap.1 = some ⟨p.A, p.off, none⟩
  shun : ∀ l, p.Shun l → ∃ a : Addr, l = .cell a ∧ a.block < p.N0 ∧ a.block ≠ p.A
  ord : ∀ i, i < p.n → (p.ask i).1 ≤ 1000 ∧ 1 ≤ (p.ask i).2 ∧ (p.ask i).2 ≤ 15000 ∧ 1 ≤ p.ord i ∧ p.ord i ≤ 15000 ∧ (∀ j, 1 ≤ j → j < p.ord i → (p.ask i).1 ^ j % (p.ask i).2 ≠ 1 % (p.ask i).2) ∧ (p.ask i).1 ^ p.ord i % (p.ask i).2 = 1 % (p.ask i).2

def Ph.kk (p : Ph) (i : Nat) : Nat := p.j0 + 1 + i
def Ph.ans (p : Ph) (i : Nat) : Value := .agg #[.int .i64 i, .int .i64 (p.ord i)]
def Ph.Sh (p : Ph) (l : Loc) : Prop := p.Shun l ∨ ShN p.Wg l

/-- What was there before stands. -/
structure Low0 (p : Ph) (w : World) : Prop where
  tape : w.tape = p.W0.tape
  os : w.os = p.W0.os
  output : w.output = p.W0.output
  low : ∀ b, b < p.N0 → w.heap[b]? = p.W0.heap[b]?

/-! ### relies -/
section
variable {Wg Ch L cb A : Nat} {own own0 rds : Nat → Prop} {w w' w'' : World} {es : Array Event}
theorem R0.trans (h : R0 Wg Ch w w') (h' : R0 Wg Ch w' w'') : R0 Wg Ch w w'' :=
  ⟨h'.tape.trans h.tape, h'.os.trans h.os, h'.output.trans h.output, Nat.le_trans h.size h'.size, fun b h1 h2 h3 => (h'.keep b (Nat.lt_of_lt_of_le h1 h.size) h2 h3).trans (h.keep b h1 h2 h3), h'.live ∘ h.live⟩
theorem R0.at (w : World) (d : Nat) : R0 Wg Ch w (w.at d) := ⟨rfl, rfl, rfl, Nat.le_refl _, fun _ _ _ _ => rfl, id⟩
theorem R0.alloc (w : World) (o : Obj) (hW : Wg < w.heap.size) : R0 Wg Ch w (w.alloc o) :=
  ⟨rfl, rfl, rfl, by show w.heap.size ≤ (w.heap.push o).size; simp, fun b hb _ _ => alloc_at hb, live_same (alloc_at hW)⟩
theorem R0.setWg (w : World) (a : Addr) (v : Value) (ha : a.block = Wg) (hl : WgLive wgl.tWg Wg (w.setCell a v)) : R0 Wg Ch w (w.setCell a v) := by
  have m := mine_setCell (· = Wg) w a v ha
  exact ⟨m.tape, m.os, m.output, by rw [m.size]; exact Nat.le_refl _, fun b _ hb _ => m.keep b hb, fun _ => hl⟩
theorem R0.setChan (w : World) {cap : Nat} {buf : Array Value} {cl : Bool} {s r : Nat} {tm : Bool} (hne : Ch ≠ Wg) : R0 Wg Ch w (w.setChan Ch cap buf cl s r tm) := by
  have hk : ∀ b, b ≠ Ch → (w.setChan Ch cap buf cl s r tm).heap[b]? = w.heap[b]? := fun b hb => by
    show (w.heap.setIfInBounds Ch _)[b]? = _
    rw [Array.getElem?_setIfInBounds_ne (fun e => hb e.symm)]
  exact ⟨rfl, rfl, rfl, by show _ ≤ (w.heap.setIfInBounds Ch _).size; simp, fun b _ _ hb => hk b hb, live_same (hk Wg (Ne.symm hne))⟩

theorem RK.of_R0 (r : R0 Wg Ch w w') (hL : L ≤ w.heap.size) (ho : ∀ b, own b → b < w.heap.size ∧ b ≠ Wg ∧ b ≠ Ch) : RK Wg Ch L own w w' :=
  ⟨fun b hb h1 h2 => r.keep b (Nat.lt_of_lt_of_le hb hL) h1 h2, fun b hb => let ⟨h1, h2, h3⟩ := ho b hb; r.keep b h1 h2 h3, r.live, r.size⟩
theorem RK.of_D0 (d : D0 Wg rds own0 w w' es) (hW : ¬ own0 Wg) (ho : ∀ b, own0 b → L ≤ b ∧ ¬ own b) : RK Wg Ch L own w w' :=
  ⟨fun b hb _ _ => d.keep b fun h => by have := (ho b h).1; omega, fun b hb => d.keep b fun h => (ho b h).2 hb, live_same (d.keep Wg hW), by rw [d.size]; exact Nat.le_refl _⟩
theorem RW.of_keep (hl : WgLive wgl.tWg Wg w → WgLive wgl.tWg Wg w') (hc : w'.heap[cb]? = w.heap[cb]?) {n i : Nat} : RW wgl.tWg Wg cb n 0 i w w' :=
  ⟨fun b hb _ _ => by omega, hl, fun ⟨cs, h1, h2⟩ => ⟨cs, hc.trans h1, h2⟩, cell_eq hc i⟩
end

/-! ### the workers -/
/-- What goes with a worker: the heap's size at its go statement, its own block, whether it has sent. -/
structure WX where
  L : Nat
  own : Option Nat
  sent : Bool

def WX.ownP (x : WX) (b : Nat) : Prop := x.own = some b

def eOf : CTag → Nat
  | .sp _ s => if s = 7 then 0 else if s = 6 then 1 else 2
  | _ => 0
/-- How many workers have a variable of their own. -/
def nb (j : Nat) (X : Nat → WX) : Nat := sumTo j fun i => if (X i).own.isSome then 1 else 0

def Ph.askObj (p : Ph) (i : Nat) : Obj := .cells #[.int .i64 (p.ask i).1, .int .i64 (p.ask i).2] 43
def Ph.fuelB (p : Ph) (i : Nat) : Nat := 12 + 40 * p.ord i + 80

/-- A worker that has its own variable. -/
def WBox (p : Ph) (i L β m : Nat) (g : Goroutine) (w : World) : Prop :=
  ∃ pb ab, Goes Try.prog false (RK p.Wg p.Ch L (· = β)) (DK p.Wg p.Ch p.N0 L (· = β)) (StSend p.Ch (p.ans i) fun g _ => g = wkSent p.Wg p.Ch p.cb pb ab i (p.ask i).1 (p.ask i).2 (p.ord i)) m g w
/-- A worker that has none yet. -/
def WBirth (p : Ph) (i L m : Nat) (g : Goroutine) (w : World) : Prop :=
  Goes Try.prog false (RK p.Wg p.Ch L fun _ => False) (DK p.Wg p.Ch p.N0 L fun _ => False) (StBox (p.askObj i) fun β g w => WBox p i L β (p.fuelB i) g w) m g w

/-- A worker that has sent, ahead of its release. -/
def WDone (p : Ph) (C n k : Nat) (v : Value) (m : Nat) (g : Goroutine) (w : World) : Prop :=
  Goes Try.prog false (RW wgl.tWg p.Wg C n 0 (k - 1)) DC0 (AtR0 Try.prog wgl.tWg p.Wg C n 0 k v) m g w

inductive WS (p : Ph) (i : Nat) : WX → Nat → Nat → Nat → Goroutine → World → Prop
  | birth {L m : Nat} {g : Goroutine} {w : World} : WBirth p i L m g w → WS p i ⟨L, none, false⟩ 7 (m + p.fuelB i + 50) 0 g w
  | boxed {L β m : Nat} {g : Goroutine} {w : World} : WBox p i L β m g w → WS p i ⟨L, some β, false⟩ 7 (m + 42) 0 g w
  | sent {L m : Nat} {β : Option Nat} {g : Goroutine} {w : World} : WDone p p.cb 1 1 (.chan (some p.Ch)) m g w → m ≤ 40 → WS p i ⟨L, β, true⟩ 7 m 0 g w
  | kit {L s m d C n k : Nat} {v : Value} {β : Option Nat} {g : Goroutine} {w : World} : C < p.N0 + 3 → C ≠ p.Wg → C ≠ p.Ch → s ≤ 6 → WSit Try.prog wgl.tWg p.Wg C n (fun _ _ => False) (fun _ _ => False) 0 k v s m d g w → WS p i ⟨L, β, true⟩ s m d g w

/-- What a worker bears of the others. -/
structure WR (p : Ph) (x : WX) (w w' : World) : Prop where
  rk : RK p.Wg p.Ch x.L x.ownP w w'
  rw : ∀ C, C < p.N0 + 3 → C ≠ p.Wg → C ≠ p.Ch → ∀ n k, RW wgl.tWg p.Wg C n 0 k w w'

section
variable {p : Ph} {i : Nat} {x : WX} {s m d : Nat} {g : Goroutine} {w w' : World}

theorem RK.tr {Wg Ch L : Nat} {own : Nat → Prop} : ∀ a b c, RK Wg Ch L own a b → RK Wg Ch L own b c → RK Wg Ch L own a c := fun _ _ _ h k => h.trans k

theorem WBox.rely {L β m : Nat} (h : WBox p i L β m g w) (r : RK p.Wg p.Ch L (· = β) w w') : WBox p i L β m g w' :=
  let ⟨pb, ab, h⟩ := h; ⟨pb, ab, Goes.rely RK.tr h r⟩

theorem WDone.rely {C n k m : Nat} {v : Value} (h : WDone p C n k v m g w) (r : RW wgl.tWg p.Wg C n 0 (k - 1) w w') : WDone p C n k v m g w' := Goes.rely (fun _ _ _ h1 h2 => h1.trans h2) h r
theorem WDone.running {C n k m : Nat} {v : Value} (h : WDone p C n k v m g w) : g.status = .running := Goes.running (fun _ _ x => x.1) w (RW.refl w) h

theorem WS.rely (ok : p.Ok) (h : WS p i x s m d g w) (r : WR p x w w') : WS p i x s m d g w' := by
  cases h with
  | birth h =>
    refine .birth (Goes.rely RK.tr h ?_)
    have := r.rk
    exact ⟨this.low, fun b hb => hb.elim, this.live, this.size⟩
  | boxed h =>
    refine .boxed (h.rely ?_)
    have := r.rk
    exact ⟨this.low, fun b hb => this.own b (by show some _ = some _; rw [hb]), this.live, this.size⟩
  | sent h hm => exact .sent (h.rely (r.rw _ (ok.cb.2) ok.pl.cb.1 ok.pl.cb.2 _ _)) hm
  | kit h1 h2 h3 h4 h => exact .kit h1 h2 h3 h4 (h.rely (r.rw _ h1 h2 h3 _ _))

theorem WBirth.running {L m : Nat} (h : WBirth p i L m g w) : g.status = .running := Goes.running (fun _ _ x => x.1) w (RK.refl w) h
theorem WBox.running {L β m : Nat} (h : WBox p i L β m g w) : g.status = .running := let ⟨_, _, h⟩ := h; Goes.running (fun _ _ x => x.1) w (RK.refl w) h

theorem WS.status (h : WS p i x s m d g w) : g.status = .running ∨ g.status = .finished := by
  cases h with
  | birth h => exact .inl h.running
  | boxed h => exact .inl h.running
  | sent h _ => exact .inl h.running
  | kit _ _ _ _ h => exact h.status
theorem WS.running_of (h : WS p i x s m d g w) (hs : s ≠ 1) : g.status = .running := by
  cases h with
  | birth h => exact h.running
  | boxed h => exact h.running
  | sent h _ => exact h.running
  | kit _ _ _ _ h => exact h.running_of hs
theorem WS.woken (h : WS p i x s m d g w) (a a' : Goroutine) (w' : World) : woken Try.prog a a' w' g = g := by
  unfold Go.Conc.woken
  split
  · exact again_running _ h.status
  · rfl
theorem WS.quits (h : WS p i x s m d g w) (hs : s = 1) : QuitsD Try.prog m d g := by
  cases h with
  | birth h => cases hs
  | boxed h => cases hs
  | sent h _ => cases hs
  | kit _ _ _ _ h => exact h.quits hs
theorem WS.le7 (h : WS p i x s m d g w) : s ≤ 7 := by
  cases h with
  | birth h => exact Nat.le_refl _
  | boxed h => exact Nat.le_refl _
  | sent h _ => exact Nat.le_refl _
  | kit _ _ _ h _ => omega
theorem WS.sent_of (h : WS p i x s m d g w) (hs : s ≤ 6) : x.sent = true := by
  cases h with
  | birth h => omega
  | boxed h => omega
  | sent _ _ => rfl
  | kit _ _ _ _ _ => rfl
end

/-! ### the starter -/
def Ph.rds (p : Ph) (b : Nat) : Prop := b = p.A
/-- What the starter knows. -/
def Ph.F (p : Ph) : World → Prop := StF p.Wg p.Ch p.cb p.A p.off p.n p.ask
/-- The starter's steps. -/
def GS (p : Ph) (own : Nat → Prop) (Stop : Goroutine → World → Prop) (m : Nat) (g : Goroutine) (w : World) : Prop := Goes Try.prog true (R0 p.Wg p.Ch) (D0 p.Wg p.rds own) Stop m g w
/-- The next round. -/
def Nx (p : Ph) (r : Nat) (g : Goroutine) (w : World) : Prop := GS p (fun _ => False) (Spn p.Wg p.Ch p.cb p.A p.off p.n p.cap p.ask p.rds p.cs r) 50 g w
def StGoP (p : Ph) (r pb ab : Nat) : Goroutine → World → Prop := StGo p.Wg p.Ch p.cb (p.n - (r + 1)) (p.ask (p.n - (r + 1))).1 (p.ask (p.n - (r + 1))).2 pb ab (Nx p r)
def StNew2 (p : Ph) (r pb : Nat) : Goroutine → World → Prop :=
  StNew (.cells #[.int .i64 0, .int .i64 0] 43) fun q g w => GS p (fun b => b = pb ∨ b = q) (StAdd Try.prog (R0 p.Wg p.Ch) (D0 p.Wg p.rds fun b => b = pb ∨ b = q) wgl.tWg p.Wg (StGoP p r pb q)) 60 g w
def StNew1 (p : Ph) (r : Nat) : Goroutine → World → Prop :=
  StNew (.cells #[.int .i64 0] 3) fun pb g w => GS p (· = pb) (StNew2 p r pb) 1 g w
theorem spn_succ (p : Ph) (r : Nat) : Spn p.Wg p.Ch p.cb p.A p.off p.n p.cap p.ask p.rds p.cs (r + 1) = StNew1 p r := rfl

/-- The waiting place. -/
def An (p : Ph) (T : Array Value) : Goroutine → World → Prop := Anc wgl p.F p.Wg (osWaitC T) p.cs
/-- Behind Wait. -/
def Be (p : Ph) (T : Array Value) (g : Goroutine) (w : World) : Prop := g = osBehind T p.cs ∧ p.F w

inductive SS (p : Ph) : CTag → Nat → Nat → Nat → (Nat → Prop) → Goroutine → World → Prop
  | new1 {r m : Nat} {g : Goroutine} {w : World} : r < p.n → GS p (fun _ => False) (StNew1 p r) m g w → SS p (.sp r 7) (p.n - (r + 1)) m 0 (fun _ => False) g w
  | new2 {r pb m : Nat} {g : Goroutine} {w : World} : r < p.n → GS p (· = pb) (StNew2 p r pb) m g w → SS p (.sp r 6) (p.n - (r + 1)) m 0 (· = pb) g w
  | add {r pb ab m : Nat} {g : Goroutine} {w : World} : r < p.n → GS p (fun b => b = pb ∨ b = ab) (StAdd Try.prog (R0 p.Wg p.Ch) (D0 p.Wg p.rds fun b => b = pb ∨ b = ab) wgl.tWg p.Wg (StGoP p r pb ab)) m g w → SS p (.sp r 5) (p.n - (r + 1)) m 0 (fun b => b = pb ∨ b = ab) g w
  | a1 {r pb ab m : Nat} {g : Goroutine} {w : World} : r < p.n → GS p (fun b => b = pb ∨ b = ab) (StA1 Try.prog (R0 p.Wg p.Ch) (D0 p.Wg p.rds fun b => b = pb ∨ b = ab) wgl.tWg p.Wg (StGoP p r pb ab)) m g w → SS p (.sp r 4) (p.n - (r + 1)) m 1 (fun b => b = pb ∨ b = ab) g w
  | ke0 {r pb ab m : Nat} {g : Goroutine} {w : World} : r < p.n → GS p (fun b => b = pb ∨ b = ab) (StKe Try.prog (R0 p.Wg p.Ch) (D0 p.Wg p.rds fun b => b = pb ∨ b = ab) (StGoP p r pb ab)) m g w → SS p (.sp r 3) (p.n - (r + 1)) m 1 (fun b => b = pb ∨ b = ab) g w
  | go {r pb ab m : Nat} {g : Goroutine} {w : World} : r < p.n → GS p (fun b => b = pb ∨ b = ab) (StGoP p r pb ab) m g w → SS p (.sp r 2) (p.n - (r + 1)) m 0 (fun b => b = pb ∨ b = ab) g w
  | kd {m : Nat} {g : Goroutine} {w : World} : GS p (fun _ => False) (StWait p.Wg p.Ch p.cb p.A p.off p.n p.cap p.ask p.rds p.cs) m g w → SS p .kd p.n m 0 (fun _ => False) g w
  | anch {T : Array Value} {m : Nat} {g : Goroutine} {w : World} : osT p.Wg p.cb p.A p.off p.n p.cap p.n T → GS p (fun _ => False) (An p T) m g w → SS p .anch p.n m 1 (fun _ => False) g w
  | w1 {T : Array Value} {m : Nat} {g : Goroutine} {w : World} : osT p.Wg p.cb p.A p.off p.n p.cap p.n T → GS p (fun _ => False) (StW1 Try.prog (R0 p.Wg p.Ch) (D0 p.Wg p.rds fun _ => False) wgl.tWg p.Wg (Be p T) (An p T)) m g w → SS p .w1 p.n m 1 (fun _ => False) g w
  | w2 {T : Array Value} {vs m : Nat} {g : Goroutine} {w : World} : osT p.Wg p.cb p.A p.off p.n p.cap p.n T → GS p (fun _ => False) (StW2 Try.prog (R0 p.Wg p.Ch) (D0 p.Wg p.rds fun _ => False) wgl.tWg p.Wg (Be p T) (An p T) vs) m g w → SS p (.w2 vs) p.n m 1 (fun _ => False) g w
  | w3 {T : Array Value} {m : Nat} {g : Goroutine} {w : World} : osT p.Wg p.cb p.A p.off p.n p.cap p.n T → GS p (fun _ => False) (StW3 Try.prog (R0 p.Wg p.Ch) (D0 p.Wg p.rds fun _ => False) wgl.tWg p.Wg (Be p T)) m g w → SS p .w3 p.n (m + 1) 1 (fun _ => False) g w
  | blk {T : Array Value} {g : Goroutine} {w : World} : osT p.Wg p.cb p.A p.off p.n p.cap p.n T → (∀ w₁, R0 p.Wg p.Ch w w₁ → StW3 Try.prog (R0 p.Wg p.Ch) (D0 p.Wg p.rds fun _ => False) wgl.tWg p.Wg (Be p T) g w₁) → SS p .blk p.n 0 1 (fun _ => False) { g with status := .blocked } w
  | w4 {T : Array Value} {m : Nat} {g : Goroutine} {w : World} : osT p.Wg p.cb p.A p.off p.n p.cap p.n T → GS p (fun _ => False) (StW4 Try.prog (R0 p.Wg p.Ch) (D0 p.Wg p.rds fun _ => False) wgl.tWg p.Wg (Be p T)) m g w → SS p .w4 p.n m 1 (fun _ => False) g w
  | ke {T : Array Value} {m : Nat} {g : Goroutine} {w : World} : osT p.Wg p.cb p.A p.off p.n p.cap p.n T → GS p (fun _ => False) (StKw Try.prog (R0 p.Wg p.Ch) (D0 p.Wg p.rds fun _ => False) p.Wg (Be p T)) m g w → SS p .ke p.n m 1 (fun _ => False) g w
  | acq {T : Array Value} {m : Nat} {g : Goroutine} {w : World} : osT p.Wg p.cb p.A p.off p.n p.cap p.n T → GS p (fun _ => False) (StAcq Try.prog (R0 p.Wg p.Ch) (D0 p.Wg p.rds fun _ => False) p.Wg (Be p T)) m g w → SS p .acq p.n m 0 (fun _ => False) g w

section
variable {p : Ph} {tag : CTag} {j f d : Nat} {own : Nat → Prop} {a : Goroutine} {w w' : World}

theorem R0.tr {Wg Ch : Nat} : ∀ a b c, R0 Wg Ch a b → R0 Wg Ch b c → R0 Wg Ch a c := fun _ _ _ h k => h.trans k
theorem GS.rely {Stop : Goroutine → World → Prop} {m : Nat} (h : GS p own Stop m a w) (r : R0 p.Wg p.Ch w w') : GS p own Stop m a w' := Goes.rely R0.tr h r

theorem SS.rely (h : SS p tag j f d own a w) (r : R0 p.Wg p.Ch w w') : SS p tag j f d own a w' := by
  cases h with
  | new1 h1 h => exact .new1 h1 (h.rely r)
  | new2 h1 h => exact .new2 h1 (h.rely r)
  | add h1 h => exact .add h1 (h.rely r)
  | a1 h1 h => exact .a1 h1 (h.rely r)
  | ke0 h1 h => exact .ke0 h1 (h.rely r)
  | go h1 h => exact .go h1 (h.rely r)
  | kd h => exact .kd (h.rely r)
  | anch h1 h => exact .anch h1 (h.rely r)
  | w1 h1 h => exact .w1 h1 (h.rely r)
  | w2 h1 h => exact .w2 h1 (h.rely r)
  | w3 h1 h => exact .w3 h1 (h.rely r)
  | blk h1 h => exact .blk h1 fun w₂ h₂ => h w₂ (r.trans h₂)
  | w4 h1 h => exact .w4 h1 (h.rely r)
  | ke h1 h => exact .ke h1 (h.rely r)
  | acq h1 h => exact .acq h1 (h.rely r)

theorem GS.running {Stop : Goroutine → World → Prop} {m : Nat} (hs : ∀ g w, Stop g w → g.status = .running) (h : GS p own Stop m a w) : a.status = .running := Goes.running hs w (R0.refl w) h

theorem SS.status (h : SS p tag j f d own a w) : (a.status = .running ∧ tag ≠ .blk) ∨ (a.status = .blocked ∧ a.offers = none ∧ tag = .blk) := by
  cases h with
  | blk _ h => exact .inr ⟨rfl, (h w (R0.refl w)).2.1, rfl⟩
  | anch _ h => exact .inl ⟨h.running (fun g w ⟨_, hg, _⟩ => by rw [hg]; rfl), by simp⟩
  | new1 _ h => exact .inl ⟨h.running (fun _ _ x => x.1), by simp⟩
  | new2 _ h => exact .inl ⟨h.running (fun _ _ x => x.1), by simp⟩
  | add _ h => exact .inl ⟨h.running (fun _ _ x => x.1), by simp⟩
  | a1 _ h => exact .inl ⟨h.running (fun _ _ x => x.1), by simp⟩
  | ke0 _ h => exact .inl ⟨h.running (fun _ _ x => x.1), by simp⟩
  | go _ h => exact .inl ⟨h.running (fun _ _ x => x.1), by simp⟩
  | kd h => exact .inl ⟨h.running (fun _ _ ⟨_, _, x⟩ => x.1), by simp⟩
  | w1 _ h => exact .inl ⟨h.running (fun _ _ x => x.1), by simp⟩
  | w2 _ h => exact .inl ⟨h.running (fun _ _ x => x.1), by simp⟩
  | w3 _ h => exact .inl ⟨h.running (fun _ _ x => x.1), by simp⟩
  | w4 _ h => exact .inl ⟨h.running (fun _ _ x => x.1), by simp⟩
  | ke _ h => exact .inl ⟨h.running (fun _ _ x => x.1), by simp⟩
  | acq _ h => exact .inl ⟨h.running (fun _ _ x => x.1), by simp⟩

theorem SS.wokenBy (h : SS p tag j f d own a w) (r : R0 p.Wg p.Ch w w') (g g' : Goroutine) :
    ∃ tag' f', SS p tag' j f' d own (woken Try.prog g g' w' a) w' ∧ f' ≤ f + 1 ∧ (tag' = tag ∨ (tag = .blk ∧ tag' = .w3)) ∧ (mayWake Try.prog g = true → g'.status = .running → tag' ≠ .blk) := by
  have h' := h.rely r
  unfold Go.Conc.woken
  split
  · rcases h'.status with ⟨hs, hne⟩ | ⟨_, _, rfl⟩
    · exact ⟨tag, f, by rw [again_running _ (.inl hs)]; exact h', by omega, .inl rfl, fun _ _ => hne⟩
    · cases h' with
      | blk h1 hb =>
        have h3 := hb w' (R0.refl w')
        exact ⟨.w3, 0 + 1, by rw [again_blocked h3.1 h3.2.1]; exact .w3 h1 (Goes.stop hb), by omega, .inr ⟨rfl, rfl⟩, fun _ _ => by simp⟩
  · rename_i hc
    exact ⟨tag, f, h', by omega, .inl rfl, fun h1 h2 => absurd (by simp [h1, h2]) hc⟩

/-- Those that are started, and the one whose Add is made already, are n at most. -/
theorem SS.bound (h : SS p tag j f d own a w) : j + pend tag ≤ p.n ∧ j ≤ p.n := by
  cases h <;> simp only [pend] <;> (try simp) <;> omega
theorem SS.idleTag (h : SS p tag j f d own a w) : tag = .acq → d = 0 := by
  cases h <;> simp
end

end Go.Proofs.Ythoaldiadgeonaa.Cr

namespace Go.Proofs.Ythoaldiadgeonaa.Cr
open Go.Conc Go.ConcR Go.RowKit Go.Conc.Lib Go.ConcR.Gen
open Go.ConcN

/-! ### the trace -/
def NoOwn (_ : Nat) (_ : Loc) : Prop := False
/-- What a worker may read. -/
def RdX (p : Ph) (X : Nat → WX) (k : Nat) (l : Loc) : Prop :=
  ∃ i, k = p.kk i ∧ ∃ a : Addr, l = .cell a ∧ p.N0 ≤ a.block ∧ a.block ≠ p.Wg ∧ (a.block < (X i).L ∨ (X i).own = some a.block)

theorem apartX {p : Ph} (ok : p.Ok) (X : Nat → WX) : Apart p.Sh NoOwn (RdX p X) :=
  ⟨fun _ _ _ h => h.elim, fun _ _ _ h => h.elim, fun _ _ h => h.elim, fun k l ⟨i, _, a, hl, h0, h1, _⟩ hs => by
    subst hl
    rcases hs with hs | ⟨b, hb, hw⟩
    · obtain ⟨b, hb, hlt, _⟩ := ok.shun _ hs
      cases hb; omega
    · cases hb; exact h1 hw⟩

/-- The families may be told otherwise where nobody has touched what is new. -/
theorem ct_rd {p : Ph} {X X' : Nat → WX} {t : Trace} {J : Nat} (h : CT p.Sh NoOwn (RdX p X) t J) (hx : ∀ k l, k ≤ J → RdX p X k l → RdX p X' k l)
    (hn : ∀ k l, k ≤ J → RdX p X' k l → RdX p X k l ∨ ∀ i a, touchAt t i = some a → a.loc ≠ l) : CT p.Sh NoOwn (RdX p X') t J := by
  refine ⟨h.quiet, fun k _ _ l hl => hl.elim, fun k k1 kj l hl => ?_, fun l hs hl => h.free l hs fun k k1 kj => ⟨(hl k k1 kj).1, fun hr => (hl k k1 kj).2 (hx k l kj hr)⟩, h.mine, h.nr, h.gs⟩
  rcases hn k l kj hl with hr | hno
  · exact h.rd k k1 kj l hr
  · exact fun i a ha e => absurd e (hno i a ha)

/-- Goroutine 0's knowledge of the old ones' touches. -/
def KnOld (p : Ph) (t : Trace) : Prop := ∀ i op x, t[i]? = some op → op.g ≤ p.j0 → op.act.touch? = some x → Knows t 0 i ∨ (p.Sh x.loc ∧ x.kind = .atomic)
theorem KnOld.app {p : Ph} {t u : Trace} (h : KnOld p t) (hu : ∀ op ∈ u, op.g ≤ p.j0 → op.g = 0 ∨ op.act.touch? = none) : KnOld p (t ++ u) := by
  intro i op x hi hg hx
  rcases getElem?_append_cases hi with ⟨_, hi'⟩ | ⟨_, hiu⟩
  · exact (h i op x hi' hg hx).imp (·.app u) id
  · rcases hu op hiu hg with h0 | h0
    · have := knows_own hi
      rw [h0] at this
      exact .inl this
    · rw [h0] at hx; cases hx
/-- A worker's atomic touches are of shared places. -/
def KnW (p : Ph) (t : Trace) : Prop := ∀ (i : Nat) (op : MemOp) x, t[i]? = some op → p.j0 < op.g → op.act.touch? = some x → x.kind = .atomic → p.Sh x.loc
theorem KnW.app {p : Ph} {t u : Trace} (h : KnW p t) (hu : ∀ op ∈ u, p.j0 < op.g → ∀ x, op.act.touch? = some x → x.kind = .atomic → p.Sh x.loc) : KnW p (t ++ u) := by
  intro i op x hi hg hx
  rcases getElem?_append_cases hi with ⟨_, hi'⟩ | ⟨_, hiu⟩
  · exact h i op x hi' hg hx
  · exact hu op hiu hg x hx
/-- The old ones' touches are handed over. -/
def OverOld (p : Ph) (t : Trace) : Prop := ∀ i g, t.g? i = some g → g ≠ 0 → g ≤ p.j0 → t.counts i → ∃ j, t.g? j = some 0 ∧ HappensBefore t i j
theorem OverOld.app {p : Ph} {t u : Trace} (h : OverOld p t) (hu : ∀ op ∈ u, op.g ≤ p.j0 → op.g = 0 ∨ op.act.touch? = none) : OverOld p (t ++ u) := by
  intro i g hg hne hle hc
  obtain ⟨x, hx, _⟩ := hc
  obtain ⟨op, hop, hox⟩ := touch_of hx
  have hgo : op.g = g := by simpa [Trace.g?, hop] using hg
  rcases getElem?_append_cases hop with ⟨hi, hop'⟩ | ⟨_, hopu⟩
  · obtain ⟨j, hj, hb⟩ := h i g (by simpa [Trace.g?, getElem?_append_old hi] using hg) hne hle ((counts_old hi).1 ⟨x, hx, ‹_›⟩)
    have hjl : j < t.size := by
      unfold Trace.g? at hj
      obtain ⟨z, hz, _⟩ := Option.map_eq_some_iff.1 hj
      exact lt_size_of_getElem? hz
    exact ⟨j, by simpa [Trace.g?, getElem?_append_old hjl] using hj, hb_app u hb⟩
  · rcases hu op hopu (by omega) with h0 | h0
    · omega
    · rw [h0] at hox; cases hox

/-- What a worker may do, whoever it is. -/
def OkK (p : Ph) (X : Nat → WX) (k : Nat) (op : MemOp) : Prop :=
  op.g = k ∧ ∀ x, op.act.touch? = some x → x.loc.isMemory = true ∧ ((p.Sh x.loc ∧ x.kind = .atomic) ∨ (RdX p X k x.loc ∧ x.write = false ∧ x.kind = .plain))
theorem OkK.okW {p : Ph} {X : Nat → WX} {k : Nat} {op : MemOp} (h : OkK p X k op) : OkW p.Sh NoOwn (RdX p X) k op :=
  ⟨h.1, fun x hx => (h.2 x hx).2.elim (fun ⟨h1, h2⟩ => .inl ⟨h1, by rw [h2]; decide, by rw [h2]; decide⟩) fun ⟨h1, h2, _⟩ => .inr (.inr ⟨h1, h2⟩)⟩

/-! ### all that holds -/
/-- The channel: not closed; what those have sent who have. -/
def ChanAt (p : Ph) (j : Nat) (X : Nat → WX) (w : World) : Prop :=
  ∃ buf s r tm, w.heap[p.Ch]? = some (.chan p.n buf false s r tm) ∧ buf.toList.Perm (((List.range j).filter fun i => (X i).sent).map p.ans)

structure Com (p : Ph) (j : Nat) (gs : Array Goroutine) (w : World) (t : Trace) (D : Nat → WD) (X : Nat → WX) (q : Nat → Nat) (d0 : Nat) (own0 : Nat → Prop) : Prop where
  size : gs.size = p.j0 + 1 + j
  jn : j ≤ p.n
  old : ∀ i g, 0 < i → i ≤ p.j0 → gs[i]? = some g → QuitsD Try.prog (q i) (Deaf t i) g
  wk : ∀ i, i < j → ∃ g, gs[p.kk i]? = some g ∧ WS p i (X i) (D i).stage (D i).fuel (D i).deaf g w
  ct : CT p.Sh NoOwn (RdX p X) t (p.j0 + j)
  mem : MemT t
  norel : NoRelease (stA p.Wg) t
  deaf0 : Deaf t 0 = d0
  deafW : ∀ i, i < j → Deaf t (p.kk i) = (D i).deaf
  rel : ∀ i, i < j → (D i).stage ≤ 6 → ∃ r, RelBy (stA p.Wg) t (p.kk i) r
  knO : KnOld p t
  knW : KnW p t
  over : OverOld p t
  seen : ∀ op ∈ t, op.act.low w.heap.size
  base : p.N0 + 3 ≤ w.heap.size
  xs : ∀ i, i < j → p.N0 + 3 ≤ (X i).L ∧ (X i).L ≤ w.heap.size ∧ (∀ β, (X i).own = some β → (X i).L ≤ β ∧ β < w.heap.size) ∧ ((X i).sent = true → (X i).own.isSome = true)
  own0 : ∀ b, own0 b → b < w.heap.size ∧ p.N0 + 3 ≤ b ∧ ∀ i, i < j → (X i).L ≤ b ∧ (X i).own ≠ some b
  chan : ChanAt p j X w
  F : p.F w
  lowW : Low0 p w
  plain : ∀ b, p.N0 ≤ b → b < w.heap.size → PlainAt w b

section
variable {p : Ph} {j : Nat} {gs gs' : Array Goroutine} {w w' : World} {t u : Trace} {D : Nat → WD} {X : Nat → WX} {q : Nat → Nat} {d0 : Nat} {own0 own0' : Nat → Prop}

theorem ownP_none {L : Nat} {b : Bool} {x : Nat} (h : (WX.mk L none b).ownP x) : False := by cases h

/-- A worker that stands by bears a step of which the starter, too, would bear the effect. -/
theorem wr_of_R0 (ok : p.Ok) (h : Com p j gs w t D X q d0 own0) {i : Nat} (hi : i < j) (r : R0 p.Wg p.Ch w w') : WR p (X i) w w' := by
  obtain ⟨x1, x2, x3, _⟩ := h.xs i hi
  have hb := h.base
  refine ⟨RK.of_R0 r x2 fun b hb => ?_, fun C h1 h2 h3 n k => RW.of_keep r.live (r.keep C (by omega) h2 h3)⟩
  obtain ⟨y1, y2⟩ := x3 b hb
  have := ok.wg; have := ok.ch
  exact ⟨y2, by omega, by omega⟩

theorem wr_of_D0 (ok : p.Ok) (h : Com p j gs w t D X q d0 own0) {i : Nat} (hi : i < j) {es : Array Event} (r : D0 p.Wg p.rds own0 w w' es) : WR p (X i) w w' := by
  have hWg : ¬ own0 p.Wg := fun e => by have := (h.own0 _ e).2.1; have := ok.wg; omega
  exact ⟨RK.of_D0 r hWg fun b hb => (h.own0 b hb).2.2 i hi, fun C h1 _ _ n k => RW.of_keep (live_same (r.keep p.Wg hWg)) (r.keep C fun e => by have := (h.own0 _ e).2.1; omega)⟩

/-- A draw. -/
theorem Com.at (ok : p.Ok) (h : Com p j gs w t D X q d0 own0) (d : Nat) : Com p j gs (w.at d) t D X q d0 own0 :=
  { h with wk := fun i hi => let ⟨g, hg, hs⟩ := h.wk i hi; ⟨g, hg, hs.rely ok (wr_of_R0 ok h hi (R0.at w d))⟩, F := h.F.rely ok.pl (R0.at w d), lowW := ⟨h.lowW.tape, h.lowW.os, h.lowW.output, h.lowW.low⟩ }

theorem low_mono_all {t : Trace} {B B' : Nat} (h : ∀ op ∈ t, op.act.low B) (hB : B ≤ B') : ∀ op ∈ t, op.act.low B' := fun op hop => MemAct.low_mono hB (h op hop)

theorem Low0.of_R0 (ok : p.Ok) (h : Low0 p w) (hN : p.N0 ≤ w.heap.size) (r : R0 p.Wg p.Ch w w') : Low0 p w' :=
  ⟨r.tape.trans h.tape, r.os.trans h.os, r.output.trans h.output, fun b hb => (r.keep b (by omega) (by have := ok.wg; omega) (by have := ok.ch; omega)).trans (h.low b hb)⟩

/-- A STEP OF A WORKER's. -/
theorem Com.work (ok : p.Ok) (h : Com p j gs w t D X q d0 own0) {i : Nat} (hi : i < j) {g' : Goroutine} {s' m' dd' : Nat} {x' : WX}
    (hsz : gs'.size = gs.size) (hself : gs'[p.kk i]? = some g') (hoth : ∀ k, 0 < k → k ≠ p.kk i → ∀ g, gs[k]? = some g → g.status = .running ∨ g.status = .finished → gs'[k]? = some g)
    (r : R0 p.Wg p.Ch w w') (hu : ∀ op ∈ u, OkK p (upd X i x') (p.kk i) op) (hnr : ∀ op ∈ u, op.act ≠ .mark (.release (stA p.Wg))) (hlow : ∀ op ∈ u, op.act.low w'.heap.size)
    (hdeaf : Deaf (t ++ u) (p.kk i) = dd') (hrel : s' ≤ 6 → ∃ r, RelBy (stA p.Wg) (t ++ u) (p.kk i) r)
    (hs' : WS p i x' s' m' dd' g' w') (hL : x'.L = (X i).L) (hown : x'.own = (X i).own ∨ ((X i).own = none ∧ x'.own = some w.heap.size ∧ w.heap.size < w'.heap.size))
    (hch : ChanAt p j (upd X i x') w') (hso : x'.sent = true → x'.own.isSome = true) (hpl : ∀ b, b < w'.heap.size → (b < w.heap.size → PlainAt w b) → PlainAt w' b) :
    Com p j gs' w' (t ++ u) (upd D i ⟨s', m', dd'⟩) (upd X i x') q d0 own0 := by
  have hug : ∀ op ∈ u, op.g = p.kk i := fun op hop => (hu op hop).1
  have hk0 : p.kk i ≠ 0 := by unfold Ph.kk; omega
  have hkj : p.j0 < p.kk i := by unfold Ph.kk; omega
  have hkJ : p.kk i ≤ p.j0 + j := by unfold Ph.kk; omega
  have hct : CT p.Sh NoOwn (RdX p (upd X i x')) t (p.j0 + j) := by
    refine ct_rd h.ct ?_ ?_
    · rintro k l _ ⟨i', rfl, a, rfl, h0, h1, h2⟩
      refine ⟨i', rfl, a, rfl, h0, h1, ?_⟩
      by_cases e : i' = i
      · subst e
        rw [upd_same, hL]
        rcases h2 with h2 | h2
        · exact .inl h2
        · rcases hown with ho | ⟨ho, _⟩
          · exact .inr (ho.trans h2)
          · rw [ho] at h2; cases h2
      · rw [upd_ne X _ e]; exact h2
    · rintro k l _ ⟨i', rfl, a, rfl, h0, h1, h2⟩
      by_cases e : i' = i
      · subst e
        rw [upd_same, hL] at h2
        rcases h2 with h2 | h2
        · exact .inl ⟨i', rfl, a, rfl, h0, h1, .inl h2⟩
        · rcases hown with ho | ⟨_, ho, _⟩
          · exact .inl ⟨i', rfl, a, rfl, h0, h1, .inr (ho.symm.trans h2)⟩
          · refine .inr fun m b hb e => ?_
            obtain ⟨op, hop, hox⟩ := touch_of hb
            have := h.seen op (Array.mem_of_getElem? hop)
            rw [ho] at h2
            have hab : w.heap.size = a.block := Option.some.inj h2
            have hl : b.loc.low w.heap.size := by
              cases hact : op.act with
              | access e => rw [hact] at this hox; simp only [MemAct.touch?, Option.some.injEq] at hox; subst hox; exact this
              | mark m => rw [hact] at this hox; cases m <;> simp only [MemAct.touch?, Option.some.injEq, reduceCtorEq] at hox <;> subst hox <;> exact this
              | _ => rw [hact] at hox; cases hox
            rw [e] at hl
            exact absurd hl (by show ¬ a.block < _; omega)
      · rw [upd_ne X _ e] at h2
        exact .inl ⟨i', rfl, a, rfl, h0, h1, h2⟩
  have hkk : ∀ i', i' ≠ i → p.kk i' ≠ p.kk i := fun i' e => by unfold Ph.kk; omega
  refine ⟨hsz.trans h.size, h.jn, fun k g hk hkj' hg => ?_, fun i' hi' => ?_, hct.appW (apartX ok _) (by omega) hkJ fun op hop => (hu op hop).okW, h.mem.app (fun op hop x hx => ((hu op hop).2 x hx).1),
    h.norel.app hnr, by rw [Deaf_other t hk0 u hug]; exact h.deaf0, fun i' hi' => ?_, fun i' hi' hst => ?_, h.knO.app (fun op hop hle => by have := hug op hop; omega),
    h.knW.app (fun op hop _ x hx hk => ((hu op hop).2 x hx).2.elim (·.1) (fun ⟨_, _, hp⟩ => by rw [hp] at hk; cases hk)), h.over.app (fun op hop hle => by have := hug op hop; omega),
    fun op hop => (Array.mem_append.1 hop).elim (fun hop => MemAct.low_mono r.size (h.seen op hop)) (hlow op), Nat.le_trans h.base r.size, fun i' hi' => ?_, fun b hb => ?_, hch, h.F.rely ok.pl r, h.lowW.of_R0 ok (by have := h.base; omega) r, fun b hb hlt => hpl b hlt (h.plain b hb)⟩
  · have hlt : k < gs.size := by have := h.size; omega
    have hq := h.old k gs[k] hk hkj' (Array.getElem?_eq_getElem hlt)
    have := hoth k hk (by omega) gs[k] (Array.getElem?_eq_getElem hlt) hq.status
    rw [hg] at this
    cases this
    rw [Deaf_other t (by omega) u hug]
    exact hq
  · by_cases e : i' = i
    · subst e; exact ⟨g', hself, by rw [upd_same, upd_same]; exact hs'⟩
    · obtain ⟨g, hg, hs⟩ := h.wk i' hi'
      exact ⟨g, hoth _ (by unfold Ph.kk; omega) (hkk i' e) g hg hs.status, by rw [upd_ne D _ e, upd_ne X _ e]; exact hs.rely ok (wr_of_R0 ok h hi' r)⟩
  · by_cases e : i' = i
    · subst e; rw [upd_same]; exact hdeaf
    · rw [upd_ne D _ e, Deaf_other t (fun x => hkk i' e x.symm) u hug]; exact h.deafW i' hi'
  · by_cases e : i' = i
    · subst e; rw [upd_same] at hst; exact hrel hst
    · rw [upd_ne D _ e] at hst
      obtain ⟨r', hr⟩ := h.rel i' hi' hst
      exact ⟨r', hr.appOther hug (fun x => hkk i' e x.symm)⟩
  · obtain ⟨x1, x2, x3, x4⟩ := h.xs i' hi'
    by_cases e : i' = i
    · subst e
      rw [upd_same, hL]
      refine ⟨x1, Nat.le_trans x2 r.size, fun β hβ => ?_, hso⟩
      rcases hown with ho | ⟨_, ho, hlt⟩
      · obtain ⟨y1, y2⟩ := x3 β (ho.symm.trans hβ)
        exact ⟨y1, Nat.lt_of_lt_of_le y2 r.size⟩
      · rw [ho] at hβ; cases hβ; exact ⟨x2, hlt⟩
    · rw [upd_ne X _ e]
      exact ⟨x1, Nat.le_trans x2 r.size, fun β hβ => ⟨(x3 β hβ).1, Nat.lt_of_lt_of_le (x3 β hβ).2 r.size⟩, x4⟩
  · obtain ⟨y1, y2, y3⟩ := h.own0 b hb
    refine ⟨Nat.lt_of_lt_of_le y1 r.size, y2, fun i' hi' => ?_⟩
    obtain ⟨z1, z2⟩ := y3 i' hi'
    by_cases e : i' = i
    · subst e
      rw [upd_same, hL]
      refine ⟨z1, fun hx => ?_⟩
      rcases hown with ho | ⟨_, ho, _⟩
      · exact z2 (ho.symm.trans hx)
      · rw [ho] at hx; cases hx; omega
    · rw [upd_ne X _ e]; exact ⟨z1, z2⟩

/-- A STEP OF THE STARTER's (neither a go statement). -/
theorem Com.start (ok : p.Ok) (h : Com p j gs w t D X q d0 own0) {d0' : Nat}
    (hsz : gs'.size = gs.size) (hoth : ∀ k, 0 < k → ∀ g, gs[k]? = some g → g.status = .running ∨ g.status = .finished → gs'[k]? = some g)
    (hw : ∀ i, i < j → WR p (X i) w w') (hs : w.heap.size ≤ w'.heap.size) (hu : ∀ op ∈ u, Ok0 p.Sh NoOwn (RdX p X) (p.j0 + j) op) (hmem : MemT u) (hnr : ∀ op ∈ u, op.act ≠ .mark (.release (stA p.Wg))) (hlow : ∀ op ∈ u, op.act.low w'.heap.size)
    (hdeaf : Deaf (t ++ u) 0 = d0') (hown : ∀ b, own0' b → b < w'.heap.size ∧ p.N0 + 3 ≤ b ∧ ∀ i, i < j → (X i).L ≤ b ∧ (X i).own ≠ some b) (hch : ChanAt p j X w') (hF : p.F w') (hLW : Low0 p w') (hpl : ∀ b, p.N0 ≤ b → b < w'.heap.size → PlainAt w' b) :
    Com p j gs' w' (t ++ u) D X q d0' own0' := by
  have hug : ∀ op ∈ u, op.g = 0 := fun op hop => (hu op hop).1
  have hkk : ∀ i', (0 : Nat) ≠ p.kk i' := fun i' => by unfold Ph.kk; omega
  refine ⟨hsz.trans h.size, h.jn, fun k g hk hkj' hg => ?_, fun i' hi' => ?_, h.ct.app0 (apartX ok _) hu, h.mem.app hmem, h.norel.app hnr, hdeaf, fun i' hi' => by rw [Deaf_other t (hkk i') u hug]; exact h.deafW i' hi',
    fun i' hi' hst => let ⟨r', hr⟩ := h.rel i' hi' hst; ⟨r', hr.appOther hug (hkk i')⟩, h.knO.app fun op hop _ => .inl (hug op hop), h.knW.app (fun op hop hlt => by have := hug op hop; omega), h.over.app fun op hop _ => .inl (hug op hop),
    fun op hop => (Array.mem_append.1 hop).elim (fun hop => MemAct.low_mono hs (h.seen op hop)) (hlow op), Nat.le_trans h.base hs, fun i' hi' => ?_, hown, hch, hF, hLW, hpl⟩
  · have hlt : k < gs.size := by have := h.size; omega
    have hq := h.old k gs[k] hk hkj' (Array.getElem?_eq_getElem hlt)
    have := hoth k hk gs[k] (Array.getElem?_eq_getElem hlt) hq.status
    rw [hg] at this
    cases this
    rw [Deaf_other t (by omega) u hug]
    exact hq
  · obtain ⟨g, hg, hs⟩ := h.wk i' hi'
    exact ⟨g, hoth _ (by unfold Ph.kk; omega) g hg hs.status, hs.rely ok (hw i' hi')⟩
  · obtain ⟨x1, x2, x3, x4⟩ := h.xs i' hi'
    exact ⟨x1, Nat.le_trans x2 hs, fun β hβ => ⟨(x3 β hβ).1, Nat.lt_of_lt_of_le (x3 β hβ).2 hs⟩, x4⟩

/-- A STEP OF AN OLD LEAVER's. -/
theorem Com.leave (ok : p.Ok) (h : Com p j gs w t D X q d0 own0) {k q' : Nat} (hk0 : 0 < k) (hkj : k ≤ p.j0) {g' : Goroutine}
    (hsz : gs'.size = gs.size) (hself : gs'[k]? = some g') (hoth : ∀ k', 0 < k' → k' ≠ k → ∀ g, gs[k']? = some g → g.status = .running ∨ g.status = .finished → gs'[k']? = some g)
    (hug : ∀ op ∈ u, op.g = k) (hnt : ∀ op ∈ u, op.act.touch? = none) (hnr : ∀ op ∈ u, op.act ≠ .mark (.release (stA p.Wg))) (hlow : ∀ op ∈ u, op.act.low w.heap.size)
    (hq : QuitsD Try.prog q' (Deaf (t ++ u) k) g') : Com p j gs' w (t ++ u) D X (upd q k q') d0 own0 := by
  have hkk : ∀ i', k ≠ p.kk i' := fun i' => by unfold Ph.kk; omega
  refine ⟨hsz.trans h.size, h.jn, fun k' g hk hkj' hg => ?_, fun i' hi' => ?_, h.ct.appW (apartX ok _) hk0 (by omega) (fun op hop => ⟨hug op hop, fun x hx => by rw [hnt op hop] at hx; cases hx⟩), h.mem.app (fun op hop x hx => by rw [hnt op hop] at hx; cases hx), h.norel.app hnr,
    by rw [Deaf_other t (by omega) u hug]; exact h.deaf0, fun i' hi' => by rw [Deaf_other t (hkk i') u hug]; exact h.deafW i' hi',
    fun i' hi' hst => let ⟨r', hr⟩ := h.rel i' hi' hst; ⟨r', hr.appOther hug (hkk i')⟩, h.knO.app fun op hop _ => .inr (hnt op hop), h.knW.app (fun op hop _ x hx => by rw [hnt op hop] at hx; cases hx), h.over.app fun op hop _ => .inr (hnt op hop),
    fun op hop => (Array.mem_append.1 hop).elim (h.seen op) (hlow op), h.base, h.xs, h.own0, h.chan, h.F, h.lowW, h.plain⟩
  · by_cases e : k' = k
    · subst e
      rw [hself] at hg
      cases hg
      rw [upd_same]
      exact hq
    · have hlt : k' < gs.size := by have := h.size; omega
      have hq := h.old k' gs[k'] hk hkj' (Array.getElem?_eq_getElem hlt)
      have := hoth k' hk e gs[k'] (Array.getElem?_eq_getElem hlt) hq.status
      rw [hg] at this
      cases this
      rw [upd_ne q _ e, Deaf_other t (fun x => e x.symm) u hug]
      exact hq
  · obtain ⟨g, hg, hs⟩ := h.wk i' hi'
    exact ⟨g, hoth _ (by unfold Ph.kk; omega) (fun x => hkk i' x.symm) g hg hs.status, hs⟩

/-- THE go STATEMENT. -/
theorem Com.spawn (ok : p.Ok) (h : Com p j gs w t D X q 0 own0) (hjn : j < p.n) {a' child : Goroutine} {x y : MemOp} {m : Nat} (hx : x.g = 0 ∧ x.act = .go (p.kk j)) (hy : y.g = p.kk j ∧ y.act = .start)
    (hc : WBirth p j w.heap.size m child w) :
    Com p (j + 1) ((gs.setIfInBounds 0 a').push child) w (t ++ #[x, y]) (upd D j ⟨7, m + p.fuelB j + 50, 0⟩) (upd X j ⟨w.heap.size, none, false⟩) q 0 (fun _ => False) := by
  have hm : ∀ op ∈ #[x, y], op = x ∨ op = y := by intro op hop; simpa using hop
  have hnt : ∀ op ∈ #[x, y], op.act.touch? = none := by
    intro op hop
    rcases hm op hop with rfl | rfl
    · rw [hx.2]; rfl
    · rw [hy.2]; rfl
  have hst : ∀ op ∈ #[x, y], op.act ≠ .mark .disable ∧ op.act ≠ .mark .enable := by
    intro op hop
    rcases hm op hop with rfl | rfl
    · rw [hx.2]; exact ⟨by simp, by simp⟩
    · rw [hy.2]; exact ⟨by simp, by simp⟩
  have hgj : p.kk j = p.j0 + j + 1 := by unfold Ph.kk; omega
  have hsz := h.size
  have old : ∀ k, 0 < k → k < gs.size → ((gs.setIfInBounds 0 a').push child)[k]? = gs[k]? := fun k hk hlt => by
    rw [Array.getElem?_push_lt (by simp; omega), ← Array.getElem?_eq_getElem, Array.getElem?_setIfInBounds_ne (by omega)]
  have hct : CT p.Sh NoOwn (RdX p (upd X j ⟨w.heap.size, none, false⟩)) t (p.j0 + j) := by
    refine ct_rd h.ct ?_ ?_
    · rintro k l hk ⟨i', rfl, a, rfl, h0, h1, h2⟩
      exact ⟨i', rfl, a, rfl, h0, h1, by rw [upd_ne X _ (by unfold Ph.kk at hk; omega)]; exact h2⟩
    · rintro k l hk ⟨i', rfl, a, rfl, h0, h1, h2⟩
      rw [upd_ne X _ (by unfold Ph.kk at hk; omega)] at h2
      exact .inl ⟨i', rfl, a, rfl, h0, h1, h2⟩
  have hof : ∀ op ∈ #[x, y], op.g ≤ p.j0 → op.g = 0 ∨ op.act.touch? = none := fun op hop _ => .inr (hnt op hop)
  refine ⟨by simp [hsz]; omega, hjn, fun k g hk hkj hg => ?_, fun i hi => ?_, (hct.fork (apartX ok _) (by rw [← hgj]; exact hx) (by rw [← hgj]; exact hy) h.deaf0), h.mem.app (fun op hop z hz => by rw [hnt op hop] at hz; cases hz), h.norel.app fun op hop => ?_,
    by rw [Deaf_still t 0 _ hst, h.deaf0], fun i hi => ?_, fun i hi hs => ?_, h.knO.app hof, h.knW.app (fun op hop _ z hz => by rw [hnt op hop] at hz; cases hz), h.over.app hof,
    fun op hop => (Array.mem_append.1 hop).elim (h.seen op) fun hop => ?_, h.base, fun i hi => ?_, fun b hb => hb.elim, ?_, h.F, h.lowW, h.plain⟩
  · rw [old k hk (by omega)] at hg
    rw [Deaf_still t k _ hst]
    exact h.old k g hk hkj hg
  · rcases Nat.lt_or_ge i j with hlt | hge
    · obtain ⟨g, hg, hsg⟩ := h.wk i hlt
      exact ⟨g, by rw [old _ (by unfold Ph.kk; omega) (by unfold Ph.kk; omega)]; exact hg, by rw [upd_ne D _ (by omega), upd_ne X _ (by omega)]; exact hsg⟩
    · obtain rfl : i = j := by omega
      refine ⟨child, ?_, by rw [upd_same, upd_same]; exact .birth hc⟩
      have e : p.kk i = (gs.setIfInBounds 0 a').size := by simp [hsz]; unfold Ph.kk; omega
      rw [e, Array.getElem?_push_size]
  · rcases hm op hop with rfl | rfl
    · rw [hx.2]; simp
    · rw [hy.2]; simp
  · rw [Deaf_still t _ _ hst]
    rcases Nat.lt_or_ge i j with hlt | hge
    · rw [h.deafW i hlt, upd_ne D _ (by omega)]
    · obtain rfl : i = j := by omega
      rw [upd_same]
      exact Deaf_absent fun a op ha e => by have := h.ct.gs a op ha; unfold Ph.kk at e; omega
  · rcases Nat.lt_or_ge i j with hlt | hge
    · rw [upd_ne D _ (by omega)] at hs
      obtain ⟨r, hr⟩ := h.rel i hlt hs
      refine ⟨r, hr.appNot fun op hop => ?_⟩
      rcases hm op hop with rfl | rfl
      · rw [hx.1]; unfold Ph.kk; omega
      · rw [hy.1]; unfold Ph.kk; omega
    · obtain rfl : i = j := by omega
      rw [upd_same] at hs
      simp at hs
  · rcases hm op hop with rfl | rfl
    · rw [hx.2]; trivial
    · rw [hy.2]; trivial
  · rcases Nat.lt_or_ge i j with hlt | hge
    · rw [upd_ne X _ (by omega)]; exact h.xs i hlt
    · obtain rfl : i = j := by omega
      rw [upd_same]
      exact ⟨h.base, Nat.le_refl _, (fun β hβ => by cases hβ), (fun h => by cases h)⟩
  · obtain ⟨buf, s, r, tm, h1, h2⟩ := h.chan
    refine ⟨buf, s, r, tm, h1, ?_⟩
    have e : ((List.range (j + 1)).filter fun i => (upd X j ⟨w.heap.size, none, false⟩ i).sent) = (List.range j).filter fun i => (X i).sent := by
      rw [List.range_succ, List.filter_append]
      have e2 : ([j].filter fun i => (upd X j ⟨w.heap.size, none, false⟩ i).sent) = [] := by simp [upd_same]
      rw [e2, List.append_nil]
      refine List.filter_congr fun i hi => ?_
      rw [upd_ne X _ (by have := List.mem_range.1 hi; omega)]
    rw [e]
    exact h2
end

end Go.Proofs.Ythoaldiadgeonaa.Cr

namespace Go.Proofs.Ythoaldiadgeonaa.Cr
open Go.Conc Go.ConcR Go.RowKit Go.Conc.Lib Go.ConcR.Gen
open Go.ConcN

def mu (p : Ph) (j : Nat) (D : Nat → WD) (q : Nat → Nat) (tag : CTag) (f0 : Nat) : Nat × Nat := (phi p.n (Vc j D) tag + Ssum j D, f0 + 2 * (Fsum j D + sumTo (p.j0 + 1) q))

def Inv (p : Ph) (μ : Nat × Nat) (m : Machine) (t : Trace) : Prop :=
  ∃ (gs : Array Goroutine) (w : World) (sl : Option (Nat × Nat)) (j : Nat) (D : Nat → WD) (X : Nat → WX) (q : Nat → Nat) (tag : CTag) (f0 d0 : Nat) (own0 : Nat → Prop) (a : Goroutine) (st sm : Int),
    m = crowd gs w sl ∧ gs[0]? = some a ∧ SS p tag j f0 d0 own0 a w ∧ Com p j gs w t D X q d0 own0 ∧ WgAt wgl.tWg p.Wg w st sm ∧ ConcN.Mode j D tag st sm ∧ w.heap.size = p.N0 + 3 + 2 * j + eOf tag + nb j X ∧ μ = mu p j D q tag f0

theorem woken_rf {P : Program} {a a' g : Goroutine} {w : World} (h : g.status = .running ∨ g.status = .finished) : woken P a a' w g = g := by
  unfold Go.Conc.woken
  split
  · exact again_running _ h
  · rfl

theorem eOf_retag {tag tag' : CTag} (h : tag' = tag ∨ (tag = .blk ∧ tag' = .w3)) : eOf tag' = eOf tag := by
  rcases h with rfl | ⟨rfl, rfl⟩ <;> rfl

theorem kk_ne {p : Ph} {i : Nat} : (p.kk i == 0) = false := by unfold Ph.kk; simp

section
variable {p : Ph} {j : Nat} {gs : Array Goroutine} {w w' : World} {sl : Option (Nat × Nat)} {t : Trace} {D : Nat → WD} {X : Nat → WX} {q : Nat → Nat} {d0 f0 : Nat} {own0 : Nat → Prop} {tag : CTag} {a : Goroutine} {st sm : Int}

/-- The measure falls. -/
theorem mu_work {i s' m' dd' : Nat} {tag' : CTag} {f' : Nat} (hi : i < j) (hf : f' ≤ f0 + 1) (ht : tag' = tag ∨ (tag = .blk ∧ tag' = .w3))
    (hlt : (s' < (D i).stage ∧ cnt ⟨s', m', dd'⟩ ≤ cnt (D i)) ∨ (s' = (D i).stage ∧ m' < (D i).fuel)) : Lt2 (mu p j (upd D i ⟨s', m', dd'⟩) q tag' f') (mu p j D q tag f0) := by
  have e1 := sumTo_upd D (⟨s', m', dd'⟩ : WD) cnt hi
  have e2 := sumTo_upd D (⟨s', m', dd'⟩ : WD) WD.stage hi
  have e3 := sumTo_upd D (⟨s', m', dd'⟩ : WD) WD.fuel hi
  unfold mu
  rw [phi_retag p.n _ ht]
  simp only [Vc, Ssum, Fsum] at *
  rcases hlt with ⟨h1, h2⟩ | ⟨h1, h2⟩
  · refine Prod.Lex.left _ _ ?_
    have := phi_mono p.n (v' := sumTo j fun a => cnt (upd D i ⟨s', m', dd'⟩ a)) (v := sumTo j fun a => cnt (D a)) (by omega) tag
    omega
  · have ec : cnt (⟨s', m', dd'⟩ : WD) = cnt (D i) := by simp only [cnt, h1]
    have ev : (sumTo j fun a => cnt (upd D i ⟨s', m', dd'⟩ a)) = sumTo j fun a => cnt (D a) := by omega
    have es' : (sumTo j fun a => (upd D i ⟨s', m', dd'⟩ a).stage) = sumTo j fun a => (D a).stage := by omega
    rw [ev, es']
    refine Prod.Lex.right _ ?_
    omega

/-- WHATEVER PLAIN STEP OF WORKER NUMBER i. -/
theorem wStep (ok : p.Ok) (ha : gs[0]? = some a) (hss : SS p tag j f0 d0 own0 a w) (hcom : Com p j gs w t D X q d0 own0)
    {i : Nat} (hi : i < j) {g g' : Goroutine} {es : Array Event} {s' m' dd' : Nat} {x' : WX} {st' sm' : Int} (hg : gs[p.kk i]? = some g) (hgo : stepG Try.prog false g w = .go g' w' es)
    (r : R0 p.Wg p.Ch w w') (hev : ∀ e ∈ es, (∀ fn pos, OkK p (upd X i x') (p.kk i) { g := p.kk i, fn, pos, act := .ofEvent e }) ∧ e.loc ≠ .mark (.release (stA p.Wg)) ∧ (MemAct.ofEvent e).low w'.heap.size)
    (hdeaf : deafBehind (D i).deaf es = dd') (hrel : s' ≤ 6 → ∃ r, RelBy (stA p.Wg) (t ++ MemOp.ofEvents (p.kk i) g.frame.fn g.frame.place es) (p.kk i) r)
    (hs' : WS p i x' s' m' dd' g' w') (hL : x'.L = (X i).L) (hown : x'.own = (X i).own ∨ ((X i).own = none ∧ x'.own = some w.heap.size ∧ w.heap.size < w'.heap.size)) (hch : ChanAt p j (upd X i x') w') (hso : x'.sent = true → x'.own.isSome = true) (hpl : ∀ b, b < w'.heap.size → (b < w.heap.size → PlainAt w b) → PlainAt w' b)
    (hz : w.heap.size = p.N0 + 3 + 2 * j + eOf tag + nb j X) (hz' : w'.heap.size + nb j X = w.heap.size + nb j (upd X i x')) (hwg : WgAt wgl.tWg p.Wg w' st' sm')
    (hmode : ∀ tag', (tag' = tag ∨ (tag = .blk ∧ tag' = .w3)) → (mayWake Try.prog g = true → g'.status = .running → tag' ≠ .blk) → ConcN.Mode j (upd D i ⟨s', m', dd'⟩) tag' st' sm')
    (hlt : (s' < (D i).stage ∧ cnt ⟨s', m', dd'⟩ ≤ cnt (D i)) ∨ (s' = (D i).stage ∧ m' < (D i).fuel)) :
    ∃ m₁ u μ', runT Try.prog (crowd gs w sl) (p.kk i) = (.next m₁, u) ∧ Lt2 μ' (mu p j D q tag f0) ∧ Inv p μ' m₁ (t ++ u) := by
  obtain ⟨tag', f', hss', hf', htag, hwk⟩ := hss.wokenBy r g g'
  have hrun := runT_crowd_go (P := Try.prog) (sl := sl) (i := p.kk i) hg (by rw [kk_ne]; exact hgo)
  have hlt' : p.kk i < gs.size := (Array.getElem?_eq_some_iff.1 hg).1
  refine ⟨_, _, mu p j (upd D i ⟨s', m', dd'⟩) q tag' f', hrun, mu_work hi hf' htag hlt, _, w', sl, j, upd D i ⟨s', m', dd'⟩, upd X i x', q, tag', f', d0, own0, woken Try.prog g g' w' a, st', sm', rfl, ?_, hss', ?_, hwg, hmode tag' htag hwk, by rw [eOf_retag htag]; omega, rfl⟩
  · rw [get_map_set _ _ _ _ (by unfold Ph.kk; omega), ha]; rfl
  · refine hcom.work ok hi (g' := g') (by simp) (get_map_set_same _ _ _ hlt') (fun k hk hkn x hx hst => ?_) r (fun op hop => ?_) (fun op hop => ?_) (fun op hop => ?_) ?_ hrel hs' hL hown hch hso hpl
    · rw [get_map_set _ _ _ _ (fun e => hkn e.symm), hx, Option.map_some, woken_rf hst]
    · obtain ⟨e, he, rfl⟩ := Go.Conc.mem_ofEvents hop; exact (hev e he).1 _ _
    · obtain ⟨e, he, rfl⟩ := Go.Conc.mem_ofEvents hop; exact fun hx => (hev e he).2.1 (loc_of_ofEvent hx)
    · obtain ⟨e, he, rfl⟩ := Go.Conc.mem_ofEvents hop; exact (hev e he).2.2
    · rw [Deaf_own, hcom.deafW i hi]; exact hdeaf

theorem ChanAt.keep {w₁ : World} (h : ChanAt p j X w) (e : w₁.heap[p.Ch]? = w.heap[p.Ch]?) : ChanAt p j X w₁ := let ⟨b, s, r, tm, h1, h2⟩ := h; ⟨b, s, r, tm, e.trans h1, h2⟩
theorem ChanAt.same {i : Nat} {x' : WX} (h : ChanAt p j X w) (e : x'.sent = (X i).sent) : ChanAt p j (upd X i x') w := by
  obtain ⟨b, s, r, tm, h1, h2⟩ := h
  refine ⟨b, s, r, tm, h1, ?_⟩
  have : ((List.range j).filter fun k => (upd X i x' k).sent) = (List.range j).filter fun k => (X k).sent := List.filter_congr fun k _ => by
    by_cases hk : k = i
    · subst hk; rw [upd_same, e]
    · rw [upd_ne X _ hk]
  rw [this]
  exact h2

/-- Toggling one. -/
theorem filter_toggle {f f' : Nat → Bool} {i : Nat} (h0 : f i = false) (h1 : f' i = true) (ho : ∀ k, k ≠ i → f' k = f k) : ∀ {j : Nat}, i < j → ((List.range j).filter f').Perm (i :: (List.range j).filter f) := by
  intro j
  induction j with
  | zero => intro h; omega
  | succ j ih =>
    intro hi
    rw [List.range_succ, List.filter_append, List.filter_append]
    by_cases e : j = i
    · subst e
      have e1 : [j].filter f' = [j] := by simp [h1]
      have e2 : [j].filter f = [] := by simp [h0]
      have e3 : (List.range j).filter f' = (List.range j).filter f := List.filter_congr fun k hk => ho k (by have := List.mem_range.1 hk; omega)
      rw [e1, e2, e3, List.append_nil]
      exact List.perm_append_comm
    · have e1 : [j].filter f' = [j].filter f := List.filter_congr fun k hk => by
        have : k = j := by simpa using hk
        exact ho k (by omega)
      rw [e1]
      exact (List.Perm.append_right _ (ih (by omega))).trans (List.Perm.refl _)

theorem upd_id {α : Type} (f : Nat → α) (i : Nat) : upd f i (f i) = f := by
  funext k
  by_cases e : k = i
  · subst e; rw [upd_same]
  · rw [upd_ne f _ e]

theorem R0.of_same {Wg Ch : Nat} (h : Same w w') : R0 Wg Ch w w' :=
  ⟨h.tape, h.os, h.output, by rw [h.heap]; exact Nat.le_refl _, fun b _ _ _ => by rw [h.heap], fun ⟨a, b, c⟩ => ⟨a, b, by unfold WgAt at *; rw [h.heap]; exact c⟩⟩

theorem heap_lt_of {b : Nat} {o : Obj} (h : w.heap[b]? = some o) : b < w.heap.size := (Array.getElem?_eq_some_iff.1 h).1

/-- What a worker's reading step lists. -/
theorem evK (_ : p.Ok) (hcom : Com p j gs w t D X q d0 own0) {i : Nat} (hi : i < j) {x' : WX} (hL : x'.L = (X i).L) (hβ : ∀ β, x'.own = some β → β < w.heap.size) {w₁ : World} {es : Array Event} (h : DK p.Wg p.Ch p.N0 (X i).L x'.ownP w w₁ es) {B : Nat} (hB : w.heap.size ≤ B) :
    ∀ e ∈ es, (∀ fn pos, OkK p (upd X i x') (p.kk i) { g := p.kk i, fn, pos, act := .ofEvent e }) ∧ e.loc ≠ .mark (.release (stA p.Wg)) ∧ (MemAct.ofEvent e).low B := by
  intro e he
  obtain ⟨a, rfl, h1, h2, h3, h4⟩ := h.evs e he
  refine ⟨fun fn pos => ⟨rfl, fun x hx => ?_⟩, by simp, ?_⟩
  · simp only [MemAct.ofEvent, MemAct.touch?, Option.some.injEq] at hx
    subst hx
    refine ⟨rfl, .inr ⟨⟨i, rfl, a, rfl, h3, h1, ?_⟩, rfl, rfl⟩⟩
    rw [upd_same, hL]
    exact h4
  · show a.block < B
    rcases h4 with h4 | h4
    · have := (hcom.xs i hi).2.1; omega
    · have := hβ _ h4; omega

theorem deaf_plain {es : Array Event} (h : ∀ e ∈ es, ∃ a : Addr, e = ⟨.cell a, false, false⟩ ∧ a.block ≠ p.Wg ∧ a.block ≠ p.Ch ∧ p.N0 ≤ a.block ∧ True) (d : Nat) : deafBehind d es = d :=
  deafBehind_idle (fun e he => by obtain ⟨a, rfl, _⟩ := h e he; exact ⟨by simp, by simp⟩) d

theorem DK.deaf {Wg Ch lo L : Nat} {own : Nat → Prop} {w₁ : World} {es : Array Event} (h : DK Wg Ch lo L own w w₁ es) (d : Nat) : deafBehind d es = d :=
  deafBehind_idle (fun e he => by obtain ⟨a, rfl, _⟩ := h.evs e he; exact ⟨by simp, by simp⟩) d

/-- The library's bookkeeping, by a worker. -/
theorem evBk {i : Nat} {Y : Nat → WX} {es : Array Event} (h : ∀ e ∈ es, Bk p.Wg e) {B : Nat} (hB : p.Wg < B) :
    ∀ e ∈ es, (∀ fn pos, OkK p Y (p.kk i) { g := p.kk i, fn, pos, act := .ofEvent e }) ∧ e.loc ≠ .mark (.release (stA p.Wg)) ∧ (MemAct.ofEvent e).low B := by
  intro e he
  refine ⟨fun fn pos => ⟨rfl, fun x hx => ?_⟩, norel_of_Bk h e he, ?_⟩
  · rcases h e he with h1 | h1 | ⟨a, wr, rfl, ha⟩
    · simp only [ofEvent_loc_mark h1] at hx; cases hx
    · simp only [ofEvent_loc_mark h1] at hx; cases hx
    · simp only [ofEvent_cell, MemAct.touch?, Option.some.injEq] at hx
      subst hx
      exact ⟨rfl, .inl ⟨.inr ⟨a, rfl, ha⟩, rfl⟩⟩
  · rcases h e he with h1 | h1 | ⟨a, wr, rfl, ha⟩
    · rw [ofEvent_loc_mark h1]; trivial
    · rw [ofEvent_loc_mark h1]; trivial
    · rw [ofEvent_cell]; show a.block < B; omega

theorem WS.kitOf {i : Nat} {x : WX} {s m d : Nat} {g : Goroutine} (h : WS p i x s m d g w) (hs : s ≤ 6) :
    ∃ C n k v, C < p.N0 + 3 ∧ C ≠ p.Wg ∧ C ≠ p.Ch ∧ x.sent = true ∧ WSit Try.prog wgl.tWg p.Wg C n (fun _ _ => False) (fun _ _ => False) 0 k v s m d g w := by
  cases h with
  | birth h => omega
  | boxed h => omega
  | sent _ _ => omega
  | kit h1 h2 h3 h4 h => exact ⟨_, _, _, _, h1, h2, h3, rfl, h⟩

theorem Com.chlt (h : Com p j gs w t D X q d0 own0) (ok : p.Ok) : p.Wg < w.heap.size ∧ p.Ch < w.heap.size := by
  have := h.base; have := ok.wg; have := ok.ch; omega

/-- A STEP OF THE LIBRARY's BOOKKEEPING behind the release: at most the group's block turns. -/
theorem wBook (ok : p.Ok) (ha : gs[0]? = some a) (hss : SS p tag j f0 d0 own0 a w) (hcom : Com p j gs w t D X q d0 own0)
    {i : Nat} (hi : i < j) {g g' : Goroutine} {es : Array Event} {s' m' dd' : Nat} {st' sm' : Int} {C n k : Nat} {v : Value} (hg : gs[p.kk i]? = some g) (hgo : stepG Try.prog false g w = .go g' w' es)
    (hC : C < p.N0 + 3 ∧ C ≠ p.Wg ∧ C ≠ p.Ch) (hsent : (X i).sent = true) (h6 : (D i).stage ≤ 6) (h6' : s' ≤ 6)
    (hAs : w' = w ∨ ∃ ad vl, ad.block = p.Wg ∧ w' = w.setCell ad vl) (hwg : WgAt wgl.tWg p.Wg w' st' sm') (hbk : ∀ e ∈ es, Bk p.Wg e) (hz : w.heap.size = p.N0 + 3 + 2 * j + eOf tag + nb j X)
    (hd : ∀ jx e, es[jx]? = some e → (MemAct.ofEvent e).touch? = none ∨ 0 < deafBehind (D i).deaf (es.extract 0 jx))
    (hs' : WSit Try.prog wgl.tWg p.Wg C n (fun _ _ => False) (fun _ _ => False) 0 k v s' m' dd' g' w') (hdd : deafBehind (D i).deaf es = dd')
    (hmode : ∀ tag', (tag' = tag ∨ (tag = .blk ∧ tag' = .w3)) → (mayWake Try.prog g = true → g'.status = .running → tag' ≠ .blk) → ConcN.Mode j (upd D i ⟨s', m', dd'⟩) tag' st' sm')
    (hlt : (s' < (D i).stage ∧ cnt ⟨s', m', dd'⟩ ≤ cnt (D i)) ∨ (s' = (D i).stage ∧ m' < (D i).fuel)) :
    ∃ m₁ u μ', runT Try.prog (crowd gs w sl) (p.kk i) = (.next m₁, u) ∧ Lt2 μ' (mu p j D q tag f0) ∧ Inv p μ' m₁ (t ++ u) := by
  have r : R0 p.Wg p.Ch w w' := by
    rcases hAs with rfl | ⟨ad, vl, had, rfl⟩
    · exact R0.refl w'
    · exact R0.setWg w ad vl had ⟨_, _, hwg⟩
  have hch : w'.heap[p.Ch]? = w.heap[p.Ch]? := by
    rcases hAs with rfl | ⟨ad, vl, had, rfl⟩
    · rfl
    · exact (mine_setCell (· = p.Wg) w ad vl had).keep _ ok.chwg
  have hsz := hcom.chlt ok
  have hsz' : w'.heap.size = w.heap.size := by
    rcases hAs with rfl | ⟨ad, vl, had, rfl⟩
    · rfl
    · exact (mine_setCell (· = p.Wg) w ad vl had).size
  have hpl : ∀ b, b < w'.heap.size → (b < w.heap.size → PlainAt w b) → PlainAt w' b := fun b hb h => by
    rcases hAs with rfl | ⟨ad, vl, had, rfl⟩
    · exact h hb
    · exact (h (by omega)).setCell ad vl
  obtain ⟨L, own, sent⟩ : ∃ L own, X i = ⟨L, own, true⟩ := ⟨(X i).L, (X i).own, by rw [← hsent]⟩
  have hx : X i = ⟨L, own, true⟩ := sent
  refine wStep ok ha hss hcom hi (x' := X i) hg hgo r (evBk hbk (Nat.lt_of_lt_of_le hsz.1 r.size)) hdd (fun _ => ?_) (by rw [hx]; exact .kit hC.1 hC.2.1 hC.2.2 h6' hs') rfl (.inl rfl) (by rw [upd_id]; exact hcom.chan.keep hch) (hcom.xs i hi).2.2.2 hpl hz (by rw [upd_id, hsz']) hwg hmode hlt
  obtain ⟨rr, hr⟩ := hcom.rel i hi h6
  exact ⟨rr, hr.book (hcom.deafW i hi) _ _ hbk hd⟩
end

end Go.Proofs.Ythoaldiadgeonaa.Cr
