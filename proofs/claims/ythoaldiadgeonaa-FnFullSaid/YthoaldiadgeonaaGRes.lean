/-
  The program's iterator over rests: it hands out the rests of a fraction, without end.
  The other fraction: the program's and the model's.
  The shifted fraction: the program's and the model's; the model's list of rests.
  A body that lies in a scope (it holds a label), inside a fence: it is walked as it stands where no jump leaves it.
  The program's list of rests, its places kept in a map.
-/
import Derived.Test.YthoaldiadgeonaaGWlk
import Derived.Test.YthoaldiadgeonaaAns
import Derived.Test.YthoaldiadgeonaaTold
import Derived.RegionTactic
import Derived.Deep.RegionHeld3
import Derived.Test.YthoaldiadgeonaaGOrd
import Derived.Test.YthoaldiadgeonaaRed
import Derived.Test.YthoaldiadgeonaaPower
import Derived.Test.YthoaldiadgeonaaGRnd
import Derived.Test.YthoaldiadgeonaaRows
import Derived.Scope
import Derived.RangeFuncNested
import Derived.Test.YthoaldiadgeonaaTq
namespace Go.Proofs.Ythoaldiadgeonaa
set_option maxRecDepth 100000
open Go.RowKit

attribute [local go_sem] Oper.semAt_some

/-- What the iterator hands out in round k. -/
def rsArgs (b T B k : Nat) : Array Value := #[.int .i64 (rst b T B k)]

set_option maxRecDepth 100000 in
set_option maxHeartbeats 1000000 in
theorem rests1_in (n : Nat) (b T B : Nat) (hT : T < B) (hB : B ≤ 1000) (h3 : 2 ≤ b) (h4 : b ≤ 16) (Bf Bb l N : Nat) (J Jx : Nat → World → Prop) (W : World)
    (hBf : Box2 W Bf 38 (.int .i64 T) (.int .i64 B)) (hBb : Boxed W Bb 3 (.int .i64 b)) (_hJ : Abide (okT 38) W.heap.size J) (_hJx : Abide (okT 38) W.heap.size Jx)
    (hN : ∀ k W1, J k W1 → k < N)
    (hY : ∀ k W1, J k W1 → YieldAt Fence.wide (n - 1) Tryq.prog l (rsArgs b T B k) W1 fun e W' => (e = .returned (.bool true) ∧ J (k + 1) W' ∧ KeepsT 38 Bb W1 W') ∨ (e = .returned (.bool false) ∧ Jx k W'))
    (h0 : J 0 W) :
    CallsIn Fence.wide n Tryq.prog 83 #[.func (.yield l) #[] #[], .pointer (some ⟨Bf, 0, none⟩), .pointer (some ⟨Bb, 0, none⟩)] W fun e W' => (∃ v, e = .returned v) ∧ ∃ k, Jx k W' := by
  have a0 := hBf.cell0
  have a1 := hBf.cell1
  refine callsIn_of_wp Tryq.func83 rfl trivial ?_ rfl
  simp only [Try.ntmps83, List.size_toArray, List.length_cons, List.length_nil, Nat.reduceAdd, Nat.reduceSub, Array.replicate_succ, Array.replicate_zero, List.push_toArray, List.append_toArray, List.nil_append, List.cons_append]
  gi_wp2
  obtain ⟨R, hR⟩ : ∃ R : Value → Nat → World → Prop, R = fun r k wr => r = .int .i64 (rst b T B k) ∧ J k wr ∧ Box2 wr Bf 38 (.int .i64 T) (.int .i64 B) ∧ Boxed wr Bb 3 (.int .i64 b) := ⟨_, rfl⟩
  have HR := Lib.hid hR; clear hR
  gi_loopw [4] (fun r wr => ∃ k, R r k wr) (fun r wr => muK N (R r) wr)
  case atStart =>
    refine ⟨0, ?_⟩
    rw [HR.out]
    exact ⟨rfl, h0, hBf, hBb⟩
  case round =>
    rename_i r
    obtain ⟨k, hk, hmu⟩ := muK_spec (N := N) hrel
    have HM := Lib.hid hmu; clear hmu
    rw [HR.out] at hk
    obtain ⟨rfl, hj, hx, hb⟩ := hk
    have hkN := hN k wr hj
    obtain ⟨m1, m2⟩ := mul_bd (rst b T B k) b B (by omega) (by have := rst_lt (b := b) hT k; omega) (by omega) (by omega) (by omega)
    obtain ⟨fn, tmps, assign, body, hy, hRd⟩ := hY k wr hj
    unfold rsArgs at hy
    gi_wp2_with fail
    clear hy
    refine ⟨(fun h => by cases h), hRd.mono ?_⟩
    rintro e W3 (⟨rfl, hj3, hk3⟩ | ⟨rfl, hjx⟩)
    · have x3 := hx.keepT hk3
      have b3 : Boxed W3 Bb 3 (.int .i64 b) := hk3.base _ hb
      have e0 := x3.cell0
      have e1 := x3.cell1
      have kb := b3.cell
      have i5 : ¬ B = 0 := by omega
      gi_wp2_with fail
      have hr' : R (.int .i64 (rst b T B (k + 1))) (k + 1) W3 := by
        rw [HR.out]
        exact ⟨rfl, hj3, x3, b3⟩
      have ek : ((rst b T B (k + 1) : Nat) : Int) = (rst b T B k : Int) * b % B := by rw [show rst b T B (k + 1) = rst b T B k * b % B from rfl]; simp
      rw [ek] at hr'
      go_roundw
      case rel => exact ⟨k + 1, hr'⟩
      case measure =>
        have h1 := muK_le (N := N) hr'
        have h2 := HM.out
        omega
    · gi_wp2_with fail
      go_end0
      exact ⟨⟨_, rfl⟩, k, hjx⟩

theorem rests_seq (n : Nat) (b T B : Nat) (hT : T < B) (hB : B ≤ 1000) (h3 : 2 ≤ b) (h4 : b ≤ 16) (Bf Bb : Nat) (w : World)
    (hBf : Box2 w Bf 38 (.int .i64 T) (.int .i64 B)) (hBb : Boxed w Bb 3 (.int .i64 b)) :
    SeqK Fence.wide n Tryq.prog 83 #[.pointer (some ⟨Bf, 0, none⟩), .pointer (some ⟨Bb, 0, none⟩)] (rsArgs b T B) 38 Bb w :=
  fun l J Jx N W hW hJ hJx hN hY h0 => rests1_in n b T B hT hB h3 h4 Bf Bb l N J Jx W (hBf.later hW) ((hW.block Bb hBb.lt).trans hBb) hJ hJx hN hY h0

set_option maxHeartbeats 1000000 in
theorem rests_any (b t n : Int) (w : World) :
    Calls Tryq.prog 75 #[.agg #[.int .i64 t, .int .i64 n], .int .i64 b] w fun e w' =>
      e = .returned (.func (.func 83) #[] #[.pointer (some ⟨w.heap.size, 0, none⟩), .pointer (some ⟨w.heap.size + 1, 0, none⟩)]) ∧
      w' = (w.alloc (.cells #[.int .i64 t, .int .i64 n] 38)).alloc (.cells #[.int .i64 b] 3) := by
  go_enter Tryq.func75, Try.ntmps75
  go_wp2
  go_ret
  exact ⟨rfl, rfl⟩

end Go.Proofs.Ythoaldiadgeonaa

namespace Go.Proofs.Ythoaldiadgeonaa
set_option maxRecDepth 100000
open Go.RowKit

theorem bel1' {w w1 : World} {o : Obj} (hb : Below (w.alloc o).heap.size (w.alloc o) w1) : Below w.heap.size w w1 := ((Below.refl w.heap.size w).alloc (Nat.le_refl _) o).trans (hb.mono (by simp))
theorem bel2' {w w1 : World} {o o' : Obj} (hb : Below ((w.alloc o).alloc o').heap.size ((w.alloc o).alloc o') w1) : Below w.heap.size w w1 := (((Below.refl w.heap.size w).alloc (Nat.le_refl _) o).alloc (by simp) o').trans (hb.mono (by simp; omega))
theorem Box2.set' {W : World} {B : Nat} {T : TypeId} {x y : Value} (h : Box2 W B T x y) (x' y' : Value) : Box2 ((W.setCell ⟨B, 0, none⟩ x').setCell ⟨B, 1, none⟩ y') B T x' y' := by
  unfold Box2 at h
  simp [Box2, World.setCell, Array.getElem?_modify, h]








end Go.Proofs.Ythoaldiadgeonaa

namespace Go.Proofs.Ythoaldiadgeonaa
set_option maxRecDepth 100000
open Go.RowKit








end Go.Proofs.Ythoaldiadgeonaa

namespace Go.Proofs.Ythoaldiadgeonaa
set_option maxRecDepth 100000
open Go

section
variable {F : Fence} {n : Nat} {P : Program} {Q : Exit → Act → World → Prop} {a : Act} {w : World}

theorem stepR_scope {b : Frame} {c : Code} {k : List Item} {cs : List Frame} : step P (lone (b.atR a (.code (.scope c) :: k)) cs w) = .next (lone (b.atR a (.code c :: .inScope c :: k)) cs w) :=
  step_lone_go (by simp [stepG, stepG.exec, Frame.atR])
theorem stepR_inScope {b : Frame} {c : Code} {k : List Item} {cs : List Frame} : step P (lone (b.atR a (.inScope c :: k)) cs w) = .next (lone (b.atR a k) cs w) :=
  step_lone_go (by simp [stepG, stepG.exec, Frame.atR])

theorem wpIn_scope_straight {c : Code} (h : c.wpIn F n P (Exit.noGoto Q) a w) : (Code.scope c).wpIn F n P Q a w := by
  intro b k cs hro hb hr
  have h0 : (lone (b.atR a (.code (.scope c) :: k)) cs w).fenced P F := fenced_calm hb hr rfl
  obtain ⟨e, a₁, w₁, hq, harr⟩ := h b (.inScope c :: k) cs hro hb hr
  cases e with
  | normal => exact ⟨.normal, a₁, w₁, hq, .head h0 stepR_scope (StepsIn.trans harr (.one (fenced_calm hb hr rfl) stepR_inScope))⟩
  | exit id =>
    have hx : exitTo id (.inScope c :: k) = exitTo id k := by simp [exitTo]
    exact ⟨.exit id, a₁, w₁, hq, fun k' hk => .head h0 stepR_scope (harr.1 k' (by rw [hx]; exact hk)),
      fun hr' hk => let ⟨k₁, h1, h2⟩ := harr.2 hr' (by rw [hx]; exact hk); ⟨k₁, h1, .head h0 stepR_scope h2⟩⟩
  | goto l => exact hq.elim
  | ret => exact ⟨_, a₁, w₁, hq, .of_steps (.one h0 stepR_scope) harr⟩
  | panic ch => exact ⟨_, a₁, w₁, hq, .of_steps (.one h0 stepR_scope) harr⟩
  | outgrown => exact ⟨_, a₁, w₁, hq, .of_steps (.one h0 stepR_scope) harr⟩
end

end Go.Proofs.Ythoaldiadgeonaa

namespace Go.Proofs.Ythoaldiadgeonaa
set_option maxRecDepth 100000
open Go.RowKit Go.Maps Go.Shelf Go.ChangeMaps

attribute [local go_sem] Oper.semAt_some

/-- 'clear(m)' on a map. -/
theorem run_clear_own {H : Type} {P : Program} {k e t : TypeId} {R : Value → Option (DataW H × List MemPlace)} {w : World} {b n : Nat} {D : DataW H} (h : w.ownsMap P k R b n D) (ht : P.underlying t = some (.map k e)) :
    ∃ w', (∀ ty, (Builtin.clear_ #[t] ty #[.map (some b)]).run P w = .ok (.tuple #[]) w') ∧ w'.ownsMap P k R b 0 (.map [] : DataW H) ∧ w.grownBy w' (some b) ∧ w'.heap.size = w.heap.size := by
  obtain ⟨es, clock, hb, F, hs, rfl⟩ := h
  refine ⟨setBlock w b (.map #[] clock), fun ty => ?_, ⟨#[], clock, heap_setBlock_same hb _, ⟨by simp, MapKept.stamped_empty clock, by simp⟩, by simp, rfl⟩, ⟨rfl, rfl, rfl, by simp [setBlock], fun i _ hi => heap_setBlock_other hb _ (fun e => hi (by rw [e]))⟩, by simp [setBlock]⟩
  simp [Builtin.clear_, run_underlying ht, MapKept.run_getObj_map hb, MapKept.run_setObj_map _ hb, Result.andThen, setBlock]

theorem wpListIn_clear {F : Fence} {nF : Nat} {P : Program} {w : World} {ops : Array Oper} {rest : List Oper} {o : Oper} {a : Act} {Q : Exit → Act → World → Prop} (hg : o.guard = none) (m : Operand) (t : TypeId)
    (hop : o.op = Op.call { callee := Callee.builtin Builtin.clear, args := #[m], argTypes := #[t] }) (v : Value) (hm : a.eval m = v) (w' : World)
    (hrun : ∀ ty, (Builtin.clear_ #[t] ty #[v]).run P w = .ok (.tuple #[]) w') (hK : wpListIn F nF P ops Q rest (a.put o.dst (.tuple #[])) w') : wpListIn F nF P ops Q (o :: rest) a w := by
  refine wpListIn_plain hg fun K' hK' => ?_
  unfold Oper.wpIn
  refine ⟨by simp [Oper.about, hop, resolve, Target.leads, Sem.run_pure], ?_⟩
  rw [Oper.semAt_plain F _ _ (by rw [hop]; intro c hc'; cases hc')]
  simp [execOp, hop, resolve, invoke, builtin, hm, hrun, Result.andThen]
  exact hK' _ _ hK

theorem law : Keyed Tryq.prog 3 := int_keyed Tryq.underlying3
theorem zeroI (w : World) : (zeroValue 3).run Tryq.prog w = .ok (.int .i64 0) w := by kernel_rfl

/-- A map of places that reads as D. -/
def MapI (W : World) (Bm n : Nat) (D : DataW Unit) : Prop := W.ownsMap Tryq.prog 3 (plainElem Tryq.prog 3) Bm n D

/-- The places of the first k rests. -/
structure PlD (b T B k : Nat) (D : DataW Unit) : Prop where
  map : IsMap D
  hit : ∀ j, j < k → has D (.int .i64 (rst b T B j)) = true ∧ D.atKey (.int .i64 (rst b T B j)) (.lit (.int .i64 0)) = .lit (.int .i64 j)
  miss : ∀ x : Nat, (∀ j, j < k → rst b T B j ≠ x) → has D (.int .i64 x) = false

theorem PlD.zero (b T B : Nat) : PlD b T B 0 (.map []) := ⟨isMap_empty, fun j hj => by omega, fun x _ => rfl⟩

theorem PlD.step {b T B k : Nat} {D : DataW Unit} (h : PlD b T B k D) (hno : ∀ j, j < k → rst b T B j ≠ rst b T B k) : PlD b T B (k + 1) (D.put (.int .i64 (rst b T B k)) (.lit (.int .i64 k))) := by
  have hkl : WideAt.IsKeyLit (.int .i64 (rst b T B k)) := by simp [WideAt.IsKeyLit]
  refine ⟨h.map.put _ _, fun j hj => ?_, fun x hx => ?_⟩
  · rcases Nat.lt_or_ge j k with hlt | hge
    · have hne : (Lit.int .i64 (rst b T B j)) ≠ .int .i64 (rst b T B k) := fun e => hno j hlt (by injection e with _ e; omega)
      rw [has_put_other hne, atKey_put_other hne]
      exact h.hit j hlt
    · obtain rfl : j = k := by omega
      exact ⟨has_put_same h.map hkl _, atKey_put_same h.map hkl _ _⟩
  · have hne : (Lit.int .i64 x) ≠ .int .i64 (rst b T B k) := fun e => hx k (by omega) (by injection e with _ e; omega)
    rw [has_put_other hne]
    exact h.miss x (fun j hj => hx j (by omega))

/-- What holds between two rounds of the list of rests. -/
def AskInv (b T B Bm : Nat) (w : World) (first k : Nat) (W : World) : Prop :=
  (∀ i j, i < j → j < k → rst b T B i ≠ rst b T B j) ∧ (∃ D, MapI W Bm k D ∧ PlD b T B k D) ∧ Boxed W w.heap.size 75 (.map (some Bm)) ∧ Boxed W (w.heap.size + 2 + 1 + 1) 3 (.int .i64 first) ∧
    GrowRow (w.heap.size + 2) (w.heap.size + 2 + 1) (w.heap.size + 2 + 1 + 1 + 1 + 1) k (rstL b T B k) W ∧ w.grownBy W (some Bm) ∧ w.heap.size + 7 ≤ W.heap.size ∧ GrowRow (w.heap.size + 2) (w.heap.size + 2 + 1) (w.heap.size + 2 + 1 + 1) k (rstL b T B k) W

theorem AskInv.abide {b T B Bm : Nat} {w : World} (hBm : Bm < w.heap.size) (first : Nat) : Abide (okT 38) (w.heap.size + 7) (AskInv b T B Bm w first) := by
  rintro k W W' row ⟨h1, ⟨D, h2, h3⟩, h4, h5, h6, h7, h8, h9⟩ hg hr
  exact ⟨h1, ⟨D, World.ownsMap.kept h2 hg (fun e => by have := (hr Bm e.symm).1; omega), h3⟩, boxed_abide h4 (by omega) hg (fun r e => (hr r e).1), boxed_abide h5 (by omega) hg (fun r e => (hr r e).1),
    h6.abide (by omega) hg hr, h7.andThen hg (fun j e => .inl (by have := (hr j e).1; omega)), by have := hg.size; omega, h9.abide (by omega) hg hr⟩

theorem ask_bound {b T B k : Nat} (hT : T < B) (h : ∀ i j, i < j → j < k → rst b T B i ≠ rst b T B j) : k < B + 1 := by
  have := php B k (rst b T B) (fun i _ => rst_lt hT i) h
  omega

theorem ask_len {b T B k j : Nat} (hj : j < k) (he : rst b T B j = rst b T B k) (h : ∀ i j, i < j → j < k → rst b T B i ≠ rst b T B j) : IsLen b T B j (k - j) :=
  ⟨by omega, by rw [show j + (k - j) = k by omega]; exact he.symm, fun i i' h1 h2 => h i i' h1 (by omega)⟩

set_option maxRecDepth 100000 in
set_option maxHeartbeats 2000000 in
theorem ask_any (b T B : Nat) (Bm nD : Nat) (D : DataW Unit) (w : World) (hT : T < B) (hB : B ≤ 1000) (h3 : 2 ≤ b) (h4 : b ≤ 16) (hg : Nat.gcd T B = 1) (hown : MapI w Bm nD D) :
    Calls Tryq.prog 53 #[.map (some Bm), .int .i64 b, .agg #[.int .i64 T, .int .i64 B]] w fun e w' =>
      ∃ v n m c D', IsLen b T B n m ∧ e = .returned (.tuple #[v, .int .i64 n]) ∧ Slc w.heap.size w' v (rstL b T B (n + m)) ∧ MapI w' Bm c D' ∧ w.grownBy w' (some Bm) := by
  have HG := Lib.hid hg; clear hg
  obtain ⟨i0, hi, hz0, hz1, hz2⟩ := info_parts infoInt
  refine (callsIn_wide (n := 3)).1 ?_
  refine callsIn_of_wp_marks Tryq.func53 rfl trivial ?_ rfl
  simp only [Try.ntmps53, List.size_toArray, List.length_cons, List.length_nil, Nat.reduceAdd, Nat.reduceSub, Array.replicate_succ, Array.replicate_zero, List.push_toArray, List.append_toArray, List.nil_append, List.cons_append]
  have hBm : Bm < w.heap.size := World.ownsMap.lt hown
  obtain ⟨W1, hW1⟩ : ∃ W1, (w.alloc (.cells #[.map (some Bm)] 75)).alloc (.cells #[.int .i64 T, .int .i64 B] 38) = W1 := ⟨_, rfl⟩
  have hown1 : MapI W1 Bm nD D := by rw [← hW1]; exact (World.ownsMap.alloc (World.ownsMap.alloc hown _) _)
  have hg1 : w.grownBy W1 (some Bm) := by rw [← hW1]; exact (World.grownBy_alloc w _ _).trans (World.grownBy_alloc _ _ _)
  have hs1 : W1.heap.size = w.heap.size + 2 := by rw [← hW1]; simp
  have p1 : Boxed W1 w.heap.size 75 (.map (some Bm)) := by rw [← hW1]; exact (boxed_newAt rfl).alloc _
  have f1 : Box2 W1 (w.heap.size + 1) 38 (.int .i64 T) (.int .i64 B) := by rw [← hW1]; exact Box2.newAt (by simp)
  obtain ⟨Wc, hclr, hownc, hgc, hsc⟩ := run_clear_own hown1 Tryq.underlying75
  have hne0 : some w.heap.size ≠ some Bm := by simp; omega
  have hne1 : some (w.heap.size + 1) ≠ some Bm := by simp; omega
  have hc1 := p1.cell
  have pc : Boxed Wc w.heap.size 75 (.map (some Bm)) := p1.kept hgc (fun e => hne0 e)
  have fc : Box2 Wc (w.heap.size + 1) 38 (.int .i64 T) (.int .i64 B) := (hgc.block _ f1.lt hne1).trans f1
  have hgc' := hg1.trans hgc
  rw [hs1] at hsc
  have x0 := fc.cell0
  have x1 := fc.cell1
  gi_wp2_with fail
  refine wpIn_scope_straight ?_
  gi_wp2_with (gi_at_builtin; refine wpListIn_clear rfl _ _ rfl _ rfl Wc hclr ?_)
  refine wpIn_label ?_
  gi_wp2_with fail
  refine ⟨trivial, (callsIn_wide.2 (rests_any _ _ _ _)).mono ?_⟩
  rintro e w2 ⟨rfl, rfl⟩
  obtain ⟨W0, hW0⟩ : ∃ W0, ((((Wc.alloc (.cells #[] 3)).alloc (.cells #[.slice (some ⟨w.heap.size + 2, 0, none⟩) 0 0] 30)).alloc (.cells #[.int .i64 0] 3)).alloc
      (.cells #[.int .i64 T, .int .i64 B] 38)).alloc (.cells #[.int .i64 b] 3) = W0 := ⟨_, rfl⟩
  have hs0 : W0.heap.size = w.heap.size + 7 := by rw [← hW0]; simp [hsc]
  have x0' : Box2 W0 (w.heap.size + 2 + 1 + 1 + 1) 38 (.int .i64 T) (.int .i64 B) := by rw [← hW0]; exact (Box2.newAt (by simp [hsc])).alloc _
  have b0 : Boxed W0 (w.heap.size + 2 + 1 + 1 + 1 + 1) 3 (.int .i64 b) := by rw [← hW0]; exact boxed_newAt (by simp [hsc])
  have y0 : Boxed W0 (w.heap.size + 2 + 1 + 1) 3 (.int .i64 0) := by rw [← hW0]; exact ((boxed_newAt (by simp [hsc])).alloc _).alloc _
  have q0 : Boxed W0 w.heap.size 75 (.map (some Bm)) := by rw [← hW0]; exact ((((pc.alloc _).alloc _).alloc _).alloc _).alloc _
  have g0 : w.grownBy W0 (some Bm) := by
    rw [← hW0]
    exact ((((hgc'.trans (World.grownBy_alloc _ _ _)).trans (World.grownBy_alloc _ _ _)).trans (World.grownBy_alloc _ _ _)).trans (World.grownBy_alloc _ _ _)).trans (World.grownBy_alloc _ _ _)
  have m0 : MapI W0 Bm 0 (.map []) := by rw [← hW0]; exact World.ownsMap.alloc (World.ownsMap.alloc (World.ownsMap.alloc (World.ownsMap.alloc (World.ownsMap.alloc hownc _) _) _) _) _
  have r0 : GrowRow (w.heap.size + 2) (w.heap.size + 2 + 1) (w.heap.size + 2 + 1 + 1 + 1 + 1) 0 (rstL b T B 0) W0 := by
    rw [← hW0]
    refine ⟨.slice (some ⟨w.heap.size + 2, 0, none⟩) 0 0, (((boxed_newAt (by simp [hsc])).alloc _).alloc _).alloc _, ?_, by simp [Value.ownBlock]⟩
    have := ((((World.ownsRow_made (base := w.heap.size + 2) (e := 3) (size := 1) Wc #[] 0 (by omega) (by simp) (by simp)).alloc
      (.cells #[.slice (some ⟨w.heap.size + 2, 0, none⟩) 0 0] 30)).alloc (.cells #[.int .i64 0] 3)).alloc (.cells #[.int .i64 T, .int .i64 B] 38)).alloc (.cells #[.int .i64 b] 3)
    rw [hsc] at this
    simpa [rstL] using this
  have r0' : GrowRow (w.heap.size + 2) (w.heap.size + 2 + 1) (w.heap.size + 2 + 1 + 1) 0 (rstL b T B 0) W0 := by
    rw [← hW0]
    refine ⟨.slice (some ⟨w.heap.size + 2, 0, none⟩) 0 0, (((boxed_newAt (by simp [hsc])).alloc _).alloc _).alloc _, ?_, by simp [Value.ownBlock]⟩
    have := ((((World.ownsRow_made (base := w.heap.size + 2) (e := 3) (size := 1) Wc #[] 0 (by omega) (by simp) (by simp)).alloc
      (.cells #[.slice (some ⟨w.heap.size + 2, 0, none⟩) 0 0] 30)).alloc (.cells #[.int .i64 0] 3)).alloc (.cells #[.int .i64 T, .int .i64 B] 38)).alloc (.cells #[.int .i64 b] 3)
    rw [hsc] at this
    simpa [rstL] using this
  gi_wp2_with fail
  have HW := Lib.hid hW0; clear hW0
  have HS := Lib.hid hsc; clear hsc
  have hk := rests_seq 2 b T B hT hB h3 h4 _ _ W0 x0' b0
  refine wpIn_range_k rfl (by omega) (gf := 83) (lb := #[.pointer (some ⟨w.heap.size + 2 + 1 + 1 + 1, 0, none⟩), .pointer (some ⟨w.heap.size + 2 + 1 + 1 + 1 + 1, 0, none⟩)]) rfl trivial (enters_of Tryq.func83 (by kernel_rfl) rfl)
    hk (Below.refl _ _) b0.lt (fun _ => rfl) 0 (B + 1) (AskInv b T B Bm w 0) (fun k W => ∃ j, j < k ∧ rst b T B j = rst b T B k ∧ AskInv b T B Bm w j k W) ?_ ?_ ?_ ⟨fun i j h1 h2 => by omega, ⟨_, m0, PlD.zero b T B⟩, q0, y0, r0, g0, by omega, r0'⟩
    (fun k a' _ => a' = { tmps := #[Value.map (some Bm), Value.int .i64 b, Value.agg #[Value.int .i64 T, Value.int .i64 B], Value.pointer (some ⟨w.heap.size, 0, none⟩), undef, Value.pointer (some ⟨w.heap.size + 1, 0, none⟩), Value.slice none 0 0, Value.int .i64 0,
          Value.pointer (some ⟨w.heap.size + 2 + 1, 0, none⟩), Value.pointer (some ⟨w.heap.size + 2 + 1 + 1, 0, none⟩), .int .i64 (rst b T B k), undef, undef, Value.map (some Bm), Value.slice (some ⟨w.heap.size + 2, 0, none⟩) 0 0,
          Value.agg #[Value.int .i64 T, Value.int .i64 B], Value.int .i64 b, Value.func (Fn.func 83) #[] #[Value.pointer (some ⟨w.heap.size + 2 + 1 + 1 + 1, 0, none⟩), Value.pointer (some ⟨w.heap.size + 2 + 1 + 1 + 1 + 1, 0, none⟩)],
          .int .i64 (rst b T B k), undef, undef, undef, undef, undef, undef, undef, undef, undef, undef, undef, undef, undef, undef, undef, undef, undef, undef], defers := [] }) ?_ ?assign ?body ?stop
  · rw [hs0]; exact AskInv.abide hBm 0
  · rw [hs0]; rintro k W W' row ⟨j, h1, h2, h⟩ hg hr; exact ⟨j, h1, h2, AskInv.abide hBm j k W W' row h hg hr⟩
  · rintro k W ⟨h, _⟩; exact ask_bound hT h
  · rintro a' k W W' row ha _ _; exact ha
  case assign =>
    intro l k W K hi hK
    unfold rsArgs
    gi_wp2
    exact hK _ _ (KeepsFrom.refl _ _) (KeepsT.refl _ _ _) hi rfl
  case body =>
    rintro l k a' W ⟨g1, ⟨D, g2, g3⟩, g4, g5, g6, g7, g8, g9⟩ ha
    dsimp only at ha
    subst ha
    have hkB := ask_bound hT g1
    have hr := rst_lt (b := b) hT k
    have wf : (Lit.int .i64 (rst b T B k)).wf = true := WalkArith.wf_i64 (by omega)
    have wfk : (Lit.int .i64 (k : Int)).wf = true := WalkArith.wf_i64 (by omega)
    have pc4 := g4.cell
    have yc5 := g5.cell
    have yf5 := g5.frozen
    obtain ⟨v, hv1, hv2, hv3⟩ := g6
    obtain ⟨v', hv1', hv2', hv3'⟩ := g9
    have hvv : v' = v := by
      have e1 := hv1.cell
      rw [hv1'.cell] at e1
      exact Option.some.inj e1
    subst hvv
    have hvc := hv1.cell
    by_cases hex : ∃ j, j < k ∧ rst b T B j = rst b T B k
    · obtain ⟨j, hj, he⟩ := hex
      obtain ⟨u1, u2⟩ := g3.hit j hj
      rw [he] at u1 u2
      gi_wp2_with (gi_at_lookup; refine wpListIn_lookup_own_ok_int _ rfl _ _ 75 rfl 3 3 .i64 law Tryq.underlying75 Tryq.underlying3 (zeroI _) Bm k D rfl g2 _ _ rfl (keyOf_int_mk Tryq.underlying3 wf) ?_; intro c hat hwc)
      have hcj : c = j := by
        rw [u2] at hat
        injection hat with hat
        injection hat with _ hat
        exact hat.symm
      rw [hcj]
      have hgs := grownBy_setCell' W (w.heap.size + 2 + 1 + 1) (.int .i64 (j : Int))
      refine ⟨rfl, KeepsFrom.of_grownBy hgs (fun r e => by cases e; omega), j, hj, he, g1, ⟨D, World.ownsMap.kept g2 hgs (by intro e; injection e with e; omega), g3⟩, g4.kept hgs (by intro e; injection e with e; omega), g5.set _, ⟨v', hv1.kept hgs (by intro e; injection e with e; omega), hv2.kept hgs (.inr hv3'), hv3⟩,
        g7.andThen hgs (fun r e => .inl (by cases e; omega)), by simp; omega, ⟨v', hv1.kept hgs (by intro e; injection e with e; omega), hv2.kept hgs (.inr hv3'), hv3'⟩⟩
    · have hno : ∀ j, j < k → rst b T B j ≠ rst b T B k := fun j hj e => hex ⟨j, hj, e⟩
      have u1 := g3.miss (rst b T B k) hno
      have g3' := g3.step hno
      have HN := Lib.hid hno; clear hno hex
      obtain ⟨a0, c0, hvf⟩ := owns_form hv2
      subst hvf
      gi_wp2_with (first | (gi_at_lookup; refine wpListIn_lookup_own_ok_int _ rfl _ _ 75 rfl 3 3 .i64 law Tryq.underlying75 Tryq.underlying3 (zeroI _) Bm k D rfl g2 _ _ rfl (keyOf_int_mk Tryq.underlying3 wf) ?_; intro c hat hwc) | (gi_at_mapUpdate; refine wpListIn_mapUpdate_own _ rfl _ _ _ 75 rfl 3 3 law Tryq.underlying75 _ Bm k D rfl g2 (by unfold maxLen; omega) _ _ _ rfl rfl (keyOf_int_mk Tryq.underlying3 wf) _ [] (plainElem_int Tryq.underlying3 wfk) ?_))
      intro w1 hown1 hgrow1
      have hv1w := hv1.kept hgrow1 (by intro e; injection e with e; omega)
      have hv2w := hv2.kept hgrow1 (by
        rcases hv2.2 with ⟨h0, _⟩ | ⟨gq, cq, cur, h0, hq1, _⟩
        · rw [h0]; exact .inl rfl
        · rw [h0]; exact .inr (by intro e; simp [Value.ownBlock] at e; omega))
      have hs1w := hgrow1.size
      have hlt1 := hv1.lt
      have hvcw := hv1w.cell
      gi_wp2_with (gi_at_builtin; refine wpListIn_append_own_at _ rfl _ _ 30 rfl (w.heap.size + 2) 3 i0 (.int .i64 0) 1 8 Tryq.underlying30 hi hz0 hz1 hz2 rfl (by decide) _ _ _ rfl (hv2w.alloc _) ⟨w1.heap.size, 0, none⟩ 1 1 [.int .i64 (rst b T B k)] rfl rfl (cell_one_new _ _ _) (by simp [Value.oneCell']) (by unfold maxLen; omega) (by omega) (by simp; omega) ?_)
      intro v2 w2 hown' hgrow _ hat
      obtain ⟨a1, a2, a3, a4, a5⟩ := grow_step hv1w hv2w hv3 (by omega) (by omega) hown' hgrow hat (by omega) (by omega)
      obtain ⟨_, _, _, a4', _⟩ := grow_step hv1w hv2w hv3' (by omega) (by omega) hown' hgrow hat (by omega) (by omega)
      obtain ⟨g', cap', rfl⟩ := ownsRow_succ hown'
      have hc1 := a1.cell
      have hf1 := a1.frozen
      gi_wp2_with fail
      have hfb := (((g5.kept hgrow1 (by intro e; injection e with e; omega)).alloc (.cells #[.int .i64 (rst b T B k)] 3)).kept hgrow (fun e => hv3' e.symm)).other (B' := w.heap.size + 2 + 1) (by omega) (.slice (some ⟨g', 0, none⟩) (k + 1) cap')
      have hpb := g4.kept hgrow1 (by intro e; injection e with e; omega)
      have hsz := a5.size
      refine ⟨(KeepsFrom.of_grownBy hgrow1 (fun r e => by cases e; omega)).trans (a2.from _), (KeepsT.grown hgrow1 (fun r e => by cases e; obtain ⟨es, clock, hbm, _⟩ := g2; exact ⟨by omega, _, hbm, by simp [isT]⟩)).trans a3, ?_, ⟨_, ?_, g3'⟩, (a5.block _ (by omega)).trans hpb, hfb, ?_, ?_, by omega, ?_⟩
      · intro i i' h1 h2
        rcases Nat.lt_or_ge i' k with h0 | h0
        · exact g1 i i' h1 h0
        · obtain rfl : i' = k := by omega
          exact HN.out i h1
      · obtain ⟨es, clock, hbm, hrest⟩ := hown1
        exact ⟨es, clock, (a5.block Bm (by omega)).trans hbm, hrest⟩
      · rw [rstL_succ]; exact a4
      · have h7 := g7.andThen hgrow1 (fun r e => .inr e)
        exact ⟨a5.os.trans h7.os, a5.tape.trans h7.tape, a5.output.trans h7.output, by have := h7.size; omega, fun i hi hne => (a5.block i (by omega)).trans (h7.block i hi hne)⟩
      · rw [rstL_succ]; exact a4'
  case stop =>
    rintro D k W hD ⟨j, h1, h2, g1, ⟨Dm, g2, _⟩, g4, g5, g6, g7, g8, _⟩ hDD
    have hnm := ask_len h1 h2 g1
    have hkB := ask_bound hT g1
    obtain ⟨v, hv1, hv2, hv3⟩ := g6
    have hc := hv1.cell
    have hc2 := g5.cell
    gi_wp2
    gi_region
    gi_wp2
    have hDD' : W.drew.heap[D]? = some (.deferred (some [])) := hDD
    refine ⟨by simp, .inl ⟨_, _, rfl, run_takeDeferred hDD', ?_⟩⟩
    have hs := Slc.of_owns (n₀ := w.heap.size + 2) (xs := rstL b T B k) (by rw [rstL_len]; exact ownsRow_putObj (W := W.drew) hv2 (.deferred none) hDD' rfl)
    have hjk : j + (k - j) = k := by omega
    have hput := grownBy_putObj' W.drew D (.deferred none)
    refine ⟨_, results_tmp2 rfl _ _ _, v, j, k - j, k, Dm, hnm, rfl, by rw [hjk]; exact hs.mono (by omega), World.ownsMap.kept (w := W.drew) g2 hput (by intro e; injection e with e; omega), World.grownBy.andThen (b' := W.drew) ⟨g7.os, g7.tape, g7.output, g7.size, g7.block⟩ hput (fun r e => .inl (by cases e; omega))⟩

end Go.Proofs.Ythoaldiadgeonaa
