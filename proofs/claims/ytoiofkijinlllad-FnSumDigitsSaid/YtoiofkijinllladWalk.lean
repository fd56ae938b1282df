/-
  The program's iterator: it hands out the fractions on the way and their digits, without end.
-/
import Derived.Test.YtoiofkijinllladGrow
import Derived.RangeFuncBox
namespace Go.Proofs.Ytoiofkijinlllad
open Go.RowKit

attribute [local go_sem] Oper.semAt_some

/-- What the iterator hands out in round k. -/
def itArgs (b T B k : Nat) : Array Value := #[.agg #[.int .i64 (frT b T B k).1, .int .i64 (frT b T B k).2], .int .i64 (dig b T B k)]

set_option maxRecDepth 100000 in
set_option maxHeartbeats 1000000 in
theorem walk1_in (n : Nat) (b T B : Nat) (hT : T < B) (hg : Nat.gcd T B = 1) (hB : B ≤ 1000) (h3 : 2 ≤ b) (h4 : b ≤ 16) (Bf Bb l N : Nat) (J Jx : Nat → World → Prop) (W : World)
    (hBf : Box2 W Bf 24 (.int .i64 T) (.int .i64 B)) (hBb : Boxed W Bb 3 (.int .i64 b)) (hJ : Abide (okT 24) W.heap.size J) (_hJx : Abide (okT 24) W.heap.size Jx)
    (hN : ∀ k W1, J k W1 → k < N)
    (hY : ∀ k W1, J k W1 → YieldAt Fence.wide (n - 1) Try.prog l (itArgs b T B k) W1 fun e W' => (e = .returned (.bool true) ∧ J (k + 1) W' ∧ KeepsT 24 Bb W1 W') ∨ (e = .returned (.bool false) ∧ Jx k W'))
    (h0 : J 0 W) :
    CallsIn Fence.wide n Try.prog 33 #[.func (.yield l) #[] #[], .pointer (some ⟨Bf, 0, none⟩), .pointer (some ⟨Bb, 0, none⟩)] W fun e W' => (∃ v, e = .returned v) ∧ ∃ k, Jx k W' := by
  have HG := Lib.hid hg; clear hg
  have a0 := hBf.cell0
  have a1 := hBf.cell1
  refine callsIn_of_wp Try.func33 rfl trivial ?_ rfl
  simp only [Try.ntmps33, List.size_toArray, List.length_cons, List.length_nil, Nat.reduceAdd, Nat.reduceSub, Array.replicate_succ, Array.replicate_zero, List.push_toArray, List.append_toArray, List.nil_append, List.cons_append]
  gi_wp2
  obtain ⟨R, hR⟩ : ∃ R : Nat → World → Prop, R = fun k wr => J k wr ∧ Box2 wr W.heap.size 24 (.int .i64 (frT b T B k).1) (.int .i64 (frT b T B k).2) ∧ Boxed wr Bb 3 (.int .i64 b) ∧ W.heap.size < wr.heap.size := ⟨_, rfl⟩
  have HR := Lib.hid hR; clear hR
  gi_loopw [5] (fun _ wr => ∃ k, R k wr) (fun _ wr => muK N R wr)
  case atStart =>
    refine ⟨0, ?_⟩
    rw [HR.out]
    exact ⟨hJ.alloc _ h0, Box2.newAt rfl, hBb.alloc _, by simp⟩
  case round =>
    obtain ⟨k, hk, hmu⟩ := muK_spec (N := N) hrel
    rw [HR.out] at hk
    obtain ⟨hj, hx, hb, hsz⟩ := hk
    have hkN := hN k wr hj
    have HM := Lib.hid hmu; clear hmu
    have k0 := hx.cell0
    have k1 := hx.cell1
    have kb := hb.cell
    gi_wp2_with fail
    refine ⟨trivial, (fun h => by cases h), (callsIn_wide.2 (next_fr b T B k wr hT HG.out hB h3 h4)).mono ?_⟩
    rintro e w1 ⟨rfl, hb1⟩
    have x1 := hx.later hb1
    have b1 : Boxed w1 Bb 3 (.int .i64 b) := (hb1.block Bb hb.lt).trans hb
    have hs1 := hb1.size
    have c0 := x1.cell0
    have c1 := x1.cell1
    have hlt := x1.lt
    obtain ⟨W2, hW2⟩ : ∃ W2, w1.alloc (.cells #[.int .i64 (frT b T B (k + 1)).1, .int .i64 (frT b T B (k + 1)).2] 24) = W2 := ⟨_, rfl⟩
    have hb2 : Below wr.heap.size wr W2 := by rw [← hW2]; exact hb1.alloc (by omega) _
    have hj2 : J k W2 := hJ k wr W2 none hj (grownBy_of_below hb2) (fun r e => by cases e)
    have x2 : Box2 W2 W.heap.size 24 (.int .i64 (frT b T B k).1) (.int .i64 (frT b T B k).2) := hx.later hb2
    have b2 : Boxed W2 Bb 3 (.int .i64 b) := (hb2.block Bb hb.lt).trans hb
    have z2 : Box2 W2 w1.heap.size 24 (.int .i64 (frT b T B (k + 1)).1) (.int .i64 (frT b T B (k + 1)).2) := by rw [← hW2]; exact Box2.newAt rfl
    have hs2 := hb2.size
    obtain ⟨fn, tmps, assign, body, hy, hRd⟩ := hY k W2 hj2
    unfold itArgs at hy
    have e0 := x2.cell0
    have e1 := x2.cell1
    gi_wp2_with fail
    clear hy e0 e1 hW2 c0 c1 kb k0 k1
    refine ⟨(fun h => by cases h), hRd.mono ?_⟩
    rintro e W3 (⟨rfl, hj3, hk3⟩ | ⟨rfl, hjx⟩)
    · have x3 := x2.keepT hk3
      have z3 := z2.keepT hk3
      have b3 : Boxed W3 Bb 3 (.int .i64 b) := hk3.base _ b2
      have d0 := z3.cell0
      have d1 := z3.cell1
      have e0 := x3.cell0
      have e1 := x3.cell1
      have f0 := x3.frozen0
      have f1 := x3.frozen1
      have hs3 := hk3.size
      have hbw : Bb ≠ W.heap.size := by have := hBb.lt; omega
      gi_wp2_with fail
      have hg3 := grownBy_set2 W3 W.heap.size (.int .i64 (frT b T B (k + 1)).1) (.int .i64 (frT b T B (k + 1)).2)
      have hr' : R (k + 1) ((W3.setCell ⟨W.heap.size, 0, none⟩ (.int .i64 (frT b T B (k + 1)).1)).setCell ⟨W.heap.size, 1, none⟩ (.int .i64 (frT b T B (k + 1)).2)) := by
        rw [HR.out]
        exact ⟨hJ (k + 1) W3 _ _ hj3 hg3 (fun r e => by cases e; exact ⟨Nat.le_refl _, _, x3, by simp [okT, isT]⟩), x3.set _ _, b3.kept hg3 (fun e => hbw (by cases e; rfl)), by simp; omega⟩
      go_roundw
      case rel => exact ⟨k + 1, hr'⟩
      case measure =>
        have := muK_le (N := N) hr'
        have := HM.out
        omega
    · gi_wp2_with fail
      refine bodyPost_ret (results_none rfl _ _ _) rfl ?_
      exact ⟨⟨_, rfl⟩, k, hjx⟩

theorem walk_seq (n : Nat) (b T B : Nat) (hT : T < B) (hg : Nat.gcd T B = 1) (hB : B ≤ 1000) (h3 : 2 ≤ b) (h4 : b ≤ 16) (Bf Bb : Nat) (w : World)
    (hBf : Box2 w Bf 24 (.int .i64 T) (.int .i64 B)) (hBb : Boxed w Bb 3 (.int .i64 b)) :
    SeqK Fence.wide n Try.prog 33 #[.pointer (some ⟨Bf, 0, none⟩), .pointer (some ⟨Bb, 0, none⟩)] (itArgs b T B) 24 Bb w :=
  fun l J Jx N W hW hJ hJx hN hY h0 => walk1_in n b T B hT hg hB h3 h4 Bf Bb l N J Jx W (hBf.later hW) ((hW.block Bb hBb.lt).trans hBb) hJ hJx hN hY h0

set_option maxHeartbeats 1000000 in
theorem walk_any (b t n : Int) (w : World) :
    Calls Try.prog 21 #[.agg #[.int .i64 t, .int .i64 n], .int .i64 b] w fun e w' =>
      e = .returned (.func (.func 33) #[] #[.pointer (some ⟨w.heap.size, 0, none⟩), .pointer (some ⟨w.heap.size + 1, 0, none⟩)]) ∧
      w' = (w.alloc (.cells #[.int .i64 t, .int .i64 n] 24)).alloc (.cells #[.int .i64 b] 3) := by
  go_enter Try.func21, Try.ntmps21
  go_wp2
  go_ret
  exact ⟨rfl, rfl⟩

end Go.Proofs.Ytoiofkijinlllad
