/-
  The program's iterator over rests: it hands out the rests of a fraction, without end.
-/
import Derived.Test.YtamcpoadpkgogabGWlk
namespace Go.Proofs.Ytamcpoadpkgogab
open Go.RowKit

attribute [local go_sem] Oper.semAt_some

/-- What the iterator hands out in round k. -/
def rsArgs (b T B k : Nat) : Array Value := #[.int .i64 (rst b T B k)]

set_option maxRecDepth 100000 in
set_option maxHeartbeats 1000000 in
theorem rests1_in (n : Nat) (b T B : Nat) (hT : T < B) (hB : B ≤ 1000) (h3 : 2 ≤ b) (h4 : b ≤ 16) (Bf Bb l N : Nat) (J Jx : Nat → World → Prop) (W : World)
    (hBf : Box2 W Bf 26 (.int .i64 T) (.int .i64 B)) (hBb : Boxed W Bb 3 (.int .i64 b)) (_hJ : Abide (okT 26) W.heap.size J) (_hJx : Abide (okT 26) W.heap.size Jx)
    (hN : ∀ k W1, J k W1 → k < N)
    (hY : ∀ k W1, J k W1 → YieldAt Fence.wide (n - 1) Try.prog l (rsArgs b T B k) W1 fun e W' => (e = .returned (.bool true) ∧ J (k + 1) W' ∧ KeepsT 26 Bb W1 W') ∨ (e = .returned (.bool false) ∧ Jx k W'))
    (h0 : J 0 W) :
    CallsIn Fence.wide n Try.prog 62 #[.func (.yield l) #[] #[], .pointer (some ⟨Bf, 0, none⟩), .pointer (some ⟨Bb, 0, none⟩)] W fun e W' => (∃ v, e = .returned v) ∧ ∃ k, Jx k W' := by
  have a0 := hBf.cell0
  have a1 := hBf.cell1
  refine callsIn_of_wp Try.func62 rfl trivial ?_ rfl
  simp only [Try.ntmps62, List.size_toArray, List.length_cons, List.length_nil, Nat.reduceAdd, Nat.reduceSub, Array.replicate_succ, Array.replicate_zero, List.push_toArray, List.append_toArray, List.nil_append, List.cons_append]
  gi_wp2
  obtain ⟨R, hR⟩ : ∃ R : Value → Nat → World → Prop, R = fun r k wr => r = .int .i64 (rst b T B k) ∧ J k wr ∧ Box2 wr Bf 26 (.int .i64 T) (.int .i64 B) ∧ Boxed wr Bb 3 (.int .i64 b) := ⟨_, rfl⟩
  have HR := Lib.hid hR; clear hR
  gi_loopw [4] (fun r wr => ∃ k, R r k wr) (fun r wr => muK N (R r) wr)
  case atStart =>
    refine ⟨0, ?_⟩
    rw [HR.out]
    exact ⟨rfl, h0, hBf, hBb⟩
  case round =>
    rename_i r
    obtain ⟨k, hk, hmu⟩ := muK_spec (N := N) hrel
    have HM := Lib.hid hmu; clear hmu
    rw [HR.out] at hk
    obtain ⟨rfl, hj, hx, hb⟩ := hk
    have hkN := hN k wr hj
    obtain ⟨m1, m2⟩ := mul_bd (rst b T B k) b B (by omega) (by have := rst_lt (b := b) hT k; omega) (by omega) (by omega) (by omega)
    obtain ⟨fn, tmps, assign, body, hy, hRd⟩ := hY k wr hj
    unfold rsArgs at hy
    gi_wp2_with fail
    clear hy
    refine ⟨(fun h => by cases h), hRd.mono ?_⟩
    rintro e W3 (⟨rfl, hj3, hk3⟩ | ⟨rfl, hjx⟩)
    · have x3 := hx.keepT hk3
      have b3 : Boxed W3 Bb 3 (.int .i64 b) := hk3.base _ hb
      have e0 := x3.cell0
      have e1 := x3.cell1
      have kb := b3.cell
      have i5 : ¬ B = 0 := by omega
      gi_wp2_with fail
      have hr' : R (.int .i64 (rst b T B (k + 1))) (k + 1) W3 := by
        rw [HR.out]
        exact ⟨rfl, hj3, x3, b3⟩
      have ek : ((rst b T B (k + 1) : Nat) : Int) = (rst b T B k : Int) * b % B := by rw [show rst b T B (k + 1) = rst b T B k * b % B from rfl]; simp
      rw [ek] at hr'
      go_roundw
      case rel => exact ⟨k + 1, hr'⟩
      case measure =>
        have h1 := muK_le (N := N) hr'
        have h2 := HM.out
        omega
    · gi_wp2_with fail
      go_end0
      exact ⟨⟨_, rfl⟩, k, hjx⟩

theorem rests_seq (n : Nat) (b T B : Nat) (hT : T < B) (hB : B ≤ 1000) (h3 : 2 ≤ b) (h4 : b ≤ 16) (Bf Bb : Nat) (w : World)
    (hBf : Box2 w Bf 26 (.int .i64 T) (.int .i64 B)) (hBb : Boxed w Bb 3 (.int .i64 b)) :
    SeqK Fence.wide n Try.prog 62 #[.pointer (some ⟨Bf, 0, none⟩), .pointer (some ⟨Bb, 0, none⟩)] (rsArgs b T B) 26 Bb w :=
  fun l J Jx N W hW hJ hJx hN hY h0 => rests1_in n b T B hT hB h3 h4 Bf Bb l N J Jx W (hBf.later hW) ((hW.block Bb hBb.lt).trans hBb) hJ hJx hN hY h0

set_option maxHeartbeats 1000000 in
theorem rests_any (b t n : Int) (w : World) :
    Calls Try.prog 61 #[.agg #[.int .i64 t, .int .i64 n], .int .i64 b] w fun e w' =>
      e = .returned (.func (.func 62) #[] #[.pointer (some ⟨w.heap.size, 0, none⟩), .pointer (some ⟨w.heap.size + 1, 0, none⟩)]) ∧
      w' = (w.alloc (.cells #[.int .i64 t, .int .i64 n] 26)).alloc (.cells #[.int .i64 b] 3) := by
  go_enter Try.func61, Try.ntmps61
  go_wp2
  go_ret
  exact ⟨rfl, rfl⟩

end Go.Proofs.Ytamcpoadpkgogab
