/-
  What the program's functions of chapter 3 answer, as one sentence each; the law's own test of primes.
  Chapter 3, the program's side where no goroutine is started: orders, units, rows of ones, products, beginnings.
-/
import Derived.Test.YtbgpdhnfaacenacOrdS
namespace Go.Proofs.Ytbgpdhnfaacenac
open Go.RowKit

def ImOf : Prop := (∀ b n : Int, prmB b n = false → GivesI 11 #[.int .i64 b, .int .i64 n] 0 false) ∧
  ∀ b n m : Nat, prmB b n = true → b ≤ 16 → 2 ≤ n → n ≤ 1000 → IsLen b 1 n 0 m → GivesI 11 #[.int .i64 b, .int .i64 n] m true



/-- Beginnings are no longer than ten. -/
theorem pow_bound {b n f s k : Nat} (hn : 2 ≤ n) (hn2 : n ≤ 1000) (hs : IsSplit b n f s) (hk : IsPow b f k) : 2 ^ k ≤ n ∧ k ≤ 9 := by
  have hfp : 0 < f := Nat.pos_of_ne_zero fun e => by have := hs.eq; rw [e, Nat.zero_mul] at this; omega
  have hsp : 0 < s := Nat.pos_of_ne_zero fun e => by have := hs.eq; rw [e, Nat.mul_zero] at this; omega
  have h1 := pow_short hfp hk
  have h2 : f ≤ n := by rw [← hs.eq]; exact Nat.le_mul_of_pos_right _ hsp
  refine ⟨by omega, ?_⟩
  rcases Nat.lt_or_ge 9 k with h | h
  · have : 2 ^ 10 ≤ 2 ^ k := Nat.pow_le_pow_right (by omega) h
    omega
  · exact h


end Go.Proofs.Ytbgpdhnfaacenac

namespace Go.Proofs.Ytbgpdhnfaacenac
open Go.RowKit

set_option maxHeartbeats 1000000 in
/-- The order, asked for by a number and a bottom: p j is the rest of the number to the power of j. -/
theorem order_any (b n m : Nat) (w : World) (hb : b ≤ 1000) (hn : 1 ≤ n) (hn2 : n ≤ 15000) (hm : 1 ≤ m) (hm2 : m ≤ 15000)
    (hno : ∀ j, 1 ≤ j → j < m → b ^ j % n ≠ 1 % n) (hyes : b ^ m % n = 1 % n) :
    Calls Try.prog 26 #[.agg #[.int .i64 b, .int .i64 n]] w fun e w' => e = .returned (.int .i64 m) ∧ Below w.heap.size w w' := by
  have hn0 : ¬ n = 0 := by omega
  have hrl : ∀ j, b ^ j % n < n := fun j => Nat.mod_lt _ (by omega)
  have h1l : 1 % n ≤ 1 := Nat.mod_le _ _
  have E1 := Lib.hid (show (1 : Int) % (n : Int) = ((1 % n : Nat) : Int) by simp)
  have HN := Lib.hid hno; have HY := Lib.hid hyes
  clear hno hyes
  go_enter Try.func26, Try.ntmps26
  go_wp2_with fail
  go_loop [3, 4] (fun k r => ∃ j : Nat, 1 ≤ j ∧ j ≤ m ∧ k = .int .i64 j ∧ r = .int .i64 ((b ^ j % n : Nat) : Int)) (fun k _ => m - (intOf k).toNat)
  case atStart => exact ⟨1, Nat.le_refl _, hm, rfl, by rw [Nat.pow_one]; simp⟩
  case round =>
    obtain ⟨j, hj1, hjm, rfl, rfl⟩ := hrel
    have hr := hrl j
    have hjs : b ^ (j + 1) % n = b ^ j % n * b % n := by rw [Nat.pow_succ, Nat.mod_mul_mod]
    by_cases hlt : j < m
    · have hne := HN.out j hj1 hlt
      have HJ := Lib.hid hjs
      clear hjs
      generalize hg : b ^ j % n = r at hne hr HJ ⊢
      clear hg
      have hne' : ¬ (r : Int) = (1 : Int) % (n : Int) := by rw [E1.out]; omega
      have m1 : 0 ≤ (r : Int) * b := Int.mul_nonneg (by omega) (by omega)
      have m2 : (r : Int) * b ≤ 15000 * 1000 := Int.mul_le_mul (by omega) (by omega) (by omega) (by omega)
      go_wp2_with fail
      refine ⟨⟨j + 1, by omega, hlt, rfl, ?_⟩, by simp [intOf]; omega⟩
      rw [HJ.out]; simp
    · obtain rfl : j = m := by omega
      rw [HY.out, ← E1.out]
      go_wp2_with fail
      go_ret
      exact ⟨rfl, (Below.refl _ _).alloc (Nat.le_refl _) _⟩

/-- The order of a base by a bottom. -/
theorem order_ord (b n m : Nat) (w : World) (hb : b ≤ 1000) (hn : 2 ≤ n) (hn2 : n ≤ 1000) (hm : IsLen b 1 n 0 m) :
    Calls Try.prog 26 #[.agg #[.int .i64 b, .int .i64 n]] w fun e w' => e = .returned (.int .i64 m) ∧ Below w.heap.size w w' := by
  have h1 : 1 % n = 1 := Nat.mod_eq_of_lt (by omega)
  refine order_any b n m w hb (by omega) (by omega) hm.pos (by have := hm.le (show 1 < n by omega); omega) (fun j hj hjm e => ?_) ?_
  · rw [h1, ← rst_one hn] at e
    exact hm.ne 0 j hj (by omega) e.symm
  · rw [h1, ← rst_one hn]
    have := hm.eq
    rw [Nat.zero_add] at this
    exact this

set_option maxHeartbeats 1000000 in
theorem imOf : ImOf := by
  constructor
  · intro b n h w
    go_enter Try.func11, Try.ntmps11
    go_wp2_with fail
    refine (roundsTold_any _ _ _).mono ?_
    rintro e w1 ⟨rfl, rfl⟩
    rw [h]
    go_wp2_with fail
    go_ret2
    exact ⟨rfl, Below.refl _ _⟩
  · intro b n m h h4 hn hn2 hm w
    go_enter Try.func11, Try.ntmps11
    go_wp2_with fail
    refine (roundsTold_any _ _ _).mono ?_
    rintro e w1 ⟨rfl, rfl⟩
    rw [h]
    go_wp2_with fail
    refine (order_ord b n m _ (by omega) hn hn2 hm).mono ?_
    rintro e w2 ⟨rfl, hb2⟩
    go_wp2_with fail
    go_ret2
    exact ⟨rfl, hb2⟩







end Go.Proofs.Ytbgpdhnfaacenac
