/-
  What the program's functions of chapter 3 answer, as one sentence each; the law's own test of primes.
  Chapter 3, the program's side where no goroutine is started: orders, units, rows of ones, products, beginnings.
-/
import Derived.Test.YtehpgcgdcoahnadDoorOrdS
namespace Go.Proofs.YtehpgcgdcoahnadDoor
open Go.RowKit

def ImOf : Prop := (∀ b n : Int, prmB b n = false → GivesI 13 #[.int .i64 b, .int .i64 n] 0 false) ∧
  ∀ b n m : Nat, prmB b n = true → b ≤ 16 → 2 ≤ n → n ≤ 1000 → IsLen b 1 n 0 m → GivesI 13 #[.int .i64 b, .int .i64 n] m true



/-- Beginnings are no longer than ten. -/
theorem pow_bound {b n f s k : Nat} (hn : 2 ≤ n) (hn2 : n ≤ 1000) (hs : IsSplit b n f s) (hk : IsPow b f k) : 2 ^ k ≤ n ∧ k ≤ 9 := by
  have hfp : 0 < f := Nat.pos_of_ne_zero fun e => by have := hs.eq; rw [e, Nat.zero_mul] at this; omega
  have hsp : 0 < s := Nat.pos_of_ne_zero fun e => by have := hs.eq; rw [e, Nat.mul_zero] at this; omega
  have h1 := pow_short hfp hk
  have h2 : f ≤ n := by rw [← hs.eq]; exact Nat.le_mul_of_pos_right _ hsp
  refine ⟨by omega, ?_⟩
  rcases Nat.lt_or_ge 9 k with h | h
  · have : 2 ^ 10 ≤ 2 ^ k := Nat.pow_le_pow_right (by omega) h
    omega
  · exact h

set_option maxHeartbeats 1000000 in
theorem prime_any (n : Nat) (w : World) (hn2 : n ≤ 1000) :
    Calls Tryd.prog 14 #[.int .i64 n] w fun e w' => e = .returned (.bool (primeB n)) ∧ w = w' := by
  go_enter Tryd.func14, Tryd.ntmps14
  go_wp2_with fail
  go_loop [3] (fun x => ∃ k : Nat, 2 ≤ k ∧ k ≤ 33 ∧ x = .int .i64 k ∧ ∀ j, j < k → 2 ≤ j → n % j ≠ 0) (fun x => 40 - (intOf x).toNat)
  case atStart => exact ⟨2, by omega, by omega, rfl, fun j h1 h2 => by omega⟩
  case round =>
    obtain ⟨k, hk2, hk3, rfl, hno⟩ := hrel
    have m0 : k * k ≤ 33 * 33 := Nat.mul_le_mul hk3 hk3
    have m1 : (k : Int) * k ≤ 1089 := by have : ((k * k : Nat) : Int) ≤ 1089 := by omega
                                         simpa using this
    have m2 : 0 ≤ (k : Int) * k := Int.mul_nonneg (by omega) (by omega)
    have hk0 : ¬ k = 0 := by omega
    by_cases hle : k * k ≤ n
    · have hle' : (k : Int) * k ≤ n := by exact_mod_cast hle
      have hkn : k < n := by have : 2 * k ≤ k * k := Nat.mul_le_mul_right k hk2
                             omega
      have hk32 : k ≤ 32 := by
        rcases Nat.lt_or_ge 32 k with h | h
        · have : 33 * 33 ≤ k * k := Nat.mul_le_mul h h
          omega
        · exact h
      by_cases hm : n % k = 0
      · have HP := Lib.hid (not_prime hk2 hkn hm)
        have hm' : (n : Int) % k = 0 := by omega
        clear hno
        go_wp2_with fail
        go_ret
        exact ⟨ret_bool HP.out.symm, rfl⟩
      · have hm' : ¬ (n : Int) % k = 0 := by omega
        have HN := Lib.hid hno
        clear hno
        go_wp2_with fail
        refine ⟨⟨k + 1, by omega, by omega, rfl, fun j h1 h2 => ?_⟩, by simp [intOf]; omega⟩
        rcases Nat.lt_or_ge j k with h | h
        · exact HN.out j h h2
        · obtain rfl : j = k := by omega
          exact hm
    · have hle' : ¬ (k : Int) * k ≤ n := by intro h; exact hle (by exact_mod_cast h)
      have HP : Hid (primeB n = decide ((1 : Int) < n)) := by
        by_cases h2 : 2 ≤ n
        · unfold Hid
          rw [prime_root h2 hno (by omega)]
          exact (decide_eq_true (by omega)).symm
        · unfold Hid primeB
          rw [decide_eq_decide]
          constructor
          · rintro ⟨h, _⟩; omega
          · intro h; omega
      clear hno
      go_wp2_with fail
      go_ret
      exact ⟨ret_bool (by rw [HP.out]), rfl⟩

end Go.Proofs.YtehpgcgdcoahnadDoor

namespace Go.Proofs.YtehpgcgdcoahnadDoor
open Go.RowKit

set_option maxHeartbeats 1000000 in
/-- The order, asked for by a number and a bottom: p j is the rest of the number to the power of j. -/
theorem order_any (b n m : Nat) (w : World) (hb : b ≤ 1000) (hn : 1 ≤ n) (hn2 : n ≤ 15000) (hm : 1 ≤ m) (hm2 : m ≤ 15000)
    (hno : ∀ j, 1 ≤ j → j < m → b ^ j % n ≠ 1 % n) (hyes : b ^ m % n = 1 % n) :
    Calls Tryd.prog 28 #[.agg #[.int .i64 b, .int .i64 n]] w fun e w' => e = .returned (.int .i64 m) ∧ Below w.heap.size w w' := by
  have hn0 : ¬ n = 0 := by omega
  have hrl : ∀ j, b ^ j % n < n := fun j => Nat.mod_lt _ (by omega)
  have h1l : 1 % n ≤ 1 := Nat.mod_le _ _
  have E1 := Lib.hid (show (1 : Int) % (n : Int) = ((1 % n : Nat) : Int) by simp)
  have HN := Lib.hid hno; have HY := Lib.hid hyes
  clear hno hyes
  go_enter Tryd.func28, Tryd.ntmps28
  go_wp2_with fail
  go_loop [3, 4] (fun k r => ∃ j : Nat, 1 ≤ j ∧ j ≤ m ∧ k = .int .i64 j ∧ r = .int .i64 ((b ^ j % n : Nat) : Int)) (fun k _ => m - (intOf k).toNat)
  case atStart => exact ⟨1, Nat.le_refl _, hm, rfl, by rw [Nat.pow_one]; simp⟩
  case round =>
    obtain ⟨j, hj1, hjm, rfl, rfl⟩ := hrel
    have hr := hrl j
    have hjs : b ^ (j + 1) % n = b ^ j % n * b % n := by rw [Nat.pow_succ, Nat.mod_mul_mod]
    by_cases hlt : j < m
    · have hne := HN.out j hj1 hlt
      have HJ := Lib.hid hjs
      clear hjs
      generalize hg : b ^ j % n = r at hne hr HJ ⊢
      clear hg
      have hne' : ¬ (r : Int) = (1 : Int) % (n : Int) := by rw [E1.out]; omega
      have m1 : 0 ≤ (r : Int) * b := Int.mul_nonneg (by omega) (by omega)
      have m2 : (r : Int) * b ≤ 15000 * 1000 := Int.mul_le_mul (by omega) (by omega) (by omega) (by omega)
      go_wp2_with fail
      refine ⟨⟨j + 1, by omega, hlt, rfl, ?_⟩, by simp [intOf]; omega⟩
      rw [HJ.out]; simp
    · obtain rfl : j = m := by omega
      rw [HY.out, ← E1.out]
      go_wp2_with fail
      go_ret
      exact ⟨rfl, (Below.refl _ _).alloc (Nat.le_refl _) _⟩

/-- The order of a base by a bottom. -/
theorem order_ord (b n m : Nat) (w : World) (hb : b ≤ 1000) (hn : 2 ≤ n) (hn2 : n ≤ 1000) (hm : IsLen b 1 n 0 m) :
    Calls Tryd.prog 28 #[.agg #[.int .i64 b, .int .i64 n]] w fun e w' => e = .returned (.int .i64 m) ∧ Below w.heap.size w w' := by
  have h1 : 1 % n = 1 := Nat.mod_eq_of_lt (by omega)
  refine order_any b n m w hb (by omega) (by omega) hm.pos (by have := hm.le (show 1 < n by omega); omega) (fun j hj hjm e => ?_) ?_
  · rw [h1, ← rst_one hn] at e
    exact hm.ne 0 j hj (by omega) e.symm
  · rw [h1, ← rst_one hn]
    have := hm.eq
    rw [Nat.zero_add] at this
    exact this

set_option maxHeartbeats 1000000 in
theorem imOf : ImOf := by
  constructor
  · intro b n h w
    go_enter Tryd.func13, Tryd.ntmps13
    go_wp2_with fail
    refine (roundsTold_any _ _ _).mono ?_
    rintro e w1 ⟨rfl, rfl⟩
    rw [h]
    go_wp2_with fail
    go_ret2
    exact ⟨rfl, Below.refl _ _⟩
  · intro b n m h h4 hn hn2 hm w
    go_enter Tryd.func13, Tryd.ntmps13
    go_wp2_with fail
    refine (roundsTold_any _ _ _).mono ?_
    rintro e w1 ⟨rfl, rfl⟩
    rw [h]
    go_wp2_with fail
    refine (order_ord b n m _ (by omega) hn hn2 hm).mono ?_
    rintro e w2 ⟨rfl, hb2⟩
    go_wp2_with fail
    go_ret2
    exact ⟨rfl, hb2⟩







end Go.Proofs.YtehpgcgdcoahnadDoor
