/-
  What the program's functions of chapter 3 answer, as one sentence each; the law's own test of primes.
-/
import Derived.Test.YtdeaikejfpmagaaOrdS
namespace Go.Proofs.Ytdeaikejfpmagaa
open Go.RowKit

def ImOf : Prop := (∀ b n : Int, prmB b n = false → GivesI 14 #[.int .i64 b, .int .i64 n] 0 false) ∧
  ∀ b n m : Nat, prmB b n = true → b ≤ 16 → 2 ≤ n → n ≤ 1000 → IsLen b 1 n 0 m → GivesI 14 #[.int .i64 b, .int .i64 n] m true
def ImUnits : Prop := (∀ n : Int, ¬ (2 ≤ n ∧ n ≤ 1000) → GivesI 8 #[.int .i64 n] 0 false) ∧
  ∀ n : Nat, 2 ≤ n → n ≤ 1000 → GivesI 8 #[.int .i64 n] (unC n n) true
def ImOnes : Prop := (∀ b n : Int, prmB b n = false → GivesI 12 #[.int .i64 b, .int .i64 n] 0 false) ∧
  ∀ b n k : Nat, prmB b n = true → 2 ≤ b → b ≤ 16 → 2 ≤ n → n ≤ 1000 → IsOne b n k → k < n → GivesI 12 #[.int .i64 b, .int .i64 n] ((k : Int) + 1) true
def ImSplit : Prop := (∀ b n : Int, ¬ ((2 ≤ b ∧ b ≤ 16) ∧ (2 ≤ n ∧ n ≤ 1000)) → GivesII 16 #[.int .i64 b, .int .i64 n] 0 0 false) ∧
  ∀ b n f s : Nat, 2 ≤ b → b ≤ 16 → 2 ≤ n → n ≤ 1000 → IsSplit b n f s → GivesII 16 #[.int .i64 b, .int .i64 n] f s true
def ImBegin : Prop := (∀ b n : Int, ¬ ((2 ≤ b ∧ b ≤ 16) ∧ (2 ≤ n ∧ n ≤ 1000)) → GivesI 19 #[.int .i64 b, .int .i64 n] 0 false) ∧
  ∀ b n f s k : Nat, 2 ≤ b → b ≤ 16 → 2 ≤ n → n ≤ 1000 → IsSplit b n f s → IsPow b f k → k ≤ 1000 → GivesI 19 #[.int .i64 b, .int .i64 n] k true


theorem specOrderSplit_is (b n f s : Nat) (h3 : 2 ≤ b) (h4 : b ≤ 16) (hn : 2 ≤ n) (hn2 : n ≤ 1000) (h : IsSplit b n f s) : GivesII 17 #[.int .i64 b, .int .i64 n] f s true := by
  intro w
  refine (specOrderSplit_yes b n h3 h4 hn hn2 w).mono ?_
  rintro e w1 ⟨f', s', h', rfl, hb⟩
  obtain ⟨rfl, rfl⟩ := h.unique (by omega) h'
  exact ⟨rfl, hb⟩

/-- Beginnings are no longer than ten. -/
theorem pow_bound {b n f s k : Nat} (hn : 2 ≤ n) (hn2 : n ≤ 1000) (hs : IsSplit b n f s) (hk : IsPow b f k) : 2 ^ k ≤ n ∧ k ≤ 9 := by
  have hfp : 0 < f := Nat.pos_of_ne_zero fun e => by have := hs.eq; rw [e, Nat.zero_mul] at this; omega
  have hsp : 0 < s := Nat.pos_of_ne_zero fun e => by have := hs.eq; rw [e, Nat.mul_zero] at this; omega
  have h1 := pow_short hfp hk
  have h2 : f ≤ n := by rw [← hs.eq]; exact Nat.le_mul_of_pos_right _ hsp
  refine ⟨by omega, ?_⟩
  rcases Nat.lt_or_ge 9 k with h | h
  · have : 2 ^ 10 ≤ 2 ^ k := Nat.pow_le_pow_right (by omega) h
    omega
  · exact h

set_option maxHeartbeats 1000000 in
theorem prime_any (n : Nat) (w : World) (hn2 : n ≤ 1000) :
    Calls Try.prog 10 #[.int .i64 n] w fun e w' => e = .returned (.bool (primeB n)) ∧ w = w' := by
  go_enter Try.func10, Try.ntmps10
  go_wp2_with fail
  go_loop [3] (fun x => ∃ k : Nat, 2 ≤ k ∧ k ≤ 33 ∧ x = .int .i64 k ∧ ∀ j, j < k → 2 ≤ j → n % j ≠ 0) (fun x => 40 - (intOf x).toNat)
  case atStart => exact ⟨2, by omega, by omega, rfl, fun j h1 h2 => by omega⟩
  case round =>
    obtain ⟨k, hk2, hk3, rfl, hno⟩ := hrel
    have m0 : k * k ≤ 33 * 33 := Nat.mul_le_mul hk3 hk3
    have m1 : (k : Int) * k ≤ 1089 := by have : ((k * k : Nat) : Int) ≤ 1089 := by omega
                                         simpa using this
    have m2 : 0 ≤ (k : Int) * k := Int.mul_nonneg (by omega) (by omega)
    have hk0 : ¬ k = 0 := by omega
    by_cases hle : k * k ≤ n
    · have hle' : (k : Int) * k ≤ n := by exact_mod_cast hle
      have hkn : k < n := by have : 2 * k ≤ k * k := Nat.mul_le_mul_right k hk2
                             omega
      have hk32 : k ≤ 32 := by
        rcases Nat.lt_or_ge 32 k with h | h
        · have : 33 * 33 ≤ k * k := Nat.mul_le_mul h h
          omega
        · exact h
      by_cases hm : n % k = 0
      · have HP := Lib.hid (not_prime hk2 hkn hm)
        have hm' : (n : Int) % k = 0 := by omega
        clear hno
        go_wp2_with fail
        go_ret
        exact ⟨ret_bool HP.out.symm, rfl⟩
      · have hm' : ¬ (n : Int) % k = 0 := by omega
        have HN := Lib.hid hno
        clear hno
        go_wp2_with fail
        refine ⟨⟨k + 1, by omega, by omega, rfl, fun j h1 h2 => ?_⟩, by simp [intOf]; omega⟩
        rcases Nat.lt_or_ge j k with h | h
        · exact HN.out j h h2
        · obtain rfl : j = k := by omega
          exact hm
    · have hle' : ¬ (k : Int) * k ≤ n := by intro h; exact hle (by exact_mod_cast h)
      have HP : Hid (primeB n = decide ((1 : Int) < n)) := by
        by_cases h2 : 2 ≤ n
        · unfold Hid
          rw [prime_root h2 hno (by omega)]
          exact (decide_eq_true (by omega)).symm
        · unfold Hid primeB
          rw [decide_eq_decide]
          constructor
          · rintro ⟨h, _⟩; omega
          · intro h; omega
      clear hno
      go_wp2_with fail
      go_ret
      exact ⟨ret_bool (by rw [HP.out]), rfl⟩

end Go.Proofs.Ytdeaikejfpmagaa
