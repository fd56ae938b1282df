/-
  Orders, units, rows of ones, products of a base's primes: the model's.
-/
import Derived.Test.YtamcpoadpkgogabGOrd
import Derived.Test.YtamcpoadpkgogabPower
import Derived.Test.YtamcpoadpkgogabGrown
import Derived.Test.YtamcpoadpkgogabGRnd
import Derived.Test.YtamcpoadpkgogabPrm
import Derived.Test.YtamcpoadpkgogabAns
import Derived.Maps.AppendAt
namespace Go.Proofs.Ytamcpoadpkgogab
open Go.RowKit

set_option maxHeartbeats 1000000 in
theorem l3Order_any (b n m : Nat) (w : World) (hb : b ≤ 1000) (hn : 2 ≤ n) (hn2 : n ≤ 1000) (hm : IsLen b 1 n 0 m) :
    Calls Try.prog 30 #[.int .i64 b, .int .i64 n] w fun e w' => e = .returned (.int .i64 m) ∧ w = w' := by
  go_enter Try.func30, Try.ntmps30
  go_wp2_with fail
  have h1n : (1 : Int) % (n : Int) = 1 := Int.emod_eq_of_lt (by omega) (by omega)
  have hn0 : ¬ n = 0 := by omega
  have hrst := fun k => rst_lt (b := b) (T := 1) (B := n) (by omega) k
  have HM := Lib.hid hm; clear hm
  have hp := HM.out.pos
  have hml := HM.out.le (show 1 < n by omega)
  go_loop [5, 6] (fun k r => ∃ j : Nat, 1 ≤ j ∧ j ≤ m ∧ k = .int .i64 j ∧ r = .int .i64 (rst b 1 n j)) (fun k _ => m - (intOf k).toNat)
  case atStart => exact ⟨1, Nat.le_refl _, hp, rfl, by rw [show rst b 1 n 1 = 1 * b % n from rfl, Nat.one_mul]; simp⟩
  case round =>
    obtain ⟨j, hj1, hjm, rfl, rfl⟩ := hrel
    have hr := hrst j
    by_cases hlt : j < m
    · have hne : ¬ rst b 1 n j = 1 := fun e => HM.out.ne 0 j hj1 (by omega) e.symm
      have hne' : ¬ (rst b 1 n j : Int) = 1 := by omega
      have m1 : 0 ≤ (rst b 1 n j : Int) * b := Int.mul_nonneg (by omega) (by omega)
      have m2 : (rst b 1 n j : Int) * b ≤ 1000 * 1000 := Int.mul_le_mul (by omega) (by omega) (by omega) (by omega)
      go_wp2_with fail
      refine ⟨⟨j + 1, by omega, hlt, rfl, ?_⟩, by simp [intOf]; omega⟩
      rw [show rst b 1 n (j + 1) = rst b 1 n j * b % n from rfl]; simp
    · obtain rfl : j = m := by omega
      have he : rst b 1 n j = 1 := by have := HM.out.eq; rw [Nat.zero_add] at this; exact this
      rw [he]
      go_wp2_with fail
      go_ret
      exact ⟨rfl, rfl⟩









set_option maxHeartbeats 1000000 in
theorem l3Prime_any (n : Nat) (w : World) (hn2 : n ≤ 1000) :
    Calls Try.prog 29 #[.int .i64 n] w fun e w' => e = .returned (.bool (primeB n)) ∧ w = w' := by
  go_enter Try.func29, Try.ntmps29
  go_wp2_with fail
  go_loop [3] (fun x => ∃ k : Nat, 2 ≤ k ∧ k ≤ 33 ∧ x = .int .i64 k ∧ ∀ j, j < k → 2 ≤ j → n % j ≠ 0) (fun x => 40 - (intOf x).toNat)
  case atStart => exact ⟨2, by omega, by omega, rfl, fun j h1 h2 => by omega⟩
  case round =>
    obtain ⟨k, hk2, hk3, rfl, hno⟩ := hrel
    have m0 : k * k ≤ 33 * 33 := Nat.mul_le_mul hk3 hk3
    have m1 : (k : Int) * k ≤ 1089 := by have : ((k * k : Nat) : Int) ≤ 1089 := by omega
                                         simpa using this
    have m2 : 0 ≤ (k : Int) * k := Int.mul_nonneg (by omega) (by omega)
    have hk0 : ¬ k = 0 := by omega
    by_cases hle : k * k ≤ n
    · have hle' : (k : Int) * k ≤ n := by exact_mod_cast hle
      have hkn : k < n := by have : 2 * k ≤ k * k := Nat.mul_le_mul_right k hk2
                             omega
      have hk32 : k ≤ 32 := by
        rcases Nat.lt_or_ge 32 k with h | h
        · have : 33 * 33 ≤ k * k := Nat.mul_le_mul h h
          omega
        · exact h
      by_cases hm : n % k = 0
      · have HP := Lib.hid (not_prime hk2 hkn hm)
        have hm' : (n : Int) % k = 0 := by omega
        clear hno
        go_wp2_with fail
        go_ret
        exact ⟨ret_bool HP.out.symm, rfl⟩
      · have hm' : ¬ (n : Int) % k = 0 := by omega
        have HN := Lib.hid hno
        clear hno
        go_wp2_with fail
        refine ⟨⟨k + 1, by omega, by omega, rfl, fun j h1 h2 => ?_⟩, by simp [intOf]; omega⟩
        rcases Nat.lt_or_ge j k with h | h
        · exact HN.out j h h2
        · obtain rfl : j = k := by omega
          exact hm
    · have hle' : ¬ (k : Int) * k ≤ n := by intro h; exact hle (by exact_mod_cast h)
      have HP : Hid (primeB n = decide ((1 : Int) < n)) := by
        by_cases h2 : 2 ≤ n
        · unfold Hid
          rw [prime_root h2 hno (by omega)]
          exact (decide_eq_true (by omega)).symm
        · unfold Hid primeB
          rw [decide_eq_decide]
          constructor
          · rintro ⟨h, _⟩; omega
          · intro h; omega
      clear hno
      go_wp2_with fail
      go_ret
      exact ⟨ret_bool (by rw [HP.out]), rfl⟩







end Go.Proofs.Ytamcpoadpkgogab
