/-
  Powers by a bottom, lowest terms, the fraction behind k digits.
-/
import Derived.Test.YtoiofkijinlllabNext
import Derived.Deep.RegionWith
import Derived.Deep.RegionHeld3
namespace Go.Proofs.Ytoiofkijinlllab
open Go.RowKit

theorem pow_even (r s j n : Nat) (h : j % 2 = 0) : r * (s * s % n) ^ (j / 2) % n = r * s ^ j % n := by
  rw [Nat.mul_mod, ← Nat.pow_mod, ← Nat.mul_mod, ← Nat.pow_two, ← Nat.pow_mul, show 2 * (j / 2) = j by omega]

theorem pow_odd (r s j n : Nat) (h : j % 2 = 1) : (r * s % n) * (s * s % n) ^ (j / 2) % n = r * s ^ j % n := by
  rw [Nat.mul_mod, Nat.mod_mod, ← Nat.pow_mod, ← Nat.mul_mod, ← Nat.pow_two, ← Nat.pow_mul, Nat.mul_assoc, Nat.mul_comm s, ← Nat.pow_succ, show (2 * (j / 2)).succ = j by omega]

theorem rst_pow (b T B k : Nat) : rst b T B k % B = T * b ^ k % B := by
  induction k with
  | zero => simp [rst]
  | succ k ih =>
    show rst b T B k * b % B % B = _
    rw [Nat.mod_mod, Nat.mul_mod, ih, ← Nat.mul_mod, Nat.pow_succ, Nat.mul_assoc]

theorem rst_pow' {b T B : Nat} (hT : T < B) (k : Nat) : rst b T B k = T * (b ^ k % B) % B := by
  rw [← Nat.mod_eq_of_lt (rst_lt (b := b) hT k), rst_pow, Nat.mul_mod_mod]

/-- A power's rest, kept as one word. -/
def pwr (b k n : Nat) : Nat := b ^ k % n


/-- Lowest terms of a rest are the fraction on the way. -/
theorem low_rst {b T B : Nat} (hT : T < B) (hg : Nat.gcd T B = 1) (k : Nat) :
    rst b T B k / Nat.gcd (rst b T B k) B = (frT b T B k).1 ∧ B / Nat.gcd (rst b T B k) B = (frT b T B k).2 := by
  have h := fr_ok (b := b) hT hg k
  have hB : 0 < B := by omega
  have hgp : 0 < Nat.gcd (rst b T B k) B := Nat.gcd_pos_of_pos_right _ hB
  have h' : FrOk T B (rst b T B k) (rst b T B k / Nat.gcd (rst b T B k) B) (B / Nat.gcd (rst b T B k) B) := by
    refine ⟨Nat.div_pos (Nat.le_of_dvd hB (Nat.gcd_dvd_right _ _)) hgp, Nat.div_dvd_of_dvd (Nat.gcd_dvd_right _ _), ?_, ?_, ?_⟩
    · rw [Nat.gcd_div (Nat.gcd_dvd_left _ _) (Nat.gcd_dvd_right _ _), Nat.div_self hgp]
    · rw [Nat.div_div_self (Nat.gcd_dvd_right _ _) (by omega), Nat.div_mul_cancel (Nat.gcd_dvd_left _ _)]
    · exact Nat.div_lt_div_of_lt_of_dvd (Nat.gcd_dvd_right _ _) (rst_lt hT k)
  exact fr_unique hB h' h

set_option maxHeartbeats 1000000 in
theorem lowest_int (t n : Int) (w : World) (h0 : 0 ≤ t) (hn : 0 < n) (ht : t ≤ 100000000000) (hn2 : n ≤ 100000000000) :
    Calls Try.prog 51 #[.int .i64 t, .int .i64 n] w fun e w' =>
      e = .returned (.agg #[.int .i64 (t / gcdI t n), .int .i64 (n / gcdI t n)]) ∧ Below w.heap.size w w' := by
  have g1 := gcdI_pos_right t n (by omega)
  have q1 : 0 ≤ t / gcdI t n := Int.ediv_nonneg (by omega) (by omega)
  have q2 : t / gcdI t n ≤ 100000000000 := Int.le_trans (Int.ediv_le_self _ (by omega)) (by omega)
  have q3 : 0 ≤ n / gcdI t n := Int.ediv_nonneg (by omega) (by omega)
  have q4 : n / gcdI t n ≤ 100000000000 := Int.le_trans (Int.ediv_le_self _ (by omega)) (by omega)
  go_enter Try.func51, Try.ntmps51
  go_wp2_with (go_at_call 30; refine (commonDivisor_any _ _ _ (by omega) (by omega) (by omega) (by omega)).mono ?_; rintro e w' ⟨rfl, rfl⟩)
  go_region
  go_wp2
  refine bodyPost_ret (v := .agg #[.int .i64 (t / gcdI t n), .int .i64 (n / gcdI t n)]) (by simp [results, Try.results51, go_sem]) rfl ⟨rfl, ?_⟩
  repeat (first | exact Below.refl _ _ | refine Below.drew ?_ | refine Below.alloc ?_ (by simp; try omega) _ | refine Below.setCell ?_ (by simp; try omega) _)

theorem lowest_any (t n : Nat) (w : World) (hn : 0 < n) (ht : t ≤ 100000000000) (hn2 : n ≤ 100000000000) :
    Calls Try.prog 51 #[.int .i64 t, .int .i64 n] w fun e w' =>
      e = .returned (.agg #[.int .i64 (t / Nat.gcd t n : Nat), .int .i64 (n / Nat.gcd t n : Nat)]) ∧ Below w.heap.size w w' := by
  have h := lowest_int t n w (by omega) (by omega) (by omega) (by omega)
  rw [gcdI_nat] at h
  simpa using h


end Go.Proofs.Ytoiofkijinlllab
