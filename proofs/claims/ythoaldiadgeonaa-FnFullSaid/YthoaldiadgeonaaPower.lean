/-
  Powers by a bottom, lowest terms, the fraction behind k digits.
-/
import Derived.Test.YthoaldiadgeonaaNext
import Derived.Deep.RegionWith
import Derived.Deep.RegionHeld3
namespace Go.Proofs.Ythoaldiadgeonaa
open Go.RowKit

theorem pow_even (r s j n : Nat) (h : j % 2 = 0) : r * (s * s % n) ^ (j / 2) % n = r * s ^ j % n := by
  rw [Nat.mul_mod, ← Nat.pow_mod, ← Nat.mul_mod, ← Nat.pow_two, ← Nat.pow_mul, show 2 * (j / 2) = j by omega]

theorem pow_odd (r s j n : Nat) (h : j % 2 = 1) : (r * s % n) * (s * s % n) ^ (j / 2) % n = r * s ^ j % n := by
  rw [Nat.mul_mod, Nat.mod_mod, ← Nat.pow_mod, ← Nat.mul_mod, ← Nat.pow_two, ← Nat.pow_mul, Nat.mul_assoc, Nat.mul_comm s, ← Nat.pow_succ, show (2 * (j / 2)).succ = j by omega]

theorem rst_pow (b T B k : Nat) : rst b T B k % B = T * b ^ k % B := by
  induction k with
  | zero => simp [rst]
  | succ k ih =>
    show rst b T B k * b % B % B = _
    rw [Nat.mod_mod, Nat.mul_mod, ih, ← Nat.mul_mod, Nat.pow_succ, Nat.mul_assoc]

theorem rst_pow' {b T B : Nat} (hT : T < B) (k : Nat) : rst b T B k = T * (b ^ k % B) % B := by
  rw [← Nat.mod_eq_of_lt (rst_lt (b := b) hT k), rst_pow, Nat.mul_mod_mod]

/-- A power's rest, kept as one word. -/
def pwr (b k n : Nat) : Nat := b ^ k % n


/-- Lowest terms of a rest are the fraction on the way. -/
theorem low_rst {b T B : Nat} (hT : T < B) (hg : Nat.gcd T B = 1) (k : Nat) :
    rst b T B k / Nat.gcd (rst b T B k) B = (frT b T B k).1 ∧ B / Nat.gcd (rst b T B k) B = (frT b T B k).2 := by
  have h := fr_ok (b := b) hT hg k
  have hB : 0 < B := by omega
  have hgp : 0 < Nat.gcd (rst b T B k) B := Nat.gcd_pos_of_pos_right _ hB
  have h' : FrOk T B (rst b T B k) (rst b T B k / Nat.gcd (rst b T B k) B) (B / Nat.gcd (rst b T B k) B) := by
    refine ⟨Nat.div_pos (Nat.le_of_dvd hB (Nat.gcd_dvd_right _ _)) hgp, Nat.div_dvd_of_dvd (Nat.gcd_dvd_right _ _), ?_, ?_, ?_⟩
    · rw [Nat.gcd_div (Nat.gcd_dvd_left _ _) (Nat.gcd_dvd_right _ _), Nat.div_self hgp]
    · rw [Nat.div_div_self (Nat.gcd_dvd_right _ _) (by omega), Nat.div_mul_cancel (Nat.gcd_dvd_left _ _)]
    · exact Nat.div_lt_div_of_lt_of_dvd (Nat.gcd_dvd_right _ _) (rst_lt hT k)
  exact fr_unique hB h' h




end Go.Proofs.Ythoaldiadgeonaa
