/-
  Plain mathematics for the digits of fractions: no program stands here.
-/
import Derived.Below
namespace Go.Proofs.YtmpbbflolbakhaaGreatDoor
open Go

def gcdI (x y : Int) : Int := (Nat.gcd x.toNat y.toNat : Nat)

/-- The test of a fraction, as a Bool that the walk does not open. -/
def finB (t b : Int) : Bool := decide (1 ≤ b ∧ b ≤ 1000 ∧ 0 ≤ t ∧ t < b ∧ gcdI t b = 1)

theorem finB_iff (t b : Int) : finB t b = true ↔ (1 ≤ b ∧ b ≤ 1000 ∧ 0 ≤ t ∧ t < b ∧ gcdI t b = 1) := by
  unfold finB; exact decide_eq_true_iff

theorem gcdI_zero (y : Int) (h : 0 ≤ y) : gcdI 0 y = y := by
  unfold gcdI; simp; omega

theorem gcdI_comm (x y : Int) : gcdI x y = gcdI y x := by
  unfold gcdI; rw [Nat.gcd_comm]

theorem gcdI_step (x y : Int) (hx : 0 ≤ x) (hy : 0 ≤ y) : gcdI (y % x) x = gcdI x y := by
  unfold gcdI
  obtain ⟨a, rfl⟩ := Int.eq_ofNat_of_zero_le hx
  obtain ⟨b, rfl⟩ := Int.eq_ofNat_of_zero_le hy
  have : ((b : Int) % (a : Int)).toNat = b % a := by omega
  rw [this]; simp only [Int.toNat_natCast]; rw [← Nat.gcd_rec]

theorem gcdI_nonneg (x y : Int) : 0 ≤ gcdI x y := by unfold gcdI; omega

theorem gcdI_le_right (x y : Int) (hy : 0 < y) : gcdI x y ≤ y := by
  unfold gcdI
  have := Nat.gcd_le_right x.toNat (n := y.toNat) (by omega)
  omega

theorem gcdI_pos_right (x y : Int) (hy : 0 < y) : 0 < gcdI x y := by
  unfold gcdI
  have := Nat.gcd_pos_of_pos_right x.toNat (n := y.toNat) (by omega)
  omega

end Go.Proofs.YtmpbbflolbakhaaGreatDoor
