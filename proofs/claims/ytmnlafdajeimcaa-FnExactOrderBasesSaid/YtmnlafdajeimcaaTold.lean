/-
  A base and a fraction are told: the program's test and the model's.
-/
import Derived.Test.YtmnlafdajeimcaaIn
import Derived.Test.YtmnlafdajeimcaaNum
namespace Go.Proofs.Ytmnlafdajeimcaa
open Go.RowKit

/-- The test of a base and a fraction, as a Bool that the walk does not open. -/
def tldB (b t n : Int) : Bool := decide (2 ≤ b ∧ b ≤ 16) && finB t n

theorem tld_nat {b t n : Int} (h : tldB b t n = true) : ∃ b' T B : Nat, b = b' ∧ t = T ∧ n = B ∧ 2 ≤ b' ∧ b' ≤ 16 ∧ T < B ∧ B ≤ 1000 ∧ Nat.gcd T B = 1 := by
  unfold tldB at h
  rw [Bool.and_eq_true, decide_eq_true_eq, finB_iff] at h
  obtain ⟨⟨h1, h2⟩, h3, h4, h5, h6, h7⟩ := h
  obtain ⟨b', rfl⟩ := Int.eq_ofNat_of_zero_le (show 0 ≤ b by omega)
  obtain ⟨T, rfl⟩ := Int.eq_ofNat_of_zero_le h5
  obtain ⟨B, rfl⟩ := Int.eq_ofNat_of_zero_le (show 0 ≤ n by omega)
  refine ⟨b', T, B, rfl, rfl, rfl, by omega, by omega, by omega, by omega, ?_⟩
  unfold gcdI at h7; simp at h7; omega



end Go.Proofs.Ytmnlafdajeimcaa
