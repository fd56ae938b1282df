/-
  A base and a fraction that are drawn.
-/
import Derived.Test.YtmpbbflolbakhaaGreatDoorNext
namespace Go.Proofs.YtmpbbflolbakhaaGreatDoor
open Go.RowKit

/-- A base and a fraction that are drawn: whole numbers, not too great. -/
def Drw (b t n : Int) : Prop := 2 ≤ b ∧ b ≤ 31 ∧ 0 ≤ t ∧ t < n ∧ n ≤ 202

theorem Drw.nat {b t n : Int} (h : Drw b t n) : ∃ b' T B : Nat, b = b' ∧ t = T ∧ n = B ∧ 2 ≤ b' ∧ b' ≤ 31 ∧ T < B ∧ B ≤ 202 := by
  obtain ⟨h1, h2, h3, h4, h5⟩ := h
  obtain ⟨b', rfl⟩ := Int.eq_ofNat_of_zero_le (show 0 ≤ b by omega)
  obtain ⟨T, rfl⟩ := Int.eq_ofNat_of_zero_le h3
  obtain ⟨B, rfl⟩ := Int.eq_ofNat_of_zero_le (show 0 ≤ n by omega)
  exact ⟨b', T, B, rfl, rfl, rfl, by omega, by omega, by omega, by omega⟩

theorem red_bd {t n : Int} (h0 : 0 ≤ t) (h1 : t < n) : 0 ≤ t / gcdI t n ∧ t / gcdI t n < n / gcdI t n ∧ n / gcdI t n ≤ n := by
  obtain ⟨a, rfl⟩ := Int.eq_ofNat_of_zero_le h0
  obtain ⟨b, rfl⟩ := Int.eq_ofNat_of_zero_le (show 0 ≤ n by omega)
  rw [gcdI_nat]
  have hb : 0 < b := by omega
  have hg : 0 < Nat.gcd a b := Nat.gcd_pos_of_pos_right _ hb
  have h2 : a / Nat.gcd a b < b / Nat.gcd a b := Nat.div_lt_div_of_lt_of_dvd (Nat.gcd_dvd_right _ _) (by omega)
  have h3 : b / Nat.gcd a b ≤ b := Nat.div_le_self _ _
  have e1 : (a : Int) / (Nat.gcd a b : Nat) = ((a / Nat.gcd a b : Nat) : Int) := rfl
  have e2 : (b : Int) / (Nat.gcd a b : Nat) = ((b / Nat.gcd a b : Nat) : Int) := rfl
  rw [e1, e2]
  revert h2 h3
  generalize a / Nat.gcd a b = u
  generalize b / Nat.gcd a b = v
  intro h2 h3
  omega

end Go.Proofs.YtmpbbflolbakhaaGreatDoor
