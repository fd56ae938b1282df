/-
  Rings: the model's side: rings that are found; full primes; the least turn.
-/
import Derived.Test.YtamcpoadpkgogadTurnT
import Derived.Test.YtamcpoadpkgogadRed
import Derived.Test.YtamcpoadpkgogadOrdS
import Derived.Test.YtamcpoadpkgogadGRnd
namespace Go.Proofs.Ytamcpoadpkgogad
open Go.RowKit

theorem rndL_dig (b T B m : Nat) : rndL b T B 0 m = digL b T B m := by unfold rndL; rw [List.drop_zero, Nat.zero_add]

theorem red_of {T B g : Nat} (hg : 0 < g) (h : Nat.gcd T B = 1) : ((T * g : Nat) : Int) / gcdI ((T * g : Nat) : Int) ((B * g : Nat) : Int) = T ∧ ((B * g : Nat) : Int) / gcdI ((T * g : Nat) : Int) ((B * g : Nat) : Int) = B := by
  rw [gcdI_nat, Nat.gcd_mul_right, h, Nat.one_mul]
  have e1 : ((T * g : Nat) : Int) / (g : Int) = ((T * g / g : Nat) : Int) := rfl
  have e2 : ((B * g : Nat) : Int) / (g : Int) = ((B * g / g : Nat) : Int) := rfl
  rw [e1, e2, Nat.mul_div_cancel T hg, Nat.mul_div_cancel B hg]
  exact ⟨rfl, rfl⟩

/-- What is found: the reduced fraction, its round. -/
theorem find_some {b k d : Int} (h : findB b k d = true) : ∃ b' k' d' g T B m : Nat, b = b' ∧ k = k' ∧ d = d' ∧ 2 ≤ b' ∧ b' ≤ 16 ∧ 1 ≤ k' ∧ k' < b' ∧ 1 ≤ d' ∧ d' < b' ∧ T * g = d' ∧ B * g = k' * b' - 1 ∧ T < B ∧ Nat.gcd T B = 1 ∧ IsLen b' T B 0 m ∧ 0 < g ∧ k' * b' ≤ 240 := by
  unfold findB at h
  rw [Bool.and_eq_true, Bool.and_eq_true, Bool.and_eq_true, decide_eq_true_eq, decide_eq_true_eq, decide_eq_true_eq, decide_eq_true_eq] at h
  obtain ⟨h1, h2, h3, h4⟩ := h
  obtain ⟨b, rfl⟩ := Int.eq_ofNat_of_zero_le (show 0 ≤ b by omega)
  obtain ⟨k, rfl⟩ := Int.eq_ofNat_of_zero_le (show 0 ≤ k by omega)
  obtain ⟨d, rfl⟩ := Int.eq_ofNat_of_zero_le (show 0 ≤ d by omega)
  have e : (k : Int) * b = ((k * b : Nat) : Int) := by simp
  rw [e] at h4
  have hkb : 1 ≤ k * b := Nat.mul_pos (by omega) (by omega)
  have hkb2 : k * b ≤ 15 * 16 := Nat.mul_le_mul (by omega) (by omega)
  have hM : 0 < k * b - 1 := by omega
  have hg : 0 < Nat.gcd d (k * b - 1) := Nat.gcd_pos_of_pos_right _ hM
  have hT := Nat.div_mul_cancel (Nat.gcd_dvd_left d (k * b - 1))
  have hB := Nat.div_mul_cancel (Nat.gcd_dvd_right d (k * b - 1))
  have hc : Nat.gcd (d / Nat.gcd d (k * b - 1)) ((k * b - 1) / Nat.gcd d (k * b - 1)) = 1 := by rw [Nat.gcd_div (Nat.gcd_dvd_left _ _) (Nat.gcd_dvd_right _ _)]; exact Nat.div_self hg
  have hlt : d / Nat.gcd d (k * b - 1) < (k * b - 1) / Nat.gcd d (k * b - 1) := Nat.div_lt_div_of_lt_of_dvd (Nat.gcd_dvd_right _ _) (by omega)
  revert hT hB hc hlt hg
  generalize Nat.gcd d (k * b - 1) = g
  generalize d / g = T
  generalize (k * b - 1) / g = B
  intro hg hT hB hc hlt
  have hbB : Nat.gcd b B = 1 := by
    have hd1 : Nat.gcd b B ∣ k * b := Nat.dvd_trans (Nat.gcd_dvd_left b B) (Nat.dvd_mul_left b k)
    have hd2 : Nat.gcd b B ∣ k * b - 1 := by rw [← hB]; exact Nat.dvd_trans (Nat.gcd_dvd_right b B) (Nat.dvd_mul_right B g)
    have hd3 : Nat.gcd b B ∣ 1 := by
      have := Nat.dvd_sub hd1 hd2
      rwa [show k * b - (k * b - 1) = 1 by omega] at this
    exact Nat.dvd_one.1 hd3
  obtain ⟨m, hm⟩ := len_zero hbB hlt hc
  exact ⟨b, k, d, g, T, B, m, rfl, rfl, rfl, by omega, by omega, by omega, by omega, by omega, by omega, hT, hB, hlt, hc, hm, hg, by omega⟩




end Go.Proofs.Ytamcpoadpkgogad
