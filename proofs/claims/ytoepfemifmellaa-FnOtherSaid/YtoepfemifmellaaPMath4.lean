/-
  The other fraction's digits, as mathematics.
-/
import Derived.Test.YtoepfemifmellaaPMath2
namespace Go.Proofs.Ytoepfemifmellaa
open Go.RowKit

theorem dig_split' {b T B : Nat} (i : Nat) : rst b T B i * b = B * dig b T B i + rst b T B (i + 1) := by
  have : rst b T B (i + 1) = rst b T B i * b % B := rfl
  rw [this]; exact (Nat.div_add_mod _ _).symm

/-- Where a rest is 0, the round is 0 alone. -/
theorem end_of_zero {b T B n m i : Nat} (h : IsLen b T B n m) (h0 : rst b T B i = 0) : decide (m = 1 ∧ dig b T B n = 0) = true := by
  have hz : ∀ k, rst b T B (i + k) = 0 := by
    intro k
    induction k with
    | zero => exact h0
    | succ k ih => show rst b T B (i + k) * b % B = 0; rw [ih]; simp
  have hm := h.pos
  -- a place in the round that is behind i
  have hn : rst b T B n = 0 := by
    have e := h.per_mul n (i + 1) (Nat.le_refl _)
    have hge : i ≤ n + (i + 1) * m := by
      have : i + 1 ≤ (i + 1) * m := Nat.le_mul_of_pos_right _ hm
      omega
    obtain ⟨k, hk⟩ := Nat.exists_eq_add_of_le hge
    rw [hk, hz k] at e
    exact e.symm
  have hn1 : rst b T B (n + 1) = 0 := by show rst b T B n * b % B = 0; rw [hn]; simp
  rw [decide_eq_true_eq]
  refine ⟨?_, by unfold dig; rw [hn]; simp⟩
  rcases Nat.lt_or_ge 1 m with h1 | h1
  · exact absurd (hn.trans hn1.symm) (h.ne n (n + 1) (by omega) (by omega))
  · omega

/-- The other fraction's rests and digits, where no rest is 0. -/
theorem other_rst {b T B : Nat} (hT : T < B) (hb : 2 ≤ b) (hz : ∀ i, rst b T B i ≠ 0) : ∀ i, rst b (B - T) B i = B - rst b T B i := by
  intro i
  induction i with
  | zero => rfl
  | succ i ih =>
    have e := dig_split' (b := b) (T := T) (B := B) i
    have hr := rst_lt (b := b) hT i
    have hr1 := rst_lt (b := b) hT (i + 1)
    have h1 := hz (i + 1)
    show rst b (B - T) B i * b % B = _
    rw [ih]
    -- (B - r) * b = B * (b - 1 - d) + (B - r')
    have hd : dig b T B i < b := Nat.div_lt_of_lt_mul (Nat.mul_lt_mul_of_pos_right hr (by omega))
    have key : (B - rst b T B i) * b = B * (b - 1 - dig b T B i) + (B - rst b T B (i + 1)) := by
      obtain ⟨s, hs⟩ : ∃ s, B = rst b T B i + s := ⟨B - rst b T B i, by omega⟩
      obtain ⟨q, hq⟩ : ∃ q, b = dig b T B i + 1 + q := ⟨b - dig b T B i - 1, by omega⟩
      have e1 : b - 1 - dig b T B i = q := by omega
      have e2 : B * b = rst b T B i * b + (B - rst b T B i) * b := by rw [← Nat.add_mul]; congr 1; omega
      have e3 : B * b = B * dig b T B i + B + B * q := by
        have : B * b = B * (dig b T B i + 1 + q) := by rw [← hq]
        rw [this, Nat.mul_add, Nat.mul_add, Nat.mul_one]
      rw [e1]
      omega
    rw [key, Nat.mul_add_mod]
    exact Nat.mod_eq_of_lt (by omega)

theorem other_dig {b T B : Nat} (hT : T < B) (hb : 2 ≤ b) (hz : ∀ i, rst b T B i ≠ 0) (i : Nat) : dig b T B i + dig b (B - T) B i = b - 1 := by
  have e := dig_split' (b := b) (T := T) (B := B) i
  have e' := dig_split' (b := b) (T := B - T) (B := B) i
  rw [other_rst hT hb hz i, other_rst hT hb hz (i + 1)] at e'
  have hr := rst_lt (b := b) hT i
  have hr1 := rst_lt (b := b) hT (i + 1)
  have h1 := hz (i + 1)
  have hB : 0 < B := by omega
  have e2 : B * b = rst b T B i * b + (B - rst b T B i) * b := by rw [← Nat.add_mul]; congr 1; omega
  have e3 : B * b = B * (dig b T B i + dig b (B - T) B i + 1) := by
    rw [Nat.mul_add, Nat.mul_add, Nat.mul_one]; omega
  have := Nat.eq_of_mul_eq_mul_left hB e3
  omega

theorem fin_other {T B : Nat} (h : finB T B = true) (h0 : 0 < T) : finB ((B - T : Nat) : Int) B = true ∧ Nat.gcd (B - T) B = 1 ∧ B - T < B := by
  rw [finB_iff] at h
  obtain ⟨h1, h2, h3, h4, h5⟩ := h
  rw [gcdI_nat] at h5
  have hg : Nat.gcd T B = 1 := by omega
  have hg' : Nat.gcd (B - T) B = 1 := by
    rw [Nat.gcd_self_sub_left (by omega), hg]
  refine ⟨?_, hg', by omega⟩
  rw [finB_iff, gcdI_nat]
  refine ⟨by omega, by omega, by omega, by omega, by omega⟩

end Go.Proofs.Ytoepfemifmellaa
