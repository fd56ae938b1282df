/-
  Chapter 4: both sides answer one thing, where the program answers what its sentence says.
-/
import Derived.Test.YtamcpoadpkgogacPartI
namespace Go.Proofs.Ytamcpoadpkgogac
open Go.RowKit

theorem colV_lt {b T B k j : Nat} (hT : T < B) (hb : 0 < b) : ∀ d i, colV b T B k j i d + k ≤ (k : Int) * (b : Int) ^ d := by
  intro d
  induction d with
  | zero => intro i; simp [colV]
  | succ d ih =>
    intro i
    have h1 := ih (i + 1)
    have h2 := colS_le (b := b) (T := T) (B := B) (k := k) (j := j) (c := i) hT hb
    have h3 : (0 : Int) ≤ (b : Int) ^ d := Int.pow_nonneg (by omega)
    have h4 : (colS b T B k j i : Int) * (b : Int) ^ d ≤ ((k : Int) * ((b : Int) - 1)) * (b : Int) ^ d := by
      refine Int.mul_le_mul_of_nonneg_right ?_ h3
      have h5 : ((k * (b - 1) : Nat) : Int) = (k : Int) * ((b : Int) - 1) := by rw [Int.natCast_mul, Int.natCast_sub (by omega)]; rfl
      rw [← h5]; omega
    show (colS b T B k j i : Int) * (b : Int) ^ d + colV b T B k j (i + 1) d + k ≤ (k : Int) * (b : Int) ^ (d + 1)
    have h6 : (k : Int) * (b : Int) ^ (d + 1) = ((k : Int) * ((b : Int) - 1)) * (b : Int) ^ d + (k : Int) * (b : Int) ^ d := by
      rw [Int.pow_succ]; grind
    omega

theorem dgs_some {b : Nat} (hb : 2 ≤ b) : ∀ (n : Nat) (S : Int), 0 ≤ S → S < (b : Int) ^ n → ∃ L, IsDgs b S L ∧ L.length ≤ n := by
  intro n
  induction n with
  | zero =>
    intro S h0 h1
    obtain rfl : S = 0 := by simp at h1; omega
    exact ⟨[], ⟨fun x hx => by simp at hx, rfl, fun x r e => by simp at e⟩, Nat.le_refl _⟩
  | succ n ih =>
    intro S h0 h1
    have hbp : (0 : Int) < b := by omega
    by_cases hS : S = 0
    · subst hS
      exact ⟨[], ⟨fun x hx => by simp at hx, rfl, fun x r e => by simp at e⟩, Nat.zero_le _⟩
    · have hq : S / b < (b : Int) ^ n := Int.ediv_lt_of_lt_mul hbp (by rw [Int.pow_succ] at h1; exact h1)
      obtain ⟨L, hL, hl⟩ := ih (S / b) (Int.ediv_nonneg h0 (by omega)) hq
      have e := Int.mul_ediv_add_emod S b
      have m1 := Int.emod_nonneg S (show (b : Int) ≠ 0 by omega)
      have m2 := Int.emod_lt_of_pos S hbp
      refine ⟨L ++ [S % b], ⟨fun x hx => ?_, ?_, fun x r ex => ?_⟩, by simp; omega⟩
      · rcases List.mem_append.1 hx with h | h
        · exact hL.dg x h
        · rw [List.mem_singleton.1 h]; exact ⟨m1, m2⟩
      · rw [hor_snoc, hL.val, Int.mul_comm]; exact e
      · cases L with
        | nil =>
          have hv := hL.val
          have h5 : S / b = 0 := by rw [← hv]; rfl
          rw [h5, Int.mul_zero, Int.zero_add] at e
          simp at ex
          rw [← ex.1, e]; exact hS
        | cons y s =>
          simp at ex
          rw [← ex.1]
          exact hL.first y s rfl

theorem Prt.dgs {b T B k m : Nat} (h : Prt b T B k m) : ∃ L, L.length ≤ 3000 ∧ IsDgs b (ptS b T B k (m / k)) L := by
  have hd := h.div
  have hb := h.b2
  have h1 := colV_lt (b := b) (T := T) (B := B) (k := k) (j := m / k) h.lt (by omega) (m / k) 0
  have hj : m / k ≤ m := Nat.div_le_self _ _
  have h2 : (k : Int) ≤ (b : Int) ^ 10 := by
    have h3 : (2 : Nat) ^ 10 ≤ b ^ 10 := Nat.pow_le_pow_left hb 10
    have h4 : ((b ^ 10 : Nat) : Int) = (b : Int) ^ 10 := by simp
    rw [← h4]; omega
  have h5 : (k : Int) * (b : Int) ^ (m / k) ≤ (b : Int) ^ 10 * (b : Int) ^ (m / k) := Int.mul_le_mul_of_nonneg_right h2 (Int.pow_nonneg (by omega))
  rw [← Int.pow_add] at h5
  have hk := h.k1
  have hS : ptS b T B k (m / k) < (b : Int) ^ (10 + m / k) := by
    show colV b T B k (m / k) 0 (m / k) < _
    omega
  obtain ⟨L, hL, hl⟩ := dgs_some hb (10 + m / k) _ (colV_nonneg _ _ _ _ _ _ _) hS
  exact ⟨L, by omega, hL⟩








end Go.Proofs.Ytamcpoadpkgogac
