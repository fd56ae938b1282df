/-
  The round, as mathematics: it is no shorter one again and again, not all of its digits are the greatest, and it is shorter than the bottom.
-/
import Derived.Test.YtkhhkfdplbipeaaPMath2
namespace Go.Proofs.Ytkhhkfdplbipeaa
open Go.RowKit

/-- Not all digits of the round are the greatest. -/
theorem not_most {b T B n m : Nat} (hT : T < B) (hb : 2 ≤ b) (h : IsLen b T B n m) : ∃ k, k < m ∧ dig b T B (n + k) ≠ b - 1 := by
  refine Classical.byContradiction fun hno => ?_
  have all : ∀ k, k < m → dig b T B (n + k) = b - 1 := fun k hk => Classical.byContradiction fun e => hno ⟨k, hk, e⟩
  have step : ∀ k, k ≤ m → ((B : Int) - rst b T B (n + k)) = (b : Int) ^ k * ((B : Int) - rst b T B n) := by
    intro k
    induction k with
    | zero => intro _; simp
    | succ k ih =>
      intro hk
      have e := dig_split (b := b) hT (n + k)
      rw [all k (by omega)] at e
      have e' : (rst b T B (n + k) : Int) * b = B * ((b : Int) - 1) + rst b T B (n + (k + 1)) := by
        have := congrArg (Nat.cast (R := Int)) e
        simp only [Int.natCast_mul, Int.natCast_add] at this
        rw [this]
        have : ((b - 1 : Nat) : Int) = (b : Int) - 1 := by omega
        rw [this]
        rfl
      rw [Int.pow_succ, Int.mul_comm ((b : Int) ^ k) b, Int.mul_assoc, ← ih (by omega), Int.mul_sub]
      rw [Int.mul_sub, Int.mul_one, Int.mul_comm] at e'
      rw [Int.mul_comm (b : Int) B]
      omega
  have e := step m (Nat.le_refl _)
  rw [h.eq] at e
  have hr := rst_lt (b := b) hT n
  have hm := h.pos
  have hp : (2 : Int) ≤ (b : Int) ^ m := by
    obtain ⟨m', rfl⟩ : ∃ m', m = m' + 1 := ⟨m - 1, by omega⟩
    have h1 : 1 ≤ b ^ m' := Nat.one_le_pow _ _ (by omega)
    have h2 : 2 ≤ b ^ (m' + 1) := by rw [Nat.pow_succ]; exact Nat.le_trans hb (Nat.le_mul_of_pos_left _ h1)
    have := Int.ofNat_le.2 h2
    simpa using this
  have hpos : (0 : Int) < B - rst b T B n := by omega
  have := Int.mul_le_mul_of_nonneg_right hp (Int.le_of_lt hpos)
  omega

/-- Rests whose digits are the same for so many places are as far apart as a power. -/
theorem rst_diff {b T B : Nat} (hT : T < B) {i j : Nat} {m : Nat} (h : ∀ k, k < m → dig b T B (i + k) = dig b T B (j + k)) :
    ∀ k, k ≤ m → ((rst b T B (i + k) : Int) - rst b T B (j + k)) = (b : Int) ^ k * ((rst b T B i : Int) - rst b T B j) := by
  intro k
  induction k with
  | zero => intro _; simp
  | succ k ih =>
    intro hk
    have e1 := dig_split (b := b) hT (i + k)
    have e2 := dig_split (b := b) hT (j + k)
    rw [h k (by omega)] at e1
    have e1' : (rst b T B (i + k) : Int) * b = B * dig b T B (j + k) + rst b T B (i + (k + 1)) := by exact_mod_cast e1
    have e2' : (rst b T B (j + k) : Int) * b = B * dig b T B (j + k) + rst b T B (j + (k + 1)) := by exact_mod_cast e2
    rw [Int.pow_succ, Int.mul_comm ((b : Int) ^ k) b, Int.mul_assoc, ← ih (by omega), Int.mul_sub, Int.mul_comm (b : Int), Int.mul_comm (b : Int)]
    omega

/-- The round is no shorter one again and again. -/
theorem no_shorter {b T B n m j : Nat} (hT : T < B) (hb : 2 ≤ b) (h : IsLen b T B n m) (h0 : 0 < j) (hj : j < m) (hd : m % j = 0) : ∃ k, j ≤ k ∧ k < m ∧ dig b T B (n + k) ≠ dig b T B (n + (k - j)) := by
  refine Classical.byContradiction fun hno => ?_
  have all : ∀ k, j ≤ k → k < m → dig b T B (n + k) = dig b T B (n + (k - j)) := fun k h1 h2 => Classical.byContradiction fun e => hno ⟨k, h1, h2, e⟩
  -- each digit is that at its place's rest by j
  have low : ∀ k, k < m → dig b T B (n + k) = dig b T B (n + k % j) := by
    intro k
    induction k using Nat.strongRecOn with
    | ind k ih =>
      intro hk
      rcases Nat.lt_or_ge k j with hlt | hge
      · rw [Nat.mod_eq_of_lt hlt]
      · rw [all k hge hk, ih (k - j) (by omega) (by omega), ← Nat.mod_eq_sub_mod hge]
  have same : ∀ k, k < m → dig b T B (n + k) = dig b T B (n + j + k) := by
    intro k hk
    rcases Nat.lt_or_ge (k + j) m with hlt | hge
    · rw [show n + j + k = n + (k + j) by omega, all (k + j) (by omega) hlt, show k + j - j = k by omega]
    · have hp : dig b T B (n + j + k) = dig b T B (n + (k + j - m)) := by
        have := h.per (n + (k + j - m)) (by omega)
        rw [show n + (k + j - m) + m = n + j + k by omega] at this
        unfold dig; rw [this]
      rw [hp, low k hk, low (k + j - m) (by omega)]
      have hmod : k % j = (k + j - m) % j := by
        obtain ⟨q, hq⟩ := Nat.dvd_of_mod_eq_zero hd
        have e1 : (k + j - m + m) % j = (k + j - m) % j := by rw [hq, Nat.add_mul_mod_self_left]
        rw [← e1, show k + j - m + m = k + j by omega, Nat.add_mod_right]
      rw [hmod]
  have e := rst_diff hT same m (Nat.le_refl _)
  have e1 : rst b T B (n + m) = rst b T B n := h.eq
  have e2 : rst b T B (n + j + m) = rst b T B (n + j) := h.per (n + j) (by omega)
  rw [e1, e2] at e
  have hne := h.ne n (n + j) (by omega) (by omega)
  have hp : (2 : Int) ≤ (b : Int) ^ m := by
    obtain ⟨m', rfl⟩ : ∃ m', m = m' + 1 := ⟨m - 1, by omega⟩
    have h1 : 1 ≤ b ^ m' := Nat.one_le_pow _ _ (by omega)
    have h2 : 2 ≤ b ^ (m' + 1) := by rw [Nat.pow_succ]; exact Nat.le_trans hb (Nat.le_mul_of_pos_left _ h1)
    have := Int.ofNat_le.2 h2
    simpa using this
  rcases Int.lt_trichotomy ((rst b T B n : Int) - rst b T B (n + j)) 0 with h1 | h1 | h1
  · have := Int.mul_le_mul_of_nonneg_right hp (show (0 : Int) ≤ -((rst b T B n : Int) - rst b T B (n + j)) by omega)
    rw [Int.mul_neg, Int.mul_neg] at this
    omega
  · omega
  · have := Int.mul_le_mul_of_nonneg_right hp (Int.le_of_lt h1)
    omega

/-- The round is shorter than the bottom, or of one digit. -/
theorem round_short {b T B n m : Nat} (hT : T < B) (h : IsLen b T B n m) : m = 1 ∨ m < B := by
  have hle := h.le hT
  rcases Nat.lt_or_ge m B with hlt | hge
  · exact .inr hlt
  left
  have hn : n = 0 := by omega
  subst hn
  obtain rfl : m = B := by omega
  have hz : ∃ i, i < m ∧ rst b T m i = 0 := by
    refine Classical.byContradiction fun hno => ?_
    have := php (m - 1) m (fun i => rst b T m i - 1) (fun i hi => by
      have h1 := rst_lt (b := b) hT i
      have h2 : rst b T m i ≠ 0 := fun e => hno ⟨i, hi, e⟩
      show rst b T m i - 1 < m - 1
      omega) (fun i j hij hj => by
      have h1 : rst b T m i ≠ 0 := fun e => hno ⟨i, by omega, e⟩
      have h2 : rst b T m j ≠ 0 := fun e => hno ⟨j, hj, e⟩
      have h3 := h.ne i j hij (by omega)
      show rst b T m i - 1 ≠ rst b T m j - 1
      omega)
    omega
  obtain ⟨i, hi, hz⟩ := hz
  have hz1 : rst b T m (i + 1) = 0 := by show rst b T m i * b % m = 0; rw [hz]; simp
  rcases Nat.lt_or_ge (i + 1) m with hlt | hge
  · exact absurd (hz.trans hz1.symm) (h.ne i (i + 1) (by omega) (by omega))
  · obtain rfl : m = i + 1 := by omega
    have e := h.eq
    rw [Nat.zero_add, hz1] at e
    rcases Nat.eq_zero_or_pos i with h0 | h0
    · omega
    · exact absurd (e.symm.trans hz.symm) (h.ne 0 i h0 (by omega))

/-- The first k digits of the round are all the greatest. -/
def mostB (b T B n k : Nat) : Bool := decide (∀ i, i < k → dig b T B (n + i) = b - 1)

theorem mostB_false {b T B n m k : Nat} (hk : k < m) (h : dig b T B (n + k) ≠ b - 1) : mostB b T B n m = false := by
  unfold mostB; rw [decide_eq_false_iff_not]; exact fun hall => h (hall k hk)

theorem mostB_succ (b T B n i : Nat) (hb : 1 ≤ b) : mostB b T B n (i + 1) = (mostB b T B n i && ((dig b T B (n + i) : Int) == (b : Int) - 1)) := by
  unfold mostB
  rw [Bool.eq_iff_iff, Bool.and_eq_true, decide_eq_true_eq, decide_eq_true_eq, beq_iff_eq]
  constructor
  · intro h
    have := h i (by omega)
    exact ⟨fun j hj => h j (by omega), by omega⟩
  · rintro ⟨h1, h2⟩ j hj
    rcases Nat.lt_or_ge j i with hlt | hge
    · exact h1 j hlt
    · obtain rfl : j = i := by omega
      omega

/-- The digits from place j on up to k are those j places ahead, and j divides the length. -/
def agB (b T B n m j k : Nat) : Bool := decide (m % j = 0 ∧ ∀ i, i < k → j ≤ i → dig b T B (n + i) = dig b T B (n + (i - j)))

theorem agB_start (b T B n m j : Nat) (_hj : 0 < j) : agB b T B n m j j = ((m : Int) % j == 0) := by
  unfold agB
  rw [Bool.eq_iff_iff, decide_eq_true_eq, beq_iff_eq]
  constructor
  · rintro ⟨h, _⟩; omega
  · intro h; exact ⟨by omega, fun i h1 h2 => by omega⟩

theorem agB_succ {b T B n m j k : Nat} (hjk : j ≤ k) (h : agB b T B n m j k = true) : agB b T B n m j (k + 1) = ((dig b T B (n + k) : Int) == (dig b T B (n + (k - j)) : Int)) := by
  unfold agB at h ⊢
  rw [decide_eq_true_eq] at h
  rw [Bool.eq_iff_iff, decide_eq_true_eq, beq_iff_eq]
  constructor
  · rintro ⟨_, h2⟩; have := h2 k (by omega) hjk; omega
  · intro e
    refine ⟨h.1, fun i h1 h2 => ?_⟩
    rcases Nat.lt_or_ge i k with hlt | hge
    · exact h.2 i hlt h2
    · obtain rfl : i = k := by omega
      omega

theorem agB_end {b T B n m j : Nat} (hT : T < B) (hb : 2 ≤ b) (h : IsLen b T B n m) (h0 : 0 < j) (hj : j < m) : agB b T B n m j m = false := by
  unfold agB
  rw [decide_eq_false_iff_not]
  rintro ⟨hd, hall⟩
  obtain ⟨k, h1, h2, h3⟩ := no_shorter hT hb h h0 hj hd
  exact h3 (hall k h2 h1)

/-- Cells that hold the numbers of f. -/
def CellsR (W : World) (g o m : Nat) (f : Nat → Nat) : Prop := ∀ k, k < m → W.cell? ⟨g, o + k, none⟩ = some (.int .i64 (f k))

end Go.Proofs.Ytkhhkfdplbipeaa
