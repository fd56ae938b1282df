/-
  Promises on beginnings and rounds, as mathematics: the last digits differ; a round's period.
  The round, as mathematics: it is no shorter one again and again, not all of its digits are the greatest, and it is shorter than the bottom.
  Parts of rounds: mathematics alone.
  The digits of a number; the sum of parts by its columns.
-/
import Derived.Test.YtmpbbflolbakhaaGreatDoorPMath
import Derived.Test.YtmpbbflolbakhaaGreatDoorGRnd
import Derived.Test.YtmpbbflolbakhaaGreatDoorGOrd
namespace Go.Proofs.YtmpbbflolbakhaaGreatDoor
open Go.RowKit

theorem dig_split {b T B : Nat} (_hT : T < B) (i : Nat) : rst b T B i * b = B * dig b T B i + rst b T B (i + 1) := by
  have : rst b T B (i + 1) = rst b T B i * b % B := rfl
  rw [this]; exact (Nat.div_add_mod _ _).symm

/-- The last digit of the beginning is not the last one of the round. -/
theorem last_ne {b T B n m : Nat} (hT : T < B) (h : IsLen b T B (n + 1) (m + 1)) (hb : 0 < b) : dig b T B n ≠ dig b T B (n + 1 + m) := by
  intro e
  have h1 := dig_split (b := b) hT n
  have h2 := dig_split (b := b) hT (n + 1 + m)
  have h3 : rst b T B (n + 1 + m + 1) = rst b T B (n + 1) := h.eq
  rw [← e, h3, ← h1] at h2
  exact h.ne n (n + 1 + m) (by omega) (by omega) (Nat.eq_of_mul_eq_mul_right hb h2.symm)

end Go.Proofs.YtmpbbflolbakhaaGreatDoor

namespace Go.Proofs.YtmpbbflolbakhaaGreatDoor
open Go.RowKit

/-- Not all digits of the round are the greatest. -/
theorem not_most {b T B n m : Nat} (hT : T < B) (hb : 2 ≤ b) (h : IsLen b T B n m) : ∃ k, k < m ∧ dig b T B (n + k) ≠ b - 1 := by
  refine Classical.byContradiction fun hno => ?_
  have all : ∀ k, k < m → dig b T B (n + k) = b - 1 := fun k hk => Classical.byContradiction fun e => hno ⟨k, hk, e⟩
  have step : ∀ k, k ≤ m → ((B : Int) - rst b T B (n + k)) = (b : Int) ^ k * ((B : Int) - rst b T B n) := by
    intro k
    induction k with
    | zero => intro _; simp
    | succ k ih =>
      intro hk
      have e := dig_split (b := b) hT (n + k)
      rw [all k (by omega)] at e
      have e' : (rst b T B (n + k) : Int) * b = B * ((b : Int) - 1) + rst b T B (n + (k + 1)) := by
        have := congrArg (Nat.cast (R := Int)) e
        simp only [Int.natCast_mul, Int.natCast_add] at this
        rw [this]
        have : ((b - 1 : Nat) : Int) = (b : Int) - 1 := by omega
        rw [this]
        rfl
      rw [Int.pow_succ, Int.mul_comm ((b : Int) ^ k) b, Int.mul_assoc, ← ih (by omega), Int.mul_sub]
      rw [Int.mul_sub, Int.mul_one, Int.mul_comm] at e'
      rw [Int.mul_comm (b : Int) B]
      omega
  have e := step m (Nat.le_refl _)
  rw [h.eq] at e
  have hr := rst_lt (b := b) hT n
  have hm := h.pos
  have hp : (2 : Int) ≤ (b : Int) ^ m := by
    obtain ⟨m', rfl⟩ : ∃ m', m = m' + 1 := ⟨m - 1, by omega⟩
    have h1 : 1 ≤ b ^ m' := Nat.one_le_pow _ _ (by omega)
    have h2 : 2 ≤ b ^ (m' + 1) := by rw [Nat.pow_succ]; exact Nat.le_trans hb (Nat.le_mul_of_pos_left _ h1)
    have := Int.ofNat_le.2 h2
    simpa using this
  have hpos : (0 : Int) < B - rst b T B n := by omega
  have := Int.mul_le_mul_of_nonneg_right hp (Int.le_of_lt hpos)
  omega

/-- Rests whose digits are the same for so many places are as far apart as a power. -/
theorem rst_diff {b T B : Nat} (hT : T < B) {i j : Nat} {m : Nat} (h : ∀ k, k < m → dig b T B (i + k) = dig b T B (j + k)) :
    ∀ k, k ≤ m → ((rst b T B (i + k) : Int) - rst b T B (j + k)) = (b : Int) ^ k * ((rst b T B i : Int) - rst b T B j) := by
  intro k
  induction k with
  | zero => intro _; simp
  | succ k ih =>
    intro hk
    have e1 := dig_split (b := b) hT (i + k)
    have e2 := dig_split (b := b) hT (j + k)
    rw [h k (by omega)] at e1
    have e1' : (rst b T B (i + k) : Int) * b = B * dig b T B (j + k) + rst b T B (i + (k + 1)) := by exact_mod_cast e1
    have e2' : (rst b T B (j + k) : Int) * b = B * dig b T B (j + k) + rst b T B (j + (k + 1)) := by exact_mod_cast e2
    rw [Int.pow_succ, Int.mul_comm ((b : Int) ^ k) b, Int.mul_assoc, ← ih (by omega), Int.mul_sub, Int.mul_comm (b : Int), Int.mul_comm (b : Int)]
    omega

/-- The round is no shorter one again and again. -/
theorem no_shorter {b T B n m j : Nat} (hT : T < B) (hb : 2 ≤ b) (h : IsLen b T B n m) (h0 : 0 < j) (hj : j < m) (hd : m % j = 0) : ∃ k, j ≤ k ∧ k < m ∧ dig b T B (n + k) ≠ dig b T B (n + (k - j)) := by
  refine Classical.byContradiction fun hno => ?_
  have all : ∀ k, j ≤ k → k < m → dig b T B (n + k) = dig b T B (n + (k - j)) := fun k h1 h2 => Classical.byContradiction fun e => hno ⟨k, h1, h2, e⟩
  -- each digit is that at its place's rest by j
  have low : ∀ k, k < m → dig b T B (n + k) = dig b T B (n + k % j) := by
    intro k
    induction k using Nat.strongRecOn with
    | ind k ih =>
      intro hk
      rcases Nat.lt_or_ge k j with hlt | hge
      · rw [Nat.mod_eq_of_lt hlt]
      · rw [all k hge hk, ih (k - j) (by omega) (by omega), ← Nat.mod_eq_sub_mod hge]
  have same : ∀ k, k < m → dig b T B (n + k) = dig b T B (n + j + k) := by
    intro k hk
    rcases Nat.lt_or_ge (k + j) m with hlt | hge
    · rw [show n + j + k = n + (k + j) by omega, all (k + j) (by omega) hlt, show k + j - j = k by omega]
    · have hp : dig b T B (n + j + k) = dig b T B (n + (k + j - m)) := by
        have := h.per (n + (k + j - m)) (by omega)
        rw [show n + (k + j - m) + m = n + j + k by omega] at this
        unfold dig; rw [this]
      rw [hp, low k hk, low (k + j - m) (by omega)]
      have hmod : k % j = (k + j - m) % j := by
        obtain ⟨q, hq⟩ := Nat.dvd_of_mod_eq_zero hd
        have e1 : (k + j - m + m) % j = (k + j - m) % j := by rw [hq, Nat.add_mul_mod_self_left]
        rw [← e1, show k + j - m + m = k + j by omega, Nat.add_mod_right]
      rw [hmod]
  have e := rst_diff hT same m (Nat.le_refl _)
  have e1 : rst b T B (n + m) = rst b T B n := h.eq
  have e2 : rst b T B (n + j + m) = rst b T B (n + j) := h.per (n + j) (by omega)
  rw [e1, e2] at e
  have hne := h.ne n (n + j) (by omega) (by omega)
  have hp : (2 : Int) ≤ (b : Int) ^ m := by
    obtain ⟨m', rfl⟩ : ∃ m', m = m' + 1 := ⟨m - 1, by omega⟩
    have h1 : 1 ≤ b ^ m' := Nat.one_le_pow _ _ (by omega)
    have h2 : 2 ≤ b ^ (m' + 1) := by rw [Nat.pow_succ]; exact Nat.le_trans hb (Nat.le_mul_of_pos_left _ h1)
    have := Int.ofNat_le.2 h2
    simpa using this
  rcases Int.lt_trichotomy ((rst b T B n : Int) - rst b T B (n + j)) 0 with h1 | h1 | h1
  · have := Int.mul_le_mul_of_nonneg_right hp (show (0 : Int) ≤ -((rst b T B n : Int) - rst b T B (n + j)) by omega)
    rw [Int.mul_neg, Int.mul_neg] at this
    omega
  · omega
  · have := Int.mul_le_mul_of_nonneg_right hp (Int.le_of_lt h1)
    omega

/-- The round is shorter than the bottom, or of one digit. -/
theorem round_short {b T B n m : Nat} (hT : T < B) (h : IsLen b T B n m) : m = 1 ∨ m < B := by
  have hle := h.le hT
  rcases Nat.lt_or_ge m B with hlt | hge
  · exact .inr hlt
  left
  have hn : n = 0 := by omega
  subst hn
  obtain rfl : m = B := by omega
  have hz : ∃ i, i < m ∧ rst b T m i = 0 := by
    refine Classical.byContradiction fun hno => ?_
    have := php (m - 1) m (fun i => rst b T m i - 1) (fun i hi => by
      have h1 := rst_lt (b := b) hT i
      have h2 : rst b T m i ≠ 0 := fun e => hno ⟨i, hi, e⟩
      show rst b T m i - 1 < m - 1
      omega) (fun i j hij hj => by
      have h1 : rst b T m i ≠ 0 := fun e => hno ⟨i, by omega, e⟩
      have h2 : rst b T m j ≠ 0 := fun e => hno ⟨j, hj, e⟩
      have h3 := h.ne i j hij (by omega)
      show rst b T m i - 1 ≠ rst b T m j - 1
      omega)
    omega
  obtain ⟨i, hi, hz⟩ := hz
  have hz1 : rst b T m (i + 1) = 0 := by show rst b T m i * b % m = 0; rw [hz]; simp
  rcases Nat.lt_or_ge (i + 1) m with hlt | hge
  · exact absurd (hz.trans hz1.symm) (h.ne i (i + 1) (by omega) (by omega))
  · obtain rfl : m = i + 1 := by omega
    have e := h.eq
    rw [Nat.zero_add, hz1] at e
    rcases Nat.eq_zero_or_pos i with h0 | h0
    · omega
    · exact absurd (e.symm.trans hz.symm) (h.ne 0 i h0 (by omega))

/-- The first k digits of the round are all the greatest. -/
def mostB (b T B n k : Nat) : Bool := decide (∀ i, i < k → dig b T B (n + i) = b - 1)

theorem mostB_false {b T B n m k : Nat} (hk : k < m) (h : dig b T B (n + k) ≠ b - 1) : mostB b T B n m = false := by
  unfold mostB; rw [decide_eq_false_iff_not]; exact fun hall => h (hall k hk)

theorem mostB_succ (b T B n i : Nat) (hb : 1 ≤ b) : mostB b T B n (i + 1) = (mostB b T B n i && ((dig b T B (n + i) : Int) == (b : Int) - 1)) := by
  unfold mostB
  rw [Bool.eq_iff_iff, Bool.and_eq_true, decide_eq_true_eq, decide_eq_true_eq, beq_iff_eq]
  constructor
  · intro h
    have := h i (by omega)
    exact ⟨fun j hj => h j (by omega), by omega⟩
  · rintro ⟨h1, h2⟩ j hj
    rcases Nat.lt_or_ge j i with hlt | hge
    · exact h1 j hlt
    · obtain rfl : j = i := by omega
      omega

/-- The digits from place j on up to k are those j places ahead, and j divides the length. -/
def agB (b T B n m j k : Nat) : Bool := decide (m % j = 0 ∧ ∀ i, i < k → j ≤ i → dig b T B (n + i) = dig b T B (n + (i - j)))

theorem agB_start (b T B n m j : Nat) (_hj : 0 < j) : agB b T B n m j j = ((m : Int) % j == 0) := by
  unfold agB
  rw [Bool.eq_iff_iff, decide_eq_true_eq, beq_iff_eq]
  constructor
  · rintro ⟨h, _⟩; omega
  · intro h; exact ⟨by omega, fun i h1 h2 => by omega⟩

theorem agB_succ {b T B n m j k : Nat} (hjk : j ≤ k) (h : agB b T B n m j k = true) : agB b T B n m j (k + 1) = ((dig b T B (n + k) : Int) == (dig b T B (n + (k - j)) : Int)) := by
  unfold agB at h ⊢
  rw [decide_eq_true_eq] at h
  rw [Bool.eq_iff_iff, decide_eq_true_eq, beq_iff_eq]
  constructor
  · rintro ⟨_, h2⟩; have := h2 k (by omega) hjk; omega
  · intro e
    refine ⟨h.1, fun i h1 h2 => ?_⟩
    rcases Nat.lt_or_ge i k with hlt | hge
    · exact h.2 i hlt h2
    · obtain rfl : i = k := by omega
      omega

theorem agB_end {b T B n m j : Nat} (hT : T < B) (hb : 2 ≤ b) (h : IsLen b T B n m) (h0 : 0 < j) (hj : j < m) : agB b T B n m j m = false := by
  unfold agB
  rw [decide_eq_false_iff_not]
  rintro ⟨hd, hall⟩
  obtain ⟨k, h1, h2, h3⟩ := no_shorter hT hb h h0 hj hd
  exact h3 (hall k h2 h1)

end Go.Proofs.YtmpbbflolbakhaaGreatDoor

namespace Go.Proofs.YtmpbbflolbakhaaGreatDoor

/-- A base, a fraction and a number of parts, as chapter 4 asks. -/
structure Prt (b T B k m : Nat) : Prop where
  b2 : 2 ≤ b
  b16 : b ≤ 16
  lt : T < B
  bot : B ≤ 1000
  gT : Nat.gcd T B = 1
  gb : Nat.gcd b B = 1
  top : 0 < T
  k1 : 1 ≤ k
  len : IsLen b T B 0 m
  dvd : m % k = 0

theorem Prt.div {b T B k m : Nat} (h : Prt b T B k m) : k * (m / k) = m ∧ 0 < m / k ∧ k ≤ m ∧ m ≤ 1000 ∧ 2 ≤ B := by
  have h1 : k * (m / k) = m := Nat.mul_div_cancel' (Nat.dvd_of_mod_eq_zero h.dvd)
  have hm := h.len.pos
  have h2 : 0 < m / k := Nat.pos_of_ne_zero fun e => by rw [e, Nat.mul_zero] at h1; omega
  have h3 : k * 1 ≤ k * (m / k) := Nat.mul_le_mul_left k h2
  have h4 := h.len.le h.lt
  have := h.bot; have := h.top; have := h.lt
  exact ⟨h1, h2, by omega, by omega, by omega⟩

theorem Prt.unique {b T B k m m' : Nat} (h : Prt b T B k m) (h' : Prt b T B k m') : m = m' := (h.len.unique h'.len).2

theorem Prt.rpos {b T B k m : Nat} (h : Prt b T B k m) (i : Nat) : 0 < rst b T B i := by
  have h1 := cop_rst h.gb h.lt h.gT i
  refine Nat.pos_of_ne_zero fun e => ?_
  rw [e, Nat.gcd_zero_left] at h1
  have := h.div.2.2.2.2
  omega

theorem Prt.rlt {b T B k m : Nat} (h : Prt b T B k m) (i : Nat) : rst b T B i < B := rst_lt h.lt i

/-- Sums. -/
def sumN (f : Nat → Nat) : Nat → Nat
  | 0 => 0
  | k + 1 => sumN f k + f k

theorem sumN_le {f : Nat → Nat} {c : Nat} : ∀ k, (∀ i, i < k → f i ≤ c) → sumN f k ≤ k * c := by
  intro k
  induction k with
  | zero => intro _; simp [sumN]
  | succ k ih =>
    intro h
    have h1 := ih fun i hi => h i (by omega)
    have h2 := h k (by omega)
    show sumN f k + f k ≤ (k + 1) * c
    rw [Nat.succ_mul]; omega

theorem sumN_first {f : Nat → Nat} : ∀ k, sumN f (k + 1) = f 0 + sumN (fun i => f (i + 1)) k := by
  intro k
  induction k with
  | zero => simp [sumN]
  | succ k ih =>
    show sumN f (k + 1) + f (k + 1) = f 0 + (sumN (fun i => f (i + 1)) k + f (k + 1))
    rw [ih]; omega

theorem sumN_congr {f g : Nat → Nat} : ∀ k, (∀ i, i < k → f i = g i) → sumN f k = sumN g k := by
  intro k
  induction k with
  | zero => intro _; rfl
  | succ k ih =>
    intro h
    show sumN f k + f k = sumN g k + g k
    rw [ih fun i hi => h i (by omega), h k (by omega)]

theorem sumN_mulmod {f g : Nat → Nat} {q B : Nat} : ∀ k, (∀ i, i < k → f i * q % B = g i % B) → sumN f k * q % B = sumN g k % B := by
  intro k
  induction k with
  | zero => intro _; simp [sumN]
  | succ k ih =>
    intro h
    show (sumN f k + f k) * q % B = (sumN g k + g k) % B
    rw [Nat.add_mul, Nat.add_mod, ih fun i hi => h i (by omega), h k (by omega), ← Nat.add_mod]

/-- The sum of the rests with which parts begin. -/
def prS (b T B k j : Nat) : Nat := sumN (fun i => rst b T B (i * j)) k

theorem rst_step (b T B i j : Nat) (hT : T < B) : rst b T B i * b ^ j % B = rst b T B (i + j) := by
  rw [rst_top hT, rst_top hT, Nat.mod_mul_mod, Nat.mul_assoc, ← Nat.pow_add]

theorem Prt.turn {b T B k m : Nat} (h : Prt b T B k m) : prS b T B k (m / k) * b ^ (m / k) % B = prS b T B k (m / k) % B := by
  have hd := h.div
  have h1 : prS b T B k (m / k) * b ^ (m / k) % B = sumN (fun i => rst b T B ((i + 1) * (m / k))) k % B := by
    refine sumN_mulmod k fun i _ => ?_
    show rst b T B (i * (m / k)) * b ^ (m / k) % B = rst b T B ((i + 1) * (m / k)) % B
    rw [rst_step _ _ _ _ _ h.lt, Nat.succ_mul, Nat.mod_eq_of_lt (h.rlt _)]
  rw [h1]
  have h2 := sumN_first (f := fun i => rst b T B (i * (m / k))) k
  have h3 : sumN (fun i => rst b T B (i * (m / k))) (k + 1) = prS b T B k (m / k) + rst b T B (k * (m / k)) := rfl
  have h4 : rst b T B (k * (m / k)) = rst b T B (0 * (m / k)) := by
    rw [hd.1, Nat.zero_mul]
    have := h.len.eq
    rw [Nat.zero_add] at this
    exact this
  have h5 : sumN (fun i => rst b T B ((i + 1) * (m / k))) k = prS b T B k (m / k) := by omega
  rw [h5]

/-- The parts of a prime's rounds. -/
theorem Prt.prime {b T B k m : Nat} (h : Prt b T B k m) (hp : primeB B = true) (hk : 1 < k) : B ∣ prS b T B k (m / k) := by
  have hd := h.div
  have hjm : m / k < m := Nat.div_lt_self (by omega) hk
  have ht := h.turn
  have hne : rst b T B (m / k) ≠ T := fun e => h.len.ne 0 (m / k) hd.2.1 (by omega) e.symm
  have h1 : 1 ≤ b ^ (m / k) := Nat.pow_pos (by have := h.b2; omega)
  have hq : ¬ B ∣ b ^ (m / k) - 1 := by
    intro hdv
    obtain ⟨c, hc⟩ := hdv
    refine hne ?_
    have := rst_step b T B 0 (m / k) h.lt
    rw [Nat.zero_add] at this
    rw [← this, show rst b T B 0 = T from rfl, show b ^ (m / k) = B * c + 1 by omega, Nat.mul_add, Nat.mul_one, Nat.mul_left_comm, Nat.mul_add_mod, Nat.mod_eq_of_lt h.lt]
  have hdiv : B ∣ prS b T B k (m / k) * (b ^ (m / k) - 1) := by
    have h2 := Nat.sub_mod_eq_zero_of_mod_eq ht
    have h3 : prS b T B k (m / k) * b ^ (m / k) - prS b T B k (m / k) = prS b T B k (m / k) * (b ^ (m / k) - 1) := by rw [Nat.mul_sub, Nat.mul_one]
    rw [h3] at h2
    exact Nat.dvd_of_mod_eq_zero h2
  have hx : 0 < (b ^ (m / k) - 1) % B := Nat.pos_of_ne_zero fun e => hq (Nat.dvd_of_mod_eq_zero e)
  have hg := prime_cop hp hx (Nat.mod_lt _ (by omega))
  have hg2 : Nat.Coprime B (b ^ (m / k) - 1) := by
    unfold Nat.Coprime
    rw [← Nat.gcd_rec] at hg
    exact hg
  exact hg2.dvd_of_dvd_mul_right hdiv

/-- How great the multiple is. -/
theorem Prt.mult {b T B k m q : Nat} (h : Prt b T B k m) (hq : prS b T B k (m / k) = B * q) : 1 ≤ q ∧ q < k := by
  have hd := h.div
  have h1 : prS b T B k (m / k) ≤ k * (B - 1) := sumN_le k fun i _ => by have := h.rlt (i * (m / k)); omega
  have h2 : 0 < prS b T B k (m / k) := by
    obtain ⟨c, rfl⟩ : ∃ c, k = c + 1 := ⟨k - 1, by have := h.k1; omega⟩
    have := sumN_first (f := fun i => rst b T B (i * (m / (c + 1)))) c
    have h3 := h.rpos (0 * (m / (c + 1)))
    unfold prS
    omega
  constructor
  · refine Nat.pos_of_ne_zero fun e => ?_
    rw [e, Nat.mul_zero] at hq
    omega
  · rcases Nat.lt_or_ge q k with h3 | h3
    · exact h3
    · have h4 : B * k ≤ B * q := Nat.mul_le_mul_left B h3
      have h5 : k * (B - 1) + k = B * k := by
        rw [← Nat.mul_succ, Nat.mul_comm]; congr 1; omega
      have := h.k1
      omega

theorem rst_dig {b T B : Nat} (i : Nat) (_hB : 0 < B) : rst b T B i * b = dig b T B i * B + rst b T B (i + 1) := by
  have := Nat.div_add_mod (rst b T B i * b) B
  rw [Nat.mul_comm] at this
  exact this.symm

/-- Halves that add up have the multiple 1. -/
theorem Prt.halves {b T B m : Nat} (h : Prt b T B 2 m) (hh : ∀ i, i < m / 2 → dig b T B i + dig b T B (i + m / 2) = b - 1) : prS b T B 2 (m / 2) = B := by
  have hd := h.div
  have hB : 0 < B := by omega
  have hb := h.b2
  -- what is more than the bottom
  have hx : ∀ i, i ≤ m / 2 → ((rst b T B i : Int) + rst b T B (i + m / 2) - B) = ((rst b T B 0 : Int) + rst b T B (0 + m / 2) - B) * (b : Int) ^ i := by
    intro i
    induction i with
    | zero => intro _; simp
    | succ i ih =>
      intro hi
      have h1 := ih (by omega)
      have h2 := hh i (by omega)
      have e1 := rst_dig (b := b) (T := T) (B := B) i hB
      have e2 := rst_dig (b := b) (T := T) (B := B) (i + m / 2) hB
      have e1' : (rst b T B i : Int) * b = dig b T B i * B + rst b T B (i + 1) := by exact_mod_cast e1
      have e2' : (rst b T B (i + m / 2) : Int) * b = dig b T B (i + m / 2) * B + rst b T B (i + 1 + m / 2) := by
        rw [show i + 1 + m / 2 = i + m / 2 + 1 by omega]; exact_mod_cast e2
      have h2' : (dig b T B i : Int) + dig b T B (i + m / 2) = b - 1 := by omega
      rw [Int.pow_succ, ← Int.mul_assoc, ← h1]
      have h3 : (dig b T B i : Int) = b - 1 - dig b T B (i + m / 2) := by omega
      rw [h3] at e1'
      grind
  have h2 := hx (m / 2) (Nat.le_refl _)
  have hper : rst b T B (m / 2 + m / 2) = rst b T B 0 := by
    rw [show m / 2 + m / 2 = 0 + m by omega]; exact h.len.eq
  rw [hper, Nat.zero_add] at h2
  have hpow : (2 : Int) ≤ (b : Int) ^ (m / 2) := by
    have : 2 ^ 1 ≤ b ^ (m / 2) := Nat.le_trans (Nat.pow_le_pow_left hb 1) (Nat.pow_le_pow_right (by omega) hd.2.1)
    have h4 : ((b ^ (m / 2) : Nat) : Int) = (b : Int) ^ (m / 2) := by simp
    rw [← h4]; omega
  generalize (b : Int) ^ (m / 2) = Q at h2 hpow
  have h5 : (rst b T B 0 : Int) + rst b T B (m / 2) - B = 0 := by
    generalize hxx : (rst b T B 0 : Int) + rst b T B (m / 2) - B = x at h2
    have h6 : (rst b T B (m / 2) : Int) + rst b T B 0 - B = x := by omega
    rw [h6] at h2
    have h7 : x * (Q - 1) = 0 := by rw [Int.mul_sub, Int.mul_one]; omega
    rcases Int.mul_eq_zero.1 h7 with h8 | h8
    · exact h8
    · omega
  show 0 + rst b T B (0 * (m / 2)) + rst b T B (1 * (m / 2)) = B
  rw [Nat.zero_mul, Nat.one_mul]
  omega

theorem Prt.halves_back {b T B m : Nat} (h : Prt b T B 2 m) (hq : B ∣ prS b T B 2 (m / 2)) (i : Nat) : rst b T B i + rst b T B (i + m / 2) = B ∧ dig b T B i + dig b T B (i + m / 2) = b - 1 := by
  have hB : 0 < B := by have := h.div; omega
  have one : ∀ i, B ∣ rst b T B i + rst b T B (i + m / 2) → rst b T B i + rst b T B (i + m / 2) = B := by
    intro i hdv
    have h1 := h.rlt i; have h2 := h.rlt (i + m / 2); have h3 := h.rpos i
    obtain ⟨c, hc⟩ := hdv
    have hc1 : c = 1 := by
      rcases Nat.lt_trichotomy c 1 with h4 | h4 | h4
      · have : c = 0 := by omega
        rw [this, Nat.mul_zero] at hc; omega
      · exact h4
      · have : B * 2 ≤ B * c := Nat.mul_le_mul_left B h4
        omega
    rw [hc1, Nat.mul_one] at hc
    exact hc
  have stp : ∀ i, rst b T B i + rst b T B (i + m / 2) = B → rst b T B (i + 1) + rst b T B (i + 1 + m / 2) = B ∧ dig b T B i + dig b T B (i + m / 2) = b - 1 := by
    intro i hi
    have e1 := rst_dig (b := b) (T := T) (B := B) i hB
    have e2 := rst_dig (b := b) (T := T) (B := B) (i + m / 2) hB
    rw [show i + m / 2 + 1 = i + 1 + m / 2 by omega] at e2
    have h3 : B * b = (dig b T B i + dig b T B (i + m / 2)) * B + (rst b T B (i + 1) + rst b T B (i + 1 + m / 2)) := by
      rw [← hi, Nat.add_mul, e1, e2, hi, Nat.add_mul]; omega
    have h4 : rst b T B (i + 1) + rst b T B (i + 1 + m / 2) = B := by
      refine one (i + 1) ?_
      have h5 : B ∣ (dig b T B i + dig b T B (i + m / 2)) * B + (rst b T B (i + 1) + rst b T B (i + 1 + m / 2)) := by rw [← h3]; exact Nat.dvd_mul_right B b
      exact (Nat.dvd_add_right (Nat.dvd_mul_left B _)).1 h5
    refine ⟨h4, ?_⟩
    rw [h4] at h3
    have h6 : B * b = B * (dig b T B i + dig b T B (i + m / 2) + 1) := by rw [h3, Nat.mul_comm _ B, Nat.mul_succ]
    have := Nat.eq_of_mul_eq_mul_left hB h6
    omega
  have all : ∀ i, rst b T B i + rst b T B (i + m / 2) = B := by
    intro i
    induction i with
    | zero =>
      refine one 0 ?_
      have : prS b T B 2 (m / 2) = rst b T B 0 + rst b T B (0 + m / 2) := by
        show 0 + rst b T B (0 * (m / 2)) + rst b T B (1 * (m / 2)) = _
        rw [Nat.zero_mul, Nat.one_mul, Nat.zero_add, Nat.zero_add]
      rw [← this]; exact hq
    | succ i ih => exact (stp i ih).1
  exact ⟨all i, (stp i (all i)).2⟩

/-- The rests with which parts begin. -/
def prsL (b T B k j : Nat) : List Int := (List.range k).map fun i => (rst b T B (i * j) : Int)
theorem prsL_len (b T B k j : Nat) : (prsL b T B k j).length = k := by simp [prsL]
theorem prsL_succ (b T B k j : Nat) : prsL b T B (k + 1) j = prsL b T B k j ++ [(rst b T B (k * j) : Int)] := by simp [prsL, List.range_succ]
theorem prsL_get (b T B k j i : Nat) (hi : i < k) : (prsL b T B k j)[i]?.getD 0 = (rst b T B (i * j) : Int) := by simp [prsL, hi]

/-- The parts. -/
def ptL (b T B j i : Nat) : List Int := (List.range j).map fun c => (dig b T B (i * j + c) : Int)
theorem ptL_len (b T B j i : Nat) : (ptL b T B j i).length = j := by simp [ptL]
theorem ptL_get (b T B j i c : Nat) (hc : c < j) : (ptL b T B j i)[c]?.getD 0 = (dig b T B (i * j + c) : Int) := by simp [ptL, hc]
theorem ptL_cut (b T B j i n : Nat) (hn : (i + 1) * j ≤ n) : ((digL b T B n).drop (i * j)).take j = ptL b T B j i := by
  rw [Nat.succ_mul] at hn
  refine List.ext_getElem? fun c => ?_
  rw [List.getElem?_take, List.getElem?_drop]
  rcases Nat.lt_or_ge c j with h | h
  · rw [if_pos h]
    simp only [digL, ptL, List.getElem?_map]
    rw [List.getElem?_range (by omega), List.getElem?_range h]
    rfl
  · rw [if_neg (by omega), List.getElem?_eq_none (by rw [ptL_len]; exact h)]

def ptsL (b T B k j : Nat) : List (List Int) := (List.range k).map fun i => ptL b T B j i
theorem ptsL_len (b T B k j : Nat) : (ptsL b T B k j).length = k := by simp [ptsL]
theorem ptsL_succ (b T B k j : Nat) : ptsL b T B (k + 1) j = ptsL b T B k j ++ [ptL b T B j k] := by simp [ptsL, List.range_succ]
theorem ptsL_get (b T B k j i : Nat) (hi : i < k) : (ptsL b T B k j)[i]?.getD [] = ptL b T B j i := by simp [ptsL, hi]
theorem ptsL_lens {b T B k j : Nat} {xs : List Int} (h : xs ∈ ptsL b T B k j) : xs.length = j := by
  simp only [ptsL, List.mem_map] at h
  obtain ⟨i, _, rfl⟩ := h
  exact ptL_len b T B j i

/-- All of them behind each other. -/
theorem digL_pt (b T B j i : Nat) : digL b T B ((i + 1) * j) = digL b T B (i * j) ++ ptL b T B j i := by
  rw [Nat.succ_mul]
  simp only [digL, ptL, List.range_add, List.map_append, List.map_map]
  rfl

/-- Numbers of parts whose sum is a multiple of nines. -/
def okK (b n m k : Nat) : Bool := decide (2 ≤ k ∧ m % k = 0 ∧ n ∣ prS b 1 n k (m / k))
def allL (b n m : Nat) : Nat → List Int
  | 0 => []
  | c + 1 => if okK b n m c = true then allL b n m c ++ [(c : Int)] else allL b n m c

theorem allL_len (b n m c : Nat) : (allL b n m c).length ≤ c := by
  induction c with
  | zero => exact Nat.le_refl _
  | succ c ih => show (if _ then _ else _ : List Int).length ≤ _; split <;> (try simp only [List.length_append, List.length_cons, List.length_nil]) <;> omega

theorem allL_two (b n m : Nat) : allL b n m 2 = [] := by
  show (if okK b n m 1 = true then (if okK b n m 0 = true then [] ++ [((0 : Nat) : Int)] else []) ++ [((1 : Nat) : Int)] else (if okK b n m 0 = true then [] ++ [((0 : Nat) : Int)] else [])) = []
  have h0 : okK b n m 0 = false := by unfold okK; exact decide_eq_false (by omega)
  have h1 : okK b n m 1 = false := by unfold okK; exact decide_eq_false (by omega)
  rw [h0, h1]; rfl

theorem allL_get {b n m c : Nat} (i : Nat) (hi : i < (allL b n m c).length) : ∃ k : Nat, (allL b n m c)[i]?.getD 0 = (k : Int) ∧ 2 ≤ k ∧ k < c ∧ m % k = 0 := by
  induction c with
  | zero => simp [allL] at hi
  | succ c ih =>
    have hs : allL b n m (c + 1) = if okK b n m c = true then allL b n m c ++ [(c : Int)] else allL b n m c := rfl
    by_cases hok : okK b n m c = true
    · rw [if_pos hok] at hs
      rw [hs] at hi ⊢
      rcases Nat.lt_or_ge i (allL b n m c).length with h | h
      · rw [List.getElem?_append_left h]
        obtain ⟨k, h1, h2, h3, h4⟩ := ih h
        exact ⟨k, h1, h2, by omega, h4⟩
      · have he : i = (allL b n m c).length := by simp at hi; omega
        subst he
        unfold okK at hok
        have := of_decide_eq_true hok
        exact ⟨c, by simp, this.1, by omega, this.2.1⟩
    · rw [if_neg hok] at hs
      rw [hs] at hi ⊢
      obtain ⟨k, h1, h2, h3, h4⟩ := ih hi
      exact ⟨k, h1, h2, by omega, h4⟩

/-- How many of the numbers 2 .. c - 1 divide m. -/
def dvC (m : Nat) : Nat → Nat
  | 0 => 0
  | c + 1 => dvC m c + (if 2 ≤ c ∧ m % c = 0 then 1 else 0)

theorem dvC_le (m c : Nat) : dvC m c ≤ c := by
  induction c with
  | zero => exact Nat.le_refl _
  | succ c ih => show dvC m c + _ ≤ _; split <;> omega

theorem dvC_past {m : Nat} (hm : 0 < m) (d : Nat) : dvC m (m + 1 + d) = dvC m (m + 1) := by
  induction d with
  | zero => rfl
  | succ d ih =>
    show dvC m (m + 1 + d) + (if 2 ≤ m + 1 + d ∧ m % (m + 1 + d) = 0 then 1 else 0) = dvC m (m + 1)
    have hno : ¬ (2 ≤ m + 1 + d ∧ m % (m + 1 + d) = 0) := by
      rintro ⟨_, h⟩
      rw [Nat.mod_eq_of_lt (by omega)] at h
      omega
    rw [ih, if_neg hno, Nat.add_zero]

theorem all_prime {b n m : Nat} (h3 : 2 ≤ b) (h4 : b ≤ 16) (hn : 2 ≤ n) (hn2 : n ≤ 1000) (hg : Nat.gcd b n = 1) (hm : IsLen b 1 n 0 m) (hp : primeB n = true) (c : Nat) :
    (allL b n m c).length = dvC m c := by
  induction c with
  | zero => rfl
  | succ c ih =>
    have hs : allL b n m (c + 1) = if okK b n m c = true then allL b n m c ++ [(c : Int)] else allL b n m c := rfl
    show _ = dvC m c + _
    by_cases hc : 2 ≤ c ∧ m % c = 0
    · have hP : Prt b 1 n c m := ⟨h3, h4, by omega, hn2, Nat.gcd_one_left n, hg, by omega, by omega, hm, hc.2⟩
      have hok : okK b n m c = true := by unfold okK; exact decide_eq_true ⟨hc.1, hc.2, hP.prime hp (by omega)⟩
      rw [hs, if_pos hok, if_pos hc, List.length_append, ih]; rfl
    · have hok : ¬ okK b n m c = true := by unfold okK; intro h; have := of_decide_eq_true h; exact hc ⟨this.1, this.2.1⟩
      rw [hs, if_neg hok, if_neg hc, ih]; rfl

end Go.Proofs.YtmpbbflolbakhaaGreatDoor

namespace Go.Proofs.YtmpbbflolbakhaaGreatDoor

/-- The number of a list of digits. -/
def hst (b : Nat) (s x : Int) : Int := s * (b : Int) + x
def hor (b : Nat) (L : List Int) : Int := L.foldl (hst b) 0

theorem hor_from (b : Nat) : ∀ (L : List Int) (s : Int), L.foldl (hst b) s = s * (b : Int) ^ L.length + hor b L := by
  intro L
  induction L with
  | nil => intro s; simp [hor]
  | cons x L ih =>
    intro s
    show L.foldl (hst b) (s * (b : Int) + x) = _
    rw [ih]
    have h2 : hor b (x :: L) = L.foldl (hst b) (0 * (b : Int) + x) := rfl
    rw [h2, ih, List.length_cons, Int.pow_succ]
    grind

theorem hor_cons (b : Nat) (x : Int) (L : List Int) : hor b (x :: L) = x * (b : Int) ^ L.length + hor b L := by
  have h2 : hor b (x :: L) = L.foldl (hst b) (0 * (b : Int) + x) := rfl
  rw [h2, hor_from, Int.zero_mul, Int.zero_add]

theorem hor_snoc (b : Nat) (x : Int) (L : List Int) : hor b (L ++ [x]) = hor b L * b + x := by
  unfold hor; rw [List.foldl_append]; rfl

/-- One step of the sum: a column goes into the carry, a digit ahead of the list. -/
theorem hor_step {b : Nat} {c S : Int} {L : List Int} (h : c * (b : Int) ^ L.length + hor b L = S) : (c / b) * (b : Int) ^ (c % b :: L).length + hor b (c % b :: L) = S := by
  rw [hor_cons, List.length_cons, Int.pow_succ, ← h]
  have e := Int.mul_ediv_add_emod c b
  have : c * (b : Int) ^ L.length = (b * (c / b) + c % b) * (b : Int) ^ L.length := by rw [e]
  rw [this]
  grind

/-- Digits, the first one not 0 (or none). -/
structure IsDgs (b : Nat) (S : Int) (L : List Int) : Prop where
  dg : ∀ x ∈ L, 0 ≤ x ∧ x < b
  val : hor b L = S
  first : ∀ x r, L = x :: r → x ≠ 0

theorem dgs_nonneg {b : Nat} {L : List Int} (h : ∀ x ∈ L, 0 ≤ x ∧ x < b) : 0 ≤ hor b L := by
  induction L with
  | nil => simp [hor]
  | cons x L ih =>
    rw [hor_cons]
    have h1 := h x (by simp)
    have h2 := ih fun y hy => h y (by simp [hy])
    have h3 : (0 : Int) ≤ (b : Int) ^ L.length := Int.pow_nonneg (by omega)
    have := Int.mul_nonneg h1.1 h3
    omega

theorem dgs_pos {b : Nat} {L : List Int} {x : Int} (hb : 2 ≤ b) (h : ∀ y ∈ x :: L, 0 ≤ y ∧ y < b) (hx : x ≠ 0) : 0 < hor b (x :: L) := by
  rw [hor_cons]
  have h1 := h x (by simp)
  have h2 := dgs_nonneg fun y hy => h y (List.mem_cons_of_mem x hy)
  have h3 : (0 : Int) < (b : Int) ^ L.length := Int.pow_pos (by omega)
  have : 0 < x * (b : Int) ^ L.length := Int.mul_pos (by omega) h3
  omega

theorem IsDgs.unique {b : Nat} (hb : 2 ≤ b) : ∀ (n : Nat) {S : Int} {L L' : List Int}, L.length ≤ n → IsDgs b S L → IsDgs b S L' → L = L' := by
  intro n
  induction n with
  | zero =>
    intro S L L' hn h h'
    obtain rfl : L = [] := List.length_eq_zero_iff.1 (by omega)
    cases L' with
    | nil => rfl
    | cons x r =>
      have h1 := dgs_pos hb h'.dg (h'.first x r rfl)
      rw [h'.val, ← h.val] at h1
      simp [hor] at h1
  | succ n ih =>
    intro S L L' hn h h'
    rcases List.eq_nil_or_concat L with rfl | ⟨M, x, rfl⟩
    · cases L' with
      | nil => rfl
      | cons x r =>
        have h1 := dgs_pos hb h'.dg (h'.first x r rfl)
        rw [h'.val, ← h.val] at h1
        simp [hor] at h1
    · rcases List.eq_nil_or_concat L' with rfl | ⟨M', x', rfl⟩
      · cases hM : M ++ [x] with
        | nil => simp at hM
        | cons y r =>
          have hM' : M.concat x = y :: r := by rw [List.concat_eq_append]; exact hM
          rw [hM'] at h
          have h1 := dgs_pos hb h.dg (h.first y r rfl)
          rw [h.val, ← h'.val] at h1
          simp [hor] at h1
      · simp only [List.concat_eq_append] at h h' hn ⊢
        have d1 := h.dg x (by simp)
        have d2 := h'.dg x' (by simp)
        have v1 := h.val
        have v2 := h'.val
        rw [hor_snoc] at v1 v2
        have e : hor b M * b + x = hor b M' * b + x' := by omega
        have hbp : (0 : Int) < b := by omega
        have hx : x = x' := by
          have h1 : (hor b M * b + x) % b = x := by rw [Int.add_comm, Int.add_mul_emod_self_right, Int.emod_eq_of_lt d1.1 d1.2]
          have h2 : (hor b M' * b + x') % b = x' := by rw [Int.add_comm, Int.add_mul_emod_self_right, Int.emod_eq_of_lt d2.1 d2.2]
          rw [e, h2] at h1
          exact h1.symm
        subst hx
        have hm : hor b M = hor b M' := by
          have : hor b M * b = hor b M' * b := by omega
          exact Int.eq_of_mul_eq_mul_right (by omega) this
        have pre : ∀ {M : List Int} {S : Int}, IsDgs b S (M ++ [x]) → IsDgs b (hor b M) M := fun {M S} h =>
          ⟨fun y hy => h.dg y (by simp [hy]), rfl, fun y r e => h.first y (r ++ [x]) (by rw [e]; rfl)⟩
        rw [ih (by simp at hn; omega) (pre h) (by rw [hm]; exact pre h')]

/-- The sum of the digits at place c of all parts. -/
def colS (b T B k j c : Nat) : Nat := sumN (fun p => dig b T B (p * j + c)) k

theorem colS_le {b T B k j c : Nat} (hT : T < B) (hb : 0 < b) : colS b T B k j c ≤ k * (b - 1) :=
  sumN_le k fun p _ => by have := dig_lt (b := b) hT (p * j + c) hb; omega

/-- The number of the columns behind the first i ones. -/
def colV (b T B k j : Nat) : Nat → Nat → Int
  | _, 0 => 0
  | i, d + 1 => (colS b T B k j i : Int) * (b : Int) ^ d + colV b T B k j (i + 1) d

/-- The sum of all parts. -/
def ptS (b T B k j : Nat) : Int := colV b T B k j 0 j

theorem colV_nonneg (b T B k j : Nat) : ∀ d i, 0 ≤ colV b T B k j i d := by
  intro d
  induction d with
  | zero => intro i; exact Int.le_refl _
  | succ d ih =>
    intro i
    show 0 ≤ (colS b T B k j i : Int) * (b : Int) ^ d + colV b T B k j (i + 1) d
    have h1 : (0 : Int) ≤ (b : Int) ^ d := Int.pow_nonneg (by omega)
    have := Int.mul_nonneg (show (0 : Int) ≤ (colS b T B k j i : Int) by omega) h1
    have := ih (i + 1)
    omega

theorem hor_const (b : Nat) (j : Nat) : hor b (List.replicate j ((b : Int) - 1)) = (b : Int) ^ j - 1 := by
  induction j with
  | zero => simp [hor]
  | succ j ih =>
    rw [List.replicate_succ, hor_cons, ih, List.length_replicate, Int.pow_succ]
    grind

theorem colV_const {b T B k j : Nat} (h : ∀ c, colS b T B k j c = b - 1) (hb : 2 ≤ b) : ∀ d i, colV b T B k j i d = (b : Int) ^ d - 1 := by
  intro d
  induction d with
  | zero => intro i; simp [colV]
  | succ d ih =>
    intro i
    show (colS b T B k j i : Int) * (b : Int) ^ d + colV b T B k j (i + 1) d = _
    rw [ih, h i, Int.pow_succ, show ((b - 1 : Nat) : Int) = (b : Int) - 1 by omega]
    grind

/-- Halves that add up: all digits of the sum are 1 less than the base. -/
theorem Prt.nines {b T B m : Nat} (h : Prt b T B 2 m) (hq : prS b T B 2 (m / 2) = B) {L : List Int} (hL : IsDgs b (ptS b T B 2 (m / 2)) L) : L = List.replicate (m / 2) ((b : Int) - 1) := by
  have hb := h.b2
  refine hL.unique hb _ (Nat.le_refl _) ⟨fun x hx => ?_, ?_, fun x r e => ?_⟩
  · have := List.eq_of_mem_replicate hx
    omega
  · rw [hor_const]
    refine (colV_const (fun c => ?_) hb _ _).symm
    show 0 + dig b T B (0 * (m / 2) + c) + dig b T B (1 * (m / 2) + c) = b - 1
    have := (h.halves_back (by rw [hq]; exact Nat.dvd_refl B) c).2
    rw [Nat.zero_mul, Nat.one_mul, Nat.zero_add, Nat.add_comm (m / 2) c, Nat.zero_add]
    exact this
  · have hx : x ∈ List.replicate (m / 2) ((b : Int) - 1) := by rw [e]; simp
    have := List.eq_of_mem_replicate hx
    omega

/-- Some digit of the round is not 0: so is the sum. -/
theorem Prt.sum_pos {b T B k m : Nat} (h : Prt b T B k m) : 0 < ptS b T B k (m / k) := by
  have hd := h.div
  -- a digit that is not 0
  have hex : ∃ i, i < m ∧ 0 < dig b T B i := by
    refine Classical.byContradiction fun hno => ?_
    have h0 : ∀ i, i < m → dig b T B i = 0 := fun i hi => Nat.eq_zero_of_not_pos fun hp => hno ⟨i, hi, hp⟩
    have hr : ∀ i, i ≤ m → rst b T B i = rst b T B 0 * b ^ i := by
      intro i
      induction i with
      | zero => intro _; simp
      | succ i ih =>
        intro hi
        have e := rst_dig (b := b) (T := T) (B := B) i (by omega)
        rw [h0 i (by omega), Nat.zero_mul, Nat.zero_add] at e
        rw [← e, ih (by omega), Nat.pow_succ, Nat.mul_assoc]
    have h1 := hr m (Nat.le_refl _)
    have h2 := h.len.eq
    rw [Nat.zero_add] at h2
    rw [h2] at h1
    have h3 := h.rpos 0
    have h4 : 2 ^ 1 ≤ b ^ m := Nat.le_trans (Nat.pow_le_pow_left h.b2 1) (Nat.pow_le_pow_right (by have := h.b2; omega) h.len.pos)
    have h5 : rst b T B 0 * 2 ≤ rst b T B 0 * b ^ m := Nat.mul_le_mul_left _ h4
    omega
  obtain ⟨i, him, hi⟩ := hex
  have hj := hd.2.1
  have hc : 0 < colS b T B k (m / k) (i % (m / k)) := by
    have hk : i / (m / k) < k := by
      refine Nat.div_lt_of_lt_mul ?_
      rw [Nat.mul_comm, hd.1]; exact him
    have hdi : dig b T B (i / (m / k) * (m / k) + i % (m / k)) = dig b T B i := by rw [Nat.mul_comm, Nat.div_add_mod]
    obtain ⟨q0, hq0⟩ : ∃ q0, i / (m / k) = q0 := ⟨_, rfl⟩
    rw [hq0] at hk hdi
    have : ∀ q, q0 < q → 0 < sumN (fun p => dig b T B (p * (m / k) + i % (m / k))) q := by
      intro q
      induction q with
      | zero => intro h; omega
      | succ q ih =>
        intro hq
        show 0 < sumN (fun p => dig b T B (p * (m / k) + i % (m / k))) q + dig b T B (q * (m / k) + i % (m / k))
        rcases Nat.lt_or_ge q0 q with h5 | h5
        · have := ih h5; omega
        · obtain rfl : q = q0 := by omega
          rw [hdi]; omega
    exact this k hk
  have hcj : i % (m / k) < m / k := Nat.mod_lt _ hj
  generalize i % (m / k) = c at hc hcj
  have : ∀ d e, e ≤ c → c < e + d → 0 < colV b T B k (m / k) e d := by
    intro d
    induction d with
    | zero => intro e h1 h2; omega
    | succ d ih =>
      intro e h1 h2
      show 0 < (colS b T B k (m / k) e : Int) * (b : Int) ^ d + colV b T B k (m / k) (e + 1) d
      have hp : (0 : Int) < (b : Int) ^ d := Int.pow_pos (by have := h.b2; omega)
      rcases Nat.lt_or_ge e c with h3 | h3
      · have := ih (e + 1) (by omega) (by omega)
        have := Int.mul_nonneg (show (0 : Int) ≤ (colS b T B k (m / k) e : Int) by omega) (Int.le_of_lt hp)
        omega
      · obtain rfl : e = c := by omega
        have := Int.mul_pos (show (0 : Int) < (colS b T B k (m / k) e : Int) by omega) hp
        have := colV_nonneg b T B k (m / k) d (e + 1)
        omega
  exact this (m / k) 0 (by omega) (by omega)

end Go.Proofs.YtmpbbflolbakhaaGreatDoor
