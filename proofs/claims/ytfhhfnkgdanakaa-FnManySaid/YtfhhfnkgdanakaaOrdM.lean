/-
  Orders, rows of ones, products of a base's primes: mathematics alone.
-/
import Derived.Test.YtfhhfnkgdanakaaNum
import Derived.Test.YtfhhfnkgdanakaaPMath
namespace Go.Proofs.Ytfhhfnkgdanakaa

/-- A base without a common divisor with the bottom: no beginning. -/
theorem len_zero {b n t : Nat} (hbn : Nat.gcd b n = 1) (ht : t < n) (hg : Nat.gcd t n = 1) : ∃ m, IsLen b t n 0 m := by
  obtain ⟨n0, m, h⟩ := len_some (b := b) ht hg
  have h0 : trn b t n 0 := hbn
  have h1 := (begin_of_len ht hg h).2 0
  rcases Nat.eq_zero_or_pos n0 with rfl | hp
  · exact ⟨m, h⟩
  · exact absurd h0 (h1 hp)

theorem ord_some {b n : Nat} (hbn : Nat.gcd b n = 1) (hn : 2 ≤ n) : ∃ m, IsLen b 1 n 0 m := len_zero hbn (by omega) (Nat.gcd_one_left n)

theorem rst_one {b n : Nat} (hn : 2 ≤ n) (k : Nat) : rst b 1 n k = b ^ k % n := by
  induction k with
  | zero => show 1 = b ^ 0 % n; rw [Nat.pow_zero, Nat.mod_eq_of_lt (by omega)]
  | succ k ih => show rst b 1 n k * b % n = b ^ (k + 1) % n; rw [ih, Nat.mod_mul_mod, Nat.pow_succ]

/-- How many of the numbers 1 .. k have no common divisor with n. -/
def unC (n : Nat) : Nat → Nat
  | 0 => 0
  | k + 1 => unC n k + (if Nat.gcd (k + 1) n = 1 then 1 else 0)

theorem unC_le (n k : Nat) : unC n k ≤ k := by
  induction k with
  | zero => exact Nat.le_refl _
  | succ k ih => show unC n k + _ ≤ _; split <;> omega

/-- A row of j + 1 ones, its rest by n (the first one is 1 itself). -/
def oneR (b n : Nat) : Nat → Nat
  | 0 => 1
  | j + 1 => (oneR b n j * b + 1) % n

/-- A row of j ones. -/
def oneV (b : Nat) : Nat → Nat
  | 0 => 0
  | j + 1 => oneV b j * b + 1

theorem oneR_mod {b n : Nat} (j : Nat) : oneR b n j % n = oneV b (j + 1) % n := by
  induction j with
  | zero => simp [oneR, oneV]
  | succ j ih =>
    show (oneR b n j * b + 1) % n % n = (oneV b (j + 1) * b + 1) % n
    rw [Nat.mod_mod, Nat.add_mod, ← Nat.mod_mul_mod, ih, Nat.mod_mul_mod, ← Nat.add_mod]

theorem oneV_add (b i j : Nat) : oneV b (i + j) = oneV b i * b ^ j + oneV b j := by
  induction j with
  | zero => simp [oneV]
  | succ j ih =>
    show oneV b (i + j) * b + 1 = oneV b i * b ^ (j + 1) + (oneV b j * b + 1)
    rw [ih, Nat.pow_succ]
    grind

theorem one_some {b n : Nat} (hbn : Nat.gcd b n = 1) (hn : 0 < n) : ∃ j, j < n ∧ oneR b n j % n = 0 := by
  -- the rows of 0 .. n ones: two of them leave one rest
  have hex : ∃ i j, i < j ∧ j ≤ n ∧ oneV b i % n = oneV b j % n := by
    refine Classical.byContradiction fun hno => ?_
    have := php n (n + 1) (fun i => oneV b i % n) (fun i _ => Nat.mod_lt _ hn) (fun i j hij hj h => hno ⟨i, j, hij, by omega, h⟩)
    omega
  obtain ⟨i, j, hij, hj, he⟩ := hex
  obtain ⟨k, rfl⟩ := Nat.exists_eq_add_of_lt hij
  have h1 : oneV b (k + 1 + i) % n = oneV b i % n := by rw [he]; congr 2; omega
  rw [oneV_add] at h1
  have h2 : n ∣ oneV b (k + 1) * b ^ i := by
    have := Nat.sub_mod_eq_zero_of_mod_eq h1
    rw [Nat.add_sub_cancel] at this
    exact Nat.dvd_of_mod_eq_zero this
  have h3 : Nat.Coprime n (b ^ i) := Nat.Coprime.pow_right i (by unfold Nat.Coprime; rw [Nat.gcd_comm]; exact hbn)
  have h4 : n ∣ oneV b (k + 1) := h3.dvd_of_dvd_mul_right h2
  refine ⟨k, by omega, ?_⟩
  rw [oneR_mod]
  exact Nat.mod_eq_zero_of_dvd h4

/-- The least row of ones that n divides: of k + 1 ones. -/
def IsOne (b n k : Nat) : Prop := oneR b n k % n = 0 ∧ ∀ j, j < k → oneR b n j % n ≠ 0

theorem isOne_some {b n : Nat} (hbn : Nat.gcd b n = 1) (hn : 0 < n) : ∃ k, k < n ∧ IsOne b n k := by
  obtain ⟨j, hj, he⟩ := one_some hbn hn
  obtain ⟨k, hk, hl⟩ := least (P := fun j => oneR b n j % n = 0) ⟨j, he⟩
  refine ⟨k, ?_, hk, hl⟩
  rcases Nat.lt_or_ge j k with h | h
  · exact absurd he (hl j h)
  · omega

theorem IsOne.unique {b n k k' : Nat} (h : IsOne b n k) (h' : IsOne b n k') : k = k' := by
  rcases Nat.lt_trichotomy k k' with h1 | h1 | h1
  · exact absurd h.1 (h'.2 k h1)
  · exact h1
  · exact absurd h'.1 (h.2 k' h1)

/-- A product of two numbers, the first of the base's primes alone, the second without a common divisor with the base. -/
structure IsSplit (b n f s : Nat) : Prop where
  eq : f * s = n
  cop : Nat.gcd s b = 1
  pow : ∃ k, f ∣ b ^ k

theorem IsSplit.dvd {b n f s f' s' : Nat} (h : IsSplit b n f s) (h' : IsSplit b n f' s') : f ∣ f' := by
  obtain ⟨k, hk⟩ := h.pow
  have h1 : Nat.Coprime f s' := by
    have h2 : Nat.Coprime (b ^ k) s' := Nat.Coprime.pow_left k (by unfold Nat.Coprime; rw [Nat.gcd_comm]; exact h'.cop)
    exact Nat.Coprime.coprime_dvd_left hk h2
  refine h1.dvd_of_dvd_mul_right ?_
  rw [h'.eq, ← h.eq]
  exact Nat.dvd_mul_right _ _

theorem IsSplit.unique {b n f s f' s' : Nat} (hn : 0 < n) (h : IsSplit b n f s) (h' : IsSplit b n f' s') : f = f' ∧ s = s' := by
  have e : f = f' := Nat.dvd_antisymm (h.dvd h') (h'.dvd h)
  subst e
  refine ⟨rfl, ?_⟩
  have hf : 0 < f := Nat.pos_of_ne_zero fun e => by have := h.eq; rw [e, Nat.zero_mul] at this; omega
  exact Nat.eq_of_mul_eq_mul_left hf (h.eq.trans h'.eq.symm)

/-- The least power of the base that a number divides. -/
def IsPow (b f k : Nat) : Prop := f ∣ b ^ k ∧ ∀ j, j < k → ¬ f ∣ b ^ j

theorem isPow_some {b f : Nat} (h : ∃ k, f ∣ b ^ k) : ∃ k, IsPow b f k := by
  obtain ⟨k, hk, hl⟩ := least (P := fun k => f ∣ b ^ k) h
  exact ⟨k, hk, hl⟩

theorem IsPow.unique {b f k k' : Nat} (h : IsPow b f k) (h' : IsPow b f k') : k = k' := by
  rcases Nat.lt_trichotomy k k' with h1 | h1 | h1
  · exact absurd h.1 (h'.2 k h1)
  · exact h1
  · exact absurd h'.1 (h.2 k' h1)

end Go.Proofs.Ytfhhfnkgdanakaa
