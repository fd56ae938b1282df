/-
  Beginnings and rounds of 1 over n by its two parts; rows of ones and orders; units of primes. Mathematics alone.
-/
import Derived.Test.YtfhhfnkgdanakaaOrdP
namespace Go.Proofs.Ytfhhfnkgdanakaa

theorem pow_cong {b n : Nat} (hb : 0 < b) (i d : Nat) : b ^ (i + d) % n = b ^ i % n ↔ n ∣ b ^ i * (b ^ d - 1) := by
  have hp : 0 < b ^ d := Nat.pow_pos hb
  have e : b ^ (i + d) = b ^ i + b ^ i * (b ^ d - 1) := by
    rw [Nat.pow_add, Nat.mul_sub, Nat.mul_one]
    have := Nat.le_mul_of_pos_right (b ^ i) hp
    omega
  constructor
  · intro h
    have h1 := Nat.sub_mod_eq_zero_of_mod_eq h
    rw [e, Nat.add_sub_cancel_left] at h1
    exact Nat.dvd_of_mod_eq_zero h1
  · rintro ⟨q, hq⟩
    rw [e, hq, Nat.add_mul_mod_self_left]

theorem cop_pow_sub {b d : Nat} (hb : 0 < b) (hd : 0 < d) : Nat.Coprime b (b ^ d - 1) := by
  obtain ⟨c, hc⟩ : ∃ c, Nat.gcd b (b ^ d - 1) = c := ⟨_, rfl⟩
  have h1 : c ∣ b := hc ▸ Nat.gcd_dvd_left _ _
  have h2 : c ∣ b ^ d - 1 := hc ▸ Nat.gcd_dvd_right _ _
  have hp : 0 < b ^ d := Nat.pow_pos hb
  have h3 : c ∣ b ^ d := Nat.dvd_trans h1 (Nat.dvd_trans (Nat.dvd_refl b) (by have := Nat.pow_dvd_pow b hd; rwa [Nat.pow_one] at this))
  have h4 : c ∣ b ^ d - (b ^ d - 1) := Nat.dvd_sub h3 h2
  rw [show b ^ d - (b ^ d - 1) = 1 by omega] at h4
  have h5 := Nat.dvd_one.1 h4
  show Nat.gcd b (b ^ d - 1) = 1
  rw [hc, h5]

/-- The round of the second part: the order, or 1. -/
def IsRnd (b s k : Nat) : Prop := (s = 1 ∧ k = 1) ∨ (2 ≤ s ∧ IsLen b 1 s 0 k)

theorem IsRnd.dvd {b s k : Nat} (hb : 0 < b) (h : IsRnd b s k) : 0 < k ∧ ∀ d, s ∣ b ^ d - 1 ↔ k ∣ d := by
  rcases h with ⟨rfl, rfl⟩ | ⟨hs, hk⟩
  · exact ⟨by omega, fun d => ⟨fun _ => Nat.one_dvd d, fun _ => Nat.one_dvd _⟩⟩
  · refine ⟨hk.pos, fun d => ?_⟩
    rw [← ord_iff hs hk d]
    have h1 := pow_cong (n := s) hb 0 d
    rw [Nat.zero_add, Nat.pow_zero, Nat.one_mul, Nat.mod_eq_of_lt (show 1 < s by omega)] at h1
    exact h1.symm

/-- 1 over n: its beginning is the power by the first part, its round that of the second. -/
theorem len_split {b n f s j k : Nat} (hb : 2 ≤ b) (hn : 2 ≤ n) (hs : IsSplit b n f s) (hj : IsPow b f j) (hk : IsRnd b s k) : IsLen b 1 n j k := by
  have hb0 : 0 < b := by omega
  obtain ⟨hkp, hkd⟩ := hk.dvd hb0
  have hcop : Nat.Coprime f s := by
    obtain ⟨K, hK⟩ := hs.pow
    exact Nat.Coprime.coprime_dvd_left hK (Nat.Coprime.pow_left K (by unfold Nat.Coprime; rw [Nat.gcd_comm]; exact hs.cop))
  refine ⟨hkp, ?_, fun i i' hii hi' e => ?_⟩
  · rw [rst_one hn, rst_one hn, pow_cong hb0, ← hs.eq]
    exact Nat.mul_dvd_mul hj.1 ((hkd k).2 (Nat.dvd_refl k))
  · obtain ⟨d, rfl⟩ := Nat.exists_eq_add_of_le (Nat.le_of_lt hii)
    have hd : 0 < d := by omega
    rw [rst_one hn, rst_one hn] at e
    have h1 := (pow_cong (n := n) hb0 i d).1 e.symm
    have hfn : f ∣ n := ⟨s, hs.eq.symm⟩
    have hsn : s ∣ n := ⟨f, by rw [Nat.mul_comm]; exact hs.eq.symm⟩
    have hc := cop_pow_sub hb0 hd
    have h2 : f ∣ b ^ i := by
      obtain ⟨K, hK⟩ := hs.pow
      have h3 : Nat.Coprime f (b ^ d - 1) := Nat.Coprime.coprime_dvd_left hK (Nat.Coprime.pow_left K hc)
      exact h3.dvd_of_dvd_mul_right (Nat.dvd_trans hfn h1)
    have h4 : s ∣ b ^ d - 1 := by
      have h5 : Nat.Coprime s (b ^ i) := Nat.Coprime.pow_right i hs.cop
      exact h5.dvd_of_dvd_mul_left (Nat.dvd_trans hsn h1)
    have h6 : j ≤ i := by
      rcases Nat.lt_or_ge i j with h | h
      · exact absurd h2 (hj.2 i h)
      · exact h
    have h7 := Nat.le_of_dvd hd ((hkd d).1 h4)
    omega

theorem split_some {b n : Nat} (hn : 0 < n) : ∃ f s, IsSplit b n f s := by
  have key : ∀ N s f : Nat, s ≤ N → 0 < s → f * s = n → (∃ k, f ∣ b ^ k) → ∃ f s, IsSplit b n f s := by
    intro N
    induction N with
    | zero => intro s f h1 h2; omega
    | succ N ih =>
      intro s f h1 h2 h3 ⟨k, hk⟩
      by_cases hg : Nat.gcd s b = 1
      · exact ⟨f, s, h3, hg, k, hk⟩
      · have hgp : 0 < Nat.gcd s b := Nat.gcd_pos_of_pos_left _ h2
        obtain ⟨q, hq⟩ := Nat.gcd_dvd_left s b
        have hqp : 0 < q := Nat.pos_of_ne_zero fun e => by rw [e, Nat.mul_zero] at hq; omega
        have hqs : q < s := by
          have h4 : 1 * q < Nat.gcd s b * q := Nat.mul_lt_mul_of_pos_right (by omega) hqp
          omega
        exact ih q (f * Nat.gcd s b) (by omega) hqp (by rw [Nat.mul_assoc, ← hq]; exact h3) ⟨k + 1, by rw [Nat.pow_succ]; exact Nat.mul_dvd_mul hk (Nat.gcd_dvd_right _ _)⟩
  exact key n n 1 (Nat.le_refl _) hn (Nat.one_mul n) ⟨0, Nat.dvd_refl 1⟩

theorem rnd_some {b s : Nat} (hs : 0 < s) (hg : Nat.gcd s b = 1) : ∃ k, IsRnd b s k := by
  rcases Nat.lt_or_ge s 2 with h | h
  · exact ⟨1, .inl ⟨by omega, rfl⟩⟩
  · obtain ⟨m, hm⟩ := ord_some (b := b) (n := s) (by rw [Nat.gcd_comm]; exact hg) h
    exact ⟨m, .inr ⟨h, hm⟩⟩

/-- The powers of a base by which a number is made whole are few. -/
theorem pow_short {b f k : Nat} (hf : 0 < f) (h : IsPow b f k) : 2 ^ k ≤ f := by
  have key : ∀ i, i ≤ k → 2 ^ i ≤ Nat.gcd f (b ^ i) := by
    intro i
    induction i with
    | zero => intro _; simp
    | succ i ih =>
      intro hi
      have h1 := ih (by omega)
      obtain ⟨d, hd⟩ : ∃ d, Nat.gcd f (b ^ i) = d := ⟨_, rfl⟩
      have hdp : 0 < d := hd ▸ Nat.gcd_pos_of_pos_left _ hf
      rw [hd] at h1
      obtain ⟨f', hf'⟩ : d ∣ f := hd ▸ Nat.gcd_dvd_left _ _
      obtain ⟨c, hc⟩ : d ∣ b ^ i := hd ▸ Nat.gcd_dvd_right _ _
      have hcop : Nat.gcd f' c = 1 := by
        have h2 : d * Nat.gcd f' c = d * 1 := by rw [← Nat.gcd_mul_left, ← hf', ← hc, hd, Nat.mul_one]
        exact Nat.eq_of_mul_eq_mul_left hdp h2
      have hall : ∀ e, Nat.gcd f (b ^ (i + e)) = d * Nat.gcd f' (b ^ e) := by
        intro e
        rw [Nat.pow_add, hc, hf', Nat.mul_assoc, Nat.gcd_mul_left]
        congr 1
        exact Nat.Coprime.gcd_mul_left_cancel_right (b ^ e) (show Nat.Coprime c f' by unfold Nat.Coprime; rw [Nat.gcd_comm]; exact hcop)
      have hge : 2 ≤ Nat.gcd f' b := by
        rcases Nat.lt_or_ge (Nat.gcd f' b) 2 with h2 | h2
        · exfalso
          have h3 : 0 < Nat.gcd f' b := Nat.gcd_pos_of_pos_left _ (Nat.pos_of_ne_zero fun e => by rw [e, Nat.mul_zero] at hf'; omega)
          have h4 : Nat.Coprime f' b := by show Nat.gcd f' b = 1; omega
          have h5 := hall (k - i)
          rw [show i + (k - i) = k by omega, show Nat.gcd f' (b ^ (k - i)) = 1 from Nat.Coprime.pow_right _ h4, Nat.mul_one, Nat.gcd_eq_left h.1] at h5
          exact h.2 i (by omega) (by rw [h5, hc]; exact Nat.dvd_mul_right _ _)
        · exact h2
      have h6 := hall 1
      rw [Nat.pow_one] at h6
      rw [h6, Nat.pow_succ]
      exact Nat.mul_le_mul h1 hge
  have := key k (Nat.le_refl _)
  rwa [Nat.gcd_eq_left h.1] at this

/-- No beginning just if there is no common divisor. -/
theorem split_one {b n f s k : Nat} (hn : 0 < n) (hs : IsSplit b n f s) (hk : IsPow b f k) : k = 0 ↔ Nat.gcd b n = 1 := by
  constructor
  · rintro rfl
    have h1 := Nat.dvd_one.1 (show f ∣ 1 from hk.1)
    have h2 := hs.eq
    rw [h1, Nat.one_mul] at h2
    rw [← h2, Nat.gcd_comm]
    exact hs.cop
  · intro h
    have h1 : IsSplit b n 1 n := ⟨Nat.one_mul n, by rw [Nat.gcd_comm]; exact h, 0, Nat.dvd_refl 1⟩
    obtain ⟨rfl, _⟩ := hs.unique hn h1
    rcases Nat.eq_zero_or_pos k with h2 | h2
    · exact h2
    · exact absurd (Nat.one_dvd _) (hk.2 0 h2)

theorem oneV_pow {b : Nat} (hb : 0 < b) (k : Nat) : (b - 1) * oneV b k = b ^ k - 1 := by
  induction k with
  | zero => simp [oneV]
  | succ k ih =>
    show (b - 1) * (oneV b k * b + 1) = b ^ (k + 1) - 1
    rw [Nat.mul_add, ← Nat.mul_assoc, ih, Nat.mul_one, Nat.pow_succ, Nat.sub_mul, Nat.one_mul]
    have hp : 0 < b ^ k := Nat.pow_pos hb
    have := Nat.le_mul_of_pos_left b hp
    omega

theorem one_dvd_iff {b n k : Nat} : oneR b n k % n = 0 ↔ n ∣ oneV b (k + 1) := by
  rw [oneR_mod]
  exact ⟨Nat.dvd_of_mod_eq_zero, Nat.mod_eq_zero_of_dvd⟩

/-- The row of ones has a multiple of the order as length; the order itself, if b - 1 has no common divisor with n. -/
theorem ones_ord {b n m k : Nat} (hb : 2 ≤ b) (hn : 2 ≤ n) (hm : IsLen b 1 n 0 m) (hk : IsOne b n k) : m ∣ k + 1 ∧ (Nat.gcd n (b - 1) = 1 → k + 1 = m) := by
  have hb0 : 0 < b := by omega
  have hR : ∀ d, n ∣ b ^ d - 1 ↔ m ∣ d := ((show IsRnd b n m from .inr ⟨hn, hm⟩).dvd hb0).2
  have h1 : m ∣ k + 1 := by
    rw [← hR, ← oneV_pow hb0]
    exact Nat.dvd_trans (one_dvd_iff.1 hk.1) (Nat.dvd_mul_left _ _)
  refine ⟨h1, fun hg => ?_⟩
  have hp := hm.pos
  have h2 : n ∣ (b - 1) * oneV b m := by rw [oneV_pow hb0]; exact (hR m).2 (Nat.dvd_refl m)
  have h3 : n ∣ oneV b m := (show Nat.Coprime n (b - 1) from hg).dvd_of_dvd_mul_left h2
  have h4 : k ≤ m - 1 := by
    rcases Nat.lt_or_ge (m - 1) k with h | h
    · exact absurd (one_dvd_iff.2 (by rw [show m - 1 + 1 = m by omega]; exact h3)) (hk.2 (m - 1) h)
    · exact h
  have h5 := Nat.le_of_dvd (by omega) h1
  omega

/-- A prime. -/
def primeB (n : Nat) : Bool := decide (2 ≤ n ∧ ∀ k, k < n → 2 ≤ k → n % k ≠ 0)

theorem prime_cop {n x : Nat} (hp : primeB n = true) (h0 : 0 < x) (hx : x < n) : Nat.gcd x n = 1 := by
  obtain ⟨h2, hn⟩ := of_decide_eq_true hp
  have hg : 0 < Nat.gcd x n := Nat.gcd_pos_of_pos_left _ h0
  have hle := Nat.le_of_dvd h0 (Nat.gcd_dvd_left x n)
  rcases Nat.lt_or_ge (Nat.gcd x n) 2 with h | h
  · omega
  · exact absurd (Nat.mod_eq_zero_of_dvd (Nat.gcd_dvd_right x n)) (hn _ (by omega) h)

theorem unC_all {n : Nat} : ∀ k, (∀ x, x < k → Nat.gcd (x + 1) n = 1) → unC n k = k := by
  intro k
  induction k with
  | zero => intro _; rfl
  | succ k ih => intro h; show unC n k + _ = k + 1; rw [ih (fun x hx => h x (by omega)), if_pos (h k (by omega))]

theorem unC_less {n x : Nat} : ∀ k, x < k → Nat.gcd (x + 1) n ≠ 1 → unC n k < k := by
  intro k
  induction k with
  | zero => intro h; omega
  | succ k ih =>
    intro hx hg
    show unC n k + _ < k + 1
    rcases Nat.lt_or_ge x k with h | h
    · have := ih h hg
      split <;> omega
    · obtain rfl : x = k := by omega
      rw [if_neg hg]
      have := unC_le n x
      omega

theorem unC_last {n : Nat} (hn : 2 ≤ n) : unC n n = unC n (n - 1) := by
  obtain ⟨k, rfl⟩ : ∃ k, n = k + 1 := ⟨n - 1, by omega⟩
  show unC (k + 1) k + _ = _
  rw [if_neg (by rw [Nat.gcd_self]; omega)]
  rfl

/-- Units are n - 1 just for primes. -/
theorem units_prime {n : Nat} (hn : 2 ≤ n) : unC n n = n - 1 ↔ primeB n = true := by
  rw [unC_last hn]
  constructor
  · intro h
    unfold primeB
    rw [decide_eq_true_eq]
    refine ⟨hn, fun k hk h2 hm => ?_⟩
    have hd : k ∣ n := Nat.dvd_of_mod_eq_zero hm
    have := unC_less (n := n) (x := k - 1) (n - 1) (by omega) (by rw [show k - 1 + 1 = k by omega, Nat.gcd_eq_left hd]; omega)
    omega
  · intro h
    exact unC_all (n - 1) fun x hx => prime_cop h (by omega) (by omega)

/-- Units are even, but for 2. -/
theorem units_even {n : Nat} (hn : 3 ≤ n) : 2 ∣ unC n n := by
  have hg : Nat.gcd (n - 1) n = 1 := by
    have : n % (n - 1) = 1 := by rw [Nat.mod_eq_sub_mod (by omega), show n - (n - 1) = 1 by omega, Nat.mod_eq_of_lt (by omega)]
    rw [Nat.gcd_rec, this]
    exact Nat.gcd_one_left _
  have h2 : (n - 1) * (n - 1) % n = 1 := by
    obtain ⟨k, rfl⟩ : ∃ k, n = k + 1 := ⟨n - 1, by omega⟩
    have e : (k + 1 - 1) * (k + 1 - 1) = 1 + (k + 1) * (k - 1) := by
      obtain ⟨q, rfl⟩ : ∃ q, k = q + 1 := ⟨k - 1, by omega⟩
      simp
      grind
    rw [e, Nat.add_mul_mod_self_left, Nat.mod_eq_of_lt (by omega)]
  have hm : IsLen (n - 1) 1 n 0 2 := by
    refine ⟨by omega, ?_, fun i j hij hj e => ?_⟩
    · rw [rst_one (by omega), rst_one (by omega), Nat.zero_add, Nat.pow_two, h2, Nat.pow_zero, Nat.mod_eq_of_lt (by omega)]
    · obtain rfl : i = 0 := by omega
      obtain rfl : j = 1 := by omega
      rw [rst_one (by omega), rst_one (by omega), Nat.pow_one, Nat.pow_zero, Nat.mod_eq_of_lt (by omega), Nat.mod_eq_of_lt (by omega)] at e
      omega
  exact ord_dvd hg (by omega) hm

end Go.Proofs.Ytfhhfnkgdanakaa
