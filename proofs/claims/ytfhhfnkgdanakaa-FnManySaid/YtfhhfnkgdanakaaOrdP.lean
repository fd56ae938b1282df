/-
  Rounds of tops: their length, and how many tops they hold. Mathematics alone.
-/
import Derived.Test.YtfhhfnkgdanakaaOrdM
import Derived.Test.YtfhhfnkgdanakaaRndsM
namespace Go.Proofs.Ytfhhfnkgdanakaa

theorem cop_cancel {t n x y : Nat} (hg : Nat.gcd t n = 1) (h : t * x % n = t * y % n) : x % n = y % n := by
  have key : ∀ {x y : Nat}, x ≤ y → t * x % n = t * y % n → x % n = y % n := by
    intro x y hxy h
    obtain ⟨d, rfl⟩ := Nat.exists_eq_add_of_le hxy
    have h1 := Nat.sub_mod_eq_zero_of_mod_eq h.symm
    rw [Nat.mul_add, Nat.add_sub_cancel_left] at h1
    have h2 : n ∣ t * d := Nat.dvd_of_mod_eq_zero h1
    have h3 : n ∣ d := (show Nat.Coprime n t by unfold Nat.Coprime; rw [Nat.gcd_comm]; exact hg).dvd_of_dvd_mul_left h2
    obtain ⟨e, rfl⟩ := h3
    rw [Nat.add_mul_mod_self_left]
  rcases Nat.le_total x y with h1 | h1
  · exact key h1 h
  · exact (key h1 h.symm).symm

theorem rst_top {b t n : Nat} (ht : t < n) (j : Nat) : rst b t n j = t * b ^ j % n := by
  induction j with
  | zero => show t = t * b ^ 0 % n; rw [Nat.pow_zero, Nat.mul_one, Nat.mod_eq_of_lt ht]
  | succ j ih => show rst b t n j * b % n = t * b ^ (j + 1) % n; rw [ih, Nat.mod_mul_mod, Nat.pow_succ, Nat.mul_assoc]

theorem rst_iff {b t n : Nat} (hn : 2 ≤ n) (ht : t < n) (hg : Nat.gcd t n = 1) {i j : Nat} : rst b t n i = rst b t n j ↔ rst b 1 n i = rst b 1 n j := by
  rw [rst_top ht, rst_top ht, rst_one hn, rst_one hn]
  constructor
  · exact cop_cancel hg
  · intro h
    rw [Nat.mul_mod, h, ← Nat.mul_mod]

/-- All rounds of tops are as long as that of 1. -/
theorem len_same {b t n m : Nat} (hn : 2 ≤ n) (ht : t < n) (hg : Nat.gcd t n = 1) : IsLen b t n 0 m ↔ IsLen b 1 n 0 m := by
  constructor
  · intro h
    exact ⟨h.pos, (rst_iff hn ht hg).1 h.eq, fun i j hij hj e => h.ne i j hij hj ((rst_iff hn ht hg).2 e)⟩
  · intro h
    exact ⟨h.pos, (rst_iff hn ht hg).2 h.eq, fun i j hij hj e => h.ne i j hij hj ((rst_iff hn ht hg).1 e)⟩

/-- How many of the numbers below k. -/
def cnt (f : Nat → Bool) : Nat → Nat
  | 0 => 0
  | k + 1 => cnt f k + (if f k then 1 else 0)

theorem cnt_congr {f g : Nat → Bool} : ∀ {n : Nat}, (∀ x, x < n → f x = g x) → cnt f n = cnt g n := by
  intro n
  induction n with
  | zero => intro _; rfl
  | succ n ih => intro h; show cnt f n + _ = cnt g n + _; rw [ih (fun x hx => h x (by omega)), h n (by omega)]

/-- One more. -/
theorem cnt_put {f g : Nat → Bool} {a : Nat} (hf : f a = false) (hg : ∀ x, g x = if x = a then true else f x) : ∀ n, a < n → cnt g n = cnt f n + 1 := by
  intro n
  induction n with
  | zero => intro h; omega
  | succ n ih =>
    intro h
    show cnt g n + _ = cnt f n + _ + 1
    rcases Nat.lt_or_ge a n with h1 | h1
    · have h2 : g n = f n := by rw [hg, if_neg (by omega)]
      rw [ih h1, h2]
      omega
    · obtain rfl : a = n := by omega
      have h2 : cnt g a = cnt f a := cnt_congr fun x hx => by rw [hg, if_neg (by omega)]
      rw [h2, hf, show g a = true by rw [hg, if_pos rfl]]
      simp

theorem cnt_zero (n : Nat) : cnt (fun _ => false) n = 0 := by
  induction n with
  | zero => rfl
  | succ n ih => show cnt _ n + _ = 0; rw [ih]; simp

theorem cnt_way {b n t m : Nat} (hbn : Nat.gcd b n = 1) (ht : t < n) (hg : Nat.gcd t n = 1) (h : Told b n t t = false) (hm : IsLen b t n 0 m) : ∀ k, k ≤ m → cnt (TolK b n t k) n = cnt (Told b n t) n + k := by
  intro k
  induction k with
  | zero => intro _; exact cnt_congr fun x _ => tolK_zero b n t x
  | succ k ih =>
    intro hk
    rw [cnt_put (tolK_way hbn ht hg h hm (show k < m by omega)) (fun x => tolK_succ b n t k x) n (rst_lt ht k), ih (by omega)]
    omega

/-- The rounds hold as many tops as were met. -/
theorem rnds_cnt {b n m : Nat} (hbn : Nat.gcd b n = 1) (hn : 2 ≤ n) (hm : IsLen b 1 n 0 m) : ∀ {t : Nat} {L : List (List Int)}, t ≤ n → Rnds b n t L → L.length * m = cnt (Told b n t) n ∧ ∀ xs ∈ L, xs.length = m := by
  intro t
  induction t with
  | zero =>
    intro L _ h
    rw [show L = [] from h]
    refine ⟨?_, by simp⟩
    rw [cnt_congr (g := fun _ => false) (fun x _ => by rw [told_false hbn (Nat.zero_le _)]; rintro ⟨s, j, h1, _⟩; omega), cnt_zero]
    simp
  | succ t ih =>
    intro L ht h
    rcases h with ⟨h1, h2⟩ | ⟨⟨h1, h2⟩, L0, m', h3, h4, rfl⟩
    · have := ih (by omega) h2
      refine ⟨?_, this.2⟩
      rw [this.1]
      exact cnt_congr fun x _ => (told_skip hbn (by omega) h1 x).symm
    · have hmm : m' = m := (((len_same hn (by omega) h2).1 h4).unique hm).2
      subst hmm
      have := ih (by omega) h3
      refine ⟨?_, fun xs hx => ?_⟩
      · rw [List.length_append, Nat.add_mul, this.1, cnt_congr (f := Told b n (t + 1)) (g := TolK b n t m') (fun x _ => (tolK_all hbn (by omega) h2 h4 x).symm), cnt_way hbn (by omega) h2 h1 h4 m' (Nat.le_refl _)]
        simp
      · rcases List.mem_append.1 hx with hx | hx
        · exact this.2 xs hx
        · rw [List.mem_singleton.1 hx, rstL_len]

theorem cop_rst {b n t : Nat} (hbn : Nat.gcd b n = 1) (ht : t < n) (hg : Nat.gcd t n = 1) (j : Nat) : Nat.gcd (rst b t n j) n = 1 := by
  rw [rst_top ht, ← Nat.gcd_rec, Nat.gcd_comm]
  exact Nat.Coprime.mul_left hg (Nat.Coprime.pow_left j hbn)

/-- In the end all numbers without a common divisor were met. -/
theorem told_end {b n : Nat} (hbn : Nat.gcd b n = 1) {x : Nat} (hx : x < n) : Told b n n x = decide (Nat.gcd x n = 1) := by
  rw [Bool.eq_iff_iff, told_iff hbn (Nat.le_refl _), decide_eq_true_eq]
  constructor
  · rintro ⟨s, j, h1, h2, rfl⟩; exact cop_rst hbn h1 h2 j
  · intro h; exact ⟨x, 0, hx, h, rfl⟩

theorem cnt_units (n : Nat) (hn : 2 ≤ n) : cnt (fun x => decide (Nat.gcd x n = 1)) n = unC n n := by
  have key : ∀ k, cnt (fun x => decide (Nat.gcd x n = 1)) (k + 1) = unC n k := by
    intro k
    induction k with
    | zero => simp [cnt, unC]; omega
    | succ k ih =>
      show cnt _ (k + 1) + _ = unC n k + _
      rw [ih]
      simp
  obtain ⟨k, rfl⟩ : ∃ k, n = k + 1 := ⟨n - 1, by omega⟩
  rw [key k]
  show unC (k + 1) k = unC (k + 1) k + _
  rw [if_neg (by rw [Nat.gcd_self]; omega)]
  omega

/-- Rounds and their length are all tops. -/
theorem rnds_units {b n m : Nat} {L : List (List Int)} (hbn : Nat.gcd b n = 1) (hn : 2 ≤ n) (hm : IsLen b 1 n 0 m) (h : Rnds b n n L) : L.length * m = unC n n ∧ ∀ xs ∈ L, xs.length = m := by
  have h1 := rnds_cnt hbn hn hm (Nat.le_refl _) h
  refine ⟨?_, h1.2⟩
  rw [h1.1, cnt_congr (fun x hx => told_end hbn hx), cnt_units n hn]

/-- Orders divide the number of units. -/
theorem ord_dvd {b n m : Nat} (hbn : Nat.gcd b n = 1) (hn : 2 ≤ n) (hm : IsLen b 1 n 0 m) : m ∣ unC n n := by
  obtain ⟨L, hL⟩ := rnds_some hbn n (Nat.le_refl _)
  exact ⟨L.length, by rw [Nat.mul_comm, (rnds_units hbn hn hm hL).1]⟩

/-- Powers that leave 1 have multiples of the order as exponents. -/
theorem ord_iff {b n m : Nat} (hn : 2 ≤ n) (hm : IsLen b 1 n 0 m) (k : Nat) : b ^ k % n = 1 ↔ m ∣ k := by
  have hp := hm.pos
  have h1 := hm.place k (Nat.zero_le _)
  rw [Nat.zero_add, Nat.sub_zero, rst_one hn, rst_one hn] at h1
  rw [← h1]
  constructor
  · intro h
    rcases Nat.eq_zero_or_pos (k % m) with h2 | h2
    · exact Nat.dvd_of_mod_eq_zero h2
    · exfalso
      refine hm.ne 0 (k % m) h2 (by have := Nat.mod_lt k hp; omega) ?_
      rw [rst_one hn, rst_one hn, h]
      rw [Nat.pow_zero, Nat.mod_eq_of_lt (by omega)]
  · rintro ⟨q, rfl⟩
    rw [Nat.mul_mod_right, Nat.pow_zero, Nat.mod_eq_of_lt (by omega)]

end Go.Proofs.Ytfhhfnkgdanakaa
