/-
  Orders, rows of ones, products of a base's primes: mathematics alone.
  The list of rests: mathematics alone.
  The rounds of tops: mathematics alone.
  Rounds of tops: their length, and how many tops they hold. Mathematics alone.
  Beginnings and rounds of 1 over n by its two parts; rows of ones and orders; units of primes. Mathematics alone.
  Primes that are full, bases with a length, the common multiple of the orders. Mathematics alone.
-/
import Derived.Test.YtmpbbflolbakhaaGreatDoorNum
import Derived.Test.YtmpbbflolbakhaaGreatDoorPMath
namespace Go.Proofs.YtmpbbflolbakhaaGreatDoor

/-- A base without a common divisor with the bottom: no beginning. -/
theorem len_zero {b n t : Nat} (hbn : Nat.gcd b n = 1) (ht : t < n) (hg : Nat.gcd t n = 1) : ∃ m, IsLen b t n 0 m := by
  obtain ⟨n0, m, h⟩ := len_some (b := b) ht hg
  have h0 : trn b t n 0 := hbn
  have h1 := (begin_of_len ht hg h).2 0
  rcases Nat.eq_zero_or_pos n0 with rfl | hp
  · exact ⟨m, h⟩
  · exact absurd h0 (h1 hp)

theorem ord_some {b n : Nat} (hbn : Nat.gcd b n = 1) (hn : 2 ≤ n) : ∃ m, IsLen b 1 n 0 m := len_zero hbn (by omega) (Nat.gcd_one_left n)

theorem rst_one {b n : Nat} (hn : 2 ≤ n) (k : Nat) : rst b 1 n k = b ^ k % n := by
  induction k with
  | zero => show 1 = b ^ 0 % n; rw [Nat.pow_zero, Nat.mod_eq_of_lt (by omega)]
  | succ k ih => show rst b 1 n k * b % n = b ^ (k + 1) % n; rw [ih, Nat.mod_mul_mod, Nat.pow_succ]

/-- How many of the numbers 1 .. k have no common divisor with n. -/
def unC (n : Nat) : Nat → Nat
  | 0 => 0
  | k + 1 => unC n k + (if Nat.gcd (k + 1) n = 1 then 1 else 0)

theorem unC_le (n k : Nat) : unC n k ≤ k := by
  induction k with
  | zero => exact Nat.le_refl _
  | succ k ih => show unC n k + _ ≤ _; split <;> omega

/-- A row of j + 1 ones, its rest by n (the first one is 1 itself). -/
def oneR (b n : Nat) : Nat → Nat
  | 0 => 1
  | j + 1 => (oneR b n j * b + 1) % n

/-- A row of j ones. -/
def oneV (b : Nat) : Nat → Nat
  | 0 => 0
  | j + 1 => oneV b j * b + 1

theorem oneR_mod {b n : Nat} (j : Nat) : oneR b n j % n = oneV b (j + 1) % n := by
  induction j with
  | zero => simp [oneR, oneV]
  | succ j ih =>
    show (oneR b n j * b + 1) % n % n = (oneV b (j + 1) * b + 1) % n
    rw [Nat.mod_mod, Nat.add_mod, ← Nat.mod_mul_mod, ih, Nat.mod_mul_mod, ← Nat.add_mod]

theorem oneV_add (b i j : Nat) : oneV b (i + j) = oneV b i * b ^ j + oneV b j := by
  induction j with
  | zero => simp [oneV]
  | succ j ih =>
    show oneV b (i + j) * b + 1 = oneV b i * b ^ (j + 1) + (oneV b j * b + 1)
    rw [ih, Nat.pow_succ]
    grind

theorem one_some {b n : Nat} (hbn : Nat.gcd b n = 1) (hn : 0 < n) : ∃ j, j < n ∧ oneR b n j % n = 0 := by
  -- the rows of 0 .. n ones: two of them leave one rest
  have hex : ∃ i j, i < j ∧ j ≤ n ∧ oneV b i % n = oneV b j % n := by
    refine Classical.byContradiction fun hno => ?_
    have := php n (n + 1) (fun i => oneV b i % n) (fun i _ => Nat.mod_lt _ hn) (fun i j hij hj h => hno ⟨i, j, hij, by omega, h⟩)
    omega
  obtain ⟨i, j, hij, hj, he⟩ := hex
  obtain ⟨k, rfl⟩ := Nat.exists_eq_add_of_lt hij
  have h1 : oneV b (k + 1 + i) % n = oneV b i % n := by rw [he]; congr 2; omega
  rw [oneV_add] at h1
  have h2 : n ∣ oneV b (k + 1) * b ^ i := by
    have := Nat.sub_mod_eq_zero_of_mod_eq h1
    rw [Nat.add_sub_cancel] at this
    exact Nat.dvd_of_mod_eq_zero this
  have h3 : Nat.Coprime n (b ^ i) := Nat.Coprime.pow_right i (by unfold Nat.Coprime; rw [Nat.gcd_comm]; exact hbn)
  have h4 : n ∣ oneV b (k + 1) := h3.dvd_of_dvd_mul_right h2
  refine ⟨k, by omega, ?_⟩
  rw [oneR_mod]
  exact Nat.mod_eq_zero_of_dvd h4

/-- The least row of ones that n divides: of k + 1 ones. -/
def IsOne (b n k : Nat) : Prop := oneR b n k % n = 0 ∧ ∀ j, j < k → oneR b n j % n ≠ 0

theorem isOne_some {b n : Nat} (hbn : Nat.gcd b n = 1) (hn : 0 < n) : ∃ k, k < n ∧ IsOne b n k := by
  obtain ⟨j, hj, he⟩ := one_some hbn hn
  obtain ⟨k, hk, hl⟩ := least (P := fun j => oneR b n j % n = 0) ⟨j, he⟩
  refine ⟨k, ?_, hk, hl⟩
  rcases Nat.lt_or_ge j k with h | h
  · exact absurd he (hl j h)
  · omega

theorem IsOne.unique {b n k k' : Nat} (h : IsOne b n k) (h' : IsOne b n k') : k = k' := by
  rcases Nat.lt_trichotomy k k' with h1 | h1 | h1
  · exact absurd h.1 (h'.2 k h1)
  · exact h1
  · exact absurd h'.1 (h.2 k' h1)

/-- A product of two numbers, the first of the base's primes alone, the second without a common divisor with the base. -/
structure IsSplit (b n f s : Nat) : Prop where
  eq : f * s = n
  cop : Nat.gcd s b = 1
  pow : ∃ k, f ∣ b ^ k

theorem IsSplit.dvd {b n f s f' s' : Nat} (h : IsSplit b n f s) (h' : IsSplit b n f' s') : f ∣ f' := by
  obtain ⟨k, hk⟩ := h.pow
  have h1 : Nat.Coprime f s' := by
    have h2 : Nat.Coprime (b ^ k) s' := Nat.Coprime.pow_left k (by unfold Nat.Coprime; rw [Nat.gcd_comm]; exact h'.cop)
    exact Nat.Coprime.coprime_dvd_left hk h2
  refine h1.dvd_of_dvd_mul_right ?_
  rw [h'.eq, ← h.eq]
  exact Nat.dvd_mul_right _ _

theorem IsSplit.unique {b n f s f' s' : Nat} (hn : 0 < n) (h : IsSplit b n f s) (h' : IsSplit b n f' s') : f = f' ∧ s = s' := by
  have e : f = f' := Nat.dvd_antisymm (h.dvd h') (h'.dvd h)
  subst e
  refine ⟨rfl, ?_⟩
  have hf : 0 < f := Nat.pos_of_ne_zero fun e => by have := h.eq; rw [e, Nat.zero_mul] at this; omega
  exact Nat.eq_of_mul_eq_mul_left hf (h.eq.trans h'.eq.symm)

/-- The least power of the base that a number divides. -/
def IsPow (b f k : Nat) : Prop := f ∣ b ^ k ∧ ∀ j, j < k → ¬ f ∣ b ^ j

theorem isPow_some {b f : Nat} (h : ∃ k, f ∣ b ^ k) : ∃ k, IsPow b f k := by
  obtain ⟨k, hk, hl⟩ := least (P := fun k => f ∣ b ^ k) h
  exact ⟨k, hk, hl⟩

theorem IsPow.unique {b f k k' : Nat} (h : IsPow b f k) (h' : IsPow b f k') : k = k' := by
  rcases Nat.lt_trichotomy k k' with h1 | h1 | h1
  · exact absurd h.1 (h'.2 k h1)
  · exact h1
  · exact absurd h'.1 (h.2 k' h1)

end Go.Proofs.YtmpbbflolbakhaaGreatDoor

namespace Go.Proofs.YtmpbbflolbakhaaGreatDoor

def rstL (b T B k : Nat) : List Int := (List.range k).map fun i => (rst b T B i : Int)

theorem rstL_succ (b T B k : Nat) : rstL b T B (k + 1) = rstL b T B k ++ [(rst b T B k : Int)] := by
  unfold rstL; rw [List.range_succ, List.map_append]; rfl
theorem rstL_len (b T B k : Nat) : (rstL b T B k).length = k := by simp [rstL]
theorem rstL_get (b T B K k : Nat) (hk : k < K) : (rstL b T B K)[k]?.getD 0 = (rst b T B k : Int) := by
  unfold rstL
  rw [List.getElem?_map, List.getElem?_range hk]
  rfl

end Go.Proofs.YtmpbbflolbakhaaGreatDoor

namespace Go.Proofs.YtmpbbflolbakhaaGreatDoor

/-- A top that was met in the round of a lesser one. -/
def Told (b n t x : Nat) : Bool := decide (∃ s, s < t ∧ (Nat.gcd s n = 1 ∧ ∃ j, j < n ∧ rst b s n j = x))

theorem told_iff {b n t x : Nat} (hbn : Nat.gcd b n = 1) (ht : t ≤ n) : Told b n t x = true ↔ ∃ s j, s < t ∧ Nat.gcd s n = 1 ∧ rst b s n j = x := by
  unfold Told
  rw [decide_eq_true_eq]
  constructor
  · rintro ⟨s, h1, h2, j, _, h3⟩; exact ⟨s, j, h1, h2, h3⟩
  · rintro ⟨s, j, h1, h2, h3⟩
    obtain ⟨m, hm⟩ := len_zero hbn (show s < n by omega) h2
    have hp := hm.pos
    have hle := hm.le (show s < n by omega)
    have := hm.place j (Nat.zero_le _)
    refine ⟨s, h1, h2, (j - 0) % m, ?_, ?_⟩
    · have := Nat.mod_lt (j - 0) hp; omega
    · rw [Nat.zero_add] at this; rw [this]; exact h3

theorem told_false {b n t x : Nat} (hbn : Nat.gcd b n = 1) (ht : t ≤ n) : Told b n t x = false ↔ ¬ ∃ s j, s < t ∧ Nat.gcd s n = 1 ∧ rst b s n j = x := by
  rw [← told_iff hbn ht]
  cases Told b n t x <;> simp

/-- From each rest of a round the top comes again. -/
theorem rst_home {b n s : Nat} (hbn : Nat.gcd b n = 1) (hs : s < n) (hg : Nat.gcd s n = 1) (j : Nat) : ∃ k, rst b (rst b s n j) n k = s := by
  obtain ⟨m, hm⟩ := len_zero hbn hs hg
  have hp := hm.pos
  refine ⟨j * m + m - j % m - (j - j % m), ?_⟩
  have h1 : j % m < m := Nat.mod_lt _ hp
  have h2 : j % m + m * (j / m) = j := Nat.mod_add_div j m
  have h3 : j ≤ j * m := Nat.le_mul_of_pos_right j hp
  have h4 := hm.per_mul 0 (j + 1) (Nat.le_refl _)
  rw [rst_add, show j + (j * m + m - j % m - (j - j % m)) = 0 + (j + 1) * m by rw [Nat.add_mul, Nat.one_mul]; have := Nat.mod_le j m; omega, h4]
  rfl

theorem told_skip {b n t : Nat} (hbn : Nat.gcd b n = 1) (ht : t < n) (h : Told b n t t = true ∨ Nat.gcd t n ≠ 1) (x : Nat) : Told b n (t + 1) x = Told b n t x := by
  rw [Bool.eq_iff_iff, told_iff hbn ht, told_iff hbn (Nat.le_of_lt ht)]
  constructor
  · rintro ⟨s, j, h1, h2, h3⟩
    rcases Nat.lt_or_ge s t with h4 | h4
    · exact ⟨s, j, h4, h2, h3⟩
    · obtain rfl : s = t := by omega
      rcases h with h | h
      · obtain ⟨s', j', h5, h6, h7⟩ := (told_iff hbn (Nat.le_of_lt ht)).1 h
        refine ⟨s', j' + j, h5, h6, ?_⟩
        rw [← h3, ← rst_add, h7]
      · exact absurd h2 h
  · rintro ⟨s, j, h1, h2, h3⟩; exact ⟨s, j, by omega, h2, h3⟩

theorem told_fresh {b n t : Nat} (hbn : Nat.gcd b n = 1) (ht : t < n) (hg : Nat.gcd t n = 1) (h : Told b n t t = false) (j : Nat) : Told b n t (rst b t n j) = false := by
  rw [told_false hbn (Nat.le_of_lt ht)] at h ⊢
  rintro ⟨s, i, h1, h2, h3⟩
  obtain ⟨k, hk⟩ := rst_home hbn ht hg j
  refine h ⟨s, i + k, h1, h2, ?_⟩
  rw [← rst_add, h3, hk]

/-- What was met, and the first k rests of the round of t. -/
def TolK (b n t k x : Nat) : Bool := Told b n t x || decide (∃ j, j < k ∧ rst b t n j = x)

theorem tolK_zero (b n t x : Nat) : TolK b n t 0 x = Told b n t x := by unfold TolK; simp

theorem tolK_succ (b n t k x : Nat) : TolK b n t (k + 1) x = if x = rst b t n k then true else TolK b n t k x := by
  unfold TolK
  split
  · rename_i h
    rw [Bool.or_eq_true]
    exact .inr (decide_eq_true ⟨k, by omega, h.symm⟩)
  · rename_i h
    congr 1
    rw [decide_eq_decide]
    constructor
    · rintro ⟨j, hj, e⟩
      rcases Nat.lt_or_ge j k with h1 | h1
      · exact ⟨j, h1, e⟩
      · obtain rfl : j = k := by omega
        exact absurd e.symm h
    · rintro ⟨j, hj, e⟩; exact ⟨j, by omega, e⟩

theorem tolK_all {b n t m : Nat} (hbn : Nat.gcd b n = 1) (ht : t < n) (hg : Nat.gcd t n = 1) (hm : IsLen b t n 0 m) (x : Nat) : TolK b n t m x = Told b n (t + 1) x := by
  unfold TolK
  rw [Bool.eq_iff_iff, Bool.or_eq_true, told_iff hbn ht, told_iff hbn (Nat.le_of_lt ht), decide_eq_true_eq]
  constructor
  · rintro (⟨s, j, h1, h2, h3⟩ | ⟨j, h1, h2⟩)
    · exact ⟨s, j, by omega, h2, h3⟩
    · exact ⟨t, j, by omega, hg, h2⟩
  · rintro ⟨s, j, h1, h2, h3⟩
    rcases Nat.lt_or_ge s t with h4 | h4
    · exact .inl ⟨s, j, h4, h2, h3⟩
    · obtain rfl : s = t := by omega
      have := hm.place j (Nat.zero_le _)
      refine .inr ⟨(j - 0) % m, Nat.mod_lt _ hm.pos, ?_⟩
      rw [Nat.zero_add] at this; rw [this]; exact h3

/-- On the way round no rest was met, but at the end. -/
theorem tolK_way {b n t m : Nat} (hbn : Nat.gcd b n = 1) (ht : t < n) (hg : Nat.gcd t n = 1) (h : Told b n t t = false) (hm : IsLen b t n 0 m) {k : Nat} (hk : k < m) : TolK b n t k (rst b t n k) = false := by
  unfold TolK
  rw [told_fresh hbn ht hg h, Bool.false_or, decide_eq_false_iff_not]
  rintro ⟨j, hj, e⟩
  exact hm.ne j k hj (by omega) e

theorem tolK_end {b n t m : Nat} (hm : IsLen b t n 0 m) : TolK b n t m (rst b t n m) = true := by
  unfold TolK
  rw [Bool.or_eq_true]
  refine .inr (decide_eq_true ⟨0, hm.pos, ?_⟩)
  have := hm.eq
  rw [Nat.zero_add] at this
  exact this.symm

/-- The rounds of the tops below t. -/
def Rnds (b n : Nat) : Nat → List (List Int) → Prop
  | 0, L => L = []
  | t + 1, L => ((Told b n t t = true ∨ Nat.gcd t n ≠ 1) ∧ Rnds b n t L) ∨ ((Told b n t t = false ∧ Nat.gcd t n = 1) ∧ ∃ L0 m, Rnds b n t L0 ∧ IsLen b t n 0 m ∧ L = L0 ++ [rstL b t n m])

theorem Rnds.unique {b n : Nat} : ∀ {t : Nat} {L L' : List (List Int)}, Rnds b n t L → Rnds b n t L' → L = L' := by
  intro t
  induction t with
  | zero => intro L L' h h'; exact Eq.trans h (Eq.symm h')
  | succ t ih =>
    intro L L' h h'
    rcases h with ⟨h1, h2⟩ | ⟨⟨h1, h2⟩, L0, m, h3, h4, h5⟩ <;> rcases h' with ⟨k1, k2⟩ | ⟨⟨k1, k2⟩, L0', m', k3, k4, k5⟩
    · exact ih h2 k2
    · rcases h1 with h1 | h1
      · rw [k1] at h1; cases h1
      · exact absurd k2 h1
    · rcases k1 with k1 | k1
      · rw [h1] at k1; cases k1
      · exact absurd h2 k1
    · rw [h5, k5, ih h3 k3, (h4.unique k4).2]

theorem Rnds.bound {b n : Nat} : ∀ {t : Nat} {L : List (List Int)}, t ≤ n → Rnds b n t L → L.length ≤ t ∧ ∀ xs ∈ L, 0 < xs.length ∧ xs.length ≤ n := by
  intro t
  induction t with
  | zero => intro L _ h; rw [show L = [] from h]; simp
  | succ t ih =>
    intro L ht h
    rcases h with ⟨_, h2⟩ | ⟨_, L0, m, h3, h4, rfl⟩
    · have := ih (by omega) h2
      exact ⟨by omega, this.2⟩
    · have := ih (by omega) h3
      refine ⟨by simp; omega, fun xs hx => ?_⟩
      rcases List.mem_append.1 hx with hx | hx
      · exact this.2 xs hx
      · rw [List.mem_singleton.1 hx, rstL_len]
        have := h4.le (show t < n by omega)
        have := h4.pos
        omega

theorem Rnds.some {b n : Nat} (hn : 2 ≤ n) : ∀ {t : Nat} {L : List (List Int)}, 2 ≤ t → Rnds b n t L → 0 < L.length := by
  intro t
  induction t with
  | zero => intro L h; omega
  | succ t ih =>
    intro L ht h
    rcases h with ⟨h1, h2⟩ | ⟨_, L0, m, h3, h4, rfl⟩
    · rcases Nat.lt_or_ge t 2 with h5 | h5
      · obtain rfl : t = 1 := by omega
        exfalso
        rcases h1 with h1 | h1
        · unfold Told at h1
          rw [decide_eq_true_eq] at h1
          obtain ⟨s, hs, hg, _⟩ := h1
          obtain rfl : s = 0 := by omega
          rw [Nat.gcd_zero_left] at hg
          omega
        · exact h1 (Nat.gcd_one_left n)
      · exact ih h5 h2
    · simp

theorem rnds_some {b n : Nat} (hbn : Nat.gcd b n = 1) : ∀ t, t ≤ n → ∃ L, Rnds b n t L := by
  intro t
  induction t with
  | zero => intro _; exact ⟨[], rfl⟩
  | succ t ih =>
    intro ht
    obtain ⟨L, hL⟩ := ih (by omega)
    by_cases hg : Nat.gcd t n = 1
    · cases hT : Told b n t t with
      | true => exact ⟨L, .inl ⟨.inl hT, hL⟩⟩
      | false =>
        obtain ⟨m, hm⟩ := len_zero hbn (show t < n by omega) hg
        exact ⟨_, .inr ⟨⟨hT, hg⟩, L, m, hL, hm, rfl⟩⟩
    · exact ⟨L, .inl ⟨.inr hg, hL⟩⟩

theorem Rnds.skip {b n t : Nat} {L : List (List Int)} (h : Rnds b n t L) (hs : Told b n t t = true ∨ Nat.gcd t n ≠ 1) : Rnds b n (t + 1) L := .inl ⟨hs, h⟩
theorem Rnds.add {b n t m : Nat} {L : List (List Int)} (h : Rnds b n t L) (h1 : Told b n t t = false) (h2 : Nat.gcd t n = 1) (hm : IsLen b t n 0 m) : Rnds b n (t + 1) (L ++ [rstL b t n m]) := .inr ⟨⟨h1, h2⟩, L, m, h, hm, rfl⟩

end Go.Proofs.YtmpbbflolbakhaaGreatDoor

namespace Go.Proofs.YtmpbbflolbakhaaGreatDoor

theorem cop_cancel {t n x y : Nat} (hg : Nat.gcd t n = 1) (h : t * x % n = t * y % n) : x % n = y % n := by
  have key : ∀ {x y : Nat}, x ≤ y → t * x % n = t * y % n → x % n = y % n := by
    intro x y hxy h
    obtain ⟨d, rfl⟩ := Nat.exists_eq_add_of_le hxy
    have h1 := Nat.sub_mod_eq_zero_of_mod_eq h.symm
    rw [Nat.mul_add, Nat.add_sub_cancel_left] at h1
    have h2 : n ∣ t * d := Nat.dvd_of_mod_eq_zero h1
    have h3 : n ∣ d := (show Nat.Coprime n t by unfold Nat.Coprime; rw [Nat.gcd_comm]; exact hg).dvd_of_dvd_mul_left h2
    obtain ⟨e, rfl⟩ := h3
    rw [Nat.add_mul_mod_self_left]
  rcases Nat.le_total x y with h1 | h1
  · exact key h1 h
  · exact (key h1 h.symm).symm

theorem rst_top {b t n : Nat} (ht : t < n) (j : Nat) : rst b t n j = t * b ^ j % n := by
  induction j with
  | zero => show t = t * b ^ 0 % n; rw [Nat.pow_zero, Nat.mul_one, Nat.mod_eq_of_lt ht]
  | succ j ih => show rst b t n j * b % n = t * b ^ (j + 1) % n; rw [ih, Nat.mod_mul_mod, Nat.pow_succ, Nat.mul_assoc]

theorem rst_iff {b t n : Nat} (hn : 2 ≤ n) (ht : t < n) (hg : Nat.gcd t n = 1) {i j : Nat} : rst b t n i = rst b t n j ↔ rst b 1 n i = rst b 1 n j := by
  rw [rst_top ht, rst_top ht, rst_one hn, rst_one hn]
  constructor
  · exact cop_cancel hg
  · intro h
    rw [Nat.mul_mod, h, ← Nat.mul_mod]

/-- All rounds of tops are as long as that of 1. -/
theorem len_same {b t n m : Nat} (hn : 2 ≤ n) (ht : t < n) (hg : Nat.gcd t n = 1) : IsLen b t n 0 m ↔ IsLen b 1 n 0 m := by
  constructor
  · intro h
    exact ⟨h.pos, (rst_iff hn ht hg).1 h.eq, fun i j hij hj e => h.ne i j hij hj ((rst_iff hn ht hg).2 e)⟩
  · intro h
    exact ⟨h.pos, (rst_iff hn ht hg).2 h.eq, fun i j hij hj e => h.ne i j hij hj ((rst_iff hn ht hg).1 e)⟩

/-- How many of the numbers below k. -/
def cnt (f : Nat → Bool) : Nat → Nat
  | 0 => 0
  | k + 1 => cnt f k + (if f k then 1 else 0)

theorem cnt_congr {f g : Nat → Bool} : ∀ {n : Nat}, (∀ x, x < n → f x = g x) → cnt f n = cnt g n := by
  intro n
  induction n with
  | zero => intro _; rfl
  | succ n ih => intro h; show cnt f n + _ = cnt g n + _; rw [ih (fun x hx => h x (by omega)), h n (by omega)]

/-- One more. -/
theorem cnt_put {f g : Nat → Bool} {a : Nat} (hf : f a = false) (hg : ∀ x, g x = if x = a then true else f x) : ∀ n, a < n → cnt g n = cnt f n + 1 := by
  intro n
  induction n with
  | zero => intro h; omega
  | succ n ih =>
    intro h
    show cnt g n + _ = cnt f n + _ + 1
    rcases Nat.lt_or_ge a n with h1 | h1
    · have h2 : g n = f n := by rw [hg, if_neg (by omega)]
      rw [ih h1, h2]
      omega
    · obtain rfl : a = n := by omega
      have h2 : cnt g a = cnt f a := cnt_congr fun x hx => by rw [hg, if_neg (by omega)]
      rw [h2, hf, show g a = true by rw [hg, if_pos rfl]]
      simp

theorem cnt_zero (n : Nat) : cnt (fun _ => false) n = 0 := by
  induction n with
  | zero => rfl
  | succ n ih => show cnt _ n + _ = 0; rw [ih]; simp

theorem cnt_way {b n t m : Nat} (hbn : Nat.gcd b n = 1) (ht : t < n) (hg : Nat.gcd t n = 1) (h : Told b n t t = false) (hm : IsLen b t n 0 m) : ∀ k, k ≤ m → cnt (TolK b n t k) n = cnt (Told b n t) n + k := by
  intro k
  induction k with
  | zero => intro _; exact cnt_congr fun x _ => tolK_zero b n t x
  | succ k ih =>
    intro hk
    rw [cnt_put (tolK_way hbn ht hg h hm (show k < m by omega)) (fun x => tolK_succ b n t k x) n (rst_lt ht k), ih (by omega)]
    omega

/-- The rounds hold as many tops as were met. -/
theorem rnds_cnt {b n m : Nat} (hbn : Nat.gcd b n = 1) (hn : 2 ≤ n) (hm : IsLen b 1 n 0 m) : ∀ {t : Nat} {L : List (List Int)}, t ≤ n → Rnds b n t L → L.length * m = cnt (Told b n t) n ∧ ∀ xs ∈ L, xs.length = m := by
  intro t
  induction t with
  | zero =>
    intro L _ h
    rw [show L = [] from h]
    refine ⟨?_, by simp⟩
    rw [cnt_congr (g := fun _ => false) (fun x _ => by rw [told_false hbn (Nat.zero_le _)]; rintro ⟨s, j, h1, _⟩; omega), cnt_zero]
    simp
  | succ t ih =>
    intro L ht h
    rcases h with ⟨h1, h2⟩ | ⟨⟨h1, h2⟩, L0, m', h3, h4, rfl⟩
    · have := ih (by omega) h2
      refine ⟨?_, this.2⟩
      rw [this.1]
      exact cnt_congr fun x _ => (told_skip hbn (by omega) h1 x).symm
    · have hmm : m' = m := (((len_same hn (by omega) h2).1 h4).unique hm).2
      subst hmm
      have := ih (by omega) h3
      refine ⟨?_, fun xs hx => ?_⟩
      · rw [List.length_append, Nat.add_mul, this.1, cnt_congr (f := Told b n (t + 1)) (g := TolK b n t m') (fun x _ => (tolK_all hbn (by omega) h2 h4 x).symm), cnt_way hbn (by omega) h2 h1 h4 m' (Nat.le_refl _)]
        simp
      · rcases List.mem_append.1 hx with hx | hx
        · exact this.2 xs hx
        · rw [List.mem_singleton.1 hx, rstL_len]

theorem cop_rst {b n t : Nat} (hbn : Nat.gcd b n = 1) (ht : t < n) (hg : Nat.gcd t n = 1) (j : Nat) : Nat.gcd (rst b t n j) n = 1 := by
  rw [rst_top ht, ← Nat.gcd_rec, Nat.gcd_comm]
  exact Nat.Coprime.mul_left hg (Nat.Coprime.pow_left j hbn)

/-- In the end all numbers without a common divisor were met. -/
theorem told_end {b n : Nat} (hbn : Nat.gcd b n = 1) {x : Nat} (hx : x < n) : Told b n n x = decide (Nat.gcd x n = 1) := by
  rw [Bool.eq_iff_iff, told_iff hbn (Nat.le_refl _), decide_eq_true_eq]
  constructor
  · rintro ⟨s, j, h1, h2, rfl⟩; exact cop_rst hbn h1 h2 j
  · intro h; exact ⟨x, 0, hx, h, rfl⟩

theorem cnt_units (n : Nat) (hn : 2 ≤ n) : cnt (fun x => decide (Nat.gcd x n = 1)) n = unC n n := by
  have key : ∀ k, cnt (fun x => decide (Nat.gcd x n = 1)) (k + 1) = unC n k := by
    intro k
    induction k with
    | zero => simp [cnt, unC]; omega
    | succ k ih =>
      show cnt _ (k + 1) + _ = unC n k + _
      rw [ih]
      simp
  obtain ⟨k, rfl⟩ : ∃ k, n = k + 1 := ⟨n - 1, by omega⟩
  rw [key k]
  show unC (k + 1) k = unC (k + 1) k + _
  rw [if_neg (by rw [Nat.gcd_self]; omega)]
  omega

/-- Rounds and their length are all tops. -/
theorem rnds_units {b n m : Nat} {L : List (List Int)} (hbn : Nat.gcd b n = 1) (hn : 2 ≤ n) (hm : IsLen b 1 n 0 m) (h : Rnds b n n L) : L.length * m = unC n n ∧ ∀ xs ∈ L, xs.length = m := by
  have h1 := rnds_cnt hbn hn hm (Nat.le_refl _) h
  refine ⟨?_, h1.2⟩
  rw [h1.1, cnt_congr (fun x hx => told_end hbn hx), cnt_units n hn]

/-- Orders divide the number of units. -/
theorem ord_dvd {b n m : Nat} (hbn : Nat.gcd b n = 1) (hn : 2 ≤ n) (hm : IsLen b 1 n 0 m) : m ∣ unC n n := by
  obtain ⟨L, hL⟩ := rnds_some hbn n (Nat.le_refl _)
  exact ⟨L.length, by rw [Nat.mul_comm, (rnds_units hbn hn hm hL).1]⟩

/-- Powers that leave 1 have multiples of the order as exponents. -/
theorem ord_iff {b n m : Nat} (hn : 2 ≤ n) (hm : IsLen b 1 n 0 m) (k : Nat) : b ^ k % n = 1 ↔ m ∣ k := by
  have hp := hm.pos
  have h1 := hm.place k (Nat.zero_le _)
  rw [Nat.zero_add, Nat.sub_zero, rst_one hn, rst_one hn] at h1
  rw [← h1]
  constructor
  · intro h
    rcases Nat.eq_zero_or_pos (k % m) with h2 | h2
    · exact Nat.dvd_of_mod_eq_zero h2
    · exfalso
      refine hm.ne 0 (k % m) h2 (by have := Nat.mod_lt k hp; omega) ?_
      rw [rst_one hn, rst_one hn, h]
      rw [Nat.pow_zero, Nat.mod_eq_of_lt (by omega)]
  · rintro ⟨q, rfl⟩
    rw [Nat.mul_mod_right, Nat.pow_zero, Nat.mod_eq_of_lt (by omega)]

end Go.Proofs.YtmpbbflolbakhaaGreatDoor

namespace Go.Proofs.YtmpbbflolbakhaaGreatDoor

theorem pow_cong {b n : Nat} (hb : 0 < b) (i d : Nat) : b ^ (i + d) % n = b ^ i % n ↔ n ∣ b ^ i * (b ^ d - 1) := by
  have hp : 0 < b ^ d := Nat.pow_pos hb
  have e : b ^ (i + d) = b ^ i + b ^ i * (b ^ d - 1) := by
    rw [Nat.pow_add, Nat.mul_sub, Nat.mul_one]
    have := Nat.le_mul_of_pos_right (b ^ i) hp
    omega
  constructor
  · intro h
    have h1 := Nat.sub_mod_eq_zero_of_mod_eq h
    rw [e, Nat.add_sub_cancel_left] at h1
    exact Nat.dvd_of_mod_eq_zero h1
  · rintro ⟨q, hq⟩
    rw [e, hq, Nat.add_mul_mod_self_left]

theorem cop_pow_sub {b d : Nat} (hb : 0 < b) (hd : 0 < d) : Nat.Coprime b (b ^ d - 1) := by
  obtain ⟨c, hc⟩ : ∃ c, Nat.gcd b (b ^ d - 1) = c := ⟨_, rfl⟩
  have h1 : c ∣ b := hc ▸ Nat.gcd_dvd_left _ _
  have h2 : c ∣ b ^ d - 1 := hc ▸ Nat.gcd_dvd_right _ _
  have hp : 0 < b ^ d := Nat.pow_pos hb
  have h3 : c ∣ b ^ d := Nat.dvd_trans h1 (Nat.dvd_trans (Nat.dvd_refl b) (by have := Nat.pow_dvd_pow b hd; rwa [Nat.pow_one] at this))
  have h4 : c ∣ b ^ d - (b ^ d - 1) := Nat.dvd_sub h3 h2
  rw [show b ^ d - (b ^ d - 1) = 1 by omega] at h4
  have h5 := Nat.dvd_one.1 h4
  show Nat.gcd b (b ^ d - 1) = 1
  rw [hc, h5]

/-- The round of the second part: the order, or 1. -/
def IsRnd (b s k : Nat) : Prop := (s = 1 ∧ k = 1) ∨ (2 ≤ s ∧ IsLen b 1 s 0 k)

theorem IsRnd.dvd {b s k : Nat} (hb : 0 < b) (h : IsRnd b s k) : 0 < k ∧ ∀ d, s ∣ b ^ d - 1 ↔ k ∣ d := by
  rcases h with ⟨rfl, rfl⟩ | ⟨hs, hk⟩
  · exact ⟨by omega, fun d => ⟨fun _ => Nat.one_dvd d, fun _ => Nat.one_dvd _⟩⟩
  · refine ⟨hk.pos, fun d => ?_⟩
    rw [← ord_iff hs hk d]
    have h1 := pow_cong (n := s) hb 0 d
    rw [Nat.zero_add, Nat.pow_zero, Nat.one_mul, Nat.mod_eq_of_lt (show 1 < s by omega)] at h1
    exact h1.symm

/-- 1 over n: its beginning is the power by the first part, its round that of the second. -/
theorem len_split {b n f s j k : Nat} (hb : 2 ≤ b) (hn : 2 ≤ n) (hs : IsSplit b n f s) (hj : IsPow b f j) (hk : IsRnd b s k) : IsLen b 1 n j k := by
  have hb0 : 0 < b := by omega
  obtain ⟨hkp, hkd⟩ := hk.dvd hb0
  have hcop : Nat.Coprime f s := by
    obtain ⟨K, hK⟩ := hs.pow
    exact Nat.Coprime.coprime_dvd_left hK (Nat.Coprime.pow_left K (by unfold Nat.Coprime; rw [Nat.gcd_comm]; exact hs.cop))
  refine ⟨hkp, ?_, fun i i' hii hi' e => ?_⟩
  · rw [rst_one hn, rst_one hn, pow_cong hb0, ← hs.eq]
    exact Nat.mul_dvd_mul hj.1 ((hkd k).2 (Nat.dvd_refl k))
  · obtain ⟨d, rfl⟩ := Nat.exists_eq_add_of_le (Nat.le_of_lt hii)
    have hd : 0 < d := by omega
    rw [rst_one hn, rst_one hn] at e
    have h1 := (pow_cong (n := n) hb0 i d).1 e.symm
    have hfn : f ∣ n := ⟨s, hs.eq.symm⟩
    have hsn : s ∣ n := ⟨f, by rw [Nat.mul_comm]; exact hs.eq.symm⟩
    have hc := cop_pow_sub hb0 hd
    have h2 : f ∣ b ^ i := by
      obtain ⟨K, hK⟩ := hs.pow
      have h3 : Nat.Coprime f (b ^ d - 1) := Nat.Coprime.coprime_dvd_left hK (Nat.Coprime.pow_left K hc)
      exact h3.dvd_of_dvd_mul_right (Nat.dvd_trans hfn h1)
    have h4 : s ∣ b ^ d - 1 := by
      have h5 : Nat.Coprime s (b ^ i) := Nat.Coprime.pow_right i hs.cop
      exact h5.dvd_of_dvd_mul_left (Nat.dvd_trans hsn h1)
    have h6 : j ≤ i := by
      rcases Nat.lt_or_ge i j with h | h
      · exact absurd h2 (hj.2 i h)
      · exact h
    have h7 := Nat.le_of_dvd hd ((hkd d).1 h4)
    omega

theorem split_some {b n : Nat} (hn : 0 < n) : ∃ f s, IsSplit b n f s := by
  have key : ∀ N s f : Nat, s ≤ N → 0 < s → f * s = n → (∃ k, f ∣ b ^ k) → ∃ f s, IsSplit b n f s := by
    intro N
    induction N with
    | zero => intro s f h1 h2; omega
    | succ N ih =>
      intro s f h1 h2 h3 ⟨k, hk⟩
      by_cases hg : Nat.gcd s b = 1
      · exact ⟨f, s, h3, hg, k, hk⟩
      · have hgp : 0 < Nat.gcd s b := Nat.gcd_pos_of_pos_left _ h2
        obtain ⟨q, hq⟩ := Nat.gcd_dvd_left s b
        have hqp : 0 < q := Nat.pos_of_ne_zero fun e => by rw [e, Nat.mul_zero] at hq; omega
        have hqs : q < s := by
          have h4 : 1 * q < Nat.gcd s b * q := Nat.mul_lt_mul_of_pos_right (by omega) hqp
          omega
        exact ih q (f * Nat.gcd s b) (by omega) hqp (by rw [Nat.mul_assoc, ← hq]; exact h3) ⟨k + 1, by rw [Nat.pow_succ]; exact Nat.mul_dvd_mul hk (Nat.gcd_dvd_right _ _)⟩
  exact key n n 1 (Nat.le_refl _) hn (Nat.one_mul n) ⟨0, Nat.dvd_refl 1⟩

theorem rnd_some {b s : Nat} (hs : 0 < s) (hg : Nat.gcd s b = 1) : ∃ k, IsRnd b s k := by
  rcases Nat.lt_or_ge s 2 with h | h
  · exact ⟨1, .inl ⟨by omega, rfl⟩⟩
  · obtain ⟨m, hm⟩ := ord_some (b := b) (n := s) (by rw [Nat.gcd_comm]; exact hg) h
    exact ⟨m, .inr ⟨h, hm⟩⟩

/-- The powers of a base by which a number is made whole are few. -/
theorem pow_short {b f k : Nat} (hf : 0 < f) (h : IsPow b f k) : 2 ^ k ≤ f := by
  have key : ∀ i, i ≤ k → 2 ^ i ≤ Nat.gcd f (b ^ i) := by
    intro i
    induction i with
    | zero => intro _; simp
    | succ i ih =>
      intro hi
      have h1 := ih (by omega)
      obtain ⟨d, hd⟩ : ∃ d, Nat.gcd f (b ^ i) = d := ⟨_, rfl⟩
      have hdp : 0 < d := hd ▸ Nat.gcd_pos_of_pos_left _ hf
      rw [hd] at h1
      obtain ⟨f', hf'⟩ : d ∣ f := hd ▸ Nat.gcd_dvd_left _ _
      obtain ⟨c, hc⟩ : d ∣ b ^ i := hd ▸ Nat.gcd_dvd_right _ _
      have hcop : Nat.gcd f' c = 1 := by
        have h2 : d * Nat.gcd f' c = d * 1 := by rw [← Nat.gcd_mul_left, ← hf', ← hc, hd, Nat.mul_one]
        exact Nat.eq_of_mul_eq_mul_left hdp h2
      have hall : ∀ e, Nat.gcd f (b ^ (i + e)) = d * Nat.gcd f' (b ^ e) := by
        intro e
        rw [Nat.pow_add, hc, hf', Nat.mul_assoc, Nat.gcd_mul_left]
        congr 1
        exact Nat.Coprime.gcd_mul_left_cancel_right (b ^ e) (show Nat.Coprime c f' by unfold Nat.Coprime; rw [Nat.gcd_comm]; exact hcop)
      have hge : 2 ≤ Nat.gcd f' b := by
        rcases Nat.lt_or_ge (Nat.gcd f' b) 2 with h2 | h2
        · exfalso
          have h3 : 0 < Nat.gcd f' b := Nat.gcd_pos_of_pos_left _ (Nat.pos_of_ne_zero fun e => by rw [e, Nat.mul_zero] at hf'; omega)
          have h4 : Nat.Coprime f' b := by show Nat.gcd f' b = 1; omega
          have h5 := hall (k - i)
          rw [show i + (k - i) = k by omega, show Nat.gcd f' (b ^ (k - i)) = 1 from Nat.Coprime.pow_right _ h4, Nat.mul_one, Nat.gcd_eq_left h.1] at h5
          exact h.2 i (by omega) (by rw [h5, hc]; exact Nat.dvd_mul_right _ _)
        · exact h2
      have h6 := hall 1
      rw [Nat.pow_one] at h6
      rw [h6, Nat.pow_succ]
      exact Nat.mul_le_mul h1 hge
  have := key k (Nat.le_refl _)
  rwa [Nat.gcd_eq_left h.1] at this

/-- No beginning just if there is no common divisor. -/
theorem split_one {b n f s k : Nat} (hn : 0 < n) (hs : IsSplit b n f s) (hk : IsPow b f k) : k = 0 ↔ Nat.gcd b n = 1 := by
  constructor
  · rintro rfl
    have h1 := Nat.dvd_one.1 (show f ∣ 1 from hk.1)
    have h2 := hs.eq
    rw [h1, Nat.one_mul] at h2
    rw [← h2, Nat.gcd_comm]
    exact hs.cop
  · intro h
    have h1 : IsSplit b n 1 n := ⟨Nat.one_mul n, by rw [Nat.gcd_comm]; exact h, 0, Nat.dvd_refl 1⟩
    obtain ⟨rfl, _⟩ := hs.unique hn h1
    rcases Nat.eq_zero_or_pos k with h2 | h2
    · exact h2
    · exact absurd (Nat.one_dvd _) (hk.2 0 h2)

theorem oneV_pow {b : Nat} (hb : 0 < b) (k : Nat) : (b - 1) * oneV b k = b ^ k - 1 := by
  induction k with
  | zero => simp [oneV]
  | succ k ih =>
    show (b - 1) * (oneV b k * b + 1) = b ^ (k + 1) - 1
    rw [Nat.mul_add, ← Nat.mul_assoc, ih, Nat.mul_one, Nat.pow_succ, Nat.sub_mul, Nat.one_mul]
    have hp : 0 < b ^ k := Nat.pow_pos hb
    have := Nat.le_mul_of_pos_left b hp
    omega

theorem one_dvd_iff {b n k : Nat} : oneR b n k % n = 0 ↔ n ∣ oneV b (k + 1) := by
  rw [oneR_mod]
  exact ⟨Nat.dvd_of_mod_eq_zero, Nat.mod_eq_zero_of_dvd⟩

/-- The row of ones has a multiple of the order as length; the order itself, if b - 1 has no common divisor with n. -/
theorem ones_ord {b n m k : Nat} (hb : 2 ≤ b) (hn : 2 ≤ n) (hm : IsLen b 1 n 0 m) (hk : IsOne b n k) : m ∣ k + 1 ∧ (Nat.gcd n (b - 1) = 1 → k + 1 = m) := by
  have hb0 : 0 < b := by omega
  have hR : ∀ d, n ∣ b ^ d - 1 ↔ m ∣ d := ((show IsRnd b n m from .inr ⟨hn, hm⟩).dvd hb0).2
  have h1 : m ∣ k + 1 := by
    rw [← hR, ← oneV_pow hb0]
    exact Nat.dvd_trans (one_dvd_iff.1 hk.1) (Nat.dvd_mul_left _ _)
  refine ⟨h1, fun hg => ?_⟩
  have hp := hm.pos
  have h2 : n ∣ (b - 1) * oneV b m := by rw [oneV_pow hb0]; exact (hR m).2 (Nat.dvd_refl m)
  have h3 : n ∣ oneV b m := (show Nat.Coprime n (b - 1) from hg).dvd_of_dvd_mul_left h2
  have h4 : k ≤ m - 1 := by
    rcases Nat.lt_or_ge (m - 1) k with h | h
    · exact absurd (one_dvd_iff.2 (by rw [show m - 1 + 1 = m by omega]; exact h3)) (hk.2 (m - 1) h)
    · exact h
  have h5 := Nat.le_of_dvd (by omega) h1
  omega

/-- A prime. -/
def primeB (n : Nat) : Bool := decide (2 ≤ n ∧ ∀ k, k < n → 2 ≤ k → n % k ≠ 0)

theorem prime_cop {n x : Nat} (hp : primeB n = true) (h0 : 0 < x) (hx : x < n) : Nat.gcd x n = 1 := by
  obtain ⟨h2, hn⟩ := of_decide_eq_true hp
  have hg : 0 < Nat.gcd x n := Nat.gcd_pos_of_pos_left _ h0
  have hle := Nat.le_of_dvd h0 (Nat.gcd_dvd_left x n)
  rcases Nat.lt_or_ge (Nat.gcd x n) 2 with h | h
  · omega
  · exact absurd (Nat.mod_eq_zero_of_dvd (Nat.gcd_dvd_right x n)) (hn _ (by omega) h)

theorem unC_all {n : Nat} : ∀ k, (∀ x, x < k → Nat.gcd (x + 1) n = 1) → unC n k = k := by
  intro k
  induction k with
  | zero => intro _; rfl
  | succ k ih => intro h; show unC n k + _ = k + 1; rw [ih (fun x hx => h x (by omega)), if_pos (h k (by omega))]

theorem unC_less {n x : Nat} : ∀ k, x < k → Nat.gcd (x + 1) n ≠ 1 → unC n k < k := by
  intro k
  induction k with
  | zero => intro h; omega
  | succ k ih =>
    intro hx hg
    show unC n k + _ < k + 1
    rcases Nat.lt_or_ge x k with h | h
    · have := ih h hg
      split <;> omega
    · obtain rfl : x = k := by omega
      rw [if_neg hg]
      have := unC_le n x
      omega

theorem unC_last {n : Nat} (hn : 2 ≤ n) : unC n n = unC n (n - 1) := by
  obtain ⟨k, rfl⟩ : ∃ k, n = k + 1 := ⟨n - 1, by omega⟩
  show unC (k + 1) k + _ = _
  rw [if_neg (by rw [Nat.gcd_self]; omega)]
  rfl

/-- Units are n - 1 just for primes. -/
theorem units_prime {n : Nat} (hn : 2 ≤ n) : unC n n = n - 1 ↔ primeB n = true := by
  rw [unC_last hn]
  constructor
  · intro h
    unfold primeB
    rw [decide_eq_true_eq]
    refine ⟨hn, fun k hk h2 hm => ?_⟩
    have hd : k ∣ n := Nat.dvd_of_mod_eq_zero hm
    have := unC_less (n := n) (x := k - 1) (n - 1) (by omega) (by rw [show k - 1 + 1 = k by omega, Nat.gcd_eq_left hd]; omega)
    omega
  · intro h
    exact unC_all (n - 1) fun x hx => prime_cop h (by omega) (by omega)

/-- Units are even, but for 2. -/
theorem units_even {n : Nat} (hn : 3 ≤ n) : 2 ∣ unC n n := by
  have hg : Nat.gcd (n - 1) n = 1 := by
    have : n % (n - 1) = 1 := by rw [Nat.mod_eq_sub_mod (by omega), show n - (n - 1) = 1 by omega, Nat.mod_eq_of_lt (by omega)]
    rw [Nat.gcd_rec, this]
    exact Nat.gcd_one_left _
  have h2 : (n - 1) * (n - 1) % n = 1 := by
    obtain ⟨k, rfl⟩ : ∃ k, n = k + 1 := ⟨n - 1, by omega⟩
    have e : (k + 1 - 1) * (k + 1 - 1) = 1 + (k + 1) * (k - 1) := by
      obtain ⟨q, rfl⟩ : ∃ q, k = q + 1 := ⟨k - 1, by omega⟩
      simp
      grind
    rw [e, Nat.add_mul_mod_self_left, Nat.mod_eq_of_lt (by omega)]
  have hm : IsLen (n - 1) 1 n 0 2 := by
    refine ⟨by omega, ?_, fun i j hij hj e => ?_⟩
    · rw [rst_one (by omega), rst_one (by omega), Nat.zero_add, Nat.pow_two, h2, Nat.pow_zero, Nat.mod_eq_of_lt (by omega)]
    · obtain rfl : i = 0 := by omega
      obtain rfl : j = 1 := by omega
      rw [rst_one (by omega), rst_one (by omega), Nat.pow_one, Nat.pow_zero, Nat.mod_eq_of_lt (by omega), Nat.mod_eq_of_lt (by omega)] at e
      omega
  exact ord_dvd hg (by omega) hm

end Go.Proofs.YtmpbbflolbakhaaGreatDoor

namespace Go.Proofs.YtmpbbflolbakhaaGreatDoor

/-- A full prime. -/
def fullB (b p : Nat) : Bool := primeB p && (decide (b % p ≠ 0) && decide (∀ j, j < p - 1 → 0 < j → b ^ j % p ≠ 1))

def fulL (b : Nat) : Nat → List Int
  | 0 => []
  | p + 1 => if fullB b p = true then fulL b p ++ [(p : Int)] else fulL b p

theorem fulL_len (b n : Nat) : (fulL b n).length ≤ n := by
  induction n with
  | zero => exact Nat.le_refl _
  | succ n ih => unfold fulL; split <;> (try simp) <;> omega

/-- A prime has no divisor up to its root. -/
theorem prime_root {n k : Nat} (hn : 2 ≤ n) (h : ∀ j, j < k → 2 ≤ j → n % j ≠ 0) (hk : n < k * k) : primeB n = true := by
  unfold primeB
  rw [decide_eq_true_eq]
  refine ⟨hn, fun d hd h2 hm => ?_⟩
  obtain ⟨e, he⟩ := Nat.dvd_of_mod_eq_zero hm
  have hdk : k ≤ d := by
    rcases Nat.lt_or_ge d k with h1 | h1
    · exact absurd hm (h d h1 h2)
    · exact h1
  have he2 : 2 ≤ e := by
    rcases Nat.lt_or_ge e 2 with h1 | h1
    · have : e = 0 ∨ e = 1 := by omega
      rcases this with rfl | rfl
      · omega
      · omega
    · exact h1
  have hek : k ≤ e := by
    rcases Nat.lt_or_ge e k with h1 | h1
    · exact absurd (Nat.mod_eq_zero_of_dvd ⟨d, by rw [he, Nat.mul_comm]⟩) (h e h1 he2)
    · exact h1
  have := Nat.mul_le_mul hdk hek
  omega

theorem not_prime {n k : Nat} (h2 : 2 ≤ k) (hk : k < n) (hm : n % k = 0) : primeB n = false := by
  unfold primeB
  rw [decide_eq_false_iff_not]
  rintro ⟨_, h⟩
  exact h k hk h2 hm

/-- For primes: a common divisor with the base just if it divides it. -/
theorem prime_base {b p : Nat} (hp : primeB p = true) : Nat.gcd b p = 1 ↔ b % p ≠ 0 := by
  obtain ⟨h2, hn⟩ := of_decide_eq_true hp
  constructor
  · intro h e
    rw [Nat.gcd_eq_right (Nat.dvd_of_mod_eq_zero e)] at h
    omega
  · intro h
    rw [← Nat.mod_add_div b p] at *
    have h0 : 0 < b % p := by
      rw [Nat.mod_add_div] at h
      exact Nat.pos_of_ne_zero h
    rw [Nat.mod_add_div, Nat.gcd_comm, Nat.gcd_rec]
    exact prime_cop hp h0 (Nat.mod_lt _ (by omega))

theorem fullB_ord {b p m : Nat} (hp : primeB p = true) (hb : b % p ≠ 0) (hm : IsLen b 1 p 0 m) : fullB b p = decide (m = p - 1) := by
  obtain ⟨h2, _⟩ := of_decide_eq_true hp
  unfold fullB
  rw [hp, Bool.true_and, decide_eq_true hb, Bool.true_and, decide_eq_decide]
  have hle := hm.le (show 1 < p by omega)
  have hpos := hm.pos
  have hmd := ord_dvd ((prime_base hp).2 hb) h2 hm
  rw [(units_prime h2).2 hp] at hmd
  have hle2 := Nat.le_of_dvd (by omega) hmd
  constructor
  · intro h
    rcases Nat.lt_or_ge m (p - 1) with h1 | h1
    · exact absurd ((ord_iff h2 hm m).2 (Nat.dvd_refl m)) (h m h1 hpos)
    · omega
  · rintro rfl j hj hj0 e
    have := Nat.le_of_dvd hj0 ((ord_iff h2 hm j).1 e)
    omega

/-- The bases below c in which the round of 1 over n has length k. -/
def Bas (n k : Nat) : Nat → List Int → Prop
  | 0, L => L = []
  | c + 1, L => ∃ L0, Bas n k c L0 ∧ ((c < 2 ∧ L = L0) ∨ (2 ≤ c ∧ ∃ j m, IsLen c 1 n j m ∧ ((m = k ∧ L = L0 ++ [(c : Int)]) ∨ (m ≠ k ∧ L = L0))))

theorem Bas.unique {n k : Nat} : ∀ {c : Nat} {L L' : List Int}, Bas n k c L → Bas n k c L' → L = L' := by
  intro c
  induction c with
  | zero => intro L L' h h'; exact Eq.trans h (Eq.symm h')
  | succ c ih =>
    rintro L L' ⟨L0, h0, h⟩ ⟨L0', h0', h'⟩
    obtain rfl := ih h0 h0'
    rcases h with ⟨h1, rfl⟩ | ⟨h1, j, m, h2, h3⟩ <;> rcases h' with ⟨k1, rfl⟩ | ⟨k1, j', m', k2, k3⟩
    · rfl
    · omega
    · omega
    · obtain ⟨rfl, rfl⟩ := h2.unique k2
      rcases h3 with ⟨h4, rfl⟩ | ⟨h4, rfl⟩ <;> rcases k3 with ⟨k4, rfl⟩ | ⟨k4, rfl⟩
      · rfl
      · exact absurd h4 k4
      · exact absurd k4 h4
      · rfl

theorem bas_some {n : Nat} (hn : 2 ≤ n) (k : Nat) : ∀ c, ∃ L, Bas n k c L := by
  intro c
  induction c with
  | zero => exact ⟨[], rfl⟩
  | succ c ih =>
    obtain ⟨L0, h0⟩ := ih
    rcases Nat.lt_or_ge c 2 with h | h
    · exact ⟨L0, L0, h0, .inl ⟨h, rfl⟩⟩
    · obtain ⟨j, m, hm⟩ := len_some (b := c) (show 1 < n by omega) (Nat.gcd_one_left n)
      by_cases hk : m = k
      · exact ⟨_, L0, h0, .inr ⟨h, j, m, hm, .inl ⟨hk, rfl⟩⟩⟩
      · exact ⟨_, L0, h0, .inr ⟨h, j, m, hm, .inr ⟨hk, rfl⟩⟩⟩

theorem Bas.len {n k : Nat} : ∀ {c : Nat} {L : List Int}, Bas n k c L → L.length ≤ c := by
  intro c
  induction c with
  | zero => intro L h; rw [show L = [] from h]; simp
  | succ c ih =>
    rintro L ⟨L0, h0, h⟩
    have := ih h0
    rcases h with ⟨_, rfl⟩ | ⟨_, j, m, _, ⟨_, rfl⟩ | ⟨_, rfl⟩⟩ <;> (try simp) <;> omega

/-- The common multiple of the orders of the numbers below x. -/
def Mst (n : Nat) : Nat → Nat → Prop
  | 0, m => m = 1
  | x + 1, m => (Nat.gcd x n ≠ 1 ∧ Mst n x m) ∨ (Nat.gcd x n = 1 ∧ ∃ m0 k, Mst n x m0 ∧ IsLen x 1 n 0 k ∧ m = m0 / Nat.gcd m0 k * k)

theorem Mst.unique {n : Nat} : ∀ {x m m' : Nat}, Mst n x m → Mst n x m' → m = m' := by
  intro x
  induction x with
  | zero => intro m m' h h'; exact Eq.trans h (Eq.symm h')
  | succ x ih =>
    intro m m' h h'
    rcases h with ⟨h1, h2⟩ | ⟨h1, m0, k, h2, h3, rfl⟩ <;> rcases h' with ⟨k1, k2⟩ | ⟨k1, m0', k', k2, k3, rfl⟩
    · exact ih h2 k2
    · exact absurd k1 h1
    · exact absurd h1 k1
    · obtain rfl := ih h2 k2
      obtain ⟨_, rfl⟩ := h3.unique k3
      rfl

theorem lcm_form (m k : Nat) : m / Nat.gcd m k * k = Nat.lcm m k := by
  unfold Nat.lcm
  rw [Nat.div_mul_right_comm (Nat.gcd_dvd_left m k)]

theorem mst_some {n : Nat} (hn : 2 ≤ n) : ∀ x, ∃ m, Mst n x m := by
  intro x
  induction x with
  | zero => exact ⟨1, rfl⟩
  | succ x ih =>
    obtain ⟨m0, h0⟩ := ih
    by_cases hg : Nat.gcd x n = 1
    · obtain ⟨k, hk⟩ := ord_some hg hn
      exact ⟨_, .inr ⟨hg, m0, k, h0, hk, rfl⟩⟩
    · exact ⟨m0, .inl ⟨hg, h0⟩⟩

/-- It divides the number of units, and is a multiple of each order. -/
theorem Mst.facts {n : Nat} (hn : 2 ≤ n) : ∀ {x m : Nat}, Mst n x m → m ∣ unC n n ∧ ∀ y k, y < x → Nat.gcd y n = 1 → IsLen y 1 n 0 k → k ∣ m := by
  intro x
  induction x with
  | zero => intro m h; rw [show m = 1 from h]; exact ⟨Nat.one_dvd _, fun y k hy => by omega⟩
  | succ x ih =>
    intro m h
    rcases h with ⟨h1, h2⟩ | ⟨h1, m0, k, h2, h3, rfl⟩
    · refine ⟨(ih h2).1, fun y k hy hg hk => ?_⟩
      rcases Nat.lt_or_ge y x with h | h
      · exact (ih h2).2 y k h hg hk
      · obtain rfl : y = x := by omega
        exact absurd hg h1
    · rw [lcm_form]
      refine ⟨Nat.lcm_dvd (ih h2).1 (ord_dvd h1 hn h3), fun y k' hy hg hk => ?_⟩
      rcases Nat.lt_or_ge y x with h | h
      · exact Nat.dvd_trans ((ih h2).2 y k' h hg hk) (Nat.dvd_lcm_left _ _)
      · obtain rfl : y = x := by omega
        obtain ⟨_, rfl⟩ := h3.unique hk
        exact Nat.dvd_lcm_right _ _

theorem unC_pos {n : Nat} (hn : 2 ≤ n) : 0 < unC n n := by
  have key : ∀ k, 1 ≤ k → 1 ≤ unC n k := by
    intro k
    induction k with
    | zero => intro h; omega
    | succ k ih =>
      intro _
      show 1 ≤ unC n k + _
      rcases Nat.eq_zero_or_pos k with rfl | h2
      · simp
      · have := ih h2; omega
  exact key n (by omega)

/-- The order of any base divides the common multiple. -/
theorem most_ord {b n m q : Nat} (hbn : Nat.gcd b n = 1) (hn : 2 ≤ n) (hm : IsLen b 1 n 0 m) (hq : Mst n n q) : m ∣ q := by
  have hr : ∀ i, rst (b % n) 1 n i = rst b 1 n i := fun i => by rw [rst_one hn, rst_one hn, ← Nat.pow_mod]
  have hg : Nat.gcd (b % n) n = 1 := by rw [Nat.gcd_comm, Nat.gcd_comm n, ← Nat.gcd_rec, Nat.gcd_comm]; exact hbn
  have hm' : IsLen (b % n) 1 n 0 m := ⟨hm.pos, by rw [hr, hr]; exact hm.eq, fun i j hij hj => by rw [hr, hr]; exact hm.ne i j hij hj⟩
  exact (hq.facts hn).2 (b % n) m (Nat.mod_lt _ (by omega)) hg hm'

/-- The bases stand in order, and have the length. -/
theorem bas_get {n k : Nat} : ∀ {c : Nat} {L : List Int}, Bas n k c L → ∀ i, i < L.length → ∃ b j : Nat, L[i]?.getD 0 = b ∧ 2 ≤ b ∧ b < c ∧ IsLen b 1 n j k ∧ (0 < i → L[i - 1]?.getD 0 < (b : Int)) := by
  intro c
  induction c with
  | zero => intro L h i hi; rw [show L = [] from h] at hi; simp at hi
  | succ c ih =>
    rintro L ⟨L0, h0, h⟩ i hi
    have up : i < L0.length → ∃ b j : Nat, L0[i]?.getD 0 = b ∧ 2 ≤ b ∧ b < c + 1 ∧ IsLen b 1 n j k ∧ (0 < i → L0[i - 1]?.getD 0 < (b : Int)) := fun hi => by
      obtain ⟨b, j, h1, h2, h3, h4, h5⟩ := ih h0 i hi
      exact ⟨b, j, h1, h2, by omega, h4, h5⟩
    rcases h with ⟨_, rfl⟩ | ⟨hc, j, m, hm, ⟨rfl, rfl⟩ | ⟨_, rfl⟩⟩
    · exact up hi
    · rw [List.length_append, List.length_singleton] at hi
      rcases Nat.lt_or_ge i L0.length with h1 | h1
      · obtain ⟨b, j, h2, h3, h4, h5, h6⟩ := up h1
        refine ⟨b, j, by rw [List.getElem?_append_left h1]; exact h2, h3, h4, h5, fun h0 => ?_⟩
        rw [List.getElem?_append_left (by omega)]
        exact h6 h0
      · obtain rfl : i = L0.length := by omega
        refine ⟨c, j, by rw [List.getElem?_append_right (Nat.le_refl _), Nat.sub_self]; rfl, hc, by omega, hm, fun h0' => ?_⟩
        rw [List.getElem?_append_left (by omega)]
        obtain ⟨b, _, h2, _, h4, _⟩ := ih h0 (L0.length - 1) (by omega)
        rw [h2]
        omega
    · exact up hi

theorem fulL_pre (b p : Nat) : ∀ q, ∃ rest, fulL b (p + q) = fulL b p ++ rest := by
  intro q
  induction q with
  | zero => exact ⟨[], by simp⟩
  | succ q ih =>
    obtain ⟨rest, h⟩ := ih
    show ∃ r, (if fullB b (p + q) = true then fulL b (p + q) ++ [((p + q : Nat) : Int)] else fulL b (p + q)) = _
    split
    · exact ⟨rest ++ [((p + q : Nat) : Int)], by rw [h, List.append_assoc]⟩
    · exact ⟨rest, h⟩

/-- The next full prime stands behind those below it. -/
theorem fulL_get {b p n : Nat} (hp : p < n) (h : fullB b p = true) : (fulL b p).length < (fulL b n).length ∧ (fulL b n)[(fulL b p).length]?.getD 0 = (p : Int) := by
  obtain ⟨q, rfl⟩ := Nat.exists_eq_add_of_lt hp
  obtain ⟨rest, hr⟩ := fulL_pre b (p + 1) q
  have e : fulL b (p + 1) = fulL b p ++ [(p : Int)] := by show (if _ then _ else _) = _; rw [if_pos h]
  rw [show p + q + 1 = p + 1 + q by omega, hr, e, List.append_assoc]
  refine ⟨by simp, ?_⟩
  rw [List.getElem?_append_right (Nat.le_refl _), Nat.sub_self]
  rfl

end Go.Proofs.YtmpbbflolbakhaaGreatDoor
