/-
  The rounds of tops: mathematics alone.
-/
import Derived.Test.YtfhhfnkgdanakaaRstM
import Derived.Test.YtfhhfnkgdanakaaPMath
import Derived.Test.YtfhhfnkgdanakaaOrdM
namespace Go.Proofs.Ytfhhfnkgdanakaa

/-- A top that was met in the round of a lesser one. -/
def Told (b n t x : Nat) : Bool := decide (∃ s, s < t ∧ (Nat.gcd s n = 1 ∧ ∃ j, j < n ∧ rst b s n j = x))

theorem told_iff {b n t x : Nat} (hbn : Nat.gcd b n = 1) (ht : t ≤ n) : Told b n t x = true ↔ ∃ s j, s < t ∧ Nat.gcd s n = 1 ∧ rst b s n j = x := by
  unfold Told
  rw [decide_eq_true_eq]
  constructor
  · rintro ⟨s, h1, h2, j, _, h3⟩; exact ⟨s, j, h1, h2, h3⟩
  · rintro ⟨s, j, h1, h2, h3⟩
    obtain ⟨m, hm⟩ := len_zero hbn (show s < n by omega) h2
    have hp := hm.pos
    have hle := hm.le (show s < n by omega)
    have := hm.place j (Nat.zero_le _)
    refine ⟨s, h1, h2, (j - 0) % m, ?_, ?_⟩
    · have := Nat.mod_lt (j - 0) hp; omega
    · rw [Nat.zero_add] at this; rw [this]; exact h3

theorem told_false {b n t x : Nat} (hbn : Nat.gcd b n = 1) (ht : t ≤ n) : Told b n t x = false ↔ ¬ ∃ s j, s < t ∧ Nat.gcd s n = 1 ∧ rst b s n j = x := by
  rw [← told_iff hbn ht]
  cases Told b n t x <;> simp

/-- From each rest of a round the top comes again. -/
theorem rst_home {b n s : Nat} (hbn : Nat.gcd b n = 1) (hs : s < n) (hg : Nat.gcd s n = 1) (j : Nat) : ∃ k, rst b (rst b s n j) n k = s := by
  obtain ⟨m, hm⟩ := len_zero hbn hs hg
  have hp := hm.pos
  refine ⟨j * m + m - j % m - (j - j % m), ?_⟩
  have h1 : j % m < m := Nat.mod_lt _ hp
  have h2 : j % m + m * (j / m) = j := Nat.mod_add_div j m
  have h3 : j ≤ j * m := Nat.le_mul_of_pos_right j hp
  have h4 := hm.per_mul 0 (j + 1) (Nat.le_refl _)
  rw [rst_add, show j + (j * m + m - j % m - (j - j % m)) = 0 + (j + 1) * m by rw [Nat.add_mul, Nat.one_mul]; have := Nat.mod_le j m; omega, h4]
  rfl

theorem told_skip {b n t : Nat} (hbn : Nat.gcd b n = 1) (ht : t < n) (h : Told b n t t = true ∨ Nat.gcd t n ≠ 1) (x : Nat) : Told b n (t + 1) x = Told b n t x := by
  rw [Bool.eq_iff_iff, told_iff hbn ht, told_iff hbn (Nat.le_of_lt ht)]
  constructor
  · rintro ⟨s, j, h1, h2, h3⟩
    rcases Nat.lt_or_ge s t with h4 | h4
    · exact ⟨s, j, h4, h2, h3⟩
    · obtain rfl : s = t := by omega
      rcases h with h | h
      · obtain ⟨s', j', h5, h6, h7⟩ := (told_iff hbn (Nat.le_of_lt ht)).1 h
        refine ⟨s', j' + j, h5, h6, ?_⟩
        rw [← h3, ← rst_add, h7]
      · exact absurd h2 h
  · rintro ⟨s, j, h1, h2, h3⟩; exact ⟨s, j, by omega, h2, h3⟩

theorem told_fresh {b n t : Nat} (hbn : Nat.gcd b n = 1) (ht : t < n) (hg : Nat.gcd t n = 1) (h : Told b n t t = false) (j : Nat) : Told b n t (rst b t n j) = false := by
  rw [told_false hbn (Nat.le_of_lt ht)] at h ⊢
  rintro ⟨s, i, h1, h2, h3⟩
  obtain ⟨k, hk⟩ := rst_home hbn ht hg j
  refine h ⟨s, i + k, h1, h2, ?_⟩
  rw [← rst_add, h3, hk]

/-- What was met, and the first k rests of the round of t. -/
def TolK (b n t k x : Nat) : Bool := Told b n t x || decide (∃ j, j < k ∧ rst b t n j = x)

theorem tolK_zero (b n t x : Nat) : TolK b n t 0 x = Told b n t x := by unfold TolK; simp

theorem tolK_succ (b n t k x : Nat) : TolK b n t (k + 1) x = if x = rst b t n k then true else TolK b n t k x := by
  unfold TolK
  split
  · rename_i h
    rw [Bool.or_eq_true]
    exact .inr (decide_eq_true ⟨k, by omega, h.symm⟩)
  · rename_i h
    congr 1
    rw [decide_eq_decide]
    constructor
    · rintro ⟨j, hj, e⟩
      rcases Nat.lt_or_ge j k with h1 | h1
      · exact ⟨j, h1, e⟩
      · obtain rfl : j = k := by omega
        exact absurd e.symm h
    · rintro ⟨j, hj, e⟩; exact ⟨j, by omega, e⟩

theorem tolK_all {b n t m : Nat} (hbn : Nat.gcd b n = 1) (ht : t < n) (hg : Nat.gcd t n = 1) (hm : IsLen b t n 0 m) (x : Nat) : TolK b n t m x = Told b n (t + 1) x := by
  unfold TolK
  rw [Bool.eq_iff_iff, Bool.or_eq_true, told_iff hbn ht, told_iff hbn (Nat.le_of_lt ht), decide_eq_true_eq]
  constructor
  · rintro (⟨s, j, h1, h2, h3⟩ | ⟨j, h1, h2⟩)
    · exact ⟨s, j, by omega, h2, h3⟩
    · exact ⟨t, j, by omega, hg, h2⟩
  · rintro ⟨s, j, h1, h2, h3⟩
    rcases Nat.lt_or_ge s t with h4 | h4
    · exact .inl ⟨s, j, h4, h2, h3⟩
    · obtain rfl : s = t := by omega
      have := hm.place j (Nat.zero_le _)
      refine .inr ⟨(j - 0) % m, Nat.mod_lt _ hm.pos, ?_⟩
      rw [Nat.zero_add] at this; rw [this]; exact h3

/-- On the way round no rest was met, but at the end. -/
theorem tolK_way {b n t m : Nat} (hbn : Nat.gcd b n = 1) (ht : t < n) (hg : Nat.gcd t n = 1) (h : Told b n t t = false) (hm : IsLen b t n 0 m) {k : Nat} (hk : k < m) : TolK b n t k (rst b t n k) = false := by
  unfold TolK
  rw [told_fresh hbn ht hg h, Bool.false_or, decide_eq_false_iff_not]
  rintro ⟨j, hj, e⟩
  exact hm.ne j k hj (by omega) e

theorem tolK_end {b n t m : Nat} (hm : IsLen b t n 0 m) : TolK b n t m (rst b t n m) = true := by
  unfold TolK
  rw [Bool.or_eq_true]
  refine .inr (decide_eq_true ⟨0, hm.pos, ?_⟩)
  have := hm.eq
  rw [Nat.zero_add] at this
  exact this.symm

/-- The rounds of the tops below t. -/
def Rnds (b n : Nat) : Nat → List (List Int) → Prop
  | 0, L => L = []
  | t + 1, L => ((Told b n t t = true ∨ Nat.gcd t n ≠ 1) ∧ Rnds b n t L) ∨ ((Told b n t t = false ∧ Nat.gcd t n = 1) ∧ ∃ L0 m, Rnds b n t L0 ∧ IsLen b t n 0 m ∧ L = L0 ++ [rstL b t n m])

theorem Rnds.unique {b n : Nat} : ∀ {t : Nat} {L L' : List (List Int)}, Rnds b n t L → Rnds b n t L' → L = L' := by
  intro t
  induction t with
  | zero => intro L L' h h'; exact Eq.trans h (Eq.symm h')
  | succ t ih =>
    intro L L' h h'
    rcases h with ⟨h1, h2⟩ | ⟨⟨h1, h2⟩, L0, m, h3, h4, h5⟩ <;> rcases h' with ⟨k1, k2⟩ | ⟨⟨k1, k2⟩, L0', m', k3, k4, k5⟩
    · exact ih h2 k2
    · rcases h1 with h1 | h1
      · rw [k1] at h1; cases h1
      · exact absurd k2 h1
    · rcases k1 with k1 | k1
      · rw [h1] at k1; cases k1
      · exact absurd h2 k1
    · rw [h5, k5, ih h3 k3, (h4.unique k4).2]

theorem Rnds.bound {b n : Nat} : ∀ {t : Nat} {L : List (List Int)}, t ≤ n → Rnds b n t L → L.length ≤ t ∧ ∀ xs ∈ L, 0 < xs.length ∧ xs.length ≤ n := by
  intro t
  induction t with
  | zero => intro L _ h; rw [show L = [] from h]; simp
  | succ t ih =>
    intro L ht h
    rcases h with ⟨_, h2⟩ | ⟨_, L0, m, h3, h4, rfl⟩
    · have := ih (by omega) h2
      exact ⟨by omega, this.2⟩
    · have := ih (by omega) h3
      refine ⟨by simp; omega, fun xs hx => ?_⟩
      rcases List.mem_append.1 hx with hx | hx
      · exact this.2 xs hx
      · rw [List.mem_singleton.1 hx, rstL_len]
        have := h4.le (show t < n by omega)
        have := h4.pos
        omega

theorem Rnds.some {b n : Nat} (hn : 2 ≤ n) : ∀ {t : Nat} {L : List (List Int)}, 2 ≤ t → Rnds b n t L → 0 < L.length := by
  intro t
  induction t with
  | zero => intro L h; omega
  | succ t ih =>
    intro L ht h
    rcases h with ⟨h1, h2⟩ | ⟨_, L0, m, h3, h4, rfl⟩
    · rcases Nat.lt_or_ge t 2 with h5 | h5
      · obtain rfl : t = 1 := by omega
        exfalso
        rcases h1 with h1 | h1
        · unfold Told at h1
          rw [decide_eq_true_eq] at h1
          obtain ⟨s, hs, hg, _⟩ := h1
          obtain rfl : s = 0 := by omega
          rw [Nat.gcd_zero_left] at hg
          omega
        · exact h1 (Nat.gcd_one_left n)
      · exact ih h5 h2
    · simp

theorem rnds_some {b n : Nat} (hbn : Nat.gcd b n = 1) : ∀ t, t ≤ n → ∃ L, Rnds b n t L := by
  intro t
  induction t with
  | zero => intro _; exact ⟨[], rfl⟩
  | succ t ih =>
    intro ht
    obtain ⟨L, hL⟩ := ih (by omega)
    by_cases hg : Nat.gcd t n = 1
    · cases hT : Told b n t t with
      | true => exact ⟨L, .inl ⟨.inl hT, hL⟩⟩
      | false =>
        obtain ⟨m, hm⟩ := len_zero hbn (show t < n by omega) hg
        exact ⟨_, .inr ⟨⟨hT, hg⟩, L, m, hL, hm, rfl⟩⟩
    · exact ⟨L, .inl ⟨.inr hg, hL⟩⟩

theorem Rnds.skip {b n t : Nat} {L : List (List Int)} (h : Rnds b n t L) (hs : Told b n t t = true ∨ Nat.gcd t n ≠ 1) : Rnds b n (t + 1) L := .inl ⟨hs, h⟩
theorem Rnds.add {b n t m : Nat} {L : List (List Int)} (h : Rnds b n t L) (h1 : Told b n t t = false) (h2 : Nat.gcd t n = 1) (hm : IsLen b t n 0 m) : Rnds b n (t + 1) (L ++ [rstL b t n m]) := .inr ⟨⟨h1, h2⟩, L, m, h, hm, rfl⟩

end Go.Proofs.Ytfhhfnkgdanakaa
