/-
  Digits from the right: mathematics alone.
-/
import Derived.Test.YtbgpdhnfaacenadGOrd
namespace Go.Proofs.Ytbgpdhnfaacenad

/-- The right digit of a value. -/
def rgD (b B : Nat) (t : Int) : Nat := ((List.range b).find? fun a : Nat => decide ((t - (a : Int) * B) % b = 0)).getD 0

theorem rgD_some {b B : Nat} (hb : 1 ≤ b) (hg : Nat.gcd b B = 1) (t : Int) : ∃ a : Nat, a < b ∧ (t - (a : Int) * B) % b = 0 := by
  refine Classical.byContradiction fun hno => ?_
  have h0 : ∀ a : Nat, a < b → 0 < (t - (a : Int) * B) % b := fun a ha => by
    have h1 : 0 ≤ (t - (a : Int) * B) % b := Int.emod_nonneg _ (by omega)
    have h2 : (t - (a : Int) * B) % b ≠ 0 := fun e => hno ⟨a, ha, e⟩
    omega
  have := php (b - 1) b (fun a => ((t - (a : Int) * B) % b).toNat - 1) (fun a ha => by
    have h1 := h0 a ha
    have h2 : (t - (a : Int) * B) % b < b := Int.emod_lt_of_pos _ (by omega)
    show ((t - (a : Int) * B) % b).toNat - 1 < b - 1
    omega) (fun i j hij hj e => by
    have h1 := h0 i (by omega)
    have h2 := h0 j hj
    have e1 : (t - (i : Int) * B) % b = (t - (j : Int) * B) % b := by
      have : ((t - (i : Int) * B) % b).toNat - 1 = ((t - (j : Int) * B) % b).toNat - 1 := e
      omega
    have e2 : (b : Int) ∣ (t - (i : Int) * B) - (t - (j : Int) * B) := Int.dvd_of_emod_eq_zero (Int.emod_eq_emod_iff_emod_sub_eq_zero.1 e1)
    have e3 : (b : Int) ∣ (((j - i) * B : Nat) : Int) := by
      have : (t - (i : Int) * B) - (t - (j : Int) * B) = (((j - i) * B : Nat) : Int) := by
        rw [Int.natCast_mul, Int.ofNat_sub (by omega), Int.sub_mul]; omega
      rw [← this]; exact e2
    have e4 : b ∣ (j - i) * B := Int.natCast_dvd_natCast.1 e3
    have e5 : b ∣ j - i := Nat.Coprime.dvd_of_dvd_mul_right hg e4
    have := Nat.le_of_dvd (by omega) e5
    omega)
  omega

theorem rgD_spec {b B : Nat} (hb : 1 ≤ b) (hg : Nat.gcd b B = 1) (t : Int) : rgD b B t < b ∧ (t - (rgD b B t : Int) * B) % b = 0 := by
  obtain ⟨a, ha, h⟩ := rgD_some hb hg t
  unfold rgD
  cases hf : (List.range b).find? fun a : Nat => decide ((t - (a : Int) * B) % b = 0) with
  | none =>
    have := List.find?_eq_none.1 hf a (List.mem_range.2 ha)
    simp [h] at this
  | some c =>
    have h1 := List.find?_some hf
    have h2 := List.mem_of_find?_eq_some hf
    exact ⟨List.mem_range.1 h2, by simpa using h1⟩

theorem rgD_unique {b B : Nat} (hg : Nat.gcd b B = 1) {t : Int} {a : Nat} (ha : a < b) (h : (t - (a : Int) * B) % b = 0) : rgD b B t = a := by
  have hb : 1 ≤ b := by omega
  obtain ⟨h1, h2⟩ := rgD_spec hb hg t
  generalize rgD b B t = c at *
  have key : ∀ x y : Nat, x < b → y < b → (t - (x : Int) * B) % b = 0 → (t - (y : Int) * B) % b = 0 → x ≤ y → x = y := fun x y hx hy ex ey hxy => by
    have e2 : (b : Int) ∣ (t - (x : Int) * B) - (t - (y : Int) * B) := Int.dvd_sub (Int.dvd_of_emod_eq_zero ex) (Int.dvd_of_emod_eq_zero ey)
    have e3 : (b : Int) ∣ (((y - x) * B : Nat) : Int) := by
      have : (t - (x : Int) * B) - (t - (y : Int) * B) = (((y - x) * B : Nat) : Int) := by
        rw [Int.natCast_mul, Int.ofNat_sub hxy, Int.sub_mul]; omega
      rw [← this]; exact e2
    have e5 : b ∣ y - x := Nat.Coprime.dvd_of_dvd_mul_right hg (Int.natCast_dvd_natCast.1 e3)
    rcases Nat.eq_zero_or_pos (y - x) with h0 | h0
    · omega
    · have := Nat.le_of_dvd h0 e5; omega
  rcases Nat.le_total c a with h3 | h3
  · exact key c a h1 ha h2 h h3
  · exact (key a c ha h1 h h2 h3).symm

/-- The tops on the way. -/
def rgT (b B : Nat) (t : Int) : Nat → Int
  | 0 => t
  | i + 1 => (rgT b B t i - (rgD b B (rgT b B t i) : Int) * B) / b

/-- A value's base and bottom. -/
structure Rgb (b B : Nat) : Prop where
  b2 : 2 ≤ b
  b16 : b ≤ 16
  B1 : 1 ≤ B
  B2 : B ≤ 1000
  cop : Nat.gcd b B = 1

/-- One step: the top is the digit times the bottom and the base times the next one. -/
theorem rgN_eq {b B : Nat} (h : Rgb b B) (x : Int) : x = (rgD b B x : Int) * B + b * ((x - (rgD b B x : Int) * B) / b) := by
  have h1 := (rgD_spec (by have := h.b2; omega) h.cop x).2
  have h2 := Int.mul_ediv_add_emod (x - (rgD b B x : Int) * B) b
  rw [h1] at h2
  omega

theorem rgT_eq {b B : Nat} (h : Rgb b B) (t : Int) (i : Nat) : rgT b B t i = (rgD b B (rgT b B t i) : Int) * B + b * rgT b B t (i + 1) := rgN_eq h _

theorem rgT_add (b B : Nat) (t : Int) (i : Nat) : ∀ k, rgT b B (rgT b B t i) k = rgT b B t (i + k)
  | 0 => rfl
  | k + 1 => by
    have e := rgT_add b B t i k
    show (rgT b B (rgT b B t i) k - (rgD b B (rgT b B (rgT b B t i) k) : Int) * B) / b = (rgT b B t (i + k) - (rgD b B (rgT b B t (i + k)) : Int) * B) / b
    rw [e]

theorem rgT_cong {b B : Nat} {t : Int} {i j : Nat} (h : rgT b B t i = rgT b B t j) (k : Nat) : rgT b B t (i + k) = rgT b B t (j + k) := by
  rw [← rgT_add, ← rgT_add, h]

/-- What one step does to a top. -/
theorem rgN_bd {b B : Nat} (h : Rgb b B) {x y : Int} (e : x = (rgD b B x : Int) * B + b * y) :
    (b : Int) * y ≤ x ∧ x - ((b : Int) * B - B) ≤ b * y := by
  have hd := (rgD_spec (by have := h.b2; omega) h.cop x).1
  generalize rgD b B x = a at *
  have h1 : 0 ≤ (a : Int) * B := Int.mul_nonneg (by omega) (by omega)
  have h2 : (a : Int) * B ≤ ((b : Int) - 1) * B := Int.mul_le_mul_of_nonneg_right (by omega) (by omega)
  rw [Int.sub_mul, Int.one_mul] at h2
  omega

theorem mul_le_two {b : Nat} (hb : 2 ≤ b) {y : Int} (hy : 0 ≤ y) : 2 * y ≤ b * y := Int.mul_le_mul_of_nonneg_right (by omega) hy

theorem rgN_big {b B : Nat} (h : Rgb b B) {x y : Int} (e : x = (rgD b B x : Int) * B + b * y) (h1 : -10000 ≤ x) (h2 : x ≤ 10000) : -10000 ≤ y ∧ y ≤ 10000 := by
  obtain ⟨k1, k2⟩ := rgN_bd h e
  have hb := h.b2; have hB := h.B2; have hB1 := h.B1
  refine ⟨?_, ?_⟩
  · refine Int.not_lt.1 fun hlt => ?_
    have m1 : (b : Int) * (y + B) = b * y + b * B := Int.mul_add _ _ _
    have m2 := mul_le_two hb (show 0 ≤ -(y + B) by omega)
    rw [Int.mul_neg, Int.mul_neg, m1] at m2
    omega
  · refine Int.not_lt.1 fun hlt => ?_
    have m2 := mul_le_two hb (show 0 ≤ y by omega)
    omega

theorem rgT_big {b B : Nat} (h : Rgb b B) {t : Int} (h1 : -10000 ≤ t) (h2 : t ≤ 10000) : ∀ i, -10000 ≤ rgT b B t i ∧ rgT b B t i ≤ 10000
  | 0 => ⟨h1, h2⟩
  | i + 1 => by
    obtain ⟨k1, k2⟩ := rgT_big h h1 h2 i
    exact rgN_big h (rgT_eq h t i) k1 k2

/-- Where all tops end. -/
def InR (B : Nat) (x : Int) : Prop := -(B : Int) ≤ x ∧ x ≤ 0

theorem rgN_in {b B : Nat} (h : Rgb b B) {x y : Int} (e : x = (rgD b B x : Int) * B + b * y) (hx : InR B x) : InR B y := by
  obtain ⟨k1, k2⟩ := rgN_bd h e
  have hb := h.b2
  obtain ⟨x1, x2⟩ := hx
  refine ⟨?_, ?_⟩
  · refine Int.not_lt.1 fun hlt => ?_
    have m1 : (b : Int) * (y + B + 1) = b * y + b * B + b := by rw [Int.mul_add, Int.mul_add, Int.mul_one]
    have m2 : (b : Int) * (y + B + 1) ≤ 0 := Int.mul_nonpos_of_nonneg_of_nonpos (by omega) (by omega)
    omega
  · refine Int.not_lt.1 fun hlt => ?_
    have m2 := mul_le_two hb (show 0 ≤ y by omega)
    omega

theorem rgT_in {b B : Nat} (h : Rgb b B) {t : Int} {i : Nat} (hi : InR B (rgT b B t i)) : ∀ k, InR B (rgT b B t (i + k))
  | 0 => hi
  | k + 1 => rgN_in h (rgT_eq h t (i + k)) (rgT_in h hi k)

/-- Tops come near. -/
theorem rgT_near {b B : Nat} (h : Rgb b B) {t : Int} (h1 : -10000 ≤ t) (h2 : t ≤ 10000) : ∀ i, (rgT b B t i ≤ 0 ∨ rgT b B t i * ((2 ^ i : Nat) : Int) ≤ 10000) ∧ (-(B : Int) ≤ rgT b B t i ∨ (-(B : Int) - rgT b B t i) * ((2 ^ i : Nat) : Int) ≤ 10000)
  | 0 => ⟨.inr (by show t * ((1 : Nat) : Int) ≤ 10000; omega), .inr (by show (-(B : Int) - t) * ((1 : Nat) : Int) ≤ 10000; omega)⟩
  | i + 1 => by
    obtain ⟨k1, k2⟩ := rgT_near h h1 h2 i
    have e := rgT_eq h t i
    obtain ⟨j1, j2⟩ := rgN_bd h e
    have hb := h.b2
    rw [Nat.pow_succ, Int.natCast_mul]
    generalize rgT b B t (i + 1) = y at *
    generalize rgT b B t i = x at *
    have hP : (0 : Int) ≤ ((2 ^ i : Nat) : Int) := Int.natCast_nonneg _
    generalize ((2 ^ i : Nat) : Int) = P at *
    refine ⟨?_, ?_⟩
    · rcases Int.le_total y 0 with hy | hy
      · exact .inl hy
      · right
        have m2 := mul_le_two hb hy
        have hx : 2 * y ≤ x := by omega
        have h3 := Int.mul_le_mul_of_nonneg_right hx hP
        rcases k1 with k1 | k1
        · have h4 : y = 0 := by omega
          rw [h4, Int.zero_mul]; omega
        · show y * (P * 2) ≤ 10000
          have : y * (P * 2) = 2 * y * P := by rw [Int.mul_comm P 2, ← Int.mul_assoc, Int.mul_comm y 2]
          omega
    · rcases Int.le_total (-(B : Int)) y with hy | hy
      · exact .inl hy
      · right
        have m2 := mul_le_two hb (show 0 ≤ -(B : Int) - y by omega)
        have m1 : (b : Int) * (-(B : Int) - y) = -(b * B) - b * y := by rw [Int.mul_sub, Int.mul_neg]
        rw [m1] at m2
        have hx : 2 * (-(B : Int) - y) ≤ -(B : Int) - x := by omega
        have h3 := Int.mul_le_mul_of_nonneg_right hx hP
        rcases k2 with k2 | k2
        · have h4 : -(B : Int) - y = 0 := by omega
          rw [h4, Int.zero_mul]; omega
        · show (-(B : Int) - y) * (P * 2) ≤ 10000
          have : (-(B : Int) - y) * (P * 2) = 2 * (-(B : Int) - y) * P := by rw [Int.mul_comm P 2, ← Int.mul_assoc, Int.mul_comm _ 2]
          omega

theorem rgT_14 {b B : Nat} (h : Rgb b B) {t : Int} (h1 : -10000 ≤ t) (h2 : t ≤ 10000) : InR B (rgT b B t 14) := by
  obtain ⟨k1, k2⟩ := rgT_near h h1 h2 14
  have e : ((2 ^ 14 : Nat) : Int) = 16384 := rfl
  rw [e] at k1 k2
  exact ⟨by omega, by omega⟩

/-- The two that stay. -/
theorem rgD_zero {b B : Nat} (h : Rgb b B) : rgD b B 0 = 0 := rgD_unique h.cop (by have := h.b2; omega) (by simp)
theorem rgD_minus {b B : Nat} (h : Rgb b B) : rgD b B (-(B : Int)) = b - 1 := rgD_unique h.cop (by have := h.b2; omega) (by
  have hb := h.b2
  rw [show ((b - 1 : Nat) : Int) = (b : Int) - 1 by omega, Int.sub_mul, Int.one_mul, show -(B : Int) - ((b : Int) * B - B) = b * (-(B : Int)) by rw [Int.mul_neg]; omega]
  exact Int.mul_emod_right _ _)
theorem rgN_zero {b B : Nat} (h : Rgb b B) {y : Int} (e : 0 = (rgD b B 0 : Int) * B + b * y) : y = 0 := by
  rw [rgD_zero h] at e
  have hb := h.b2
  rcases Int.lt_trichotomy y 0 with h1 | h1 | h1
  · have := Int.mul_neg_of_pos_of_neg (show (0 : Int) < b by omega) h1; omega
  · exact h1
  · have := Int.mul_pos (show (0 : Int) < b by omega) h1; omega
theorem rgN_minus {b B : Nat} (h : Rgb b B) {y : Int} (e : -(B : Int) = (rgD b B (-(B : Int)) : Int) * B + b * y) : y = -(B : Int) := by
  have hb := h.b2
  rw [rgD_minus h, show ((b - 1 : Nat) : Int) = (b : Int) - 1 by omega, Int.sub_mul, Int.one_mul] at e
  have e2 : (b : Int) * (y + B) = 0 := by rw [Int.mul_add]; omega
  rcases Int.mul_eq_zero.1 e2 with h1 | h1 <;> omega

/-- Tops by the base lead back. -/
theorem rgN_inj {b B : Nat} (h : Rgb b B) {x x' y y' : Int} (e : x = (rgD b B x : Int) * B + b * y) (e' : x' = (rgD b B x' : Int) * B + b * y') (hx : InR B x) (hx' : InR B x') (hy : y = y') : x = x' := by
  subst hy
  have hB := h.B1; have hb := h.b2
  obtain ⟨x1, x2⟩ := hx; obtain ⟨x3, x4⟩ := hx'
  have hd : x - x' = ((rgD b B x : Int) - rgD b B x') * B := by rw [Int.sub_mul]; omega
  obtain ⟨q, hq⟩ : ∃ q : Int, (rgD b B x : Int) - rgD b B x' = q := ⟨_, rfl⟩
  rw [hq] at hd
  have hq3 : q = 0 ∨ q = 1 ∨ q = -1 := by
    have a1 : ¬ 2 ≤ q := fun hh => by have := Int.mul_le_mul_of_nonneg_right hh (show (0 : Int) ≤ B by omega); omega
    have a2 : ¬ q ≤ -2 := fun hh => by have := Int.mul_le_mul_of_nonneg_right hh (show (0 : Int) ≤ B by omega); omega
    omega
  rcases hq3 with rfl | rfl | rfl
  · omega
  · have z1 : x = 0 := by omega
    have z2 : x' = -(B : Int) := by omega
    rw [z1] at e
    rw [z2] at e'
    have := rgN_zero h e
    have := rgN_minus h e'
    omega
  · have z1 : x' = 0 := by omega
    have z2 : x = -(B : Int) := by omega
    rw [z1] at e'
    rw [z2] at e
    have := rgN_zero h e'
    have := rgN_minus h e
    omega

theorem rgT_back {b B : Nat} (h : Rgb b B) {t : Int} {i j : Nat} (hi : InR B (rgT b B t i)) (hj : InR B (rgT b B t j)) : ∀ k, rgT b B t (i + k) = rgT b B t (j + k) → rgT b B t i = rgT b B t j
  | 0, e => e
  | k + 1, e => rgT_back h hi hj k (rgN_inj h (rgT_eq h t (i + k)) (rgT_eq h t (j + k)) (rgT_in h hi k) (rgT_in h hj k) e)

/-- Outside, tops go one way. -/
theorem rgN_out {b B : Nat} (h : Rgb b B) {x y : Int} (e : x = (rgD b B x : Int) * B + b * y) : (0 < x → y < x ∧ -(B : Int) ≤ y) ∧ (x < -(B : Int) → x < y ∧ y ≤ 0) := by
  obtain ⟨k1, k2⟩ := rgN_bd h e
  have hb := h.b2; have hB := h.B1
  refine ⟨fun hx => ⟨?_, ?_⟩, fun hx => ⟨?_, ?_⟩⟩
  · refine Int.not_le.1 fun hh => ?_
    have := mul_le_two hb (show 0 ≤ y by omega)
    omega
  · refine Int.not_lt.1 fun hlt => ?_
    have m1 : (b : Int) * (y + B + 1) = b * y + b * B + b := by rw [Int.mul_add, Int.mul_add, Int.mul_one]
    have m2 : (b : Int) * (y + B + 1) ≤ 0 := Int.mul_nonpos_of_nonneg_of_nonpos (by omega) (by omega)
    omega
  · refine Int.not_le.1 fun hh => ?_
    have m2 := mul_le_two hb (show 0 ≤ -(B : Int) - y by omega)
    have m1 : (b : Int) * (-(B : Int) - y) = -(b * B) - b * y := by rw [Int.mul_sub, Int.mul_neg]
    rw [m1] at m2
    omega
  · refine Int.not_lt.1 fun hlt => ?_
    have := mul_le_two hb (show 0 ≤ y by omega)
    omega

/-- n places ahead of the round, m places in it. -/
structure IsRg (b B : Nat) (t : Int) (n m : Nat) : Prop where
  pos : 0 < m
  eq : rgT b B t (n + m) = rgT b B t n
  ne : ∀ i j, i < j → j < n + m → rgT b B t i ≠ rgT b B t j

theorem IsRg.unique {b B : Nat} {t : Int} {n m n' m' : Nat} (h : IsRg b B t n m) (h' : IsRg b B t n' m') : n = n' ∧ m = m' := by
  have hp := h.pos; have hp' := h'.pos
  have e : n + m = n' + m' := by
    rcases Nat.lt_trichotomy (n + m) (n' + m') with hlt | he | hgt
    · exact absurd h.eq.symm (h'.ne n (n + m) (by omega) hlt)
    · exact he
    · exact absurd h'.eq.symm (h.ne n' (n' + m') (by omega) hgt)
  have en : n = n' := by
    rcases Nat.lt_trichotomy n n' with hlt | he | hgt
    · exact absurd (by rw [← h.eq, e, h'.eq]) (h.ne n n' hlt (by omega))
    · exact he
    · exact absurd (by rw [← h'.eq, ← e, h.eq]) (h'.ne n' n hgt (by omega))
  omega

theorem IsRg.per {b B : Nat} {t : Int} {n m : Nat} (h : IsRg b B t n m) (i : Nat) (hi : n ≤ i) : rgT b B t (i + m) = rgT b B t i := by
  obtain ⟨k, rfl⟩ := Nat.exists_eq_add_of_le hi
  have := rgT_cong h.eq k
  rw [show n + k + m = n + m + k by omega]; exact this

theorem IsRg.per_mul {b B : Nat} {t : Int} {n m : Nat} (h : IsRg b B t n m) (i q : Nat) (hi : n ≤ i) : rgT b B t (i + q * m) = rgT b B t i := by
  induction q with
  | zero => simp
  | succ q ih => rw [Nat.succ_mul, ← Nat.add_assoc, h.per _ (by omega), ih]

/-- The place where tops are in, and how many are different from there on. -/
theorem rg_some {b B : Nat} (h : Rgb b B) {t : Int} (h1 : -10000 ≤ t) (h2 : t ≤ 10000) : ∃ n m, IsRg b B t n m ∧ InR B (rgT b B t n) ∧ (∀ i, i < n → ¬ InR B (rgT b B t i)) ∧ n ≤ 14 ∧ m ≤ B + 1 := by
  obtain ⟨n, hn, hn2⟩ := least (P := fun n => InR B (rgT b B t n)) ⟨14, rgT_14 h h1 h2⟩
  have hn14 : n ≤ 14 := Nat.not_lt.1 fun hlt => hn2 14 hlt (rgT_14 h h1 h2)
  have hin := fun k => rgT_in h hn k
  -- the first time that a top comes again
  obtain ⟨m, hm0, hmB, hme⟩ : ∃ m, 0 < m ∧ m ≤ B + 1 ∧ rgT b B t (n + m) = rgT b B t n := by
    refine Classical.byContradiction fun hno => ?_
    have := php (B + 1) (B + 2) (fun k => (-(rgT b B t (n + k))).toNat) (fun k _ => by
      have := hin k
      obtain ⟨a1, a2⟩ := this
      show (-(rgT b B t (n + k))).toNat < B + 1
      omega) (fun i j hij hj e => by
      have a1 := hin i; have a2 := hin j
      have e1 : rgT b B t (n + i) = rgT b B t (n + j) := by
        obtain ⟨_, _⟩ := a1; obtain ⟨_, _⟩ := a2
        have : (-(rgT b B t (n + i))).toNat = (-(rgT b B t (n + j))).toNat := e
        omega
      have e2 : rgT b B t n = rgT b B t (n + (j - i)) := rgT_back h hn (hin _) i (by rw [show n + (j - i) + i = n + j by omega]; exact e1)
      exact hno ⟨j - i, by omega, by omega, e2.symm⟩)
    omega
  obtain ⟨m, ⟨hm0, hmB, hme⟩, hleast⟩ := least (P := fun m => 0 < m ∧ m ≤ B + 1 ∧ rgT b B t (n + m) = rgT b B t n) ⟨m, hm0, hmB, hme⟩
  refine ⟨n, m, ⟨hm0, hme, ?_⟩, hn, hn2, hn14, hmB⟩
  have hmono : ∀ i, i < n → (0 < rgT b B t i → ∀ k, i < k → rgT b B t k < rgT b B t i) ∧ (rgT b B t i < -(B : Int) → ∀ k, i < k → rgT b B t i < rgT b B t k) := by
    intro i hi
    have aux : ∀ k, (0 < rgT b B t i → rgT b B t (i + 1 + k) < rgT b B t i ∧ -(B : Int) ≤ rgT b B t (i + 1 + k)) ∧ (rgT b B t i < -(B : Int) → rgT b B t i < rgT b B t (i + 1 + k) ∧ rgT b B t (i + 1 + k) ≤ 0) := by
      intro k
      induction k with
      | zero => exact rgN_out h (rgT_eq h t i)
      | succ k ih =>
        have o := rgN_out h (rgT_eq h t (i + 1 + k))
        have inn := fun hx => rgN_in h (rgT_eq h t (i + 1 + k)) hx
        show (0 < rgT b B t i → rgT b B t (i + 1 + k + 1) < rgT b B t i ∧ -(B : Int) ≤ rgT b B t (i + 1 + k + 1)) ∧ (rgT b B t i < -(B : Int) → rgT b B t i < rgT b B t (i + 1 + k + 1) ∧ rgT b B t (i + 1 + k + 1) ≤ 0)
        refine ⟨fun hx => ?_, fun hx => ?_⟩
        · obtain ⟨i1, i2⟩ := ih.1 hx
          rcases Int.lt_or_le 0 (rgT b B t (i + 1 + k)) with h5 | h5
          · have := o.1 h5; omega
          · have := inn ⟨i2, h5⟩; obtain ⟨_, _⟩ := this; omega
        · obtain ⟨i1, i2⟩ := ih.2 hx
          rcases Int.lt_or_le (rgT b B t (i + 1 + k)) (-(B : Int)) with h5 | h5
          · have := o.2 h5; omega
          · have := inn ⟨h5, i2⟩; obtain ⟨_, _⟩ := this; omega
    refine ⟨fun hx k hk => ?_, fun hx k hk => ?_⟩
    · have := ((aux (k - (i + 1))).1 hx).1
      rwa [show i + 1 + (k - (i + 1)) = k by omega] at this
    · have := ((aux (k - (i + 1))).2 hx).1
      rwa [show i + 1 + (k - (i + 1)) = k by omega] at this
  intro i j hij hj e
  rcases Nat.lt_or_ge i n with hi | hi
  · have ho := hn2 i hi
    obtain ⟨m1, m2⟩ := hmono i hi
    have h6 : 0 < rgT b B t i ∨ rgT b B t i < -(B : Int) := by
      refine Classical.byContradiction fun hh => ho ⟨?_, ?_⟩ <;> omega
    rcases h6 with h6 | h6
    · have := m1 h6 j hij; omega
    · have := m2 h6 j hij; omega
  · obtain ⟨p, rfl⟩ := Nat.exists_eq_add_of_le hi
    have e2 : rgT b B t n = rgT b B t (n + (j - (n + p))) := rgT_back h hn (hin _) p (by rw [show n + (j - (n + p)) + p = j by omega]; exact e)
    exact hleast (j - (n + p)) (by omega) ⟨by omega, by omega, e2.symm⟩

theorem rg_facts {b B : Nat} (h : Rgb b B) {t : Int} (h1 : -10000 ≤ t) (h2 : t ≤ 10000) {n m : Nat} (hm : IsRg b B t n m) : InR B (rgT b B t n) ∧ (∀ i, i < n → ¬ InR B (rgT b B t i)) ∧ n ≤ 14 ∧ m ≤ B + 1 := by
  obtain ⟨n', m', h3, h4⟩ := rg_some h h1 h2
  obtain ⟨rfl, rfl⟩ := hm.unique h3
  exact h4

/-- The number with the first right digits. -/
def rgV (b B : Nat) (t : Int) : Nat → Int
  | 0 => 0
  | k + 1 => rgV b B t k + (rgD b B (rgT b B t k) : Int) * ((b ^ k : Nat) : Int)

theorem rgV_eq {b B : Nat} (h : Rgb b B) (t : Int) : ∀ k, t = rgV b B t k * B + ((b ^ k : Nat) : Int) * rgT b B t k
  | 0 => by show t = 0 * (B : Int) + ((1 : Nat) : Int) * t; rw [Int.zero_mul]; omega
  | k + 1 => by
    have ih := rgV_eq h t k
    have e := rgT_eq h t k
    show t = (rgV b B t k + (rgD b B (rgT b B t k) : Int) * ((b ^ k : Nat) : Int)) * B + ((b ^ (k + 1) : Nat) : Int) * rgT b B t (k + 1)
    rw [Nat.pow_succ, Int.natCast_mul]
    generalize rgT b B t (k + 1) = y at *
    generalize hx : rgT b B t k = x at *
    generalize (rgD b B x : Int) = a at *
    generalize ((b ^ k : Nat) : Int) = P at *
    generalize rgV b B t k = v at *
    rw [Int.add_mul]
    have e1 : P * x = P * (a * B + b * y) := by rw [← e]
    rw [Int.mul_add] at e1
    have e2 : a * P * B = P * (a * B) := by rw [Int.mul_comm a P, Int.mul_assoc]
    have e3 : P * b * y = P * (b * y) := Int.mul_assoc _ _ _
    omega

theorem rgV_bd {b B : Nat} (h : Rgb b B) (t : Int) : ∀ k, 0 ≤ rgV b B t k ∧ rgV b B t k < ((b ^ k : Nat) : Int)
  | 0 => ⟨Int.le_refl _, by show (0 : Int) < ((1 : Nat) : Int); omega⟩
  | k + 1 => by
    obtain ⟨i1, i2⟩ := rgV_bd h t k
    have hd := (rgD_spec (by have := h.b2; omega) h.cop (rgT b B t k)).1
    show 0 ≤ rgV b B t k + (rgD b B (rgT b B t k) : Int) * ((b ^ k : Nat) : Int) ∧ rgV b B t k + (rgD b B (rgT b B t k) : Int) * ((b ^ k : Nat) : Int) < ((b ^ (k + 1) : Nat) : Int)
    rw [Nat.pow_succ, Int.natCast_mul]
    generalize rgD b B (rgT b B t k) = a at *
    have hP : (0 : Int) ≤ ((b ^ k : Nat) : Int) := Int.natCast_nonneg _
    generalize ((b ^ k : Nat) : Int) = P at *
    generalize rgV b B t k = v at *
    have h1 : 0 ≤ (a : Int) * P := Int.mul_nonneg (by omega) hP
    have h2 : (a : Int) * P ≤ ((b : Int) - 1) * P := Int.mul_le_mul_of_nonneg_right (by omega) hP
    rw [Int.sub_mul, Int.one_mul] at h2
    have h3 : P * (b : Int) = b * P := Int.mul_comm _ _
    omega

/-- The number with the digits put together from the last one on, as far as told. -/
def rgH (b B : Nat) (t : Int) (k : Nat) : Nat → Int
  | 0 => 0
  | i + 1 => b * rgH b B t k i + rgD b B (rgT b B t (k - 1 - i))
theorem rgH_eq (b B : Nat) (t : Int) (k : Nat) : ∀ i, i ≤ k → rgH b B t k i * ((b ^ (k - i) : Nat) : Int) + rgV b B t (k - i) = rgV b B t k
  | 0, _ => by show 0 * _ + rgV b B t (k - 0) = _; rw [Int.zero_mul, Nat.sub_zero]; omega
  | i + 1, h => by
    have ih := rgH_eq b B t k i (by omega)
    obtain ⟨q, hq⟩ : ∃ q, k - (i + 1) = q := ⟨_, rfl⟩
    have e1 : k - i = q + 1 := by omega
    have e2 : k - 1 - i = q := by omega
    rw [hq]
    rw [e1] at ih
    show (b * rgH b B t k i + rgD b B (rgT b B t (k - 1 - i))) * ((b ^ q : Nat) : Int) + rgV b B t q = _
    rw [e2]
    have e3 : rgV b B t (q + 1) = rgV b B t q + (rgD b B (rgT b B t q) : Int) * ((b ^ q : Nat) : Int) := rfl
    rw [e3, Nat.pow_succ, Int.natCast_mul] at ih
    generalize ((b ^ q : Nat) : Int) = P at *
    generalize rgH b B t k i = v at *
    generalize (rgD b B (rgT b B t q) : Int) = a at *
    rw [Int.add_mul]
    have e4 : b * v * P = v * (P * b) := by rw [Int.mul_comm P (b : Int), ← Int.mul_assoc, Int.mul_comm v (b : Int)]
    omega
theorem rgH_all (b B : Nat) (t : Int) (k : Nat) : rgH b B t k k = rgV b B t k := by
  have := rgH_eq b B t k k (Nat.le_refl _)
  rw [Nat.sub_self] at this
  have e : rgV b B t 0 = 0 := rfl
  rw [e] at this
  have e2 : ((b ^ 0 : Nat) : Int) = 1 := rfl
  rw [e2, Int.mul_one] at this
  omega

/-- The bottom divides all tops or none. -/
theorem rgT_dvd {b B : Nat} (h : Rgb b B) (t : Int) : ∀ i, (B : Int) ∣ rgT b B t i ↔ (B : Int) ∣ t
  | 0 => Iff.rfl
  | i + 1 => by
    refine Iff.trans ?_ (rgT_dvd h t i)
    have e := rgT_eq h t i
    generalize rgT b B t (i + 1) = y at *
    generalize rgT b B t i = x at *
    have h1 : (B : Int) ∣ (rgD b B x : Int) * B := Int.dvd_mul_left _ _
    constructor
    · intro hy
      rw [e]
      exact Int.dvd_add h1 (Int.dvd_trans hy (Int.dvd_mul_left _ _))
    · intro hx
      have h2 : (B : Int) ∣ b * y := by
        have : (b : Int) * y = x - (rgD b B x : Int) * B := by omega
        rw [this]; exact Int.dvd_sub hx h1
      have h3 : B ∣ b * y.natAbs := by
        have := Int.natAbs_dvd_natAbs.2 h2
        rwa [Int.natAbs_mul, Int.natAbs_natCast, Int.natAbs_natCast] at this
      have h4 : B ∣ y.natAbs := Nat.Coprime.dvd_of_dvd_mul_left (by have := h.cop; rw [Nat.gcd_comm] at this; exact this) h3
      exact Int.natAbs_dvd_natAbs.1 (by rw [Int.natAbs_natCast]; exact h4)

theorem in_dvd {B : Nat} {x : Int} (hB : 1 ≤ B) (hx : InR B x) : (B : Int) ∣ x ↔ x = 0 ∨ x = -(B : Int) := by
  obtain ⟨h1, h2⟩ := hx
  constructor
  · rintro ⟨c, hc⟩
    have c1 : c ≤ 0 := Int.not_lt.1 fun hh => by
      have := Int.mul_pos (show (0 : Int) < B by omega) hh; omega
    have c2 : -1 ≤ c := Int.not_lt.1 fun hh => by
      have := Int.mul_le_mul_of_nonneg_left (show c ≤ -2 by omega) (show (0 : Int) ≤ B by omega); omega
    have c3 : c = 0 ∨ c = -1 := by omega
    rcases c3 with rfl | rfl
    · left; omega
    · right; omega
  · rintro (rfl | rfl)
    · exact Int.dvd_zero _
    · exact Int.dvd_neg.2 (Int.dvd_refl _)

/-- Whole numbers have a round of 0 alone or of the greatest digit alone. -/
theorem rg_whole {b B : Nat} (h : Rgb b B) {t : Int} {n m : Nat} (hm : IsRg b B t n m) (hin : InR B (rgT b B t n)) :
    (m = 1 ∧ (rgD b B (rgT b B t n) = 0 ∨ rgD b B (rgT b B t n) = b - 1)) ↔ (B : Int) ∣ t := by
  rw [← rgT_dvd h t n, in_dvd h.B1 hin]
  have hb := h.b2
  have e := rgT_eq h t n
  constructor
  · rintro ⟨rfl, hd⟩
    rw [hm.eq] at e
    generalize rgT b B t n = x at *
    rcases hd with hd | hd
    · rw [hd] at e
      left
      have e2 : ((b : Int) - 1) * x = 0 := by rw [Int.sub_mul, Int.one_mul]; omega
      rcases Int.mul_eq_zero.1 e2 with h1 | h1 <;> omega
    · rw [hd, show ((b - 1 : Nat) : Int) = (b : Int) - 1 by omega, Int.sub_mul, Int.one_mul] at e
      right
      have e2 : ((b : Int) - 1) * (x + B) = 0 := by rw [Int.mul_add, Int.sub_mul, Int.sub_mul, Int.one_mul, Int.one_mul]; omega
      rcases Int.mul_eq_zero.1 e2 with h1 | h1 <;> omega
  · intro hx
    have hst : rgT b B t (n + 1) = rgT b B t n := by
      rcases hx with hx | hx
      · rw [hx] at e ⊢; exact rgN_zero h e
      · rw [hx] at e ⊢; exact rgN_minus h e
    have h1 : m = 1 := by
      have := hm.pos
      refine Classical.byContradiction fun hne => hm.ne n (n + 1) (by omega) (by omega) hst.symm
    refine ⟨h1, ?_⟩
    rcases hx with hx | hx
    · left; rw [hx]; exact rgD_zero h
    · right; rw [hx]; exact rgD_minus h

/-- The round divides the order of the base. -/
theorem rg_order {b B m' n m : Nat} (h : Rgb b B) (hB : 2 ≤ B) {t : Int} (hm : IsRg b B t n m) (hin : InR B (rgT b B t n)) (ho : IsLen b 1 B 0 m') : m ∣ m' := by
  have hp := hm.pos
  -- tops times powers of the base
  have key : ∀ k, ∃ c : Int, rgT b B t n = c * B + ((b ^ k : Nat) : Int) * rgT b B t (n + k) := by
    intro k
    have := rgV_eq h (rgT b B t n) k
    rw [rgT_add] at this
    exact ⟨_, this⟩
  obtain ⟨c, hc⟩ := key m'
  have hpow : b ^ m' % B = 1 := by
    have := ho.eq
    rw [Nat.zero_add, rst_one hB] at this
    exact this
  have hdm := Nat.div_add_mod (b ^ m') B
  rw [hpow] at hdm
  have hdiff : (B : Int) ∣ rgT b B t n - rgT b B t (n + m') := by
    refine ⟨c + (b ^ m' / B : Nat) * rgT b B t (n + m'), ?_⟩
    have e1 : ((b ^ m' : Nat) : Int) = (B : Int) * ((b ^ m' / B : Nat) : Int) + 1 := by
      rw [← Int.natCast_mul]; omega
    rw [e1] at hc
    generalize rgT b B t (n + m') = y at *
    generalize rgT b B t n = x at *
    generalize ((b ^ m' / B : Nat) : Int) = Q at *
    rw [Int.add_mul, Int.one_mul] at hc
    rw [Int.mul_add]
    have e2 : (B : Int) * Q * y = B * (Q * y) := Int.mul_assoc _ _ _
    have e3 : c * (B : Int) = B * c := Int.mul_comm _ _
    omega
  have hin2 := rgT_in h hin m'
  have heq : rgT b B t (n + m') = rgT b B t n := by
    obtain ⟨q, hq⟩ := hdiff
    obtain ⟨a1, a2⟩ := hin
    obtain ⟨a3, a4⟩ := hin2
    have q3 : q = 0 ∨ q = 1 ∨ q = -1 := by
      have b1 : ¬ 2 ≤ q := fun hh => by have := Int.mul_le_mul_of_nonneg_left hh (show (0 : Int) ≤ B by omega); omega
      have b2 : ¬ q ≤ -2 := fun hh => by have := Int.mul_le_mul_of_nonneg_left hh (show (0 : Int) ≤ B by omega); omega
      omega
    have fix0 : rgT b B t n = 0 → rgT b B t (n + m') = 0 := fun e => by
      have : ∀ k, rgT b B t (n + k) = 0 := fun k => by
        induction k with
        | zero => exact e
        | succ k ih => exact rgN_zero h (by have := rgT_eq h t (n + k); rw [ih] at this; exact this)
      exact this m'
    have fixB : rgT b B t n = -(B : Int) → rgT b B t (n + m') = -(B : Int) := fun e => by
      have : ∀ k, rgT b B t (n + k) = -(B : Int) := fun k => by
        induction k with
        | zero => exact e
        | succ k ih => exact rgN_minus h (by have := rgT_eq h t (n + k); rw [ih] at this; exact this)
      exact this m'
    rcases q3 with rfl | rfl | rfl
    · omega
    · have := fix0 (by omega); omega
    · have := fixB (by omega); omega
  -- the least one that comes again divides
  have hmod : m' % m = 0 := by
    refine Classical.byContradiction fun hne => ?_
    have e1 := hm.per_mul (n + m' % m) (m' / m) (by omega)
    rw [show n + m' % m + m' / m * m = n + m' by have := Nat.mod_add_div m' m; rw [Nat.mul_comm] at this; omega, heq] at e1
    exact hm.ne n (n + m' % m) (by omega) (by have := Nat.mod_lt m' hp; omega) e1
  exact Nat.dvd_of_mod_eq_zero hmod

theorem rg_one {b n m : Nat} {t : Int} (h : Rgb b 1) (hm : IsRg b 1 t n m) (hin : InR 1 (rgT b 1 t n)) : m = 1 :=
  ((rg_whole h hm hin).2 ⟨t, by omega⟩).1

/-- The round of a fraction, from its end on. -/
theorem rg_back {b B T m : Nat} (h : Rgb b B) (hT : T < B) (hl : IsLen b T B 0 m) : ∀ i, i ≤ m → rgT b B (-(T : Int)) i = -(rst b T B (m - i) : Int) ∧ (i < m → rgD b B (rgT b B (-(T : Int)) i) = dig b T B (m - 1 - i))
  | i, hi => by
    have step : ∀ j, j < m → rgT b B (-(T : Int)) j = -(rst b T B (m - j) : Int) → rgD b B (rgT b B (-(T : Int)) j) = dig b T B (m - 1 - j) ∧ rgT b B (-(T : Int)) (j + 1) = -(rst b T B (m - (j + 1)) : Int) := by
      intro j hj ej
      obtain ⟨q, hq⟩ : ∃ q, m - (j + 1) = q := ⟨_, rfl⟩
      have e1 : m - j = q + 1 := by omega
      have e2 : m - 1 - j = q := by omega
      rw [hq, e2]
      rw [e1] at ej
      have hdm := Nat.div_add_mod (rst b T B q * b) B
      have hr : rst b T B (q + 1) = rst b T B q * b % B := rfl
      have hdg : dig b T B q = rst b T B q * b / B := rfl
      have hdl : dig b T B q < b := by
        rw [hdg, Nat.div_lt_iff_lt_mul (by omega), Nat.mul_comm]
        exact Nat.mul_lt_mul_of_pos_left (rst_lt hT q) (by have := h.b2; omega)
      rw [← hr, ← hdg] at hdm
      have hx : -(rst b T B (q + 1) : Int) - (dig b T B q : Int) * B = b * -(rst b T B q : Int) := by
        have := congrArg (fun x : Nat => (x : Int)) hdm
        simp only [Int.natCast_add, Int.natCast_mul] at this
        rw [Int.mul_neg, Int.mul_comm (b : Int), Int.mul_comm (dig b T B q : Int)]
        omega
      have hD : rgD b B (rgT b B (-(T : Int)) j) = dig b T B q := by
        rw [ej]
        exact rgD_unique h.cop hdl (by rw [hx]; exact Int.mul_emod_right _ _)
      refine ⟨hD, ?_⟩
      show (rgT b B (-(T : Int)) j - (rgD b B (rgT b B (-(T : Int)) j) : Int) * B) / b = _
      rw [hD, ej, hx]
      exact Int.mul_ediv_cancel_left _ (by have := h.b2; omega)
    have all : ∀ j, j ≤ m → rgT b B (-(T : Int)) j = -(rst b T B (m - j) : Int) := by
      intro j
      induction j with
      | zero =>
        intro _
        have := hl.eq
        rw [Nat.zero_add] at this
        show -(T : Int) = _
        rw [Nat.sub_zero, this]; rfl
      | succ j ih =>
        intro hj
        exact (step j (by omega) (ih (by omega))).2
    exact ⟨all i hi, fun hlt => (step i hlt (all i hi)).1⟩

theorem rg_neg {b B T m : Nat} (h : Rgb b B) (hT : T < B) (hl : IsLen b T B 0 m) : IsRg b B (-(T : Int)) 0 m := by
  have hb := rg_back h hT hl
  have hp := hl.pos
  refine ⟨hp, ?_, ?_⟩
  · rw [Nat.zero_add, (hb m (Nat.le_refl _)).1, (hb 0 (Nat.zero_le _)).1, Nat.sub_self, Nat.sub_zero]
    have := hl.eq
    rw [Nat.zero_add] at this
    rw [this]
  · intro i j hij hj e
    rw [Nat.zero_add] at hj
    rw [(hb i (by omega)).1, (hb j (by omega)).1] at e
    have e2 : rst b T B (m - i) = rst b T B (m - j) := by omega
    rcases Nat.eq_zero_or_pos i with rfl | hi
    · rw [Nat.sub_zero] at e2
      have := hl.eq
      rw [Nat.zero_add] at this
      rw [this] at e2
      exact hl.ne 0 (m - j) (by omega) (by omega) e2
    · exact hl.ne (m - j) (m - i) (by omega) (by omega) e2.symm

end Go.Proofs.Ytbgpdhnfaacenad
