/-
  Counts of digits, runs, pairs: mathematics alone.
-/
import Derived.Test.YtamcpoadpkgogacTurnM
import Derived.Test.YtamcpoadpkgogacGPrt
namespace Go.Proofs.Ytamcpoadpkgogac

/-- The sum of the first n values. -/
def smC (f : Nat → Nat) : Nat → Nat
  | 0 => 0
  | n + 1 => smC f n + f n

theorem smC_congr {f g : Nat → Nat} : ∀ {n : Nat}, (∀ i, i < n → f i = g i) → smC f n = smC g n
  | 0, _ => rfl
  | n + 1, h => by
    show smC f n + f n = smC g n + g n
    rw [smC_congr fun i hi => h i (by omega), h n (by omega)]
theorem smC_add (f g : Nat → Nat) (n : Nat) : smC (fun i => f i + g i) n = smC f n + smC g n := by
  induction n with
  | zero => rfl
  | succ n ih => show smC (fun i => f i + g i) n + (f n + g n) = _ + _ + (_ + _); rw [ih]; omega
theorem smC_mul (c : Nat) (f : Nat → Nat) (n : Nat) : smC (fun i => c * f i) n = c * smC f n := by
  induction n with
  | zero => rfl
  | succ n ih => show smC (fun i => c * f i) n + c * f n = c * (smC f n + f n); rw [ih, Nat.mul_add]
theorem smC_zero (n : Nat) : smC (fun _ => 0) n = 0 := by
  induction n with
  | zero => rfl
  | succ n ih => show smC (fun _ => 0) n + 0 = 0; rw [ih]
theorem smC_one (n : Nat) : smC (fun _ => 1) n = n := by
  induction n with
  | zero => rfl
  | succ n ih => show smC (fun _ => 1) n + 1 = n + 1; rw [ih]
theorem smC_le {f g : Nat → Nat} : ∀ {n : Nat}, (∀ i, i < n → f i ≤ g i) → smC f n ≤ smC g n
  | 0, _ => Nat.le_refl _
  | n + 1, h => by
    have h1 := smC_le (f := f) (g := g) (n := n) fun i hi => h i (by omega)
    have h2 := h n (by omega)
    show smC f n + f n ≤ smC g n + g n
    omega
theorem smC_split (f : Nat → Nat) (m : Nat) : ∀ k, smC f (m + k) = smC f m + smC (fun i => f (m + i)) k
  | 0 => rfl
  | k + 1 => by
    show smC f (m + k) + f (m + k) = smC f m + (smC (fun i => f (m + i)) k + f (m + k))
    rw [smC_split f m k]; omega

/-- One for each that is so. -/
def one (p : Prop) [Decidable p] : Nat := if p then 1 else 0
theorem one_yes {p : Prop} [Decidable p] (h : p) : one p = 1 := if_pos h
theorem one_no {p : Prop} [Decidable p] (h : ¬ p) : one p = 0 := if_neg h

theorem smC_only (g : Nat → Nat) (x : Nat) : ∀ n, smC (fun i => one (i = x) * g i) n = if x < n then g x else 0
  | 0 => rfl
  | n + 1 => by
    show smC (fun i => one (i = x) * g i) n + one (n = x) * g n = _
    rw [smC_only g x n]
    rcases Nat.lt_trichotomy x n with h | h | h
    · rw [if_pos h, if_pos (by omega), one_no (by omega)]; omega
    · subst h; rw [if_neg (by omega), if_pos (by omega), one_yes rfl]; omega
    · rw [if_neg (by omega), if_neg (by omega), one_no (by omega)]; omega

theorem smC_swap (f : Nat → Nat → Nat) (n : Nat) : ∀ m, smC (fun i => smC (fun j => f i j) n) m = smC (fun j => smC (fun i => f i j) m) n
  | 0 => by show 0 = smC (fun j => 0) n; rw [smC_zero]
  | m + 1 => by
    show smC (fun i => smC (fun j => f i j) n) m + smC (fun j => f m j) n = smC (fun j => smC (fun i => f i j) m + f m j) n
    rw [smC_swap f n m, smC_add]

/-- All of n numbers below 1 at most, and n together: each is 1. -/
theorem all_one {f : Nat → Nat} : ∀ {n : Nat}, (∀ i, i < n → f i ≤ 1) → smC f n = n → ∀ i, i < n → f i = 1
  | 0, _, _, _, h => by omega
  | n + 1, h, e, i, hi => by
    have h1 : smC f n ≤ n := by have := smC_le (f := f) (g := fun _ => 1) (n := n) fun j hj => h j (by omega); rwa [smC_one] at this
    have h2 : smC f n + f n = n + 1 := e
    have h3 := h n (by omega)
    rcases Nat.lt_or_ge i n with h4 | h4
    · exact all_one (fun j hj => h j (by omega)) (by omega) i h4
    · obtain rfl : i = n := by omega
      omega

/-- What is all different among as many as there are comes to each. -/
theorem sum_perm {n : Nat} {f : Nat → Nat} (hlt : ∀ i, i < n → f i < n) (hinj : ∀ i j, i < j → j < n → f i ≠ f j) (g : Nat → Nat) : smC (fun i => g (f i)) n = smC g n := by
  have hone : ∀ r, r < n → smC (fun i => one (f i = r)) n = 1 := by
    refine all_one (fun r _ => ?_) ?_
    · have key : ∀ k, k ≤ n → smC (fun i => one (f i = r)) k ≤ 1 ∧ (smC (fun i => one (f i = r)) k = 0 ∨ ∃ i, i < k ∧ f i = r) := by
        intro k
        induction k with
        | zero => intro _; exact ⟨Nat.zero_le _, .inl rfl⟩
        | succ k ih =>
          intro hk
          obtain ⟨h1, h2⟩ := ih (by omega)
          show smC (fun i => one (f i = r)) k + one (f k = r) ≤ 1 ∧ (smC (fun i => one (f i = r)) k + one (f k = r) = 0 ∨ _)
          by_cases hr : f k = r
          · rcases h2 with h2 | ⟨i, hi, e⟩
            · rw [h2, one_yes hr]; exact ⟨Nat.le_refl _, .inr ⟨k, by omega, hr⟩⟩
            · exact absurd (e.trans hr.symm) (hinj i k hi (by omega))
          · rw [one_no hr]
            refine ⟨by omega, ?_⟩
            rcases h2 with h2 | ⟨i, hi, e⟩
            · exact .inl (by omega)
            · exact .inr ⟨i, by omega, e⟩
      exact (key n (Nat.le_refl _)).1
    · rw [smC_swap (fun r i => one (f i = r)) n n]
      have : ∀ i, i < n → smC (fun r => one (f i = r)) n = 1 := fun i hi => by
        have h := smC_only (fun _ => 1) (f i) n
        rw [if_pos (hlt i hi)] at h
        rw [← h]
        refine smC_congr fun r _ => ?_
        by_cases e : f i = r
        · rw [one_yes e, one_yes e.symm]
        · rw [one_no e, one_no fun e' => e e'.symm]
      rw [smC_congr this, smC_one]
  have h1 : smC (fun i => g (f i)) n = smC (fun i => smC (fun r => one (r = f i) * g r) n) n := smC_congr fun i hi => by rw [smC_only, if_pos (hlt i hi)]
  rw [h1, smC_swap (fun i r => one (r = f i) * g r) n n]
  refine smC_congr fun r hr => ?_
  have h2 : smC (fun i => one (r = f i) * g r) n = g r * smC (fun i => one (f i = r)) n := by
    rw [← smC_mul]
    refine smC_congr fun i _ => ?_
    by_cases e : f i = r
    · rw [one_yes e, one_yes e.symm, Nat.mul_comm]
    · rw [one_no e, one_no fun e' => e e'.symm]; omega
  rw [h2, hone r hr, Nat.mul_one]

/-- How often a digit stands among the first ones. -/
def dgC (D : Nat → Nat) (v m : Nat) : Nat := smC (fun i => one (D i = v)) m
theorem dgC_le (D : Nat → Nat) (v m : Nat) : dgC D v m ≤ m := by
  have := smC_le (f := fun i => one (D i = v)) (g := fun _ => 1) (n := m) fun i _ => by show one _ ≤ 1; unfold one; split <;> omega
  rwa [smC_one] at this

/-- The counts as a list. -/
def cntL (b : Nat) (D : Nat → Nat) (m : Nat) : List Int := (List.range b).map fun v => (dgC D v m : Int)
theorem cntL_len (b : Nat) (D : Nat → Nat) (m : Nat) : (cntL b D m).length = b := by simp [cntL]
theorem cntL_get {b : Nat} {D : Nat → Nat} {m v : Nat} (hv : v < b) : (cntL b D m)[v]?.getD 0 = (dgC D v m : Int) := by
  unfold cntL
  rw [List.getElem?_map, List.getElem?_range hv]; rfl
theorem cntL_zero (b : Nat) (D : Nat → Nat) : cntL b D 0 = List.replicate b 0 := by
  refine List.ext_getElem (by simp [cntL]) fun i h1 h2 => ?_
  simp [cntL, dgC, smC]
theorem cntL_set {b : Nat} {D : Nat → Nat} {m : Nat} : (cntL b D m).set (D m) ((dgC D (D m) m : Int) + 1) = cntL b D (m + 1) := by
  refine List.ext_getElem (by simp [cntL]) fun i h1 h2 => ?_
  rw [List.getElem_set]
  by_cases e : D m = i
  · rw [if_pos e]
    simp only [cntL, List.getElem_map, List.getElem_range]
    show (dgC D (D m) m : Int) + 1 = ((dgC D i m + one (D m = i) : Nat) : Int)
    rw [one_yes e, e]; omega
  · rw [if_neg e]
    simp only [cntL, List.getElem_map, List.getElem_range]
    show (dgC D i m : Int) = ((dgC D i m + one (D m = i) : Nat) : Int)
    rw [one_no e]; omega

theorem sumI_map (f : Nat → Nat) : ∀ n, sumI ((List.range n).map fun i => (f i : Int)) = (smC f n : Int)
  | 0 => rfl
  | n + 1 => by
    rw [List.range_succ, List.map_append, sumI_append, sumI_map f n]
    show (smC f n : Int) + sumI [(f n : Int)] = ((smC f n + f n : Nat) : Int)
    rw [sumI_cons]; show _ + (_ + (0 : Int)) = _; omega

theorem sum_cnt {b : Nat} {D : Nat → Nat} {m : Nat} (h : ∀ i, i < m → D i < b) : smC (fun v => dgC D v m) b = m := by
  unfold dgC
  rw [smC_swap (fun v i => one (D i = v)) m b]
  have : ∀ i, i < m → smC (fun v => one (D i = v)) b = 1 := fun i hi => by
    have e := smC_only (fun _ => 1) (D i) b
    rw [if_pos (h i hi)] at e
    rw [← e]
    refine smC_congr fun r _ => ?_
    by_cases e : D i = r
    · rw [one_yes e, one_yes e.symm]
    · rw [one_no e, one_no fun e' => e e'.symm]
  rw [smC_congr this, smC_one]

theorem sum_vcnt {b : Nat} {D : Nat → Nat} {m : Nat} (h : ∀ i, i < m → D i < b) : smC (fun v => v * dgC D v m) b = smC D m := by
  have h1 : ∀ v, v < b → v * dgC D v m = smC (fun i => one (v = D i) * v) m := fun v _ => by
    unfold dgC
    rw [← smC_mul]
    refine smC_congr fun i _ => ?_
    by_cases e : D i = v
    · rw [one_yes e, one_yes e.symm, Nat.mul_comm]
    · rw [one_no e, one_no fun e' => e e'.symm]; omega
  rw [smC_congr h1, smC_swap (fun v i => one (v = D i) * v) m b]
  refine smC_congr fun i hi => ?_
  rw [smC_only (fun v => v) (D i) b, if_pos (h i hi)]

/-- Sums of digits are told by rests. -/
theorem sum_dig_rst {b T B n m : Nat} (hb : 1 ≤ b) (hB : 0 < B) (h : IsLen b T B n m) : smC (fun i => dig b T B (n + i)) m * B = (b - 1) * smC (fun i => rst b T B (n + i)) m := by
  have key : ∀ k, b * smC (fun i => rst b T B (n + i)) k + rst b T B n = smC (fun i => dig b T B (n + i)) k * B + smC (fun i => rst b T B (n + i)) k + rst b T B (n + k) := by
    intro k
    induction k with
    | zero => show b * 0 + rst b T B n = 0 * B + 0 + rst b T B (n + 0); simp
    | succ k ih =>
      show b * (smC (fun i => rst b T B (n + i)) k + rst b T B (n + k)) + rst b T B n = (smC (fun i => dig b T B (n + i)) k + dig b T B (n + k)) * B + (smC (fun i => rst b T B (n + i)) k + rst b T B (n + k)) + rst b T B (n + (k + 1))
      have e := rst_dig (b := b) (T := T) (n + k) hB
      rw [show n + k + 1 = n + (k + 1) by omega] at e
      rw [Nat.mul_add, Nat.add_mul, Nat.mul_comm b (rst b T B (n + k)), e]
      omega
  have h1 := key m
  rw [h.eq] at h1
  obtain ⟨c, rfl⟩ : ∃ c, b = c + 1 := ⟨b - 1, by omega⟩
  rw [Nat.add_mul, Nat.one_mul] at h1
  rw [Nat.add_sub_cancel]
  omega

/-- How many numbers below n have a product by b below x. -/
theorem below_cnt {b : Nat} (hb : 0 < b) (x : Nat) : ∀ n, smC (fun r => one (r * b < x)) n = min n ((x + b - 1) / b)
  | 0 => by show 0 = min 0 _; rw [Nat.zero_min]
  | n + 1 => by
    show smC (fun r => one (r * b < x)) n + one (n * b < x) = _
    rw [below_cnt hb x n]
    have h1 : n * b < x ↔ n < (x + b - 1) / b := by
      rw [Nat.lt_div_iff_mul_lt hb]
      constructor <;> intro h <;> omega
    generalize (x + b - 1) / b = y at *
    by_cases h : n * b < x
    · rw [one_yes h]; have := h1.1 h; omega
    · rw [one_no h]; have : ¬ n < y := fun e => h (h1.2 e); omega

/-- The numbers with a digit, of those from 1 to p - 1. -/
def fulC (b p d : Nat) : Nat → Nat := fun k => smC (fun r => one (1 ≤ r ∧ r * b / p = d)) k

end Go.Proofs.Ytamcpoadpkgogac
