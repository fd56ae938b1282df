/-
  Counts of full primes, greatest differences, runs, pairs, mirrored counts: mathematics alone.
-/
import Derived.Test.YtamcpoadpkgogacCntM
namespace Go.Proofs.Ytamcpoadpkgogac

theorem ful_cnt {b p d : Nat} (hb : 2 ≤ b) (hp : 2 ≤ p) (hg : Nat.gcd b p = 1) (hd : d < b) : fulC b p d p = (p - 1) / b ∨ fulC b p d p = (p - 1) / b + 1 := by
  have hpt : ∀ r, r < p → (one (1 ≤ r ∧ r * b / p = d) + one (r * b < d * p)) + one (r = 0) * one (d = 0) = one (r * b < (d + 1) * p) := fun r _ => by
    rcases Nat.eq_zero_or_pos r with rfl | hr
    · rw [one_no (p := 1 ≤ 0 ∧ 0 * b / p = d) (by omega), one_yes (p := (0 : Nat) = 0) rfl, Nat.zero_mul]
      have h1 : 0 < (d + 1) * p := Nat.mul_pos (by omega) (by omega)
      rw [one_yes h1]
      rcases Nat.eq_zero_or_pos d with rfl | h0
      · rw [one_no (p := 0 < 0 * p) (by omega), one_yes (p := (0 : Nat) = 0) rfl]
      · rw [one_yes (p := 0 < d * p) (Nat.mul_pos h0 (by omega)), one_no (p := d = 0) (by omega)]
    · rw [one_no (p := r = 0) (by omega), Nat.zero_mul, Nat.add_zero]
      have h1 : r * b / p = d ↔ d * p ≤ r * b ∧ r * b < (d + 1) * p := by
        rw [Nat.div_eq_iff (by omega)]
        rw [Nat.add_mul, Nat.one_mul]
        constructor <;> intro h <;> omega
      by_cases h2 : r * b < d * p
      · rw [one_yes h2, one_no (p := 1 ≤ r ∧ r * b / p = d) (fun h => by have := (h1.1 h.2).1; omega), one_yes (p := r * b < (d + 1) * p) (by rw [Nat.add_mul, Nat.one_mul]; omega)]
      · rw [one_no h2]
        by_cases h3 : r * b < (d + 1) * p
        · rw [one_yes h3, one_yes (p := 1 ≤ r ∧ r * b / p = d) ⟨hr, h1.2 ⟨by omega, h3⟩⟩]
        · rw [one_no h3, one_no (p := 1 ≤ r ∧ r * b / p = d) (fun h => h3 (h1.1 h.2).2)]
  have hsum : smC (fun r => (one (1 ≤ r ∧ r * b / p = d) + one (r * b < d * p)) + one (r = 0) * one (d = 0)) p = smC (fun r => one (r * b < (d + 1) * p)) p := smC_congr hpt
  rw [smC_add, smC_add, below_cnt (by omega), below_cnt (by omega), smC_only (fun _ => one (d = 0)) 0 p, if_pos (by omega)] at hsum
  have hs0 : p % b ≠ 0 := fun e => by
    have hd : b ∣ p := Nat.dvd_of_mod_eq_zero e
    rw [Nat.gcd_eq_left hd] at hg
    omega
  have hsb : p % b < b := Nat.mod_lt _ (by omega)
  have hpq := Nat.div_add_mod p b
  generalize p % b = s at *
  generalize hq : p / b = q at *
  have e1 : (p - 1) / b = q := by
    rw [show p - 1 = s - 1 + b * q by omega, Nat.add_mul_div_left _ _ (by omega), Nat.div_eq_of_lt (by omega)]; omega
  have le1 : (d * p + b - 1) / b ≤ p := by
    have h1 : d * p + b - 1 < (p + 1) * b := by
      have : d * p + p ≤ b * p := by have := Nat.mul_le_mul_right p (show d + 1 ≤ b by omega); rwa [Nat.add_mul, Nat.one_mul] at this
      rw [Nat.add_mul, Nat.one_mul, Nat.mul_comm p b]; omega
    have := (Nat.div_lt_iff_lt_mul (show 0 < b by omega)).2 h1
    omega
  have le2 : ((d + 1) * p + b - 1) / b ≤ p := by
    have h1 : (d + 1) * p + b - 1 < (p + 1) * b := by
      have : (d + 1) * p ≤ b * p := Nat.mul_le_mul_right p (by omega)
      rw [Nat.add_mul p, Nat.one_mul, Nat.mul_comm p b]; omega
    have := (Nat.div_lt_iff_lt_mul (show 0 < b by omega)).2 h1
    omega
  rw [Nat.min_eq_right le1, Nat.min_eq_right le2] at hsum
  have e2 : (d + 1) * p + b - 1 = (d * p + b - 1 + s) + b * q := by rw [Nat.add_mul, Nat.one_mul]; omega
  rw [e2, Nat.add_mul_div_left _ _ (show 0 < b by omega)] at hsum
  rw [e1]
  have hF : smC (fun r => one (1 ≤ r ∧ r * b / p = d)) p = fulC b p d p := rfl
  rw [hF] at hsum
  generalize fulC b p d p = F at *
  have dm := Nat.div_add_mod (d * p + b - 1) b
  have dl := Nat.mod_lt (d * p + b - 1) (show 0 < b by omega)
  rcases Nat.eq_zero_or_pos d with rfl | h0
  · rw [one_yes rfl, Nat.zero_mul, Nat.zero_add] at hsum
    rw [show b - 1 + s = s - 1 + b * 1 by omega, Nat.add_mul_div_left _ _ (show 0 < b by omega), Nat.div_eq_of_lt (show s - 1 < b by omega), Nat.div_eq_of_lt (show b - 1 < b by omega)] at hsum
    left; omega
  · rw [one_no (p := d = 0) (by omega)] at hsum
    have e3 : d * p + b - 1 + s = ((d * p + b - 1) % b + s) + b * ((d * p + b - 1) / b) := by omega
    rw [e3, Nat.add_mul_div_left _ _ (show 0 < b by omega)] at hsum
    generalize (d * p + b - 1) / b = Y at *
    generalize (d * p + b - 1) % b = Z at *
    rcases Nat.lt_or_ge (Z + s) b with h | h
    · rw [Nat.div_eq_of_lt h] at hsum; left; omega
    · rw [show Z + s = Z + s - b + b * 1 by omega, Nat.add_mul_div_left _ _ (show 0 < b by omega), Nat.div_eq_of_lt (show Z + s - b < b by omega)] at hsum
      right; omega

/-- The digits of the round of a full prime. -/
theorem full_cnt {b p d : Nat} (hp : 2 ≤ p) (h : IsLen b 1 p 0 (p - 1)) : dgC (fun i => dig b 1 p (0 + i)) d (p - 1) = fulC b p d p := by
  have hne : ∀ i, i < p - 1 → rst b 1 p i ≠ 0 := fun i hi e => by
    have h1 : rst b 1 p (i + 1) = 0 := by show rst b 1 p i * b % p = 0; rw [e, Nat.zero_mul, Nat.zero_mod]
    rcases Nat.lt_or_ge (i + 1) (p - 1) with h2 | h2
    · exact h.ne i (i + 1) (by omega) (by omega) (e.trans h1.symm)
    · have h3 := h.eq
      rw [Nat.zero_add, show p - 1 = i + 1 by omega, h1] at h3
      have : rst b 1 p 0 = 1 := rfl
      omega
  have hlt : ∀ i, rst b 1 p i < p := fun i => rst_lt (by omega) i
  have hperm := sum_perm (n := p - 1) (f := fun i => rst b 1 p i - 1) (fun i hi => by have := hne i hi; have := hlt i; omega)
    (fun i j h1 h2 e => h.ne i j h1 (by omega) (by have := hne i (by omega); have := hne j h2; omega)) (fun r => one ((r + 1) * b / p = d))
  obtain ⟨q, rfl⟩ : ∃ q, p = q + 1 := ⟨p - 1, by omega⟩
  rw [Nat.add_sub_cancel] at *
  have h2 : fulC b (q + 1) d (q + 1) = smC (fun r => one ((r + 1) * b / (q + 1) = d)) q := by
    unfold fulC
    rw [Nat.add_comm q 1, smC_split]
    show 0 + one (1 ≤ 0 ∧ _) + _ = _
    rw [one_no (fun h => by omega)]
    rw [Nat.zero_add]
    refine smC_congr fun r _ => ?_
    rw [Nat.add_comm 1 r, Nat.add_comm 1 q]
    by_cases e : (r + 1) * b / (q + 1) = d
    · rw [one_yes e, one_yes ⟨by omega, e⟩]
    · rw [one_no e, one_no fun h => e h.2]
  rw [h2, ← hperm]
  unfold dgC
  refine smC_congr fun i hi => ?_
  show one (dig b 1 (q + 1) (0 + i) = d) = _
  rw [Nat.zero_add, Nat.sub_add_cancel (by have := hne i hi; omega)]
  rfl

/-- The greatest difference of two counts. -/
structure IsMost (c : Nat → Nat) (b M : Nat) : Prop where
  le : ∀ i k, i < b → k < b → c i ≤ c k + M
  at_ : ∃ i k, i < b ∧ k < b ∧ c i = c k + M
theorem IsMost.unique {c : Nat → Nat} {b M N : Nat} (h : IsMost c b M) (h' : IsMost c b N) : M = N := by
  obtain ⟨i, k, hi, hk, e⟩ := h.at_
  obtain ⟨i', k', hi', hk', e'⟩ := h'.at_
  have h1 := h.le i' k' hi' hk'
  have h2 := h'.le i k hi hk
  omega
theorem IsMost.bound {c : Nat → Nat} {b M m : Nat} (h : IsMost c b M) (hc : ∀ i, c i ≤ m) : M ≤ m := by
  obtain ⟨i, k, _, _, e⟩ := h.at_
  have := hc i
  omega
theorem most_one {D : Nat → Nat} {b M : Nat} (hb : 2 ≤ b) (hd : D 0 < b) (h : IsMost (fun v => dgC D v 1) b M) : M = 1 := by
  have e : ∀ v, dgC D v 1 = one (D 0 = v) := fun v => by show 0 + one (D 0 = v) = _; omega
  have h2 := h.bound (m := 1) fun v => dgC_le D v 1
  obtain ⟨v, hv, hne⟩ : ∃ v, v < b ∧ D 0 ≠ v := by
    by_cases h0 : D 0 = 0
    · exact ⟨1, by omega, by omega⟩
    · exact ⟨0, by omega, h0⟩
  have h1 : dgC D (D 0) 1 ≤ dgC D v 1 + M := h.le (D 0) v hd hv
  rw [e, e, one_yes rfl, one_no hne] at h1
  omega

/-- The longest piece with one digit alone, round. -/
structure IsRun (D : Nat → Nat) (m r : Nat) : Prop where
  pos : 1 ≤ r
  le : r ≤ m
  at_ : ∃ s, s < m ∧ ∀ j, j < r → D ((s + j) % m) = D s
  max : ∀ s q, s < m → q ≤ m → (∀ j, j < q → D ((s + j) % m) = D s) → q ≤ r
theorem IsRun.unique {D : Nat → Nat} {m r q : Nat} (h : IsRun D m r) (h' : IsRun D m q) : r = q := by
  obtain ⟨s, hs, e⟩ := h.at_
  obtain ⟨s', hs', e'⟩ := h'.at_
  have h1 := h.max s' q hs' h'.le e'
  have h2 := h'.max s r hs h.le e
  omega

/-- A longest piece of a row, told as far as i. -/
structure IsLin (E : Nat → Nat) (i n B : Nat) : Prop where
  le : n ≤ i
  pos : 0 < i → 1 ≤ n
  run : ∀ j, j < n → E (i - n + j) = E (i - n)
  off : n < i → E (i - n - 1) ≠ E (i - n)
  best : B ≤ i ∧ (∃ s, s + B ≤ i ∧ ∀ j, j < B → E (s + j) = E s)
  max : ∀ s q, s + q ≤ i → (∀ j, j < q → E (s + j) = E s) → q ≤ B
theorem IsLin.zero (E : Nat → Nat) : IsLin E 0 0 0 :=
  ⟨Nat.le_refl _, fun h => by omega, fun j h => by omega, fun h => by omega, ⟨Nat.le_refl _, 0, Nat.le_refl _, fun j h => by omega⟩, fun s q h _ => by omega⟩

theorem IsLin.step {E : Nat → Nat} {i n B k : Nat} (h : IsLin E i n B) (hk : (k = n + 1 ∧ (0 < i → E i = E (i - 1))) ∨ (k = 1 ∧ 0 < i ∧ E i ≠ E (i - 1))) : IsLin E (i + 1) k (Nat.max B k) := by
  have hle := h.le
  have hconst : ∀ x, i - n ≤ x → x < i → E x = E (i - n) := fun x h1 h2 => by
    have := h.run (x - (i - n)) (by omega)
    rwa [show i - n + (x - (i - n)) = x by omega] at this
  have hrun : ∀ j, j < k → E (i + 1 - k + j) = E (i + 1 - k) := by
    intro j hj
    rcases hk with ⟨rfl, h1⟩ | ⟨rfl, h1, h2⟩
    · rw [show i + 1 - (n + 1) = i - n by omega]
      rcases Nat.lt_or_ge (i - n + j) i with h3 | h3
      · exact hconst _ (by omega) h3
      · obtain e : i - n + j = i := by omega
        rw [e]
        rcases Nat.eq_zero_or_pos i with h4 | h4
        · subst h4; rw [Nat.zero_sub]
        · rw [h1 h4]
          have hp := h.pos h4
          exact hconst (i - 1) (by omega) (by omega)
    · rw [show j = 0 by omega]; rfl
  have hkle : k ≤ i + 1 := by rcases hk with ⟨rfl, _⟩ | ⟨rfl, _⟩ <;> omega
  have hk1 : 1 ≤ k := by rcases hk with ⟨rfl, _⟩ | ⟨rfl, _⟩ <;> omega
  have hoff : k < i + 1 → E (i + 1 - k - 1) ≠ E (i + 1 - k) := by
    intro h5
    rcases hk with ⟨rfl, h1⟩ | ⟨rfl, h1, h2⟩
    · rw [show i + 1 - (n + 1) = i - n by omega]; exact h.off (by omega)
    · rw [show i + 1 - 1 - 1 = i - 1 by omega, show i + 1 - 1 = i by omega]; exact h2.symm
  refine ⟨hkle, fun _ => hk1, hrun, hoff, ?_, ?_⟩
  · rcases Nat.le_total k B with h5 | h5
    · rw [show Nat.max B k = B from Nat.max_eq_left h5]
      obtain ⟨h6, s, h7, h8⟩ := h.best
      exact ⟨by omega, s, by omega, h8⟩
    · rw [show Nat.max B k = k from Nat.max_eq_right h5]
      exact ⟨hkle, i + 1 - k, by omega, hrun⟩
  · intro s q hsq hc
    rcases Nat.lt_or_ge (s + q) (i + 1) with h5 | h5
    · exact Nat.le_trans (h.max s q (by omega) hc) (Nat.le_max_left _ _)
    · refine Nat.le_trans ?_ (Nat.le_max_right _ _)
      refine Nat.not_lt.1 fun hlt => ?_
      have e1 := hc (i + 1 - k - 1 - s) (by omega)
      have e2 := hc (i + 1 - k - s) (by omega)
      rw [show s + (i + 1 - k - 1 - s) = i + 1 - k - 1 by omega] at e1
      rw [show s + (i + 1 - k - s) = i + 1 - k by omega] at e2
      exact hoff (by omega) (e1.trans e2.symm)

theorem IsLin.round {D : Nat → Nat} {m n B : Nat} (hm : 0 < m) (h : IsLin (fun i => D (i % m)) (2 * m) n B) : IsRun D m (Nat.min B m) := by
  obtain ⟨_, s, hs, hc⟩ := h.best
  have hB1 : 1 ≤ B := h.max 0 1 (by omega) fun j hj => by rw [show j = 0 by omega]
  refine ⟨Nat.le_min.2 ⟨hB1, hm⟩, Nat.min_le_right _ _, ⟨s % m, Nat.mod_lt _ hm, fun j hj => ?_⟩, fun s' q hs' hq hc' => Nat.le_min.2 ⟨h.max s' q (by omega) fun j hj => ?_, hq⟩⟩
  · have := hc j (Nat.lt_of_lt_of_le hj (Nat.min_le_left _ _))
    rw [← this]
    show D ((s % m + j) % m) = D ((s + j) % m)
    rw [Nat.mod_add_mod]
  · show D ((s' + j) % m) = D (s' % m)
    rw [hc' j hj, Nat.mod_eq_of_lt hs']

theorem run_one {b T B n m r : Nat} (hT : T < B) (hb : 2 ≤ b) (h : IsLen b T B n m) (hr : IsRun (fun i => dig b T B (n + i)) m r) : r = m ↔ m = 1 := by
  have hm := h.pos
  constructor
  · rintro rfl
    refine Classical.byContradiction fun hne => ?_
    obtain ⟨s, hs, hc⟩ := hr.at_
    have hall : ∀ x, x < r → dig b T B (n + x) = dig b T B (n + s) := fun x hx => by
      have := hc ((x + (r - s)) % r) (Nat.mod_lt _ hm)
      rw [← this]
      show _ = dig b T B (n + (s + (x + (r - s)) % r) % r)
      rw [Nat.add_mod_mod, show s + (x + (r - s)) = x + r by omega, Nat.add_mod_right, Nat.mod_eq_of_lt hx]
    obtain ⟨k, h1, h2, h3⟩ := no_shorter hT hb h (j := 1) (by omega) (by omega) (Nat.mod_one _)
    exact h3 ((hall k h2).trans (hall (k - 1) (by omega)).symm)
  · rintro rfl
    have := hr.le; have := hr.pos; omega

/-- How many come for the first time. -/
def frs (P : Nat → Nat) (m : Nat) : Nat := smC (fun i => one (∀ j, j < i → P j ≠ P i)) m
theorem frs_le (P : Nat → Nat) (m : Nat) : frs P m ≤ m := by
  have := smC_le (f := fun i => one (∀ j, j < i → P j ≠ P i)) (g := fun _ => 1) (n := m) fun i _ => by show one _ ≤ 1; unfold one; split <;> omega
  rwa [smC_one] at this
theorem dgC_zero {D : Nat → Nat} {v : Nat} : ∀ {m : Nat}, dgC D v m = 0 ↔ ∀ j, j < m → D j ≠ v
  | 0 => ⟨fun _ j h => by omega, fun _ => rfl⟩
  | m + 1 => by
    show dgC D v m + one (D m = v) = 0 ↔ _
    constructor
    · intro h j hj
      rcases Nat.lt_or_ge j m with h1 | h1
      · exact dgC_zero.1 (by omega) j h1
      · obtain rfl : j = m := by omega
        intro e
        rw [one_yes e] at h
        omega
    · intro h
      rw [dgC_zero.2 fun j hj => h j (by omega), one_no (h m (by omega))]
theorem hits {D : Nat → Nat} {b : Nat} : ∀ {m : Nat}, (∀ i, i < m → D i < b) → smC (fun v => one (0 < dgC D v m)) b = frs D m
  | 0, _ => by show smC (fun v => one (0 < 0)) b = 0; rw [show (fun _ : Nat => one (0 < 0)) = fun _ => 0 from rfl, smC_zero]
  | m + 1, h => by
    show _ = frs D m + one (∀ j, j < m → D j ≠ D m)
    rw [← hits fun i hi => h i (by omega)]
    have e : ∀ v, v < b → one (0 < dgC D v (m + 1)) = one (0 < dgC D v m) + one (v = D m) * one (∀ j, j < m → D j ≠ D m) := fun v _ => by
      have h1 : dgC D v (m + 1) = dgC D v m + one (D m = v) := rfl
      rw [h1]
      by_cases e : D m = v
      · subst e
        rw [one_yes (p := D m = D m) rfl, one_yes (p := 0 < dgC D (D m) m + 1) (by omega), Nat.one_mul]
        by_cases h2 : ∀ j, j < m → D j ≠ D m
        · rw [one_yes h2, dgC_zero.2 h2, one_no (p := 0 < 0) (by omega)]
        · rw [one_no h2, one_yes (p := 0 < dgC D (D m) m) (Nat.pos_of_ne_zero fun e => h2 (dgC_zero.1 e))]
      · rw [one_no e, one_no (p := v = D m) fun e' => e e'.symm, Nat.add_zero, Nat.zero_mul, Nat.add_zero]
    rw [smC_congr e, smC_add, smC_only (fun _ => one (∀ j, j < m → D j ≠ D m)) (D m) b, if_pos (h m (by omega))]

/-- The pairs of a round. -/
def prP (b : Nat) (D : Nat → Nat) (m i : Nat) : Nat := b * D i + D ((i + 1) % m)
theorem prP_lt {b m i : Nat} {D : Nat → Nat} (hm : 0 < m) (h : ∀ i, i < m → D i < b) (hi : i < m) : prP b D m i < b * b := by
  have h1 := h i hi
  have h2 := h ((i + 1) % m) (Nat.mod_lt _ hm)
  have h3 : b * (D i + 1) ≤ b * b := Nat.mul_le_mul_left b h1
  unfold prP
  rw [Nat.mul_add, Nat.mul_one] at h3
  omega
theorem pairs_ge {b m : Nat} {D : Nat → Nat} (hm : 0 < m) (h : ∀ i, i < m → D i < b) : frs D m ≤ frs (prP b D m) m := by
  refine smC_le fun i hi => ?_
  by_cases h1 : ∀ j, j < i → D j ≠ D i
  · rw [one_yes h1, one_yes]
    · exact Nat.le_refl _
    · intro j hj e
      refine h1 j hj ?_
      have b1 := h ((j + 1) % m) (Nat.mod_lt _ hm)
      have b2 := h ((i + 1) % m) (Nat.mod_lt _ hm)
      unfold prP at e
      have d1 : (b * D j + D ((j + 1) % m)) / b = D j := by rw [Nat.add_comm, Nat.add_mul_div_left _ _ (by omega), Nat.div_eq_of_lt b1]; omega
      have d2 : (b * D i + D ((i + 1) % m)) / b = D i := by rw [Nat.add_comm, Nat.add_mul_div_left _ _ (by omega), Nat.div_eq_of_lt b2]; omega
      rw [← d1, ← d2, e]
  · rw [one_no h1]; exact Nat.zero_le _

/-- Mirrored counts. -/
theorem dgC_half {b h v : Nat} {D : Nat → Nat} (hv : v < b) (hd : ∀ j, j < h → D j + D (h + j) = b - 1) : dgC D v (h + h) = dgC D (b - 1 - v) (h + h) := by
  unfold dgC
  rw [smC_split, smC_split]
  have e1 : smC (fun i => one (D (h + i) = v)) h = smC (fun i => one (D i = b - 1 - v)) h := smC_congr fun j hj => by
    have := hd j hj
    by_cases e : D (h + j) = v
    · rw [one_yes e, one_yes (by omega)]
    · rw [one_no e, one_no (by omega)]
  have e2 : smC (fun i => one (D (h + i) = b - 1 - v)) h = smC (fun i => one (D i = v)) h := smC_congr fun j hj => by
    have := hd j hj
    by_cases e : D j = v
    · rw [one_yes e, one_yes (by omega)]
    · rw [one_no e, one_no (by omega)]
  rw [e1, e2, Nat.add_comm]

theorem arg_max (c : Nat → Nat) : ∀ b, 0 < b → ∃ i, i < b ∧ ∀ k, k < b → c k ≤ c i
  | 0, h => by omega
  | b + 1, _ => by
    rcases Nat.eq_zero_or_pos b with rfl | hb
    · exact ⟨0, by omega, fun k hk => by rw [show k = 0 by omega]; exact Nat.le_refl _⟩
    · obtain ⟨i, hi, h⟩ := arg_max c b hb
      rcases Nat.le_total (c b) (c i) with h1 | h1
      · exact ⟨i, by omega, fun k hk => by
          rcases Nat.lt_or_ge k b with h2 | h2
          · exact h k h2
          · rw [show k = b by omega]; exact h1⟩
      · exact ⟨b, by omega, fun k hk => by
          rcases Nat.lt_or_ge k b with h2 | h2
          · exact Nat.le_trans (h k h2) h1
          · rw [show k = b by omega]; exact Nat.le_refl _⟩
theorem arg_min (c : Nat → Nat) : ∀ b, 0 < b → ∃ i, i < b ∧ ∀ k, k < b → c i ≤ c k
  | 0, h => by omega
  | b + 1, _ => by
    rcases Nat.eq_zero_or_pos b with rfl | hb
    · exact ⟨0, by omega, fun k hk => by rw [show k = 0 by omega]; exact Nat.le_refl _⟩
    · obtain ⟨i, hi, h⟩ := arg_min c b hb
      rcases Nat.le_total (c i) (c b) with h1 | h1
      · exact ⟨i, by omega, fun k hk => by
          rcases Nat.lt_or_ge k b with h2 | h2
          · exact h k h2
          · rw [show k = b by omega]; exact h1⟩
      · exact ⟨b, by omega, fun k hk => by
          rcases Nat.lt_or_ge k b with h2 | h2
          · exact Nat.le_trans h1 (h k h2)
          · rw [show k = b by omega]; exact Nat.le_refl _⟩
/-- There is a greatest difference. -/
theorem most_some (c : Nat → Nat) (b : Nat) (hb : 0 < b) : ∃ M, IsMost c b M := by
  obtain ⟨i, hi, himax⟩ := arg_max c b hb
  obtain ⟨k, hk, hkmin⟩ := arg_min c b hb
  exact ⟨c i - c k, fun x y hx hy => by have := himax x hx; have := hkmin y hy; omega, i, k, hi, hk, by have := hkmin i hi; omega⟩
theorem lin_some (E : Nat → Nat) : ∀ i, ∃ n B, IsLin E i n B
  | 0 => ⟨0, 0, IsLin.zero E⟩
  | i + 1 => by
    obtain ⟨n, B, h⟩ := lin_some E i
    by_cases h0 : 0 < i
    · by_cases e : E i = E (i - 1)
      · exact ⟨_, _, h.step (.inl ⟨rfl, fun _ => e⟩)⟩
      · exact ⟨_, _, h.step (.inr ⟨rfl, h0, e⟩)⟩
    · exact ⟨_, _, h.step (.inl ⟨rfl, fun h1 => absurd h1 h0⟩)⟩
/-- There is a longest piece. -/
theorem run_some (D : Nat → Nat) {m : Nat} (hm : 1 ≤ m) : ∃ r, IsRun D m r := by
  obtain ⟨n, B, h⟩ := lin_some (fun i => D (i % m)) (2 * m)
  exact ⟨_, h.round hm⟩

end Go.Proofs.Ytamcpoadpkgogac
