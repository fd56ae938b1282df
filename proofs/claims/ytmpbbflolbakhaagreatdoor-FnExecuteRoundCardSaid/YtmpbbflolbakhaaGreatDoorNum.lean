/-
  The mathematics of digits: rests of division, their reduced fractions, the first rest that comes again.
-/
import Derived.Below
namespace Go.Proofs.YtmpbbflolbakhaaGreatDoor

/-- The rest behind i digits. -/
def rst (b T B : Nat) : Nat → Nat
  | 0 => T
  | i + 1 => rst b T B i * b % B

/-- The digit at place i. -/
def dig (b T B : Nat) (i : Nat) : Nat := rst b T B i * b / B

/-- The fraction behind i digits, in lowest terms, as the program steps: top and bottom. -/
def frT (b T B : Nat) : Nat → Nat × Nat
  | 0 => (T, B)
  | i + 1 => ((frT b T B i).1 * b % (frT b T B i).2 / Nat.gcd b (frT b T B i).2, (frT b T B i).2 / Nat.gcd b (frT b T B i).2)

structure FrOk (T B r t n : Nat) : Prop where
  pos : 0 < n
  div : n ∣ B
  cop : Nat.gcd t n = 1
  eq : r = t * (B / n)
  lt : t < n

theorem rst_lt {b T B : Nat} (h : T < B) (i : Nat) : rst b T B i < B := by
  cases i with
  | zero => exact h
  | succ i => exact Nat.mod_lt _ (by omega)

theorem mul_div_cancel_dvd {n B : Nat} (h : n ∣ B) : n * (B / n) = B := Nat.mul_div_cancel' h

theorem fr_step {b B r t n T : Nat} (hB : 0 < B) (h : FrOk T B r t n) :
    FrOk T B (r * b % B) (t * b % n / Nat.gcd b n) (n / Nat.gcd b n) ∧ r * b / B = t * b / n := by
  obtain ⟨hn, hd, hc, he, hl⟩ := h
  have hcp : 0 < Nat.gcd b n := Nat.gcd_pos_of_pos_right _ hn
  have hcn : Nat.gcd b n ∣ n := Nat.gcd_dvd_right _ _
  have hcb : Nat.gcd b n ∣ b := Nat.gcd_dvd_left _ _
  have hct : Nat.gcd b n ∣ t * b % n := (Nat.dvd_mod_iff hcn).2 (Nat.dvd_trans hcb (Nat.dvd_mul_left _ _))
  have hgc : Nat.gcd (t * b % n) n = Nat.gcd b n := by
    rw [← Nat.gcd_rec, Nat.gcd_comm]
    exact Nat.Coprime.gcd_mul_left_cancel b hc
  have hxl : t * b % n < n := Nat.mod_lt _ hn
  revert hcp hcn hcb hct hgc hxl
  generalize Nat.gcd b n = c
  intro hcp hcn hcb hct hgc hxl
  obtain ⟨g, rfl⟩ := hd
  have hng : n * g / n = g := Nat.mul_div_cancel_left g hn
  rw [hng] at he
  have hgp : 0 < g := Nat.pos_of_mul_pos_left (a := n) hB
  have e1 : r * b = (t * b) * g := by rw [he]; ac_rfl
  have e2 : r * b % (n * g) = (t * b % n) * g := by rw [e1, Nat.mul_mod_mul_right]
  have e3 : r * b / (n * g) = t * b / n := by rw [e1, Nat.mul_div_mul_right _ _ hgp]
  refine ⟨⟨?_, ?_, ?_, ?_, ?_⟩, e3⟩
  · exact Nat.div_pos (Nat.le_of_dvd hn hcn) hcp
  · exact Nat.dvd_trans (Nat.div_dvd_of_dvd hcn) (Nat.dvd_mul_right _ _)
  · rw [Nat.gcd_div hct hcn, hgc, Nat.div_self hcp]
  · rw [e2]
    obtain ⟨m, rfl⟩ := hcn
    rw [Nat.mul_div_cancel_left _ hcp]
    have hmp : 0 < m := Nat.pos_of_mul_pos_left (a := c) hn
    have : c * m * g / m = c * g := by rw [show c * m * g = m * (c * g) by ac_rfl]; exact Nat.mul_div_cancel_left _ hmp
    rw [this, ← Nat.mul_assoc, Nat.div_mul_cancel hct]
  · obtain ⟨m, rfl⟩ := hcn
    rw [Nat.mul_div_cancel_left _ hcp]
    exact Nat.div_lt_of_lt_mul hxl

theorem fr_ok {b T B : Nat} (hT : T < B) (hg : Nat.gcd T B = 1) (i : Nat) : FrOk T B (rst b T B i) (frT b T B i).1 (frT b T B i).2 := by
  induction i with
  | zero => exact ⟨by simp [frT]; omega, ⟨1, by simp [frT]⟩, hg, by simp [rst, frT, Nat.div_self (by omega : 0 < B)], hT⟩
  | succ i ih => exact (fr_step (by omega) ih).1

theorem dig_fr {b T B : Nat} (hT : T < B) (hg : Nat.gcd T B = 1) (i : Nat) : dig b T B i = (frT b T B i).1 * b / (frT b T B i).2 :=
  (fr_step (by omega) (fr_ok hT hg i)).2

/-- The fraction is told by the rest. -/
theorem fr_unique {T B r t n t' n' : Nat} (hB : 0 < B) (h : FrOk T B r t n) (h' : FrOk T B r t' n') : t = t' ∧ n = n' := by
  obtain ⟨hn, ⟨g, hd⟩, hc, he, hl⟩ := h
  obtain ⟨hn', ⟨g', hd'⟩, hc', he', hl'⟩ := h'
  have e1 : B / n = g := by rw [hd]; exact Nat.mul_div_cancel_left g hn
  have e2 : B / n' = g' := by rw [hd']; exact Nat.mul_div_cancel_left g' hn'
  rw [e1] at he; rw [e2] at he'
  have g1 : Nat.gcd r B = g := by rw [he, hd, Nat.gcd_mul_right, hc, Nat.one_mul]
  have g2 : Nat.gcd r B = g' := by rw [he', hd', Nat.gcd_mul_right, hc', Nat.one_mul]
  have hgg : g = g' := g1.symm.trans g2
  subst hgg
  have hgp : 0 < g := by rcases Nat.eq_zero_or_pos g with h0 | h0; (subst h0; omega); exact h0
  have hnn : n = n' := Nat.eq_of_mul_eq_mul_right hgp (hd.symm.trans hd')
  exact ⟨Nat.eq_of_mul_eq_mul_right hgp (he.symm.trans he'), hnn⟩

/-- A pigeonhole. -/
theorem php : ∀ (B k : Nat) (f : Nat → Nat), (∀ i, i < k → f i < B) → (∀ i j, i < j → j < k → f i ≠ f j) → k ≤ B := by
  intro B
  induction B with
  | zero => intro k f h _; rcases Nat.eq_zero_or_pos k with h0 | h0; omega; exact absurd (h 0 h0) (by omega)
  | succ B ih =>
    intro k f h hne
    by_cases hB : ∃ i, i < k ∧ f i = B
    · obtain ⟨i0, hi0, hf0⟩ := hB
      have := ih (k - 1) (fun i => if i < i0 then f i else f (i + 1)) (fun i hi => by
        split
        · rename_i hlt
          have h1 := h i (by omega); have h2 := hne i i0 hlt hi0; omega
        · rename_i hge
          have h1 := h (i + 1) (by omega); have h2 := hne i0 (i + 1) (by omega) (by omega); omega) (fun i j hij hj => by
        split <;> split
        · exact hne i j hij (by omega)
        · exact hne i (j + 1) (by omega) (by omega)
        · omega
        · exact hne (i + 1) (j + 1) (by omega) (by omega))
      omega
    · have := ih k f (fun i hi => by have := h i hi; have : f i ≠ B := fun e => hB ⟨i, hi, e⟩; omega) hne
      omega

/-- n places ahead of the round, m places in it: the first rest that comes again is that at place n, at place n + m. -/
structure IsLen (b T B n m : Nat) : Prop where
  pos : 0 < m
  eq : rst b T B (n + m) = rst b T B n
  ne : ∀ i j, i < j → j < n + m → rst b T B i ≠ rst b T B j

theorem IsLen.unique {b T B n m n' m' : Nat} (h : IsLen b T B n m) (h' : IsLen b T B n' m') : n = n' ∧ m = m' := by
  have hp := h.pos; have hp' := h'.pos
  have e : n + m = n' + m' := by
    rcases Nat.lt_trichotomy (n + m) (n' + m') with hlt | he | hgt
    · exact absurd h.eq.symm (h'.ne n (n + m) (by omega) hlt)
    · exact he
    · exact absurd h'.eq.symm (h.ne n' (n' + m') (by omega) hgt)
  have en : n = n' := by
    rcases Nat.lt_trichotomy n n' with hlt | he | hgt
    · exact absurd (by rw [← h.eq, e, h'.eq]) (h.ne n n' hlt (by omega))
    · exact he
    · exact absurd (by rw [← h'.eq, ← e, h.eq]) (h'.ne n' n hgt (by omega))
  omega

theorem IsLen.le {b T B n m : Nat} (hT : T < B) (h : IsLen b T B n m) : n + m ≤ B :=
  php B (n + m) (rst b T B) (fun i _ => rst_lt hT i) (fun i j hij hj => h.ne i j hij hj)

theorem rst_add {b T B : Nat} (i k : Nat) : rst b (rst b T B i) B k = rst b T B (i + k) := by
  induction k with
  | zero => rfl
  | succ k ih => show rst b (rst b T B i) B k * b % B = rst b T B (i + k) * b % B; rw [ih]

theorem rst_cong {b T B : Nat} {i j : Nat} (h : rst b T B i = rst b T B j) (k : Nat) : rst b T B (i + k) = rst b T B (j + k) := by
  rw [← rst_add, ← rst_add, h]

theorem IsLen.per {b T B n m : Nat} (h : IsLen b T B n m) (i : Nat) (hi : n ≤ i) : rst b T B (i + m) = rst b T B i := by
  obtain ⟨k, rfl⟩ := Nat.exists_eq_add_of_le hi
  have := rst_cong h.eq k
  rw [show n + k + m = n + m + k by omega]; exact this

theorem IsLen.per_mul {b T B n m : Nat} (h : IsLen b T B n m) (i q : Nat) (hi : n ≤ i) : rst b T B (i + q * m) = rst b T B i := by
  induction q with
  | zero => simp
  | succ q ih => rw [Nat.succ_mul, ← Nat.add_assoc, h.per _ (by omega), ih]

theorem IsLen.place {b T B n m : Nat} (h : IsLen b T B n m) (i : Nat) (hi : n ≤ i) : rst b T B (n + (i - n) % m) = rst b T B i := by
  have e := h.per_mul (n + (i - n) % m) ((i - n) / m) (by omega)
  have : n + (i - n) % m + (i - n) / m * m = i := by
    have := Nat.mod_add_div (i - n) m
    rw [Nat.mul_comm] at this; omega
  rw [this] at e; exact e.symm

/-- A fraction whose bottom has no common divisor with the base has no beginning. -/
def trn (b T B i : Nat) : Prop := Nat.gcd b (frT b T B i).2 = 1

theorem fr_bot_succ (b T B i : Nat) : (frT b T B (i + 1)).2 = (frT b T B i).2 / Nat.gcd b (frT b T B i).2 := rfl

theorem fr_bot_le {b T B : Nat} (i k : Nat) : (frT b T B (i + k)).2 ≤ (frT b T B i).2 := by
  induction k with
  | zero => exact Nat.le_refl _
  | succ k ih => exact Nat.le_trans (Nat.div_le_self _ _) ih

theorem trn_succ {b T B i : Nat} (h : trn b T B i) : (frT b T B (i + 1)).2 = (frT b T B i).2 := by
  rw [fr_bot_succ, show Nat.gcd b (frT b T B i).2 = 1 from h, Nat.div_one]

theorem trn_add {b T B i : Nat} (h : trn b T B i) (k : Nat) : (frT b T B (i + k)).2 = (frT b T B i).2 ∧ trn b T B (i + k) := by
  induction k with
  | zero => exact ⟨rfl, h⟩
  | succ k ih =>
    have e := trn_succ ih.2
    have e2 : (frT b T B (i + (k + 1))).2 = (frT b T B i).2 := e.trans ih.1
    refine ⟨e2, ?_⟩
    show Nat.gcd b (frT b T B (i + (k + 1))).2 = 1
    rw [e2]; exact h

/-- Where a rest comes again there is no beginning any more. -/
theorem trn_of_again {b T B : Nat} (hT : T < B) (hg : Nat.gcd T B = 1) {i j : Nat} (hij : i < j) (h : rst b T B i = rst b T B j) : trn b T B i := by
  have hi := fr_ok (b := b) hT hg i
  have hj := fr_ok (b := b) hT hg j
  rw [← h] at hj
  have hb := (fr_unique (by omega) hi hj).2
  have h1 : (frT b T B j).2 ≤ (frT b T B (i + 1)).2 := by
    obtain ⟨k, rfl⟩ := Nat.exists_eq_add_of_le (show i + 1 ≤ j by omega)
    exact fr_bot_le (i + 1) k
  rw [fr_bot_succ] at h1
  show Nat.gcd b (frT b T B i).2 = 1
  have hp := Nat.gcd_pos_of_pos_right b hi.pos
  rcases Nat.lt_or_ge 1 (Nat.gcd b (frT b T B i).2) with h2 | h2
  · have := Nat.div_lt_self hi.pos h2
    omega
  · omega

/-- Steps can be taken back where there is no beginning. -/
theorem rst_back {b T B : Nat} (hT : T < B) (hg : Nat.gcd T B = 1) {i j : Nat} (hij : i ≤ j) (ht : trn b T B i) (h : rst b T B (i + 1) = rst b T B (j + 1)) : rst b T B i = rst b T B j := by
  have hi := fr_ok (b := b) hT hg i
  have hj := fr_ok (b := b) hT hg j
  obtain ⟨k, rfl⟩ := Nat.exists_eq_add_of_le hij
  obtain ⟨eb, htk⟩ := trn_add ht k
  have hi1 := fr_ok (b := b) hT hg (i + 1)
  have hj1 := fr_ok (b := b) hT hg (i + k + 1)
  rw [← h] at hj1
  have et := (fr_unique (by omega) hi1 hj1).1
  have e1 : (frT b T B (i + 1)).1 = (frT b T B i).1 * b % (frT b T B i).2 := by
    show _ / _ = _; rw [show Nat.gcd b (frT b T B i).2 = 1 from ht, Nat.div_one]
  have e2 : (frT b T B (i + k + 1)).1 = (frT b T B (i + k)).1 * b % (frT b T B i).2 := by
    show (frT b T B (i + k)).1 * b % (frT b T B (i + k)).2 / Nat.gcd b (frT b T B (i + k)).2 = _
    rw [eb, show Nat.gcd b (frT b T B i).2 = 1 from ht, Nat.div_one]
  rw [e1, e2] at et
  have hlt2 := hj.lt
  rw [eb] at hlt2
  have key : (frT b T B i).1 = (frT b T B (i + k)).1 := by
    have hlt1 := hi.lt
    have hc : Nat.gcd b (frT b T B i).2 = 1 := ht
    revert et hlt1 hlt2 hc
    generalize (frT b T B i).2 = n
    generalize (frT b T B i).1 = x
    generalize (frT b T B (i + k)).1 = y
    intro et hy hx hc
    have aux : ∀ x y : Nat, x ≤ y → y < n → x * b % n = y * b % n → x = y := by
      intro x y hxy hy e
      have : n ∣ y * b - x * b := Nat.dvd_of_mod_eq_zero (Nat.sub_mod_eq_zero_of_mod_eq e.symm)
      rw [← Nat.sub_mul] at this
      have hd : n ∣ y - x := Nat.Coprime.dvd_of_dvd_mul_right (by rw [Nat.Coprime, Nat.gcd_comm]; exact hc) this
      rcases Nat.eq_zero_or_pos (y - x) with h0 | h0
      · omega
      · have := Nat.le_of_dvd h0 hd; omega
    rcases Nat.le_total x y with hxy | hxy
    · exact aux x y hxy hy et
    · exact (aux y x hxy hx et.symm).symm
  rw [hi.eq, hj.eq, eb, key]

theorem rst_back_add {b T B : Nat} (hT : T < B) (hg : Nat.gcd T B = 1) {i j : Nat} (hij : i ≤ j) (ht : trn b T B i) (k : Nat) (h : rst b T B (i + k) = rst b T B (j + k)) : rst b T B i = rst b T B j := by
  induction k with
  | zero => exact h
  | succ k ih => exact ih (rst_back hT hg (by omega) (trn_add ht k).2 h)

/-- The lengths, as the program finds them: the first place without a beginning, then the first place where the rest comes again. -/
theorem isLen_of {b T B : Nat} (hT : T < B) (hg : Nat.gcd T B = 1) {n m : Nat} (hn : trn b T B n) (hn2 : ∀ i, i < n → ¬ trn b T B i) (hm : 0 < m)
    (he : rst b T B (n + m) = rst b T B n) (hm2 : ∀ k, 0 < k → k < m → rst b T B (n + k) ≠ rst b T B n) : IsLen b T B n m := by
  refine ⟨hm, he, fun i j hij hj h => ?_⟩
  have hti := trn_of_again hT hg hij h
  have hni : n ≤ i := by
    rcases Nat.lt_or_ge i n with h1 | h1
    · exact absurd hti (hn2 i h1)
    · exact h1
  obtain ⟨k, rfl⟩ := Nat.exists_eq_add_of_le hni
  have h' : rst b T B (n + k) = rst b T B (n + (j - (n + k)) + k) := by rw [show n + (j - (n + k)) + k = j by omega]; exact h
  have := rst_back_add hT hg (by omega) hn k h'
  exact hm2 (j - (n + k)) (by omega) (by omega) this.symm

/-- Some rest comes again. -/
theorem again_some {b T B : Nat} (hT : T < B) (hg : Nat.gcd T B = 1) {n : Nat} (hn : trn b T B n) : ∃ m, 0 < m ∧ m ≤ B ∧ rst b T B (n + m) = rst b T B n := by
  refine Classical.byContradiction fun hno => ?_
  have := php B (B + 1) (fun i => rst b T B (n + i)) (fun i _ => rst_lt hT _) (fun i j hij hj h => by
    have h' : rst b T B (n + i) = rst b T B (n + (j - i) + i) := by rw [show n + (j - i) + i = n + j by omega]; exact h
    have := rst_back_add hT hg (by omega) hn i h'
    exact hno ⟨j - i, by omega, by omega, this.symm⟩)
  omega

theorem least {P : Nat → Prop} (h : ∃ m, P m) : ∃ m, P m ∧ ∀ k, k < m → ¬ P k := by
  obtain ⟨m, hm⟩ := h
  induction m using Nat.strongRecOn with
  | ind m ih =>
    by_cases hex : ∃ k, k < m ∧ P k
    · obtain ⟨k, hk, hp⟩ := hex
      exact ih k hk hp
    · exact ⟨m, hm, fun k hk hp => hex ⟨k, hk, hp⟩⟩

/-- The beginning that the program finds has a round behind it. -/
theorem len_of_begin {b T B : Nat} (hT : T < B) (hg : Nat.gcd T B = 1) {n : Nat} (hn : trn b T B n) (hn2 : ∀ i, i < n → ¬ trn b T B i) :
    ∃ m, IsLen b T B n m ∧ ∀ k, 0 < k → k < m → rst b T B (n + k) ≠ rst b T B n := by
  obtain ⟨m, hm, hm3, he⟩ := again_some hT hg hn
  obtain ⟨m, ⟨hm, he⟩, hl⟩ := least (P := fun m => 0 < m ∧ rst b T B (n + m) = rst b T B n) ⟨m, hm, he⟩
  have hl2 : ∀ k, 0 < k → k < m → rst b T B (n + k) ≠ rst b T B n := fun k h0 hk e => hl k hk ⟨h0, e⟩
  exact ⟨m, isLen_of hT hg hn hn2 hm he hl2, hl2⟩

/-- And the other way: the lengths tell the beginning. -/
theorem begin_of_len {b T B : Nat} (hT : T < B) (hg : Nat.gcd T B = 1) {n m : Nat} (h : IsLen b T B n m) : trn b T B n ∧ ∀ i, i < n → ¬ trn b T B i := by
  have hex : ∃ i, trn b T B i := ⟨n, trn_of_again hT hg (show n < n + m by have := h.pos; omega) h.eq.symm⟩
  obtain ⟨n', hn', hl⟩ := least hex
  obtain ⟨m', hm', _⟩ := len_of_begin hT hg hn' hl
  obtain ⟨rfl, _⟩ := h.unique hm'
  exact ⟨hn', hl⟩

/-- There are lengths. -/
theorem len_some {b T B : Nat} (hT : T < B) (hg : Nat.gcd T B = 1) : ∃ n m, IsLen b T B n m := by
  have hex : ∃ i, trn b T B i := by
    refine Classical.byContradiction fun hno => ?_
    have := php B (B + 1) (rst b T B) (fun i _ => rst_lt hT i) (fun i j hij _ h => hno ⟨i, trn_of_again hT hg hij h⟩)
    omega
  obtain ⟨n, hn, hl⟩ := least hex
  obtain ⟨m, hm, _⟩ := len_of_begin hT hg hn hl
  exact ⟨n, m, hm⟩

theorem frT_add (b T B i k : Nat) : frT b (frT b T B i).1 (frT b T B i).2 k = frT b T B (i + k) := by
  induction k with
  | zero => rfl
  | succ k ih => show (_, _) = (_, _); rw [ih]; rfl

theorem dig_add {b T B : Nat} (hT : T < B) (hg : Nat.gcd T B = 1) (i k : Nat) : dig b (frT b T B i).1 (frT b T B i).2 k = dig b T B (i + k) := by
  have h := fr_ok (b := b) hT hg i
  rw [dig_fr h.lt h.cop, frT_add, dig_fr hT hg]

/-- The fraction comes again just where the rest does. -/
theorem fr_again {b T B : Nat} (hT : T < B) (hg : Nat.gcd T B = 1) {i j : Nat} : frT b T B i = frT b T B j ↔ rst b T B i = rst b T B j := by
  have hi := fr_ok (b := b) hT hg i
  have hj := fr_ok (b := b) hT hg j
  constructor
  · intro e; rw [hi.eq, hj.eq, e]
  · intro e
    rw [← e] at hj
    have := fr_unique (by omega) hi hj
    exact Prod.ext this.1 this.2

/-- A fraction ends just if the round is 0 alone. -/
theorem ends_iff {b T B : Nat} (hT : T < B) (hg : Nat.gcd T B = 1) (hb : 2 ≤ b) {n m : Nat} (h : IsLen b T B n m) :
    ((frT b T B n).1 = 0 ∧ (frT b T B n).2 = 1) ↔ (m = 1 ∧ dig b T B n = 0) := by
  have hf := fr_ok (b := b) hT hg n
  constructor
  · rintro ⟨h1, h2⟩
    have hr : rst b T B n = 0 := by rw [hf.eq, h1, Nat.zero_mul]
    have hr1 : rst b T B (n + 1) = 0 := by show rst b T B n * b % B = 0; rw [hr]; simp
    refine ⟨?_, by unfold dig; rw [hr]; simp⟩
    rcases Nat.lt_or_ge 1 m with hm | hm
    · exact absurd (hr.trans hr1.symm) (h.ne n (n + 1) (by omega) (by omega))
    · have := h.pos; omega
  · rintro ⟨rfl, h2⟩
    have he : rst b T B n * b % B = rst b T B n := h.eq
    unfold dig at h2
    have hd := Nat.div_add_mod (rst b T B n * b) B
    rw [h2, he, Nat.mul_zero, Nat.zero_add] at hd
    have hr : rst b T B n = 0 := by
      rcases Nat.eq_zero_or_pos (rst b T B n) with h0 | h0
      · exact h0
      · have := Nat.mul_le_mul_left (rst b T B n) hb
        omega
    have ht : (frT b T B n).1 = 0 := by
      have := hf.eq
      rw [hr] at this
      rcases Nat.mul_eq_zero.1 this.symm with h0 | h0
      · exact h0
      · have hB := Nat.mul_div_cancel' hf.div
        rw [h0] at hB; omega
    refine ⟨ht, ?_⟩
    have := hf.cop
    rw [ht, Nat.gcd_zero_left] at this
    exact this

end Go.Proofs.YtmpbbflolbakhaaGreatDoor
