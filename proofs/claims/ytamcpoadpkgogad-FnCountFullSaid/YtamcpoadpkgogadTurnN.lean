/-
  Rings of digits: all products that turn; full primes; the least turn: mathematics alone.
-/
import Derived.Test.YtamcpoadpkgogadTurnM
namespace Go.Proofs.Ytamcpoadpkgogad

/-- The ring times k is the ring turned. -/
def inB (b : Nat) (d : List Int) (k : Nat) : Bool := decide (1 ≤ k ∧ (tim b k d).1 = 0 ∧ ∃ i, i < d.length ∧ (tim b k d).2 = rotL d i)
def turA (b : Nat) (d : List Int) : Nat → List Int
  | 0 => []
  | c + 1 => if inB b d c = true then turA b d c ++ [(c : Int)] else turA b d c

theorem turA_len (b : Nat) (d : List Int) (c : Nat) : (turA b d c).length ≤ c := by
  induction c with
  | zero => exact Nat.le_refl _
  | succ c ih => show (if _ then _ else _ : List Int).length ≤ _; split <;> (try simp only [List.length_append, List.length_cons, List.length_nil]) <;> omega

theorem turA_one (b : Nat) (d : List Int) : turA b d 1 = [] := by
  have h : inB b d 0 = false := decide_eq_false (by omega)
  show (if inB b d 0 = true then [] ++ [((0 : Nat) : Int)] else []) = []
  rw [h]; rfl

theorem inB_one {b : Nat} (hb : 0 < b) {d : List Int} (h0 : 0 < d.length) (hd : Dgt b d) : inB b d 1 = true := by
  have h := tim_one hb hd
  exact decide_eq_true ⟨Nat.le_refl _, h.1, 0, h0, by rw [rotL_zero]; exact h.2⟩

/-- What stands in it, in ascending order. -/
theorem turA_get {b : Nat} {d : List Int} : ∀ {c : Nat} (i : Nat), i < (turA b d c).length → ∃ k : Nat, (turA b d c)[i]?.getD 0 = (k : Int) ∧ k < c ∧ inB b d k = true ∧ (0 < i → (turA b d c)[i - 1]?.getD 0 < (k : Int)) := by
  intro c
  induction c with
  | zero => intro i hi; simp [turA] at hi
  | succ c ih =>
    intro i hi
    have hs : turA b d (c + 1) = if inB b d c = true then turA b d c ++ [(c : Int)] else turA b d c := rfl
    by_cases hin : inB b d c = true
    · rw [if_pos hin] at hs
      rw [hs] at hi ⊢
      rcases Nat.lt_or_ge i (turA b d c).length with h | h
      · obtain ⟨k, h1, h2, h3, h4⟩ := ih i h
        refine ⟨k, by rw [List.getElem?_append_left h]; exact h1, by omega, h3, fun h0 => ?_⟩
        rw [List.getElem?_append_left (by omega)]
        exact h4 h0
      · have he : i = (turA b d c).length := by simp at hi; omega
        subst he
        refine ⟨c, by simp, by omega, hin, fun h0 => ?_⟩
        rw [List.getElem?_append_left (by omega)]
        obtain ⟨k, h1, h2, _⟩ := ih ((turA b d c).length - 1) (by omega)
        rw [h1]; omega
    · rw [if_neg hin] at hs
      rw [hs] at hi ⊢
      obtain ⟨k, h1, h2, h3, h4⟩ := ih i hi
      exact ⟨k, h1, by omega, h3, h4⟩

theorem turA_mem {b : Nat} {d : List Int} {c k : Nat} (hk : k < c) (h : inB b d k = true) : (k : Int) ∈ turA b d c := by
  induction c with
  | zero => omega
  | succ c ih =>
    have hs : turA b d (c + 1) = if inB b d c = true then turA b d c ++ [(c : Int)] else turA b d c := rfl
    rcases Nat.lt_or_ge k c with h0 | h0
    · have h1 := ih h0
      rw [hs]; split
      · exact List.mem_append_left _ h1
      · exact h1
    · obtain rfl : k = c := by omega
      rw [hs, if_pos h]; simp

theorem turA_first {b : Nat} (hb : 0 < b) {d : List Int} (h0 : 0 < d.length) (hd : Dgt b d) {c : Nat} (hc : 2 ≤ c) : 0 < (turA b d c).length ∧ (turA b d c)[0]?.getD 0 = 1 := by
  have hm := turA_mem (c := c) (k := 1) (by omega) (inB_one hb h0 hd)
  have hl : 0 < (turA b d c).length := List.length_pos_of_mem hm
  obtain ⟨j, hj, e⟩ := List.getElem_of_mem hm
  obtain ⟨k, h1, h2, h3, _⟩ := turA_get (b := b) (d := d) 0 hl
  have hk1 : 1 ≤ k := (of_decide_eq_true h3).1
  -- nothing before it is less
  have asc : ∀ i, i < (turA b d c).length → (turA b d c)[0]?.getD 0 ≤ (turA b d c)[i]?.getD 0 := by
    intro i
    induction i with
    | zero => intro _; exact Int.le_refl _
    | succ i ih =>
      intro hi
      obtain ⟨q, e1, _, _, e4⟩ := turA_get (b := b) (d := d) (i + 1) hi
      have := e4 (by omega)
      rw [Nat.add_sub_cancel] at this
      have := ih (by omega)
      omega
  have h5 := asc j hj
  rw [List.getElem?_eq_getElem hj, e] at h5
  refine ⟨hl, ?_⟩
  rw [h1] at h5 ⊢
  simp at h5
  omega

theorem inB_sum {b : Nat} {d : List Int} {k : Nat} (h : inB b d k = true) : (tim b k d).1 = 0 ∧ sumI (tim b k d).2 = sumI d := by
  obtain ⟨_, h1, i, _, h2⟩ := of_decide_eq_true h
  exact ⟨h1, by rw [h2, sumI_rot]⟩

/-- The digits of a round turned are those of another top. -/
theorem rot_digL {b T B m j : Nat} (h : IsLen b T B 0 m) (hj : j ≤ m) : rotL (digL b T B m) j = digL b (rst b T B j) B m := by
  refine List.ext_getElem? fun i => ?_
  rcases Nat.lt_or_ge i m with hi | hi
  · have e2 : (digL b (rst b T B j) B m)[i]? = some ((dig b (rst b T B j) B i : Nat) : Int) := by simp [digL, hi]
    have e3 : dig b (rst b T B j) B i = dig b T B (j + i) := by unfold dig; rw [rst_add]
    rw [e2, e3]
    unfold rotL
    rcases Nat.lt_or_ge i (m - j) with h1 | h1
    · rw [List.getElem?_append_left (by rw [List.length_drop, digL_len]; exact h1), List.getElem?_drop]
      simp [digL, show j + i < m by omega]
    · rw [List.getElem?_append_right (by rw [List.length_drop, digL_len]; exact h1), List.length_drop, digL_len, List.getElem?_take, if_pos (by omega)]
      have h2 : dig b T B (j + i) = dig b T B (i - (m - j)) := by
        unfold dig
        have h3 := h.per (i - (m - j)) (Nat.zero_le _)
        rw [show i - (m - j) + m = j + i by omega] at h3
        rw [h3]
      rw [h2]
      simp [digL, show i - (m - j) < m by omega]
  · rw [List.getElem?_eq_none (by rw [rotL_len, digL_len]; exact hi), List.getElem?_eq_none (by rw [digL_len]; exact hi)]

/-- A full prime: its round times each number below it is the round turned. -/
theorem full_turns {b p k : Nat} (hb : 2 ≤ b) (_hp : 2 ≤ p) (h : IsLen b 1 p 0 (p - 1)) (hbp : Nat.gcd b p = 1) (hk : 1 ≤ k) (hkp : k < p) : inB b (digL b 1 p (p - 1)) k = true := by
  -- k is a rest
  have hex : ∃ j, j < p - 1 ∧ rst b 1 p j = k := by
    refine Classical.byContradiction fun hno => ?_
    have hcop : ∀ j, Nat.gcd (rst b 1 p j) p = 1 := fun j => cop_rst hbp (by omega) (Nat.gcd_one_left p) j
    have hne0 : ∀ j, rst b 1 p j ≠ 0 := fun j e => by have := hcop j; rw [e, Nat.gcd_zero_left] at this; omega
    -- p rests, among them 0 and k, all less than p, all different: too many
    have := php p (p + 1) (fun i => if i = p then 0 else if i = p - 1 then k else rst b 1 p i) (fun i hi => by
        show (if i = p then 0 else if i = p - 1 then k else rst b 1 p i) < p
        split
        · omega
        · split
          · exact hkp
          · exact rst_lt (by omega) i)
      (fun i j hij hj e => by
        have e' : (if i = p then 0 else if i = p - 1 then k else rst b 1 p i) = (if j = p then 0 else if j = p - 1 then k else rst b 1 p j) := e
        rw [if_neg (by omega)] at e'
        by_cases hjp : j = p
        · rw [if_pos hjp] at e'
          by_cases hi : i = p - 1
          · rw [if_pos hi] at e'; omega
          · rw [if_neg hi] at e'; exact hne0 i e'
        · rw [if_neg hjp, if_neg (show ¬ i = p - 1 by omega)] at e'
          by_cases hj1 : j = p - 1
          · rw [if_pos hj1] at e'; exact hno ⟨i, by omega, e'⟩
          · rw [if_neg hj1] at e'
            exact h.ne i j hij (by omega) e')
    omega
  obtain ⟨j, hj, hjk⟩ := hex
  have hrot := rot_digL h (Nat.le_of_lt hj)
  rw [hjk] at hrot
  have hper := h.per j (Nat.zero_le _)
  have hd1 := hor_round (b := b) (T := 1) (B := p) (by omega) h
  have hd2 := hor_digL (b := b) (T := k) (B := p) (by omega) (p - 1)
  have hrk : rst b k p (p - 1) = k := by
    have := rst_add (b := b) (T := 1) (B := p) j (p - 1)
    rw [hjk] at this
    rw [this, hper, hjk]
  rw [hrk] at hd2
  have hkN : (k : Int) * hor b (digL b 1 p (p - 1)) = hor b (rotL (digL b 1 p (p - 1)) j) := by
    rw [hrot]
    refine Int.eq_of_mul_eq_mul_right (show (p : Int) ≠ 0 by omega) ?_
    rw [Int.mul_assoc, hd1]
    have : ((1 : Nat) : Int) = 1 := rfl
    rw [this]
    grind
  have ht := (tim_iff (b := b) (by omega) (k := (k : Int)) (d := digL b 1 p (p - 1)) (L := rotL (digL b 1 p (p - 1)) j) rotL_len (digL_dgt (by omega) (by omega) _).rot).2 hkN
  exact decide_eq_true ⟨hk, ht.1, j, by rw [digL_len]; exact hj, ht.2⟩

/-- Times the prime itself: all digits are the greatest. -/
theorem full_nines {b p m : Nat} (hb : 2 ≤ b) (hp : 2 ≤ p) (h : IsLen b 1 p 0 m) : (tim b p (digL b 1 p m)).1 = 0 ∧ (tim b p (digL b 1 p m)).2 = List.replicate m ((b : Int) - 1) := by
  refine (tim_iff (by omega) (by rw [List.length_replicate, digL_len]) (fun x hx => ?_)).2 ?_
  · have := List.eq_of_mem_replicate hx
    omega
  · rw [hor_const, Int.mul_comm, hor_round (by omega) h]
    have : ((1 : Nat) : Int) = 1 := rfl
    rw [this, Int.one_mul]

/-- The least turn after which the ring is the same. -/
def IsTurn (d : List Int) (k : Nat) : Prop := 1 ≤ k ∧ rotL d (k % d.length) = d ∧ ∀ j, 1 ≤ j → j < k → rotL d (j % d.length) ≠ d

theorem turn_some {d : List Int} (h : 0 < d.length) : ∃ k, IsTurn d k ∧ k ≤ d.length := by
  obtain ⟨k, hk, hl⟩ := least (P := fun k => 1 ≤ k ∧ rotL d (k % d.length) = d) ⟨d.length, h, by rw [Nat.mod_self, rotL_zero]⟩
  refine ⟨k, ⟨hk.1, hk.2, fun j h1 h2 e => hl j h2 ⟨h1, e⟩⟩, ?_⟩
  rcases Nat.lt_or_ge d.length k with h0 | h0
  · exact absurd ⟨h, by rw [Nat.mod_self, rotL_zero]⟩ (hl d.length h0)
  · exact h0

/-- Place by place. -/
theorem rotL_get {d : List Int} {r i : Nat} (hr : r < d.length) (hi : i < d.length) : (rotL d r)[i]? = d[(i + r) % d.length]? := by
  unfold rotL
  rcases Nat.lt_or_ge i (d.length - r) with h | h
  · rw [List.getElem?_append_left (by rw [List.length_drop]; exact h), List.getElem?_drop, Nat.mod_eq_of_lt (by omega), Nat.add_comm]
  · rw [List.getElem?_append_right (by rw [List.length_drop]; exact h), List.length_drop, List.getElem?_take, if_pos (by omega)]
    have : (i + r) % d.length = i - (d.length - r) := by
      rw [show i + r = (i - (d.length - r)) + d.length by omega, Nat.add_mod_right, Nat.mod_eq_of_lt (by omega)]
    rw [this]

theorem rot_fix {d : List Int} {r : Nat} (hr : r < d.length) : rotL d r = d ↔ ∀ i, d[(i + r) % d.length]? = d[i % d.length]? := by
  have h0 : 0 < d.length := by omega
  constructor
  · intro h i
    have := rotL_get hr (Nat.mod_lt i h0)
    rw [h, Nat.mod_add_mod] at this
    exact this.symm
  · intro h
    refine List.ext_getElem? fun i => ?_
    rcases Nat.lt_or_ge i d.length with hi | hi
    · rw [rotL_get hr hi, h i, Nat.mod_eq_of_lt hi]
    · rw [List.getElem?_eq_none (by rw [rotL_len]; exact hi), List.getElem?_eq_none hi]

theorem IsTurn.dvd {d : List Int} {k : Nat} (h : IsTurn d k) (h0 : 0 < d.length) : d.length % k = 0 := by
  obtain ⟨h1, h2, h3⟩ := h
  have hf := (rot_fix (Nat.mod_lt k h0)).1 h2
  have hf1 : ∀ i, d[(i + k) % d.length]? = d[i % d.length]? := fun i => by
    have := hf i
    rwa [Nat.add_mod_mod] at this
  have hfq : ∀ q i, d[(i + q * k) % d.length]? = d[i % d.length]? := by
    intro q
    induction q with
    | zero => intro i; rw [Nat.zero_mul, Nat.add_zero]
    | succ q ih =>
      intro i
      rw [Nat.succ_mul, ← Nat.add_assoc, hf1, ih]
  rcases Nat.eq_zero_or_pos (d.length % k) with h4 | h4
  · exact h4
  · have hlt : d.length % k < k := Nat.mod_lt _ (by omega)
    refine absurd ?_ (h3 (d.length % k) h4 hlt)
    rw [rot_fix (Nat.mod_lt _ h0)]
    intro i
    rw [Nat.add_mod_mod, ← hfq (d.length / k) (i + d.length % k), Nat.add_assoc, Nat.mul_comm, Nat.mod_add_div, Nat.add_mod_right]

theorem IsTurn.unique {d : List Int} {k k' : Nat} (h : IsTurn d k) (h' : IsTurn d k') : k = k' := by
  rcases Nat.lt_trichotomy k k' with h1 | h1 | h1
  · exact absurd h.2.1 (h'.2.2 k h.1 h1)
  · exact h1
  · exact absurd h'.2.1 (h.2.2 k' h'.1 h1)

/-- Casting out tells products. -/
theorem tim_cast {b : Nat} {k : Int} {d : List Int} (h : (tim b k d).1 = 0) : ∃ q, sumI (tim b k d).2 - k * sumI d = ((b : Int) - 1) * q := by
  have hv := tim_val b k d
  rw [h, Int.zero_mul, Int.zero_add] at hv
  obtain ⟨q1, e1⟩ := hor_sum b (tim b k d).2
  obtain ⟨q2, e2⟩ := hor_sum b d
  refine ⟨k * q2 - q1, ?_⟩
  rw [e1, e2] at hv
  grind

end Go.Proofs.Ytamcpoadpkgogad
