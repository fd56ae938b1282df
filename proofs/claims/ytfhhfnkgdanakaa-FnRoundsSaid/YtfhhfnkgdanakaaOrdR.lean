/-
  Primes that are full, bases with a length, the common multiple of the orders. Mathematics alone.
-/
import Derived.Test.YtfhhfnkgdanakaaOrdQ
namespace Go.Proofs.Ytfhhfnkgdanakaa

/-- A full prime. -/
def fullB (b p : Nat) : Bool := primeB p && (decide (b % p ≠ 0) && decide (∀ j, j < p - 1 → 0 < j → b ^ j % p ≠ 1))

def fulL (b : Nat) : Nat → List Int
  | 0 => []
  | p + 1 => if fullB b p = true then fulL b p ++ [(p : Int)] else fulL b p

theorem fulL_len (b n : Nat) : (fulL b n).length ≤ n := by
  induction n with
  | zero => exact Nat.le_refl _
  | succ n ih => unfold fulL; split <;> (try simp) <;> omega

/-- A prime has no divisor up to its root. -/
theorem prime_root {n k : Nat} (hn : 2 ≤ n) (h : ∀ j, j < k → 2 ≤ j → n % j ≠ 0) (hk : n < k * k) : primeB n = true := by
  unfold primeB
  rw [decide_eq_true_eq]
  refine ⟨hn, fun d hd h2 hm => ?_⟩
  obtain ⟨e, he⟩ := Nat.dvd_of_mod_eq_zero hm
  have hdk : k ≤ d := by
    rcases Nat.lt_or_ge d k with h1 | h1
    · exact absurd hm (h d h1 h2)
    · exact h1
  have he2 : 2 ≤ e := by
    rcases Nat.lt_or_ge e 2 with h1 | h1
    · have : e = 0 ∨ e = 1 := by omega
      rcases this with rfl | rfl
      · omega
      · omega
    · exact h1
  have hek : k ≤ e := by
    rcases Nat.lt_or_ge e k with h1 | h1
    · exact absurd (Nat.mod_eq_zero_of_dvd ⟨d, by rw [he, Nat.mul_comm]⟩) (h e h1 he2)
    · exact h1
  have := Nat.mul_le_mul hdk hek
  omega

theorem not_prime {n k : Nat} (h2 : 2 ≤ k) (hk : k < n) (hm : n % k = 0) : primeB n = false := by
  unfold primeB
  rw [decide_eq_false_iff_not]
  rintro ⟨_, h⟩
  exact h k hk h2 hm

/-- For primes: a common divisor with the base just if it divides it. -/
theorem prime_base {b p : Nat} (hp : primeB p = true) : Nat.gcd b p = 1 ↔ b % p ≠ 0 := by
  obtain ⟨h2, hn⟩ := of_decide_eq_true hp
  constructor
  · intro h e
    rw [Nat.gcd_eq_right (Nat.dvd_of_mod_eq_zero e)] at h
    omega
  · intro h
    rw [← Nat.mod_add_div b p] at *
    have h0 : 0 < b % p := by
      rw [Nat.mod_add_div] at h
      exact Nat.pos_of_ne_zero h
    rw [Nat.mod_add_div, Nat.gcd_comm, Nat.gcd_rec]
    exact prime_cop hp h0 (Nat.mod_lt _ (by omega))

theorem fullB_ord {b p m : Nat} (hp : primeB p = true) (hb : b % p ≠ 0) (hm : IsLen b 1 p 0 m) : fullB b p = decide (m = p - 1) := by
  obtain ⟨h2, _⟩ := of_decide_eq_true hp
  unfold fullB
  rw [hp, Bool.true_and, decide_eq_true hb, Bool.true_and, decide_eq_decide]
  have hle := hm.le (show 1 < p by omega)
  have hpos := hm.pos
  have hmd := ord_dvd ((prime_base hp).2 hb) h2 hm
  rw [(units_prime h2).2 hp] at hmd
  have hle2 := Nat.le_of_dvd (by omega) hmd
  constructor
  · intro h
    rcases Nat.lt_or_ge m (p - 1) with h1 | h1
    · exact absurd ((ord_iff h2 hm m).2 (Nat.dvd_refl m)) (h m h1 hpos)
    · omega
  · rintro rfl j hj hj0 e
    have := Nat.le_of_dvd hj0 ((ord_iff h2 hm j).1 e)
    omega

/-- The bases below c in which the round of 1 over n has length k. -/
def Bas (n k : Nat) : Nat → List Int → Prop
  | 0, L => L = []
  | c + 1, L => ∃ L0, Bas n k c L0 ∧ ((c < 2 ∧ L = L0) ∨ (2 ≤ c ∧ ∃ j m, IsLen c 1 n j m ∧ ((m = k ∧ L = L0 ++ [(c : Int)]) ∨ (m ≠ k ∧ L = L0))))

theorem Bas.unique {n k : Nat} : ∀ {c : Nat} {L L' : List Int}, Bas n k c L → Bas n k c L' → L = L' := by
  intro c
  induction c with
  | zero => intro L L' h h'; exact Eq.trans h (Eq.symm h')
  | succ c ih =>
    rintro L L' ⟨L0, h0, h⟩ ⟨L0', h0', h'⟩
    obtain rfl := ih h0 h0'
    rcases h with ⟨h1, rfl⟩ | ⟨h1, j, m, h2, h3⟩ <;> rcases h' with ⟨k1, rfl⟩ | ⟨k1, j', m', k2, k3⟩
    · rfl
    · omega
    · omega
    · obtain ⟨rfl, rfl⟩ := h2.unique k2
      rcases h3 with ⟨h4, rfl⟩ | ⟨h4, rfl⟩ <;> rcases k3 with ⟨k4, rfl⟩ | ⟨k4, rfl⟩
      · rfl
      · exact absurd h4 k4
      · exact absurd k4 h4
      · rfl

theorem bas_some {n : Nat} (hn : 2 ≤ n) (k : Nat) : ∀ c, ∃ L, Bas n k c L := by
  intro c
  induction c with
  | zero => exact ⟨[], rfl⟩
  | succ c ih =>
    obtain ⟨L0, h0⟩ := ih
    rcases Nat.lt_or_ge c 2 with h | h
    · exact ⟨L0, L0, h0, .inl ⟨h, rfl⟩⟩
    · obtain ⟨j, m, hm⟩ := len_some (b := c) (show 1 < n by omega) (Nat.gcd_one_left n)
      by_cases hk : m = k
      · exact ⟨_, L0, h0, .inr ⟨h, j, m, hm, .inl ⟨hk, rfl⟩⟩⟩
      · exact ⟨_, L0, h0, .inr ⟨h, j, m, hm, .inr ⟨hk, rfl⟩⟩⟩

theorem Bas.len {n k : Nat} : ∀ {c : Nat} {L : List Int}, Bas n k c L → L.length ≤ c := by
  intro c
  induction c with
  | zero => intro L h; rw [show L = [] from h]; simp
  | succ c ih =>
    rintro L ⟨L0, h0, h⟩
    have := ih h0
    rcases h with ⟨_, rfl⟩ | ⟨_, j, m, _, ⟨_, rfl⟩ | ⟨_, rfl⟩⟩ <;> (try simp) <;> omega

/-- The common multiple of the orders of the numbers below x. -/
def Mst (n : Nat) : Nat → Nat → Prop
  | 0, m => m = 1
  | x + 1, m => (Nat.gcd x n ≠ 1 ∧ Mst n x m) ∨ (Nat.gcd x n = 1 ∧ ∃ m0 k, Mst n x m0 ∧ IsLen x 1 n 0 k ∧ m = m0 / Nat.gcd m0 k * k)

theorem Mst.unique {n : Nat} : ∀ {x m m' : Nat}, Mst n x m → Mst n x m' → m = m' := by
  intro x
  induction x with
  | zero => intro m m' h h'; exact Eq.trans h (Eq.symm h')
  | succ x ih =>
    intro m m' h h'
    rcases h with ⟨h1, h2⟩ | ⟨h1, m0, k, h2, h3, rfl⟩ <;> rcases h' with ⟨k1, k2⟩ | ⟨k1, m0', k', k2, k3, rfl⟩
    · exact ih h2 k2
    · exact absurd k1 h1
    · exact absurd h1 k1
    · obtain rfl := ih h2 k2
      obtain ⟨_, rfl⟩ := h3.unique k3
      rfl

theorem lcm_form (m k : Nat) : m / Nat.gcd m k * k = Nat.lcm m k := by
  unfold Nat.lcm
  rw [Nat.div_mul_right_comm (Nat.gcd_dvd_left m k)]

theorem mst_some {n : Nat} (hn : 2 ≤ n) : ∀ x, ∃ m, Mst n x m := by
  intro x
  induction x with
  | zero => exact ⟨1, rfl⟩
  | succ x ih =>
    obtain ⟨m0, h0⟩ := ih
    by_cases hg : Nat.gcd x n = 1
    · obtain ⟨k, hk⟩ := ord_some hg hn
      exact ⟨_, .inr ⟨hg, m0, k, h0, hk, rfl⟩⟩
    · exact ⟨m0, .inl ⟨hg, h0⟩⟩

/-- It divides the number of units, and is a multiple of each order. -/
theorem Mst.facts {n : Nat} (hn : 2 ≤ n) : ∀ {x m : Nat}, Mst n x m → m ∣ unC n n ∧ ∀ y k, y < x → Nat.gcd y n = 1 → IsLen y 1 n 0 k → k ∣ m := by
  intro x
  induction x with
  | zero => intro m h; rw [show m = 1 from h]; exact ⟨Nat.one_dvd _, fun y k hy => by omega⟩
  | succ x ih =>
    intro m h
    rcases h with ⟨h1, h2⟩ | ⟨h1, m0, k, h2, h3, rfl⟩
    · refine ⟨(ih h2).1, fun y k hy hg hk => ?_⟩
      rcases Nat.lt_or_ge y x with h | h
      · exact (ih h2).2 y k h hg hk
      · obtain rfl : y = x := by omega
        exact absurd hg h1
    · rw [lcm_form]
      refine ⟨Nat.lcm_dvd (ih h2).1 (ord_dvd h1 hn h3), fun y k' hy hg hk => ?_⟩
      rcases Nat.lt_or_ge y x with h | h
      · exact Nat.dvd_trans ((ih h2).2 y k' h hg hk) (Nat.dvd_lcm_left _ _)
      · obtain rfl : y = x := by omega
        obtain ⟨_, rfl⟩ := h3.unique hk
        exact Nat.dvd_lcm_right _ _

theorem unC_pos {n : Nat} (hn : 2 ≤ n) : 0 < unC n n := by
  have key : ∀ k, 1 ≤ k → 1 ≤ unC n k := by
    intro k
    induction k with
    | zero => intro h; omega
    | succ k ih =>
      intro _
      show 1 ≤ unC n k + _
      rcases Nat.eq_zero_or_pos k with rfl | h2
      · simp
      · have := ih h2; omega
  exact key n (by omega)

/-- The order of any base divides the common multiple. -/
theorem most_ord {b n m q : Nat} (hbn : Nat.gcd b n = 1) (hn : 2 ≤ n) (hm : IsLen b 1 n 0 m) (hq : Mst n n q) : m ∣ q := by
  have hr : ∀ i, rst (b % n) 1 n i = rst b 1 n i := fun i => by rw [rst_one hn, rst_one hn, ← Nat.pow_mod]
  have hg : Nat.gcd (b % n) n = 1 := by rw [Nat.gcd_comm, Nat.gcd_comm n, ← Nat.gcd_rec, Nat.gcd_comm]; exact hbn
  have hm' : IsLen (b % n) 1 n 0 m := ⟨hm.pos, by rw [hr, hr]; exact hm.eq, fun i j hij hj => by rw [hr, hr]; exact hm.ne i j hij hj⟩
  exact (hq.facts hn).2 (b % n) m (Nat.mod_lt _ (by omega)) hg hm'

/-- The bases stand in order, and have the length. -/
theorem bas_get {n k : Nat} : ∀ {c : Nat} {L : List Int}, Bas n k c L → ∀ i, i < L.length → ∃ b j : Nat, L[i]?.getD 0 = b ∧ 2 ≤ b ∧ b < c ∧ IsLen b 1 n j k ∧ (0 < i → L[i - 1]?.getD 0 < (b : Int)) := by
  intro c
  induction c with
  | zero => intro L h i hi; rw [show L = [] from h] at hi; simp at hi
  | succ c ih =>
    rintro L ⟨L0, h0, h⟩ i hi
    have up : i < L0.length → ∃ b j : Nat, L0[i]?.getD 0 = b ∧ 2 ≤ b ∧ b < c + 1 ∧ IsLen b 1 n j k ∧ (0 < i → L0[i - 1]?.getD 0 < (b : Int)) := fun hi => by
      obtain ⟨b, j, h1, h2, h3, h4, h5⟩ := ih h0 i hi
      exact ⟨b, j, h1, h2, by omega, h4, h5⟩
    rcases h with ⟨_, rfl⟩ | ⟨hc, j, m, hm, ⟨rfl, rfl⟩ | ⟨_, rfl⟩⟩
    · exact up hi
    · rw [List.length_append, List.length_singleton] at hi
      rcases Nat.lt_or_ge i L0.length with h1 | h1
      · obtain ⟨b, j, h2, h3, h4, h5, h6⟩ := up h1
        refine ⟨b, j, by rw [List.getElem?_append_left h1]; exact h2, h3, h4, h5, fun h0 => ?_⟩
        rw [List.getElem?_append_left (by omega)]
        exact h6 h0
      · obtain rfl : i = L0.length := by omega
        refine ⟨c, j, by rw [List.getElem?_append_right (Nat.le_refl _), Nat.sub_self]; rfl, hc, by omega, hm, fun h0' => ?_⟩
        rw [List.getElem?_append_left (by omega)]
        obtain ⟨b, _, h2, _, h4, _⟩ := ih h0 (L0.length - 1) (by omega)
        rw [h2]
        omega
    · exact up hi

theorem fulL_pre (b p : Nat) : ∀ q, ∃ rest, fulL b (p + q) = fulL b p ++ rest := by
  intro q
  induction q with
  | zero => exact ⟨[], by simp⟩
  | succ q ih =>
    obtain ⟨rest, h⟩ := ih
    show ∃ r, (if fullB b (p + q) = true then fulL b (p + q) ++ [((p + q : Nat) : Int)] else fulL b (p + q)) = _
    split
    · exact ⟨rest ++ [((p + q : Nat) : Int)], by rw [h, List.append_assoc]⟩
    · exact ⟨rest, h⟩

/-- The next full prime stands behind those below it. -/
theorem fulL_get {b p n : Nat} (hp : p < n) (h : fullB b p = true) : (fulL b p).length < (fulL b n).length ∧ (fulL b n)[(fulL b p).length]?.getD 0 = (p : Int) := by
  obtain ⟨q, rfl⟩ := Nat.exists_eq_add_of_lt hp
  obtain ⟨rest, hr⟩ := fulL_pre b (p + 1) q
  have e : fulL b (p + 1) = fulL b p ++ [(p : Int)] := by show (if _ then _ else _) = _; rw [if_pos h]
  rw [show p + q + 1 = p + 1 + q by omega, hr, e, List.append_assoc]
  refine ⟨by simp, ?_⟩
  rw [List.getElem?_append_right (Nat.le_refl _), Nat.sub_self]
  rfl

end Go.Proofs.Ytfhhfnkgdanakaa
