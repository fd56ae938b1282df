/-
  Sums of fractions and of rings: mathematics alone.
-/
import Derived.Test.YtoiofkijinlllabTurnM
import Derived.Test.YtoiofkijinlllabGOrd
import Derived.Test.YtoiofkijinlllabGPrt
namespace Go.Proofs.Ytoiofkijinlllab

/-- A fraction. -/
structure FOk (T B : Nat) : Prop where
  lt : T < B
  bot : B ≤ 1000
  cop : Nat.gcd T B = 1

/-- In lowest terms. -/
def redT (t n : Nat) : Nat := t / Nat.gcd t n
def redN (t n : Nat) : Nat := n / Nat.gcd t n

theorem red_mul {c n : Nat} (t : Nat) (hc : 0 < c) : redT (c * t) (c * n) = redT t n ∧ redN (c * t) (c * n) = redN t n := by
  unfold redT redN
  rw [Nat.gcd_mul_left]
  exact ⟨Nat.mul_div_mul_left _ _ hc, Nat.mul_div_mul_left _ _ hc⟩

theorem red_ok {t n : Nat} (ht : t < n) : redT t n < redN t n ∧ Nat.gcd (redT t n) (redN t n) = 1 ∧ redN t n ≤ n ∧ redT t n * Nat.gcd t n = t ∧ redN t n * Nat.gcd t n = n ∧ 0 < Nat.gcd t n := by
  have hg : 0 < Nat.gcd t n := Nat.gcd_pos_of_pos_right _ (by omega)
  have h1 : redT t n * Nat.gcd t n = t := Nat.div_mul_cancel (Nat.gcd_dvd_left _ _)
  have h2 : redN t n * Nat.gcd t n = n := Nat.div_mul_cancel (Nat.gcd_dvd_right _ _)
  refine ⟨?_, ?_, Nat.div_le_self _ _, h1, h2, hg⟩
  · exact Nat.lt_of_mul_lt_mul_right (a := Nat.gcd t n) (by rw [h1, h2]; exact ht)
  · have h3 : Nat.gcd (redT t n * Nat.gcd t n) (redN t n * Nat.gcd t n) = Nat.gcd t n := by rw [h1, h2]
    rw [Nat.gcd_mul_right] at h3
    exact Nat.eq_of_mul_eq_mul_right hg (by rw [h3, Nat.one_mul])

theorem rst_times (b T B g i : Nat) : rst b (T * g) (B * g) i = rst b T B i * g := by
  induction i with
  | zero => rfl
  | succ i ih =>
    show rst b (T * g) (B * g) i * b % (B * g) = rst b T B i * b % B * g
    rw [ih, show rst b T B i * g * b = rst b T B i * b * g by ac_rfl, Nat.mul_mod_mul_right]

def smT (T B U C : Nat) : Nat := (T * C + U * B) % (B * C)
def sumT (T B U C : Nat) : Nat := redT (smT T B U C) (B * C)
def sumN' (T B U C : Nat) : Nat := redN (smT T B U C) (B * C)

theorem sm_lt {T B U C : Nat} (hB : 0 < B) (hC : 0 < C) : smT T B U C < B * C := Nat.mod_lt _ (Nat.mul_pos hB hC)

theorem sum_comm (T B U C : Nat) : sumT T B U C = sumT U C T B ∧ sumN' T B U C = sumN' U C T B := by
  unfold sumT sumN' smT
  rw [Nat.mul_comm B C, Nat.add_comm (T * C)]
  exact ⟨rfl, rfl⟩

theorem sum_other {T B : Nat} (h : T < B) : sumT T B (B - T) B = 0 ∧ sumN' T B (B - T) B = 1 := by
  have e : smT T B (B - T) B = 0 := by
    unfold smT
    rw [← Nat.add_mul, show T + (B - T) = B by omega, Nat.mod_self]
  unfold sumT sumN' redT redN
  rw [e, Nat.gcd_zero_left]
  exact ⟨Nat.zero_div _, Nat.div_self (Nat.mul_pos (by omega) (by omega))⟩

def tmsT (T B k : Nat) : Nat := redT (T * k % B) B
def tmsN (T B k : Nat) : Nat := redN (T * k % B) B

theorem tms_ok {T B k : Nat} (hB : 0 < B) (hB2 : B ≤ 1000) : FOk (tmsT T B k) (tmsN T B k) := by
  obtain ⟨h1, h2, h3, _⟩ := red_ok (Nat.mod_lt (T * k) hB)
  exact ⟨h1, by unfold tmsN; omega, h2⟩

theorem tms_all {T B : Nat} (hB : 0 < B) : tmsT T B B = 0 ∧ tmsN T B B = 1 := by
  unfold tmsT tmsN redT redN
  rw [Nat.mul_mod_left, Nat.gcd_zero_left]
  exact ⟨Nat.zero_div _, Nat.div_self hB⟩

theorem tms_next {T B : Nat} (k : Nat) (hB : 0 < B) : sumT (tmsT T B k) (tmsN T B k) T B = tmsT T B (k + 1) ∧ sumN' (tmsT T B k) (tmsN T B k) T B = tmsN T B (k + 1) := by
  obtain ⟨hlt, _, _, h1, h2, hg⟩ := red_ok (Nat.mod_lt (T * k) hB)
  have hN : 0 < tmsN T B k := by unfold tmsN; omega
  have e : smT (tmsT T B k) (tmsN T B k) T B = tmsN T B k * (T * (k + 1) % B) := by
    unfold smT
    have e0 : tmsT T B k * B = tmsN T B k * (T * k % B) := by
      show redT (T * k % B) B * B = redN (T * k % B) B * (T * k % B)
      revert h1 h2
      generalize redT (T * k % B) B = x
      generalize redN (T * k % B) B = y
      generalize Nat.gcd (T * k % B) B = g
      intro h1 h2
      rw [← h1]
      conv => lhs; rw [← h2]
      rw [Nat.mul_left_comm]
    have e1 : tmsT T B k * B + T * tmsN T B k = tmsN T B k * (T * k % B + T) := by rw [e0, Nat.mul_add, Nat.mul_comm T (tmsN T B k)]
    rw [e1, Nat.mul_mod_mul_left, Nat.mod_add_mod, ← Nat.mul_succ]
  unfold sumT sumN'
  rw [e]
  exact red_mul _ hN

/-- The least common multiple. -/
def lcmL (m k : Nat) : Nat := m / Nat.gcd m k * k

theorem lcm_dvd {m k : Nat} (hm : 0 < m) (hk : 0 < k) : m ∣ lcmL m k ∧ k ∣ lcmL m k ∧ 0 < lcmL m k := by
  have hg : 0 < Nat.gcd m k := Nat.gcd_pos_of_pos_left _ hm
  obtain ⟨m', hm'⟩ := Nat.gcd_dvd_left m k
  obtain ⟨k', hk'⟩ := Nat.gcd_dvd_right m k
  have e1 : m / Nat.gcd m k = m' := Nat.div_eq_of_eq_mul_right hg hm'
  unfold lcmL
  rw [e1]
  refine ⟨⟨k', ?_⟩, Nat.dvd_mul_left _ _, Nat.mul_pos (Nat.pos_of_ne_zero fun e => by rw [e, Nat.mul_zero] at hm'; omega) hk⟩
  generalize Nat.gcd m k = g at hm' hk'
  rw [hm', hk']
  rw [← Nat.mul_assoc, Nat.mul_comm m' g]

theorem IsLen.again {b T B n m a L : Nat} (h : IsLen b T B n m) (e : rst b T B (a + L) = rst b T B a) : m ∣ L := by
  have e' : rst b T B (a + n + L) = rst b T B (a + n) := by
    have := rst_cong e n
    rwa [show a + L + n = a + n + L by omega] at this
  have p1 := h.place (a + n + L) (by omega)
  have p2 := h.place (a + n) (by omega)
  have hp := h.pos
  have r1 : (a + n + L - n) % m < m := Nat.mod_lt _ hp
  have r2 : (a + n - n) % m < m := Nat.mod_lt _ hp
  have e4 := p1.trans (e'.trans p2.symm)
  have e3 : (a + n + L - n) % m = (a + n - n) % m := by
    rcases Nat.lt_trichotomy ((a + n + L - n) % m) ((a + n - n) % m) with h1 | h1 | h1
    · exact absurd e4 (h.ne _ _ (by omega) (by omega))
    · exact h1
    · exact absurd e4.symm (h.ne _ _ (by omega) (by omega))
  have := Nat.sub_mod_eq_zero_of_mod_eq e3
  rw [show a + n + L - n - (a + n - n) = L by omega] at this
  exact Nat.dvd_of_mod_eq_zero this

theorem sum_rst {b T B U C : Nat} (hT : T < B) (hU : U < C) (q : Nat) : rst b (smT T B U C) (B * C) q = (rst b T B q * C + rst b U C q * B) % (B * C) := by
  rw [rst_top (sm_lt (by omega) (by omega)), rst_top hT, rst_top hU, ← Nat.mul_mod_mul_right, ← Nat.mul_mod_mul_right, Nat.mul_comm C B, ← Nat.add_mod]
  unfold smT
  rw [Nat.mod_mul_mod]
  congr 1
  rw [Nat.add_mul]
  congr 1 <;> exact Nat.mul_right_comm _ _ _

theorem sum_per {b T B U C q L : Nat} (hT : T < B) (hU : U < C) (h1 : rst b T B (q + L) = rst b T B q) (h2 : rst b U C (q + L) = rst b U C q) :
    rst b (sumT T B U C) (sumN' T B U C) (q + L) = rst b (sumT T B U C) (sumN' T B U C) q := by
  obtain ⟨_, _, _, e1, e2, hg⟩ := red_ok (sm_lt (T := T) (U := U) (show 0 < B by omega) (show 0 < C by omega))
  have k1 := sum_rst (b := b) hT hU (q + L)
  have k2 := sum_rst (b := b) hT hU q
  rw [h1, h2, ← k2] at k1
  have k3 : ∀ j, rst b (smT T B U C) (B * C) j = rst b (sumT T B U C) (sumN' T B U C) j * Nat.gcd (smT T B U C) (B * C) := fun j => by
    have := rst_times b (sumT T B U C) (sumN' T B U C) (Nat.gcd (smT T B U C) (B * C)) j
    unfold sumT sumN' at this ⊢
    rw [e1, e2] at this
    exact this
  rw [k3, k3] at k1
  exact Nat.eq_of_mul_eq_mul_right hg k1

theorem sum_len {b T B U C n m i k j l : Nat} (hT : T < B) (hU : U < C) (h : IsLen b T B n m) (h' : IsLen b U C i k) (hl : IsLen b (sumT T B U C) (sumN' T B U C) j l) : l ∣ lcmL m k := by
  obtain ⟨⟨c, hc⟩, ⟨c', hc'⟩, _⟩ := lcm_dvd h.pos h'.pos
  refine hl.again (a := n + i) (sum_per hT hU ?_ ?_)
  · rw [hc, Nat.mul_comm]; exact h.per_mul _ _ (by omega)
  · rw [hc', Nat.mul_comm]; exact h'.per_mul _ _ (by omega)

/-! ### Rings -/

/-- The n digits of a number. -/
def dgN (b : Nat) : Nat → Int → List Int
  | 0, _ => []
  | n + 1, V => dgN b n (V / b) ++ [V % b]

theorem dgN_len (b n : Nat) : ∀ V, (dgN b n V).length = n := by
  induction n with
  | zero => intro V; rfl
  | succ n ih => intro V; show (dgN b n _ ++ [_]).length = _; rw [List.length_append, ih]; rfl

theorem dgN_dgt {b : Nat} (hb : 0 < b) (n : Nat) : ∀ V, Dgt b (dgN b n V) := by
  induction n with
  | zero => intro V x hx; cases hx
  | succ n ih =>
    intro V x hx
    rcases List.mem_append.1 hx with h | h
    · exact ih _ x h
    · rw [List.mem_singleton.1 h]
      exact ⟨Int.emod_nonneg _ (by omega), Int.emod_lt_of_pos _ (by omega)⟩

theorem dgN_val {b : Nat} (hb : 0 < b) (n : Nat) : ∀ V : Int, 0 ≤ V → V < (b : Int) ^ n → hor b (dgN b n V) = V := by
  induction n with
  | zero => intro V h1 h2; simp at h2; show (0 : Int) = V; omega
  | succ n ih =>
    intro V h1 h2
    show hor b (dgN b n (V / b) ++ [V % b]) = V
    rw [hor_snoc, ih _ (Int.ediv_nonneg h1 (by omega)) (Int.ediv_lt_of_lt_mul (by omega) (by rw [Int.pow_succ] at h2; exact h2)), Int.mul_comm]
    exact Int.mul_ediv_add_emod V b

theorem hor_eq {b : Nat} (hb : 0 < b) {L M : List Int} (hl : L.length = M.length) (h1 : Dgt b L) (h2 : Dgt b M) (e : hor b L = hor b M) : L = M :=
  (hor_inj hb (c := 0) (e := 0) hl h1 h2 (by rw [Int.zero_mul, Int.zero_mul, e])).2

/-- Two rings added round. -/
def addL (b : Nat) (x y : List Int) : List Int := dgN b x.length ((hor b x + hor b y) % ((b : Int) ^ x.length - 1))

theorem pow_big {b n : Nat} (hb : 2 ≤ b) (hn : 1 ≤ n) : (2 : Int) ≤ (b : Int) ^ n := by
  obtain ⟨k, rfl⟩ : ∃ k, n = k + 1 := ⟨n - 1, by omega⟩
  have h1 : (1 : Int) ≤ (b : Int) ^ k := Int.pow_pos (by omega)
  rw [Int.pow_succ]
  have : (1 : Int) * 2 ≤ (b : Int) ^ k * b := Int.mul_le_mul h1 (by omega) (by omega) (by omega)
  omega

theorem addL_val {b : Nat} {x y : List Int} (hb : 2 ≤ b) (hn : 1 ≤ x.length) : hor b (addL b x y) = (hor b x + hor b y) % ((b : Int) ^ x.length - 1) := by
  have hp := pow_big hb hn
  have h1 := Int.emod_nonneg (hor b x + hor b y) (show (b : Int) ^ x.length - 1 ≠ 0 by omega)
  have h2 := Int.emod_lt_of_pos (hor b x + hor b y) (show 0 < (b : Int) ^ x.length - 1 by omega)
  exact dgN_val (by omega) _ _ h1 (by omega)

theorem addL_len (b : Nat) (x y : List Int) : (addL b x y).length = x.length := dgN_len _ _ _
theorem addL_dgt {b : Nat} (hb : 0 < b) (x y : List Int) : Dgt b (addL b x y) := dgN_dgt hb _ _

theorem addL_is {b : Nat} {x y L : List Int} (hb : 2 ≤ b) (hn : 1 ≤ x.length) (hl : L.length = x.length) (hL : Dgt b L) (h : hor b L = (hor b x + hor b y) % ((b : Int) ^ x.length - 1)) : L = addL b x y :=
  hor_eq (by omega) (by rw [addL_len, hl]) hL (addL_dgt (by omega) x y) (by rw [addL_val hb hn, h])

theorem addL_comm {b : Nat} {x y : List Int} (hl : x.length = y.length) : addL b x y = addL b y x := by
  unfold addL; rw [hl, Int.add_comm]

/-- The other ring. -/
def othL (b : Nat) (x : List Int) : List Int := x.map fun d => (b : Int) - 1 - d
theorem othL_len (b : Nat) (x : List Int) : (othL b x).length = x.length := by simp [othL]
theorem othL_dgt {b : Nat} {x : List Int} (h : Dgt b x) : Dgt b (othL b x) := fun y hy => by
  obtain ⟨d, hd, rfl⟩ := List.mem_map.1 hy
  have := h d hd
  show 0 ≤ (b : Int) - 1 - d ∧ (b : Int) - 1 - d < b
  omega
theorem othL_othL (b : Nat) (x : List Int) : othL b (othL b x) = x := by
  unfold othL
  rw [List.map_map]
  conv => rhs; rw [← List.map_id x]
  refine List.map_congr_left fun d _ => ?_
  show (b : Int) - 1 - ((b : Int) - 1 - d) = d
  omega
theorem hor_oth (b : Nat) : ∀ x : List Int, hor b (othL b x) + hor b x = (b : Int) ^ x.length - 1
  | [] => by simp [othL, hor]
  | d :: r => by
    have ih := hor_oth b r
    show hor b (((b : Int) - 1 - d) :: othL b r) + hor b (d :: r) = _
    rw [hor_cons, hor_cons, othL_len, List.length_cons, Int.pow_succ]
    grind

theorem hor_zeros (b n : Nat) : hor b (List.replicate n 0) = 0 := by
  induction n with
  | zero => rfl
  | succ n ih => rw [List.replicate_succ, hor_cons, ih]; simp

theorem zeros_dgt {b : Nat} (hb : 0 < b) (n : Nat) : Dgt b (List.replicate n 0) := fun x hx => by
  rw [(List.mem_replicate.1 hx).2]; omega

theorem add_oth {b : Nat} {x : List Int} (hb : 2 ≤ b) (hn : 1 ≤ x.length) : addL b x (othL b x) = List.replicate x.length 0 := by
  refine (addL_is hb hn (by simp) (zeros_dgt (by omega) _) ?_).symm
  rw [hor_zeros, Int.add_comm, hor_oth, Int.emod_self]

theorem sumI_zeros (n : Nat) : sumI (List.replicate n 0) = 0 := by
  induction n with
  | zero => rfl
  | succ n ih => rw [List.replicate_succ, sumI_cons, ih]; rfl

/-- A ring turned by one. -/
theorem hor_rot (b : Nat) (x : List Int) (hn : 1 ≤ x.length) : ∃ q : Int, hor b (rotL x 1) = b * hor b x - q * ((b : Int) ^ x.length - 1) := by
  cases x with
  | nil => simp at hn
  | cons d r =>
    refine ⟨d, ?_⟩
    show hor b (r ++ [d]) = _
    rw [hor_snoc, hor_cons, List.length_cons, Int.pow_succ]
    grind

theorem rot_one {x : List Int} (hn : 1 ≤ x.length) : rotL x (1 % x.length) = rotL x 1 := by
  rcases Nat.lt_or_ge 1 x.length with h | h
  · rw [Nat.mod_eq_of_lt h]
  · have h1 : x.length = 1 := by omega
    rw [h1, Nat.mod_self, rotL_zero]
    have := rotL_all (d := x)
    rw [h1] at this
    exact this.symm

theorem add_rot {b : Nat} {x y : List Int} (hb : 2 ≤ b) (hn : 1 ≤ x.length) (hl : x.length = y.length) : addL b (rotL x 1) (rotL y 1) = rotL (addL b x y) 1 := by
  have hp := pow_big hb hn
  have ho := addL_val (y := y) hb hn
  have hol := addL_len b x y
  have hod := addL_dgt (b := b) (by omega) x y
  obtain ⟨q1, e1⟩ := hor_rot b x hn
  obtain ⟨q2, e2⟩ := hor_rot b y (by omega)
  obtain ⟨q3, e3⟩ := hor_rot b (addL b x y) (by omega)
  rw [hol, ho] at e3
  rw [← hl] at e2
  refine (addL_is hb (by rw [rotL_len]; exact hn) (by rw [rotL_len, rotL_len, hol]) hod.rot ?_).symm
  rw [rotL_len, e1, e2]
  have hlt := Int.emod_lt_of_pos (hor b x + hor b y) (show 0 < (b : Int) ^ x.length - 1 by omega)
  have hge := Int.emod_nonneg (hor b x + hor b y) (show (b : Int) ^ x.length - 1 ≠ 0 by omega)
  have hdm := Int.mul_ediv_add_emod (hor b x + hor b y) ((b : Int) ^ x.length - 1)
  -- the turned sum is less than the nines
  have hr1 := hor_lt (b := b) (by omega) (hod.rot (r := 1))
  rw [rotL_len, hol] at hr1
  have hr2 : hor b (rotL (addL b x y) 1) ≠ (b : Int) ^ x.length - 1 := fun e => by
    have h1 : rotL (addL b x y) 1 = List.replicate x.length ((b : Int) - 1) := by
      refine hor_eq (by omega) (by rw [rotL_len, hol, List.length_replicate]) hod.rot (fun z hz => by rw [(List.mem_replicate.1 hz).2]; omega) ?_
      rw [e, hor_const]
    have h2 : addL b x y = List.replicate x.length ((b : Int) - 1) := by
      refine List.eq_replicate_iff.2 ⟨hol, fun z hz => ?_⟩
      have hz' : z ∈ rotL (addL b x y) 1 := by
        unfold rotL
        rw [List.mem_append, or_comm, ← List.mem_append, List.take_append_drop]
        exact hz
      rw [h1] at hz'
      exact (List.mem_replicate.1 hz').2
    have h3 := hor_const b x.length
    rw [← h2, ho] at h3
    omega
  have e4 : hor b (rotL (addL b x y) 1) % ((b : Int) ^ x.length - 1) = hor b (rotL (addL b x y) 1) := Int.emod_eq_of_lt hr1.1 (by omega)
  rw [← e4, e3]
  generalize (b : Int) ^ x.length - 1 = M at *
  generalize (hor b x + hor b y) % M = r at *
  generalize (hor b x + hor b y) / M = c at *
  have e5 : (b : Int) * hor b x - q1 * M + (b * hor b y - q2 * M) = (b * r - q3 * M) + M * (b * c + q3 - q1 - q2) := by
    have : hor b x + hor b y = M * c + r := hdm.symm
    grind
  rw [e5, Int.add_mul_emod_self_left]

/-! ### Added with carries -/
def adC (b : Nat) (c : Int) : List Int → List Int → Int × List Int
  | x :: xs, y :: ys => ((x + y + (adC b c xs ys).1) / b, (x + y + (adC b c xs ys).1) % b :: (adC b c xs ys).2)
  | _, _ => (c, [])

theorem adC_len (b : Nat) (c : Int) : ∀ {x y : List Int}, x.length = y.length → (adC b c x y).2.length = x.length
  | [], [], _ => rfl
  | _ :: xs, _ :: ys, h => by show (_ :: (adC b c xs ys).2).length = _; rw [List.length_cons, adC_len b c (by simpa using h), List.length_cons]
  | [], _ :: _, h => by simp at h
  | _ :: _, [], h => by simp at h

theorem adC_dgt {b : Nat} (hb : 0 < b) (c : Int) : ∀ (x y : List Int), Dgt b (adC b c x y).2
  | [], _ => fun x hx => by cases hx
  | _ :: _, [] => fun x hx => by cases hx
  | x :: xs, y :: ys => fun z hz => by
    have hz' : z ∈ (x + y + (adC b c xs ys).1) % (b : Int) :: (adC b c xs ys).2 := hz
    rcases List.mem_cons.1 hz' with rfl | h
    · exact ⟨Int.emod_nonneg _ (by omega), Int.emod_lt_of_pos _ (by omega)⟩
    · exact adC_dgt hb c xs ys z h

theorem adC_val (b : Nat) (c : Int) : ∀ {x y : List Int}, x.length = y.length → (adC b c x y).1 * (b : Int) ^ x.length + hor b (adC b c x y).2 = c + hor b x + hor b y
  | [], [], _ => by show c * (b : Int) ^ 0 + hor b [] = _; simp [hor]
  | x :: xs, y :: ys, h => by
    have hl : xs.length = ys.length := by simpa using h
    have ih := adC_val b c hl
    show ((x + y + (adC b c xs ys).1) / b) * (b : Int) ^ (xs.length + 1) + hor b ((x + y + (adC b c xs ys).1) % b :: (adC b c xs ys).2) = c + hor b (x :: xs) + hor b (y :: ys)
    rw [hor_cons, hor_cons, hor_cons, adC_len b c hl, ← hl, Int.pow_succ]
    have e := Int.mul_ediv_add_emod (x + y + (adC b c xs ys).1) b
    generalize (x + y + (adC b c xs ys).1) / (b : Int) = q at *
    generalize (x + y + (adC b c xs ys).1) % (b : Int) = r at *
    generalize (adC b c xs ys).1 = c1 at *
    generalize hor b (adC b c xs ys).2 = h2 at *
    generalize (b : Int) ^ xs.length = p at *
    grind
  | [], _ :: _, h => by simp at h
  | _ :: _, [], h => by simp at h

theorem adC_bd {b : Nat} (hb : 0 < b) {c : Int} (h0 : 0 ≤ c) (h1 : c ≤ 1) : ∀ {x y : List Int}, Dgt b x → Dgt b y → 0 ≤ (adC b c x y).1 ∧ (adC b c x y).1 ≤ 1
  | [], _, _, _ => ⟨h0, h1⟩
  | _ :: _, [], _, _ => ⟨h0, h1⟩
  | x :: xs, y :: ys, hx, hy => by
    obtain ⟨i1, i2⟩ := adC_bd hb h0 h1 (fun z hz => hx z (List.mem_cons_of_mem _ hz)) (fun z hz => hy z (List.mem_cons_of_mem _ hz))
    have x1 := hx x (by simp)
    have y1 := hy y (by simp)
    show 0 ≤ (x + y + (adC b c xs ys).1) / (b : Int) ∧ (x + y + (adC b c xs ys).1) / (b : Int) ≤ 1
    refine ⟨Int.ediv_nonneg (by omega) (by omega), ?_⟩
    have : (x + y + (adC b c xs ys).1) / (b : Int) < 2 := Int.ediv_lt_of_lt_mul (by omega) (by omega)
    omega

/-- Both passes: the sum, or nines in the place of nothing. -/
theorem add_two {b : Nat} {x y : List Int} (hb : 2 ≤ b) (hn : 1 ≤ x.length) (hl : x.length = y.length) (hx : Dgt b x) (hy : Dgt b y) :
    (adC b (adC b 0 x y).1 (adC b 0 x y).2 (List.replicate x.length 0)).2 = (if (adC b (adC b 0 x y).1 (adC b 0 x y).2 (List.replicate x.length 0)).2 = List.replicate x.length ((b : Int) - 1) then List.replicate x.length ((b : Int) - 1) else addL b x y) ∧
      ((adC b (adC b 0 x y).1 (adC b 0 x y).2 (List.replicate x.length 0)).2 = List.replicate x.length ((b : Int) - 1) → addL b x y = List.replicate x.length 0) := by
  have hp := pow_big hb hn
  have v1 := adC_val b 0 hl
  have l1 := adC_len b 0 hl
  have d1 := adC_dgt (b := b) (by omega) 0 x y
  have c1 := adC_bd (b := b) (by omega) (c := 0) (by omega) (by omega) hx hy
  have bx := hor_lt (b := b) (by omega) hx
  have byy := hor_lt (b := b) (by omega) hy
  have b1 := hor_lt (b := b) (by omega) d1
  rw [← hl] at byy
  rw [l1] at b1
  generalize (adC b 0 x y).1 = c at *
  generalize (adC b 0 x y).2 = o at *
  have hlz : o.length = (List.replicate x.length (0 : Int)).length := by rw [l1, List.length_replicate]
  have v2 := adC_val b c hlz
  have l2 := adC_len b c hlz
  have d2 := adC_dgt (b := b) (by omega) c o (List.replicate x.length 0)
  have c2 := adC_bd (b := b) (by omega) (c := c) c1.1 c1.2 d1 (zeros_dgt (by omega) x.length)
  have b2 := hor_lt (b := b) (by omega) d2
  rw [l2, l1] at b2
  rw [hor_zeros, l1] at v2
  rw [l1] at l2
  generalize (adC b c o (List.replicate x.length 0)).1 = e at *
  generalize (adC b c o (List.replicate x.length 0)).2 = r at *
  generalize hP : (b : Int) ^ x.length = P at *
  have hc : c = 0 ∨ c = 1 := by omega
  have he : e = 0 := by
    have : e = 0 ∨ e = 1 := by omega
    rcases this with h | h
    · exact h
    · exfalso
      subst h
      rcases hc with rfl | rfl <;> omega
  subst he
  have hr : hor b r = c + hor b o := by omega
  have hS : hor b x + hor b y = hor b r + c * (P - 1) := by
    rcases hc with rfl | rfl <;> omega
  have hmod : (hor b x + hor b y) % (P - 1) = hor b r % (P - 1) := by rw [hS, Int.add_mul_emod_self_right]
  have key : r = List.replicate x.length ((b : Int) - 1) ↔ hor b r = P - 1 := by
    constructor
    · intro h; rw [h, hor_const, hP]
    · intro h
      refine hor_eq (by omega) (by rw [l2, List.length_replicate]) d2 (fun z hz => by rw [(List.mem_replicate.1 hz).2]; omega) ?_
      rw [h, hor_const, hP]
  refine ⟨?_, fun h => ?_⟩
  · by_cases h : r = List.replicate x.length ((b : Int) - 1)
    · rw [if_pos h]; exact h
    · rw [if_neg h]
      refine addL_is hb hn l2 d2 ?_
      rw [hP, hmod, Int.emod_eq_of_lt b2.1 ?_]
      have : hor b r ≠ P - 1 := fun e => h (key.2 e)
      omega
  · refine (addL_is hb hn (by simp) (zeros_dgt (by omega) _) ?_).symm
    rw [hor_zeros, hP, hmod, key.1 h, Int.emod_self]

/-- Digits of two rounds without beginnings added round. -/
theorem sum_digits {b T B U C L : Nat} (hb : 2 ≤ b) (hL : 1 ≤ L) (hT : T < B) (hU : U < C) (h1 : rst b T B L = T) (h2 : rst b U C L = U) :
    addL b (digL b T B L) (digL b U C L) = digL b (sumT T B U C) (sumN' T B U C) L := by
  have hp := pow_big hb hL
  obtain ⟨hlt, _, _, e1, e2, hg⟩ := red_ok (sm_lt (T := T) (U := U) (show 0 < B by omega) (show 0 < C by omega))
  have h3 := sum_per (b := b) (q := 0) (L := L) hT hU (by rw [Nat.zero_add]; exact h1) (by rw [Nat.zero_add]; exact h2)
  rw [Nat.zero_add] at h3
  have hlt' : sumT T B U C < sumN' T B U C := hlt
  have v1 := hor_digL (b := b) (T := T) (B := B) (by omega) L
  have v2 := hor_digL (b := b) (T := U) (B := C) (by omega) L
  have v3 := hor_digL (b := b) (T := sumT T B U C) (B := sumN' T B U C) (by omega) L
  rw [h1] at v1
  rw [h2] at v2
  rw [h3, show rst b (sumT T B U C) (sumN' T B U C) 0 = sumT T B U C from rfl] at v3
  refine (addL_is hb (by rw [digL_len]; exact hL) (by rw [digL_len, digL_len]) (digL_dgt hlt' (by omega) L) ?_).symm
  rw [digL_len]
  have hd3 := hor_lt (b := b) (by omega) (digL_dgt (b := b) hlt' (by omega) L)
  have hmd := Nat.div_add_mod (T * C + U * B) (B * C)
  have e1' : sumT T B U C * Nat.gcd (smT T B U C) (B * C) = smT T B U C := e1
  have e2' : sumN' T B U C * Nat.gcd (smT T B U C) (B * C) = B * C := e2
  have e0 : B * C * ((T * C + U * B) / (B * C)) + smT T B U C = T * C + U * B := hmd
  generalize (T * C + U * B) / (B * C) = q at e0
  generalize Nat.gcd (smT T B U C) (B * C) = g at e1' e2' hg
  generalize smT T B U C = s at e0 e1'
  generalize sumT T B U C = H at *
  generalize sumN' T B U C = N at *
  generalize hor b (digL b T B L) = x at *
  generalize hor b (digL b U C L) = y at *
  generalize hor b (digL b H N L) = z at *
  generalize (b : Int) ^ L = P at *
  -- over the common bottom
  have k1 : (B : Int) * C ≠ 0 := by
    have : (0 : Int) < (B : Int) * C := Int.mul_pos (by omega) (by omega)
    omega
  have f1 : (H : Int) * g = s := by rw [← e1']; simp
  have f2 : (N : Int) * g = B * C := by have : ((N * g : Nat) : Int) = ((B * C : Nat) : Int) := by rw [e2']
                                        simpa using this
  have f0 : (B : Int) * C * q + s = T * C + U * B := by have : ((B * C * q + s : Nat) : Int) = ((T * C + U * B : Nat) : Int) := by rw [e0]
                                                        simpa using this
  have m1 : (x + y) * ((B : Int) * C) = (z + (P - 1) * q) * ((B : Int) * C) := by
    have g1 : x * B = T * (P - 1) := by grind
    have g2 : y * C = U * (P - 1) := by grind
    have g3 : z * N = H * (P - 1) := by grind
    have g4 : z * ((B : Int) * C) = s * (P - 1) := by rw [← f2, ← f1]; grind
    grind
  have m2 : x + y = z + (P - 1) * q := Int.eq_of_mul_eq_mul_right k1 m1
  have hz : z < P - 1 := by
    have g3 : z * N = H * (P - 1) := by grind
    have hHN : (H : Int) + 1 ≤ N := by omega
    have g5 : (H : Int) * (P - 1) + (P - 1) ≤ N * (P - 1) := by
      have := Int.mul_le_mul_of_nonneg_right hHN (show (0 : Int) ≤ P - 1 by omega)
      grind
    refine Int.lt_of_mul_lt_mul_right (a := (N : Int)) ?_ (by omega)
    rw [g3, Int.mul_comm (P - 1)]
    omega
  rw [m2, Int.add_mul_emod_self_left, Int.emod_eq_of_lt hd3.1 hz]

/-- Less is told by digits. -/
theorem less_rst {b T B U C : Nat} (hB : 0 < B) (hC : 0 < C) (h : T * C < U * B) (i : Nat) : (∀ j, j < i → dig b T B j = dig b U C j) → 0 < b → rst b T B i * C < rst b U C i * B := by
  induction i with
  | zero => intro _ _; exact h
  | succ i ih =>
    intro he hb
    have h1 := ih (fun j hj => he j (by omega)) hb
    have h2 := he i (by omega)
    have e1 := rst_dig (b := b) (T := T) (B := B) i hB
    have e2 := rst_dig (b := b) (T := U) (B := C) i hC
    rw [← h2] at e2
    generalize dig b T B i = D at *
    generalize rst b T B (i + 1) = r1 at *
    generalize rst b U C (i + 1) = r2 at *
    generalize rst b T B i = r at *
    generalize rst b U C i = u at *
    have m1 : r * C * b < u * B * b := Nat.mul_lt_mul_of_pos_right h1 hb
    have m2 : r * C * b = D * B * C + r1 * C := by rw [Nat.mul_right_comm, e1, Nat.add_mul]
    have m3 : u * B * b = D * B * C + r2 * B := by rw [Nat.mul_right_comm, e2, Nat.add_mul, Nat.mul_right_comm D C B]
    omega

theorem less_dig {b T B U C i : Nat} (hb : 0 < b) (hT : T < B) (hU : U < C) (h : T * C < U * B) (he : ∀ j, j < i → dig b T B j = dig b U C j) : dig b T B i ≤ dig b U C i := by
  have h1 := less_rst (b := b) (by omega) (by omega) h i he hb
  have e1 := rst_dig (b := b) (T := T) (B := B) i (by omega)
  have e2 := rst_dig (b := b) (T := U) (B := C) i (by omega)
  have l2 := rst_lt (b := b) hU (i + 1)
  refine Nat.not_lt.1 fun hlt => ?_
  generalize dig b T B i = D at *
  generalize dig b U C i = E at *
  generalize rst b T B (i + 1) = r1 at *
  generalize rst b U C (i + 1) = r2 at *
  generalize rst b T B i = r at *
  generalize rst b U C i = u at *
  have m1 : r * C * b < u * B * b := Nat.mul_lt_mul_of_pos_right h1 hb
  have m2 : r * C * b = D * B * C + r1 * C := by rw [Nat.mul_right_comm, e1, Nat.add_mul]
  have m3 : u * B * b = E * C * B + r2 * B := by rw [Nat.mul_right_comm, e2, Nat.add_mul]
  have m4 : (E + 1) * (B * C) ≤ D * (B * C) := Nat.mul_le_mul_right _ hlt
  have m5 : r2 * B ≤ C * B := Nat.mul_le_mul_right _ (by omega)
  rw [Nat.add_mul, Nat.one_mul] at m4
  rw [Nat.mul_assoc D] at m2
  rw [Nat.mul_assoc E, Nat.mul_comm C B] at m3
  rw [Nat.mul_comm C B] at m5
  omega

end Go.Proofs.Ytoiofkijinlllab
