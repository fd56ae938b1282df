/-
  Rings of digits: turned, multiplied: mathematics alone.
-/
import Derived.Test.YtamcpoadpkgogadGPrt
namespace Go.Proofs.Ytamcpoadpkgogad

/-- Turned by r, r at most the number of digits. -/
def rotL (d : List Int) (r : Nat) : List Int := d.drop r ++ d.take r

theorem rotL_len {d : List Int} {r : Nat} : (rotL d r).length = d.length := by simp [rotL]; omega
theorem rotL_zero (d : List Int) : rotL d 0 = d := by simp [rotL]
theorem rotL_all {d : List Int} : rotL d d.length = d := by simp [rotL]

theorem rotL_back {d : List Int} {r : Nat} (_h : r ≤ d.length) : rotL (rotL d r) (d.length - r) = d := by
  have hl : (d.drop r).length = d.length - r := List.length_drop
  show (d.drop r ++ d.take r).drop (d.length - r) ++ (d.drop r ++ d.take r).take (d.length - r) = d
  rw [← hl, List.drop_left, List.take_left, List.take_append_drop]

theorem rotL_mem {d : List Int} {r : Nat} {x : Int} (h : x ∈ rotL d r) : x ∈ d := by
  rcases List.mem_append.1 h with h | h
  · exact List.mem_of_mem_drop h
  · exact List.mem_of_mem_take h

/-- The sum of a list, from any start. -/
def sumI (L : List Int) : Int := L.foldl (· + ·) 0
theorem sumI_from : ∀ (L : List Int) (s : Int), L.foldl (· + ·) s = s + sumI L := by
  intro L
  induction L with
  | nil => intro s; simp [sumI]
  | cons x L ih =>
    intro s
    show L.foldl (· + ·) (s + x) = s + L.foldl (· + ·) (0 + x)
    rw [ih, ih]; omega
theorem sumI_cons (x : Int) (L : List Int) : sumI (x :: L) = x + sumI L := by
  show L.foldl (· + ·) (0 + x) = _
  rw [sumI_from]; omega
theorem sumI_append (L M : List Int) : sumI (L ++ M) = sumI L + sumI M := by
  show (L ++ M).foldl (· + ·) 0 = _
  rw [List.foldl_append, sumI_from]; rfl
theorem sumI_rot (d : List Int) (r : Nat) : sumI (rotL d r) = sumI d := by
  have h : sumI d = sumI (d.take r) + sumI (d.drop r) := by rw [← sumI_append, List.take_append_drop]
  show sumI (d.drop r ++ d.take r) = _
  rw [sumI_append, h]; omega

theorem hor_append (b : Nat) (L M : List Int) : hor b (L ++ M) = hor b L * (b : Int) ^ M.length + hor b M := by
  show (L ++ M).foldl (hst b) 0 = _
  rw [List.foldl_append, hor_from]; rfl

/-- Casting out: a number and the sum of its digits. -/
theorem hor_sum (b : Nat) (L : List Int) : ∃ q, hor b L = sumI L + ((b : Int) - 1) * q := by
  induction L with
  | nil => exact ⟨0, by simp [hor, sumI]⟩
  | cons x L ih =>
    obtain ⟨q, hq⟩ := ih
    have hp : ∃ c, (b : Int) ^ L.length = 1 + ((b : Int) - 1) * c := by
      generalize L.length = n
      induction n with
      | zero => exact ⟨0, by simp⟩
      | succ n ihn =>
        obtain ⟨c, hc⟩ := ihn
        exact ⟨1 + c * b, by rw [Int.pow_succ, hc]; grind⟩
    obtain ⟨c, hc⟩ := hp
    exact ⟨x * c + q, by rw [hor_cons, hc, hq, sumI_cons]; grind⟩

/-- Digits of a base. -/
def Dgt (b : Nat) (d : List Int) : Prop := ∀ x ∈ d, 0 ≤ x ∧ x < (b : Int)

theorem Dgt.rot {b : Nat} {d : List Int} {r : Nat} (h : Dgt b d) : Dgt b (rotL d r) := fun x hx => h x (rotL_mem hx)

theorem hor_lt {b : Nat} (hb : 0 < b) {L : List Int} (h : Dgt b L) : 0 ≤ hor b L ∧ hor b L + 1 ≤ (b : Int) ^ L.length := by
  induction L with
  | nil => simp [hor]
  | cons x L ih =>
    obtain ⟨i1, i2⟩ := ih fun y hy => h y (List.mem_cons_of_mem x hy)
    obtain ⟨x1, x2⟩ := h x (by simp)
    have hp : (0 : Int) ≤ (b : Int) ^ L.length := Int.pow_nonneg (by omega)
    have m1 := Int.mul_nonneg x1 hp
    have m2 : x * (b : Int) ^ L.length ≤ ((b : Int) - 1) * (b : Int) ^ L.length := Int.mul_le_mul_of_nonneg_right (by omega) hp
    rw [hor_cons, List.length_cons, Int.pow_succ]
    have e : (b : Int) ^ L.length * b = ((b : Int) - 1) * (b : Int) ^ L.length + (b : Int) ^ L.length := by grind
    omega

/-- Lists of digits of one length are told by their number; what goes beyond is told besides. -/
theorem hor_inj {b : Nat} (hb : 0 < b) : ∀ {L M : List Int} {c e : Int}, L.length = M.length → Dgt b L → Dgt b M → c * (b : Int) ^ L.length + hor b L = e * (b : Int) ^ M.length + hor b M → c = e ∧ L = M := by
  intro L
  induction L with
  | nil =>
    intro M c e hl _ _ h
    have hM : M = [] := List.length_eq_zero_iff.1 hl.symm
    subst hM
    simp [hor] at h
    exact ⟨h, rfl⟩
  | cons x L ih =>
    intro M c e hl hL hM h
    cases M with
    | nil => simp at hl
    | cons y M =>
      have hl' : L.length = M.length := by simpa using hl
      rw [hor_cons, hor_cons, List.length_cons, List.length_cons, Int.pow_succ, Int.pow_succ] at h
      have h2 : (c * b + x) * (b : Int) ^ L.length + hor b L = (e * b + y) * (b : Int) ^ M.length + hor b M := by
        have e1 : (c * b + x) * (b : Int) ^ L.length = c * ((b : Int) ^ L.length * b) + x * (b : Int) ^ L.length := by grind
        have e2 : (e * b + y) * (b : Int) ^ M.length = e * ((b : Int) ^ M.length * b) + y * (b : Int) ^ M.length := by grind
        rw [e1, e2]; omega
      obtain ⟨i1, rfl⟩ := ih hl' (fun z hz => hL z (List.mem_cons_of_mem x hz)) (fun z hz => hM z (List.mem_cons_of_mem y hz)) h2
      obtain ⟨x1, x2⟩ := hL x (by simp)
      obtain ⟨y1, y2⟩ := hM y (by simp)
      have hbp : (0 : Int) < b := by omega
      have hx : x = y := by
        have a1 : (c * b + x) % b = x := by rw [Int.add_comm, Int.add_mul_emod_self_right, Int.emod_eq_of_lt x1 x2]
        have a2 : (e * b + y) % b = y := by rw [Int.add_comm, Int.add_mul_emod_self_right, Int.emod_eq_of_lt y1 y2]
        rw [i1, a2] at a1
        exact a1.symm
      subst hx
      have hce : c * b = e * b := by omega
      exact ⟨Int.eq_of_mul_eq_mul_right (by omega) hce, rfl⟩

/-- A ring times k: what is carried beyond, and the digits. -/
def tim (b : Nat) (k : Int) : List Int → Int × List Int
  | [] => (0, [])
  | x :: r => (((tim b k r).1 + x * k) / b, ((tim b k r).1 + x * k) % b :: (tim b k r).2)

theorem tim_len (b : Nat) (k : Int) (d : List Int) : (tim b k d).2.length = d.length := by
  induction d with
  | nil => rfl
  | cons x r ih => show ((tim b k r).2).length + 1 = r.length + 1; rw [ih]

theorem tim_dgt {b : Nat} (hb : 0 < b) (k : Int) (d : List Int) : Dgt b (tim b k d).2 := by
  induction d with
  | nil => intro x hx; simp [tim] at hx
  | cons y r ih =>
    intro x hx
    rcases List.mem_cons.1 hx with rfl | hx
    · exact ⟨Int.emod_nonneg _ (by omega), Int.emod_lt_of_pos _ (by omega)⟩
    · exact ih x hx

theorem tim_val (b : Nat) (k : Int) (d : List Int) : (tim b k d).1 * (b : Int) ^ d.length + hor b (tim b k d).2 = k * hor b d := by
  induction d with
  | nil => simp [tim, hor]
  | cons x r ih =>
    show ((tim b k r).1 + x * k) / b * (b : Int) ^ (r.length + 1) + hor b (((tim b k r).1 + x * k) % b :: (tim b k r).2) = k * hor b (x :: r)
    have h := hor_step (b := b) (c := (tim b k r).1 + x * k) (L := (tim b k r).2) rfl
    rw [List.length_cons, tim_len] at h
    rw [h, hor_cons, Int.add_mul, Int.mul_add, ← ih]
    grind

theorem tim_bd {b : Nat} (hb : 0 < b) {k : Int} (hk : 0 ≤ k) {d : List Int} (hd : Dgt b d) : 0 ≤ (tim b k d).1 ∧ (tim b k d).1 ≤ k := by
  induction d with
  | nil => exact ⟨Int.le_refl _, hk⟩
  | cons x r ih =>
    obtain ⟨i1, i2⟩ := ih fun y hy => hd y (List.mem_cons_of_mem x hy)
    obtain ⟨x1, x2⟩ := hd x (by simp)
    have m1 := Int.mul_nonneg x1 hk
    have m2 : x * k ≤ ((b : Int) - 1) * k := Int.mul_le_mul_of_nonneg_right (by omega) hk
    have e : ((b : Int) - 1) * k + k = k * b := by grind
    refine ⟨Int.ediv_nonneg (by omega) (by omega), Int.ediv_le_of_le_mul (by omega) (by omega)⟩

/-- A ring of digits is the product just if their numbers say so. -/
theorem tim_iff {b : Nat} (hb : 0 < b) {k : Int} {d L : List Int} (hl : L.length = d.length) (hL : Dgt b L) : ((tim b k d).1 = 0 ∧ (tim b k d).2 = L) ↔ k * hor b d = hor b L := by
  constructor
  · rintro ⟨h1, h2⟩
    rw [← tim_val, h1, h2, Int.zero_mul, Int.zero_add]
  · intro h
    have hv := tim_val b k d
    rw [h] at hv
    exact hor_inj hb (by rw [tim_len, hl]) (tim_dgt hb k d) hL (by rw [tim_len, Int.zero_mul, Int.zero_add]; exact hv)

theorem tim_one {b : Nat} (hb : 0 < b) {d : List Int} (hd : Dgt b d) : (tim b 1 d).1 = 0 ∧ (tim b 1 d).2 = d := (tim_iff hb rfl hd).2 (by rw [Int.one_mul])

/-- A ring that turns by a product, written twice. -/
theorem twice_turns {b : Nat} {k : Int} {d : List Int} (hd : 0 < d.length) (h : k * hor b d = hor b (rotL d (d.length - 1))) :
    k * hor b (d ++ d) = hor b (rotL (d ++ d) ((d ++ d).length - 1)) := by
  have e : rotL (d ++ d) ((d ++ d).length - 1) = rotL d (d.length - 1) ++ rotL d (d.length - 1) := by
    have hl : (d ++ d).length - 1 = d.length + (d.length - 1) := by simp; omega
    rw [hl]
    unfold rotL
    rw [List.drop_append, List.take_append]
    rw [show d.drop (d.length + (d.length - 1)) = [] from List.drop_eq_nil_of_le (by omega), show d.take (d.length + (d.length - 1)) = d from List.take_of_length_le (by omega), Nat.add_sub_cancel_left, List.nil_append]
    have h2 : d = d.take (d.length - 1) ++ d.drop (d.length - 1) := (List.take_append_drop _ _).symm
    generalize d.take (d.length - 1) = P at h2 ⊢
    generalize d.drop (d.length - 1) = Q at h2 ⊢
    rw [h2]; simp
  rw [e, hor_append, hor_append, rotL_len, ← h]
  grind

/-- A digit behind goes ahead. -/
theorem rot_last (P : List Int) (x : Int) : rotL (P ++ [x]) ((P ++ [x]).length - 1) = x :: P := by
  have : (P ++ [x]).length - 1 = P.length := by simp
  rw [this]
  unfold rotL
  rw [List.drop_left, List.take_left]; rfl

/-- The number of a fraction's first digits. -/
theorem hor_digL {b T B : Nat} (hB : 0 < B) (n : Nat) : hor b (digL b T B n) * B + rst b T B n = (T : Int) * (b : Int) ^ n := by
  induction n with
  | zero => simp [digL, hor, rst]
  | succ n ih =>
    have e := rst_dig (b := b) (T := T) (B := B) n hB
    have e' : (rst b T B n : Int) * b = dig b T B n * B + rst b T B (n + 1) := by exact_mod_cast e
    rw [digL_succ, hor_snoc, Int.pow_succ, ← Int.mul_assoc, ← ih]
    grind

theorem digL_dgt {b T B : Nat} (hT : T < B) (hb : 0 < b) (n : Nat) : Dgt b (digL b T B n) := by
  intro x hx
  simp only [digL, List.mem_map, List.mem_range] at hx
  obtain ⟨i, _, rfl⟩ := hx
  have := dig_lt (b := b) hT i hb
  omega

/-- The number of a round. -/
theorem hor_round {b T B m : Nat} (hT : T < B) (h : IsLen b T B 0 m) : hor b (digL b T B m) * B = (T : Int) * ((b : Int) ^ m - 1) := by
  have h1 := hor_digL (b := b) (T := T) (B := B) (by omega) m
  have h2 := h.eq
  rw [Nat.zero_add] at h2
  rw [h2] at h1
  have h3 : (rst b T B 0 : Int) = T := rfl
  rw [h3] at h1
  rw [Int.mul_sub, Int.mul_one]; omega

/-- The ring that is found: the round of d over k times the base, less 1. -/
theorem find_turns {b k d g T B m : Nat} (hb : 2 ≤ b) (hk : 1 ≤ k) (hd : d < b) (hT : T < B) (hTg : T * g = d) (hBg : B * g = k * b - 1) (h : IsLen b T B 0 m) :
    (k : Int) * hor b (digL b T B m) = hor b (rotL (digL b T B m) ((digL b T B m).length - 1)) ∧ (digL b T B m)[(digL b T B m).length - 1]?.getD 0 = (d : Int) := by
  have hm := h.pos
  have hr := hor_round hT h
  have hkb : 1 ≤ k * b := Nat.mul_pos (by omega) (by omega)
  have hBI : (B : Int) * g = (k : Int) * b - 1 := by have : ((B * g : Nat) : Int) = ((k * b - 1 : Nat) : Int) := by rw [hBg]
                                                     rw [Int.natCast_sub hkb] at this; simpa using this
  have hTI : (T : Int) * g = d := by rw [← hTg]; simp
  have hNg : hor b (digL b T B m) * ((k : Int) * b - 1) = (d : Int) * ((b : Int) ^ m - 1) := by
    rw [← hBI, ← hTI, ← Int.mul_assoc, hr]; grind
  -- the last digit
  obtain ⟨n, rfl⟩ : ∃ n, m = n + 1 := ⟨m - 1, by omega⟩
  have hx := dig_lt (b := b) hT n (by omega)
  have hL : digL b T B (n + 1) = digL b T B n ++ [(dig b T B n : Int)] := digL_succ b T B n
  rw [hL] at hNg ⊢
  rw [hor_snoc] at hNg
  have hdx : (dig b T B n : Int) = d := by
    -- by the base, both leave the same
    have e1 : ((d : Int) - dig b T B n) = (b : Int) * ((d : Int) * (b : Int) ^ n - (hor b (digL b T B n) * b + dig b T B n) * k + hor b (digL b T B n)) := by
      rw [Int.pow_succ] at hNg
      grind
    have hdv : (b : Int) ∣ ((d : Int) - dig b T B n) := ⟨_, e1⟩
    rcases Int.lt_trichotomy ((d : Int) - dig b T B n) 0 with h0 | h0 | h0
    · have := Int.le_of_dvd (by omega) ((Int.dvd_neg).2 hdv)
      omega
    · omega
    · have := Int.le_of_dvd h0 hdv
      omega
  constructor
  · rw [rot_last, hor_snoc, hor_cons, digL_len, hdx]
    rw [hdx, Int.pow_succ] at hNg
    have hb0 : (b : Int) ≠ 0 := by omega
    refine Int.eq_of_mul_eq_mul_right hb0 ?_
    grind
  · rw [← hdx]; simp

end Go.Proofs.Ytamcpoadpkgogad
