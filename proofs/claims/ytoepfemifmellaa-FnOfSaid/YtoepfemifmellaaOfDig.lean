/-
  The digits of a fraction that is put together out of a beginning and a round: mathematics alone.
-/
import Derived.Test.YtoepfemifmellaaOf
import Derived.Test.YtoepfemifmellaaNumB
namespace Go.Proofs.Ytoepfemifmellaa

/-- Rests and digits told by a sequence. -/
theorem dig_of_seq {b X Y K : Nat} {R e : Nat → Int} (h0 : R 0 = X) (hlt : ∀ i, i ≤ K → 0 ≤ R i ∧ R i < Y) (hs : ∀ i, i < K → R i * b = Y * e i + R (i + 1)) :
    ∀ i, i ≤ K → (rst b X Y i : Int) = R i := by
  intro i
  induction i with
  | zero => intro _; exact h0.symm
  | succ i ih =>
    intro hi
    show ((rst b X Y i * b % Y : Nat) : Int) = R (i + 1)
    rw [Int.natCast_emod, Int.natCast_mul, ih (by omega), hs i (by omega), Int.add_comm, Int.add_mul_emod_self_left]
    exact Int.emod_eq_of_lt (hlt _ hi).1 (hlt _ hi).2

theorem dig_seq {b X Y K : Nat} {R e : Nat → Int} (hY : 0 < Y) (h0 : R 0 = X) (hlt : ∀ i, i ≤ K → 0 ≤ R i ∧ R i < Y) (hs : ∀ i, i < K → R i * b = Y * e i + R (i + 1)) (i : Nat) (hi : i < K) :
    (dig b X Y i : Int) = e i := by
  have h := dig_of_seq h0 hlt hs i (by omega)
  have h1 := hlt (i + 1) (by omega)
  show ((rst b X Y i * b / Y : Nat) : Int) = e i
  rw [Int.natCast_ediv, Int.natCast_mul, h, hs i hi, Int.add_comm, Int.add_mul_ediv_left _ _ (by omega), Int.ediv_eq_zero_of_lt h1.1 h1.2, Int.zero_add]

theorem rst_mul (b T B g i : Nat) : rst b (T * g) (B * g) i = rst b T B i * g := by
  induction i with
  | zero => rfl
  | succ i ih =>
    show rst b (T * g) (B * g) i * b % (B * g) = rst b T B i * b % B * g
    rw [ih, show rst b T B i * g * b = rst b T B i * b * g by ac_rfl, Nat.mul_mod_mul_right]

theorem dig_mul {g : Nat} (hg : 0 < g) (b T B i : Nat) : dig b (T * g) (B * g) i = dig b T B i := by
  show rst b (T * g) (B * g) i * b / (B * g) = rst b T B i * b / B
  rw [rst_mul, show rst b T B i * g * b = rst b T B i * b * g by ac_rfl, Nat.mul_div_mul_right _ _ hg]

theorem numI_acc (b a : Int) (xs : List Int) : xs.foldl (fun n d => b * n + d) a = a * b ^ xs.length + numI b xs := by
  induction xs generalizing a with
  | nil => simp [numI]
  | cons d t ih =>
    have e : numI b (d :: t) = (b * 0 + d) * b ^ t.length + numI b t := ih (b * 0 + d)
    rw [List.foldl_cons, ih, e, List.length_cons]
    grind

theorem numI_app (b : Int) (xs ys : List Int) : numI b (xs ++ ys) = numI b xs * b ^ ys.length + numI b ys := by
  show (xs ++ ys).foldl (fun n d => b * n + d) 0 = _
  rw [List.foldl_append, numI_acc]
  rfl

theorem numI_cons (b d : Int) (t : List Int) : numI b (d :: t) = d * b ^ t.length + numI b t := by
  have e := numI_app b [d] t
  have e1 : numI b [d] = d := by simp [numI]
  rw [e1] at e
  exact e

/-- The round, turned. -/
def rotL (ys : List Int) (j : Nat) : List Int := ys.drop j ++ ys.take j

theorem rot_len (ys : List Int) {j : Nat} (hj : j ≤ ys.length) : (rotL ys j).length = ys.length := by unfold rotL; rw [List.length_append, List.length_drop, List.length_take]; omega

theorem rot_step (b : Int) (ys : List Int) (j : Nat) (hj : j < ys.length) :
    numI b (rotL ys j) * b = ys[j]?.getD 0 * (b ^ ys.length - 1) + numI b (rotL ys (j + 1)) := by
  have hd : ys.drop j = ys[j] :: ys.drop (j + 1) := List.drop_eq_getElem_cons hj
  have ht : ys.take (j + 1) = ys.take j ++ [ys[j]] := (List.take_append_getElem hj).symm
  have hg : ys[j]?.getD 0 = ys[j] := by rw [List.getElem?_eq_getElem hj]; rfl
  have e1 : rotL ys j = ys[j] :: (ys.drop (j + 1) ++ ys.take j) := by unfold rotL; rw [hd]; rfl
  have e2 : rotL ys (j + 1) = (ys.drop (j + 1) ++ ys.take j) ++ [ys[j]] := by unfold rotL; rw [ht, List.append_assoc]
  have hl : (ys.drop (j + 1) ++ ys.take j).length = ys.length - 1 := by rw [List.length_append, List.length_drop, List.length_take]; omega
  have hp : b ^ ys.length = b ^ (ys.length - 1) * b := by rw [← Int.pow_succ]; congr 1; omega
  rw [e1, e2, numI_cons, numI_snoc, hl, hg, hp]
  grind

theorem digB_rot {b : Int} {ys : List Int} (h : digB b ys = true) (j : Nat) : digB b (rotL ys j) = true := by
  unfold digB rotL at *
  rw [List.all_eq_true] at h ⊢
  intro x hx
  rcases List.mem_append.1 hx with hx | hx
  · exact h x (List.mem_of_mem_drop hx)
  · exact h x (List.mem_of_mem_take hx)

theorem digB_drop {b : Int} {ys : List Int} (h : digB b ys = true) (j : Nat) : digB b (ys.drop j) = true := by
  unfold digB at *
  rw [List.all_eq_true] at h ⊢
  exact fun x hx => h x (List.mem_of_mem_drop hx)

theorem numI_bds {b : Nat} {ys : List Int} (h : digB b ys = true) : 0 ≤ numI b ys ∧ numI b ys + 1 ≤ (b : Int) ^ ys.length := by
  have h1 := numI_bd b ys h ys.length (Nat.le_refl _)
  rw [List.take_of_length_le (Nat.le_refl _)] at h1
  exact_mod_cast h1

/-- No turned round is all greatest digits if the round is not. -/
theorem rot_lt {b : Nat} (hb : 2 ≤ b) {ys : List Int} (h : digB b ys = true) (hm : 0 < ys.length) (hne : numI b ys ≠ (b : Int) ^ ys.length - 1) :
    ∀ j, j ≤ ys.length → numI b (rotL ys j) ≠ (b : Int) ^ ys.length - 1 := by
  intro j
  induction j with
  | zero => intro _; unfold rotL; simpa using hne
  | succ j ih =>
    intro hj e
    have hs := rot_step (b : Int) ys j (by omega)
    have hd := digB_get h j (by omega)
    obtain ⟨y, hy⟩ : ∃ y, ys[j]?.getD 0 = y := ⟨_, rfl⟩
    have hp : (b : Int) ^ ys.length = (b : Int) ^ (ys.length - 1) * b := by rw [← Int.pow_succ]; congr 1; omega
    rw [e, hy] at hs
    rw [hy] at hd
    have hdv : (b : Int) ∣ y + 1 := by
      refine ⟨(b : Int) ^ (ys.length - 1) * (y + 1) - numI b (rotL ys j), ?_⟩
      have : numI (b : Int) (rotL ys j) * b = (y + 1) * ((b : Int) ^ ys.length - 1) := by rw [hs]; grind
      rw [hp] at this
      grind
    have hy1 : y + 1 = b := by
      have := Int.le_of_dvd (by omega) hdv
      omega
    apply ih (by omega)
    have e3 : numI (b : Int) (rotL ys j) * b = ((b : Int) ^ ys.length - 1) * b := by
      rw [hs, ← hy1]; grind
    exact Int.eq_of_mul_eq_mul_right (by omega) e3

/-- The digit that stands at a place. -/
def eDig (xs ys : List Int) (i : Nat) : Int := if i < xs.length then xs[i]?.getD 0 else ys[(i - xs.length) % ys.length]?.getD 0

/-- The rest at a place, not in lowest terms. -/
def eRst (b : Nat) (xs ys : List Int) (i : Nat) : Int :=
  if i < xs.length then (numI b (xs.drop i) * ((b : Int) ^ ys.length - 1) + numI b ys) * (b : Int) ^ i else numI b (rotL ys ((i - xs.length) % ys.length)) * (b : Int) ^ xs.length

theorem eRst_at (b : Nat) (xs ys : List Int) {i : Nat} (hi : i ≤ xs.length) : eRst b xs ys i = (numI b (xs.drop i) * ((b : Int) ^ ys.length - 1) + numI b ys) * (b : Int) ^ i := by
  unfold eRst
  rcases Nat.lt_or_ge i xs.length with h | h
  · rw [if_pos h]
  · obtain rfl : i = xs.length := by omega
    rw [if_neg (by omega), Nat.sub_self, Nat.zero_mod, List.drop_of_length_le (Nat.le_refl _)]
    simp [rotL, numI]

theorem eRst_step {b : Nat} {xs ys : List Int} (hm : 0 < ys.length) (i : Nat) :
    eRst b xs ys i * b = ((b : Int) ^ xs.length * ((b : Int) ^ ys.length - 1)) * eDig xs ys i + eRst b xs ys (i + 1) := by
  rcases Nat.lt_or_ge i xs.length with h | h
  · rw [eRst_at b xs ys (Nat.le_of_lt h), eRst_at b xs ys h]
    unfold eDig
    rw [if_pos h]
    have hd : xs.drop i = xs[i] :: xs.drop (i + 1) := List.drop_eq_getElem_cons h
    have hg : xs[i]?.getD 0 = xs[i] := by rw [List.getElem?_eq_getElem h]; rfl
    have hp : (b : Int) ^ xs.length = (b : Int) ^ (xs.length - (i + 1)) * (b : Int) ^ (i + 1) := by rw [← Int.pow_add]; congr 1; omega
    have hp2 : (b : Int) ^ (i + 1) = (b : Int) ^ i * b := Int.pow_succ _ _
    rw [hd, numI_cons, hg, List.length_drop, hp, hp2]
    grind
  · obtain ⟨j, hj⟩ : ∃ j, (i - xs.length) % ys.length = j := ⟨_, rfl⟩
    have hjm : j < ys.length := by rw [← hj]; exact Nat.mod_lt _ hm
    have hs := rot_step (b : Int) ys j hjm
    have hn : numI (b : Int) (rotL ys ((i + 1 - xs.length) % ys.length)) = numI (b : Int) (rotL ys (j + 1)) := by
      have e : (i + 1 - xs.length) % ys.length = (j + 1) % ys.length := by
        rw [show i + 1 - xs.length = (i - xs.length) + 1 by omega, ← hj, Nat.mod_add_mod]
      rw [e]
      rcases Nat.lt_or_ge (j + 1) ys.length with h1 | h1
      · rw [Nat.mod_eq_of_lt h1]
      · have : j + 1 = ys.length := by omega
        rw [this, Nat.mod_self]
        simp [rotL]
    unfold eRst eDig
    rw [if_neg (by omega), if_neg (by omega), if_neg (by omega), hj, hn]
    grind

theorem eRst_bd {b : Nat} (hb : 2 ≤ b) {xs ys : List Int} (hx : digB b xs = true) (hy : digB b ys = true) (hm : 0 < ys.length) (hne : numI b ys ≠ (b : Int) ^ ys.length - 1) (i : Nat) :
    0 ≤ eRst b xs ys i ∧ eRst b xs ys i < (b : Int) ^ xs.length * ((b : Int) ^ ys.length - 1) := by
  have hQ := numI_bds hy
  rcases Nat.lt_or_ge i xs.length with h | h
  · rw [eRst_at b xs ys (Nat.le_of_lt h)]
    have h1 := numI_bds (digB_drop hx i)
    rw [List.length_drop] at h1
    have hp : (b : Int) ^ xs.length = (b : Int) ^ (xs.length - i) * (b : Int) ^ i := by rw [← Int.pow_add]; congr 1; omega
    have hbi : (0 : Int) < (b : Int) ^ i := Int.pow_pos (by omega)
    obtain ⟨V, hV⟩ : ∃ V, numI (b : Int) (xs.drop i) = V := ⟨_, rfl⟩
    obtain ⟨Q, hQe⟩ : ∃ Q, (b : Int) ^ ys.length = Q := ⟨_, rfl⟩
    obtain ⟨P, hPe⟩ : ∃ P, (b : Int) ^ (xs.length - i) = P := ⟨_, rfl⟩
    obtain ⟨D, hDe⟩ : ∃ D, numI (b : Int) ys = D := ⟨_, rfl⟩
    rw [hp, hV, hQe, hPe, hDe]
    rw [hV, hPe] at h1
    rw [hQe, hDe] at hQ hne
    have m0 : 0 ≤ V * (Q - 1) := Int.mul_nonneg h1.1 (by omega)
    have m1 : (V + 1) * (Q - 1) ≤ P * (Q - 1) := Int.mul_le_mul_of_nonneg_right h1.2 (by omega)
    rw [Int.add_mul, Int.one_mul] at m1
    refine ⟨Int.mul_nonneg (by omega) (by omega), ?_⟩
    have m2 := Int.mul_lt_mul_of_pos_right (show V * (Q - 1) + D < P * (Q - 1) by omega) hbi
    rwa [Int.mul_right_comm] at m2
  · unfold eRst
    rw [if_neg (by omega)]
    have hjm := Nat.mod_lt (i - xs.length) hm
    have h1 := numI_bds (digB_rot hy ((i - xs.length) % ys.length))
    rw [rot_len ys (by omega)] at h1
    have h2 := rot_lt hb hy hm hne ((i - xs.length) % ys.length) (by omega)
    have hbn : (0 : Int) < (b : Int) ^ xs.length := Int.pow_pos (by omega)
    refine ⟨Int.mul_nonneg h1.1 (by omega), ?_⟩
    rw [Int.mul_comm]
    exact Int.mul_lt_mul_of_pos_left (by omega) hbn

/-- The digits of the fraction are those of which it is made. -/
theorem of_digits {b : Nat} {xs ys : List Int} (ok : OfOk b xs ys) (hne : numI b ys ≠ (pw b ys.length : Int) - 1) {x y : Int} (hx : x = ofT b xs ys / gcdI (ofT b xs ys) (ofB b xs ys)) (hy : y = ofB b xs ys / gcdI (ofT b xs ys) (ofB b xs ys)) :
    ∃ T B : Nat, x = T ∧ y = B ∧ T < B ∧ Nat.gcd T B = 1 ∧ ∀ i, (dig b T B i : Int) = eDig xs ys i := by
  have hpw : ∀ k, (pw b k : Int) = (b : Int) ^ k := fun k => by unfold pw; simp
  have hT : ofT b xs ys = numI b xs * ((b : Int) ^ ys.length - 1) + numI b ys := by unfold ofT; rw [hpw]
  have hB : ofB b xs ys = (b : Int) ^ xs.length * ((b : Int) ^ ys.length - 1) := by unfold ofB; rw [hpw, hpw]
  rw [hpw] at hne
  have hb := ok.b1
  have hm := ok.l1
  have h0 : eRst b xs ys 0 = ofT b xs ys := by rw [hT, eRst_at b xs ys (Nat.zero_le _)]; simp
  have hbd := fun i => eRst_bd hb ok.d1 ok.d2 hm hne (xs := xs) i
  have hb0 := hbd 0
  rw [h0, ← hB] at hb0
  obtain ⟨X, hX⟩ := Int.eq_ofNat_of_zero_le hb0.1
  obtain ⟨Y, hY⟩ := Int.eq_ofNat_of_zero_le (show 0 ≤ ofB b xs ys by omega)
  have hYp : 0 < Y := by omega
  have hXY : X < Y := by omega
  have hg : 0 < Nat.gcd X Y := Nat.gcd_pos_of_pos_right _ hYp
  have hd : ∀ i, (dig b X Y i : Int) = eDig xs ys i := fun i =>
    dig_seq (K := i + 1) (R := eRst b xs ys) hYp (by rw [h0, hX]) (fun j _ => by have := hbd j; rw [← hB, hY] at this; exact this) (fun j _ => by have := eRst_step (b := b) (xs := xs) hm j; rw [← hB, hY] at this; exact this) i (by omega)
  refine ⟨X / Nat.gcd X Y, Y / Nat.gcd X Y, ?_, ?_, ?_, ?_, ?_⟩
  · rw [hx, hX, hY, gcdI_nat]; rfl
  · rw [hy, hX, hY, gcdI_nat]; rfl
  · exact Nat.div_lt_div_of_lt_of_dvd (Nat.gcd_dvd_right _ _) hXY
  · rw [Nat.gcd_div (Nat.gcd_dvd_left _ _) (Nat.gcd_dvd_right _ _), Nat.div_self hg]
  · intro i
    rw [← hd i, ← dig_mul hg b (X / Nat.gcd X Y) (Y / Nat.gcd X Y) i, Nat.div_mul_cancel (Nat.gcd_dvd_left _ _), Nat.div_mul_cancel (Nat.gcd_dvd_right _ _)]

end Go.Proofs.Ytoepfemifmellaa
