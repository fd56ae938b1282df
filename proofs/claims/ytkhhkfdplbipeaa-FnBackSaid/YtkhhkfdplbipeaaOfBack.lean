/-
  A fraction out of its own digits: it comes back.
-/
import Derived.Test.YtkhhkfdplbipeaaOfIm
import Derived.Test.YtkhhkfdplbipeaaPMath3
namespace Go.Proofs.Ytkhhkfdplbipeaa
open Go.RowKit

theorem numI_snoc (b : Int) (xs : List Int) (d : Int) : numI b (xs ++ [d]) = b * numI b xs + d := by unfold numI; rw [List.foldl_append]; rfl

theorem num_digL {b T B : Nat} (hT : T < B) (k : Nat) : numI b (digL b T B k) * B = (T : Int) * (b ^ k : Nat) - rst b T B k := by
  induction k with
  | zero => simp [digL, numI, rst]
  | succ k ih =>
    rw [digL_succ, numI_snoc, Int.add_mul, Int.mul_assoc, ih, Int.mul_sub]
    have e := dig_split (b := b) hT k
    have e' : (rst b T B k : Int) * b = B * dig b T B k + rst b T B (k + 1) := by exact_mod_cast e
    rw [Int.mul_comm (dig b T B k : Int), Int.mul_comm (b : Int) (rst b T B k : Int), e']
    have e2 : ((b ^ (k + 1) : Nat) : Int) = (b ^ k : Nat) * (b : Int) := by rw [Nat.pow_succ]; simp
    have e4 : (T : Int) * ((b ^ k : Nat) * (b : Int)) = (b : Int) * ((T : Int) * (b ^ k : Nat)) := by rw [← Int.mul_assoc, Int.mul_comm]
    rw [e2, e4]
    omega

theorem rndL_succ (b T B n m : Nat) : rndL b T B n (m + 1) = rndL b T B n m ++ [(dig b T B (n + m) : Int)] := by
  unfold rndL
  rw [show n + (m + 1) = n + m + 1 by omega, digL_succ, List.drop_append_of_le_length (by rw [digL_len]; omega)]

theorem num_rndL {b T B : Nat} (hT : T < B) (n m : Nat) : numI b (rndL b T B n m) * B = (rst b T B n : Int) * (b ^ m : Nat) - rst b T B (n + m) := by
  induction m with
  | zero =>
    have : rndL b T B n 0 = [] := by unfold rndL; rw [List.drop_of_length_le (by rw [digL_len]; omega)]
    rw [this]; simp [numI]
  | succ m ih =>
    rw [rndL_succ, numI_snoc, Int.add_mul, Int.mul_assoc, ih, Int.mul_sub]
    have e := dig_split (b := b) hT (n + m)
    have e' : (rst b T B (n + m) : Int) * b = B * dig b T B (n + m) + rst b T B (n + m + 1) := by exact_mod_cast e
    rw [Int.mul_comm (dig b T B (n + m) : Int), Int.mul_comm (b : Int) (rst b T B (n + m) : Int), e']
    have e2 : ((b ^ (m + 1) : Nat) : Int) = (b ^ m : Nat) * (b : Int) := by rw [Nat.pow_succ]; simp
    have e4 : (rst b T B n : Int) * ((b ^ m : Nat) * (b : Int)) = (b : Int) * ((rst b T B n : Int) * (b ^ m : Nat)) := by rw [← Int.mul_assoc, Int.mul_comm]
    rw [e2, e4]
    have e3 : rst b T B (n + (m + 1)) = rst b T B (n + m + 1) := rfl
    rw [e3]
    omega

theorem digB_digL {b T B : Nat} (hT : T < B) (hb : 0 < b) (k : Nat) : digB b (digL b T B k) = true := by
  refine digB_yes fun i hi => ?_
  rw [digL_len] at hi
  rw [digL_get _ _ _ _ _ hi]
  have := dig_lt hT i hb
  omega

theorem digB_rndL {b T B : Nat} (hT : T < B) (hb : 0 < b) (n m : Nat) : digB b (rndL b T B n m) = true := by
  refine digB_yes fun i hi => ?_
  rw [rndL_len] at hi
  rw [rndL_get _ _ _ _ _ _ hi]
  have := dig_lt hT (n + i) hb
  omega

/-- Tops and bottoms of one value with the same lowest terms. -/
theorem low_of {T B X Y : Nat} (hg : Nat.gcd T B = 1) (hY : 0 < Y) (hB : 0 < B) (h : X * B = T * Y) : X / Nat.gcd X Y = T ∧ Y / Nat.gcd X Y = B := by
  have hc : Nat.Coprime B T := by unfold Nat.Coprime; rw [Nat.gcd_comm]; exact hg
  have hd : B ∣ Y := hc.dvd_of_dvd_mul_left (Nat.dvd_trans (Nat.dvd_mul_left B X) (by rw [h]; exact Nat.dvd_refl _))
  obtain ⟨k, rfl⟩ := hd
  have hk : 0 < k := Nat.pos_of_mul_pos_left (a := B) hY
  have hX : X = T * k := by
    have : X * B = T * k * B := by rw [h]; ac_rfl
    exact Nat.eq_of_mul_eq_mul_right hB this
  subst hX
  have e : Nat.gcd (T * k) (B * k) = k := by rw [Nat.gcd_mul_right, hg, Nat.one_mul]
  rw [e]
  exact ⟨Nat.mul_div_cancel _ hk, Nat.mul_div_cancel _ hk⟩

theorem implFracOf_back (b T B n m : Nat) (hT : T < B) (hg : Nat.gcd T B = 1) (hB : B ≤ 1000) (h3 : 2 ≤ b) (h4 : b ≤ 16) (hnm : IsLen b T B n m) (hl : n + m ≤ 5)
    (n₀ n₁ : Nat) (v u : Value) (w : World) (hv : Slc n₀ w v (digL b T B n)) (hu : Slc n₁ w u (rndL b T B n m)) :
    Calls Try.prog 18 #[.int .i64 b, v, u] w (AnsF w T B true) := by
  have hpos := hnm.pos
  have hb : decide (2 ≤ (b : Int) ∧ (b : Int) ≤ 16) = true := by rw [decide_eq_true_eq]; omega
  have hd1 := digB_digL (b := b) hT (by omega) n
  have hd2 := digB_rndL (b := b) hT (by omega) n m
  have hlx := digL_len b T B n
  have hly := rndL_len b T B n m
  have ok : OfOk b (digL b T B n) (rndL b T B n m) := ⟨h3, h4, by omega, by omega, hd1, hd2⟩
  have hn := ok.nums
  rw [hlx, hly] at hn
  obtain ⟨k1, k2, k3, k4⟩ := hn.mul
  have s1 : Hid (∀ wx, Below w.heap.size w wx → Calls Try.prog 33 #[.int .i64 b, v] wx fun e w' => e = .returned (.bool true) ∧ wx = w') :=
    fun wx hb => by have := digitsIn_any n₀ b v (digL b T B n) wx (hv.later hb) (by omega); rwa [hd1] at this
  have s2 : Hid (∀ wx, Below w.heap.size w wx → Calls Try.prog 33 #[.int .i64 b, u] wx fun e w' => e = .returned (.bool true) ∧ wx = w') :=
    fun wx hb => by have := digitsIn_any n₁ b u (rndL b T B n m) wx (hu.later hb) (by omega); rwa [hd2] at this
  have s3 : Hid (∀ wx, Below w.heap.size w wx → Calls Try.prog 35 #[.int .i64 b, v] wx fun e w' => e = .returned (.int .i64 (numI b (digL b T B n))) ∧ wx = w') :=
    fun wx hb => numberOf_any n₀ b v (digL b T B n) wx (hv.later hb) h4 (by omega) hd1
  have s4 : Hid (∀ wx, Below w.heap.size w wx → Calls Try.prog 35 #[.int .i64 b, u] wx fun e w' => e = .returned (.int .i64 (numI b (rndL b T B n m))) ∧ wx = w') :=
    fun wx hb => numberOf_any n₁ b u (rndL b T B n m) wx (hu.later hb) h4 (by omega) hd2
  have s5 : ∀ k : Nat, k ≤ 5 → Hid (∀ wx, Calls Try.prog 34 #[.int .i64 b, .int .i64 k] wx fun e w' => e = .returned (.int .i64 (pw b k)) ∧ wx = w') := fun k hk wx => power_any b k wx h4 hk
  obtain ⟨a1, c1, rfl⟩ := slc_form hv
  obtain ⟨a2, c2, rfl⟩ := slc_form hu
  rw [hlx] at s1 s3 ⊢
  rw [hly] at s2 s4 ⊢
  -- the numbers
  have e1 := num_digL (b := b) hT n
  have e2 := num_rndL (b := b) hT n m
  rw [hnm.eq] at e2
  have hr := rst_lt (b := b) hT n
  have hQ : (2 : Int) ≤ (pw b m : Nat) := by have := hn.q2; omega
  have hP : (1 : Int) ≤ (pw b n : Nat) := by have := hn.a0; have := hn.a1; omega
  have e1' : numI b (digL b T B n) * B = (T : Int) * (pw b n : Nat) - rst b T B n := e1
  have e2' : numI b (rndL b T B n m) * B = (rst b T B n : Int) * (pw b m : Nat) - rst b T B n := e2
  have hD : numI b (rndL b T B n m) ≠ (pw b m : Int) - 1 := by
    intro e
    rw [e, Int.sub_mul, Int.one_mul] at e2'
    have h1 : ((pw b m : Int) - 1) * ((B : Int) - rst b T B n) = 0 := by
      rw [Int.mul_sub, Int.sub_mul, Int.sub_mul, Int.one_mul, Int.one_mul, Int.mul_comm (pw b m : Int) (rst b T B n : Int)]
      omega
    rcases Int.mul_eq_zero.1 h1 with h2 | h2 <;> omega
  obtain ⟨X, hX⟩ : ∃ X, numI b (digL b T B n) * ((pw b m : Int) - 1) + numI b (rndL b T B n m) = X := ⟨_, rfl⟩
  obtain ⟨Y, hY⟩ : ∃ Y, (pw b n : Int) * ((pw b m : Int) - 1) = Y := ⟨_, rfl⟩
  have hXY : X * B = (T : Int) * Y := by
    rw [← hX, ← hY, Int.add_mul, e2', Int.mul_assoc, Int.mul_comm ((pw b m : Int) - 1) (B : Int), ← Int.mul_assoc, e1', Int.sub_mul, Int.mul_assoc]
    rw [Int.mul_sub (rst b T B n : Int), Int.mul_one]
    omega
  have hX0 : 0 ≤ X := by have := hn.d0; omega
  have hY0 : 0 < Y := by omega
  obtain ⟨X, rfl⟩ := Int.eq_ofNat_of_zero_le hX0
  obtain ⟨Y, rfl⟩ := Int.eq_ofNat_of_zero_le (Int.le_of_lt hY0)
  have hXY' : X * B = T * Y := by exact_mod_cast hXY
  obtain ⟨l1, l2⟩ := low_of hg (by omega) (by omega) hXY'
  have g1 : (X : Int) / gcdI X Y = (T : Int) := by rw [gcdI_nat]; exact_mod_cast congrArg (Nat.cast (R := Int)) l1
  have g2 : (Y : Int) / gcdI X Y = (B : Int) := by rw [gcdI_nat]; exact_mod_cast congrArg (Nat.cast (R := Int)) l2
  have := implFracOf_far b n m a1 a2 c1 c2 w _ _ _ _ hb hpos hl hn s1 s2 s3 s4 (s5 _ (by omega)) (s5 _ (by omega)) X Y hX hY hD true (by rw [g2]; simp; omega)
  rw [g1, g2] at this
  simpa using this

end Go.Proofs.Ytkhhkfdplbipeaa
