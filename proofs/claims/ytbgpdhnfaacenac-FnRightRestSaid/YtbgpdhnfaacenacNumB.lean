/-
  The number that digits make, and the fraction behind it: mathematics alone.
-/
import Derived.Test.YtbgpdhnfaacenacGRnd
import Derived.Test.YtbgpdhnfaacenacGPrt
namespace Go.Proofs.Ytbgpdhnfaacenac

/-- The number of digits in a base. -/
def numI (b : Int) (xs : List Int) : Int := xs.foldl (fun n d => b * n + d) 0

theorem numI_snoc (b : Int) (xs : List Int) (d : Int) : numI b (xs ++ [d]) = b * numI b xs + d := by unfold numI; rw [List.foldl_append]; rfl

theorem num_digL {b T B : Nat} (hT : T < B) (k : Nat) : numI b (digL b T B k) * B = (T : Int) * (b ^ k : Nat) - rst b T B k := by
  induction k with
  | zero => simp [digL, numI, rst]
  | succ k ih =>
    rw [digL_succ, numI_snoc, Int.add_mul, Int.mul_assoc, ih, Int.mul_sub]
    have e := dig_split (b := b) hT k
    have e' : (rst b T B k : Int) * b = B * dig b T B k + rst b T B (k + 1) := by exact_mod_cast e
    rw [Int.mul_comm (dig b T B k : Int), Int.mul_comm (b : Int) (rst b T B k : Int), e']
    have e2 : ((b ^ (k + 1) : Nat) : Int) = (b ^ k : Nat) * (b : Int) := by rw [Nat.pow_succ]; simp
    have e4 : (T : Int) * ((b ^ k : Nat) * (b : Int)) = (b : Int) * ((T : Int) * (b ^ k : Nat)) := by rw [← Int.mul_assoc, Int.mul_comm]
    rw [e2, e4]
    omega

theorem rndL_succ (b T B n m : Nat) : rndL b T B n (m + 1) = rndL b T B n m ++ [(dig b T B (n + m) : Int)] := by
  unfold rndL
  rw [show n + (m + 1) = n + m + 1 by omega, digL_succ, List.drop_append_of_le_length (by rw [digL_len]; omega)]

theorem num_rndL {b T B : Nat} (hT : T < B) (n m : Nat) : numI b (rndL b T B n m) * B = (rst b T B n : Int) * (b ^ m : Nat) - rst b T B (n + m) := by
  induction m with
  | zero =>
    have : rndL b T B n 0 = [] := by unfold rndL; rw [List.drop_of_length_le (by rw [digL_len]; omega)]
    rw [this]; simp [numI]
  | succ m ih =>
    rw [rndL_succ, numI_snoc, Int.add_mul, Int.mul_assoc, ih, Int.mul_sub]
    have e := dig_split (b := b) hT (n + m)
    have e' : (rst b T B (n + m) : Int) * b = B * dig b T B (n + m) + rst b T B (n + m + 1) := by exact_mod_cast e
    rw [Int.mul_comm (dig b T B (n + m) : Int), Int.mul_comm (b : Int) (rst b T B (n + m) : Int), e']
    have e2 : ((b ^ (m + 1) : Nat) : Int) = (b ^ m : Nat) * (b : Int) := by rw [Nat.pow_succ]; simp
    have e4 : (rst b T B n : Int) * ((b ^ m : Nat) * (b : Int)) = (b : Int) * ((rst b T B n : Int) * (b ^ m : Nat)) := by rw [← Int.mul_assoc, Int.mul_comm]
    rw [e2, e4]
    have e3 : rst b T B (n + (m + 1)) = rst b T B (n + m + 1) := rfl
    rw [e3]
    omega

/-- Tops and bottoms of one value with the same lowest terms. -/
theorem low_of {T B X Y : Nat} (hg : Nat.gcd T B = 1) (hY : 0 < Y) (hB : 0 < B) (h : X * B = T * Y) : X / Nat.gcd X Y = T ∧ Y / Nat.gcd X Y = B := by
  have hc : Nat.Coprime B T := by unfold Nat.Coprime; rw [Nat.gcd_comm]; exact hg
  have hd : B ∣ Y := hc.dvd_of_dvd_mul_left (Nat.dvd_trans (Nat.dvd_mul_left B X) (by rw [h]; exact Nat.dvd_refl _))
  obtain ⟨k, rfl⟩ := hd
  have hk : 0 < k := Nat.pos_of_mul_pos_left (a := B) hY
  have hX : X = T * k := by
    have : X * B = T * k * B := by rw [h]; ac_rfl
    exact Nat.eq_of_mul_eq_mul_right hB this
  subst hX
  have e : Nat.gcd (T * k) (B * k) = k := by rw [Nat.gcd_mul_right, hg, Nat.one_mul]
  rw [e]
  exact ⟨Nat.mul_div_cancel _ hk, Nat.mul_div_cancel _ hk⟩

end Go.Proofs.Ytbgpdhnfaacenac
