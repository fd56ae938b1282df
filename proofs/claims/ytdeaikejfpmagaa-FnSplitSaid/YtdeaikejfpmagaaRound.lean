/-
  The digits of the round: the model's.
-/
import Derived.Test.YtdeaikejfpmagaaDigits
namespace Go.Proofs.Ytdeaikejfpmagaa
open Go.RowKit

/-- The digits of the round. -/
def rndL (b T B n m : Nat) : List Int := (digL b T B (n + m)).drop n

theorem rndL_len (b T B n m : Nat) : (rndL b T B n m).length = m := by simp [rndL, digL_len]

theorem rndL_get (b T B n m k : Nat) (hk : k < m) : (rndL b T B n m)[k]?.getD 0 = (dig b T B (n + k) : Int) := by
  unfold rndL digL
  rw [List.getElem?_drop, List.getElem?_map, List.getElem?_range (by omega)]
  rfl

theorem digL_frT {b T B : Nat} (hT : T < B) (hg : Nat.gcd T B = 1) (n m : Nat) : digL b (frT b T B n).1 (frT b T B n).2 m = (digL b T B (n + m)).drop n := by
  apply List.ext_getElem?
  intro i
  unfold digL
  rw [List.getElem?_drop, List.getElem?_map, List.getElem?_map]
  by_cases hi : i < m
  · rw [List.getElem?_range hi, List.getElem?_range (by omega)]
    simp [dig_add hT hg]
  · rw [List.getElem?_eq_none (by simp; omega), List.getElem?_eq_none (by simp; omega)]
    rfl


end Go.Proofs.Ytdeaikejfpmagaa
