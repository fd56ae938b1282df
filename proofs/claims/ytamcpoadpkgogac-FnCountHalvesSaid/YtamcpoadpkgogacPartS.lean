/-
  Parts of rounds: the model's side.
-/
import Derived.Test.YtamcpoadpkgogacPartI
import Derived.Test.YtamcpoadpkgogacGRnd
import Derived.Test.YtamcpoadpkgogacShift
import Derived.Maps.AppendAt
import Derived.Test.YtamcpoadpkgogacPMath
import Derived.Deep.QuietTactic
import Derived.BigQuiet
namespace Go.Proofs.Ytamcpoadpkgogac
open Go.RowKit


theorem owns_later {n₀ k : Nat} {W W' : World} {T : TypeId} {v : Value} {xs : List Value} (h : W.ownsRow n₀ T 1 v k xs) (hb : Below W.heap.size W W') : W'.ownsRow n₀ T 1 v k xs := by
  refine h.kept (row := none) (grown_below hb) ?_
  cases v.ownBlock <;> simp

theorem Prt.place {b T B k m i : Nat} (h : Prt b T B k m) : ((i : Int) * m) / k = ((i * (m / k) : Nat) : Int) := by
  have h1 := h.div.1
  have h2 : i * m / k = i * (m / k) := by rw [Nat.mul_div_assoc i (Nat.dvd_of_mod_eq_zero h.dvd)]
  rw [← h2]; rfl

theorem Prt.place_lt {b T B k m i : Nat} (h : Prt b T B k m) (hi : i < k) : i * (m / k) < m ∧ (i + 1) * (m / k) ≤ m := by
  have h1 := h.div.1
  have h2 := h.div.2.1
  have h3 : (i + 1) * (m / k) ≤ k * (m / k) := Nat.mul_le_mul_right _ hi
  rw [Nat.succ_mul] at h3 ⊢
  omega



/-- The sum of a list. -/
def sumL (L : List Int) : Int := L.foldl (· + ·) 0
theorem sumL_snoc (L : List Int) (x : Int) : sumL (L ++ [x]) = sumL L + x := by unfold sumL; rw [List.foldl_append]; rfl
theorem sumL_prs (b T B j : Nat) : ∀ k, sumL (prsL b T B k j) = (prS b T B k j : Int) := by
  intro k
  induction k with
  | zero => rfl
  | succ k ih =>
    rw [prsL_succ, sumL_snoc, ih]
    show (prS b T B k j : Int) + (rst b T B (k * j) : Int) = ((prS b T B k j + rst b T B (k * j) : Nat) : Int)
    omega



theorem rndL_zero (b T B m : Nat) : rndL b T B 0 m = digL b T B m := by unfold rndL; rw [List.drop_zero, Nat.zero_add]


end Go.Proofs.Ytamcpoadpkgogac
