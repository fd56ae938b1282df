/-
  Promises on beginnings and rounds, as mathematics: the last digits differ; a round's period.
-/
import Derived.Test.YtoepfemifmellaaPMath
import Derived.Test.YtoepfemifmellaaRound
namespace Go.Proofs.Ytoepfemifmellaa
open Go.RowKit

theorem dig_split {b T B : Nat} (_hT : T < B) (i : Nat) : rst b T B i * b = B * dig b T B i + rst b T B (i + 1) := by
  have : rst b T B (i + 1) = rst b T B i * b % B := rfl
  rw [this]; exact (Nat.div_add_mod _ _).symm

/-- The last digit of the beginning is not the last one of the round. -/
theorem last_ne {b T B n m : Nat} (hT : T < B) (h : IsLen b T B (n + 1) (m + 1)) (hb : 0 < b) : dig b T B n ≠ dig b T B (n + 1 + m) := by
  intro e
  have h1 := dig_split (b := b) hT n
  have h2 := dig_split (b := b) hT (n + 1 + m)
  have h3 : rst b T B (n + 1 + m + 1) = rst b T B (n + 1) := h.eq
  rw [← e, h3, ← h1] at h2
  exact h.ne n (n + 1 + m) (by omega) (by omega) (Nat.eq_of_mul_eq_mul_right hb h2.symm)

end Go.Proofs.Ytoepfemifmellaa
