/-
  The list of rests: mathematics alone.
-/
import Derived.Test.YtfhhfnkgdanakaaNum
namespace Go.Proofs.Ytfhhfnkgdanakaa

def rstL (b T B k : Nat) : List Int := (List.range k).map fun i => (rst b T B i : Int)

theorem rstL_succ (b T B k : Nat) : rstL b T B (k + 1) = rstL b T B k ++ [(rst b T B k : Int)] := by
  unfold rstL; rw [List.range_succ, List.map_append]; rfl
theorem rstL_len (b T B k : Nat) : (rstL b T B k).length = k := by simp [rstL]
theorem rstL_get (b T B K k : Nat) (hk : k < K) : (rstL b T B K)[k]?.getD 0 = (rst b T B k : Int) := by
  unfold rstL
  rw [List.getElem?_map, List.getElem?_range hk]
  rfl

end Go.Proofs.Ytfhhfnkgdanakaa
