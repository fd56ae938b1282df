/-
  The model's digits: a row that grows digit by digit.
-/
import Derived.Test.YtdeaikejfpmagaaLens
namespace Go.Proofs.Ytdeaikejfpmagaa
open Go.RowKit

/-- A row under way: a counter, the digits so far. -/
def digL (b T B k : Nat) : List Int := (List.range k).map fun i => (dig b T B i : Int)

theorem digL_succ (b T B k : Nat) : digL b T B (k + 1) = digL b T B k ++ [(dig b T B k : Int)] := by
  unfold digL; rw [List.range_succ, List.map_append]; rfl
theorem digL_len (b T B k : Nat) : (digL b T B k).length = k := by simp [digL]
theorem digL_get (b T B K k : Nat) (hk : k < K) : (digL b T B K)[k]?.getD 0 = (dig b T B k : Int) := by
  unfold digL
  rw [List.getElem?_map, List.getElem?_range hk]
  rfl


end Go.Proofs.Ytdeaikejfpmagaa
