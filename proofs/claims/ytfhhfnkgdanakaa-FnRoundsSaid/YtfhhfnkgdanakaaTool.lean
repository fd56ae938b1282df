/-
  What the laws do with lists: they mark them, and look whether the marks hold.
-/
import Derived.Test.YtfhhfnkgdanakaaEq
namespace Go.Proofs.Ytfhhfnkgdanakaa
open Go.RowKit

/-- k, k + 1, .. -/
def mk (k : Int) (n : Nat) : List Int := (List.range n).map fun i : Nat => k + i

theorem mk_len (k : Int) (n : Nat) : (mk k n).length = n := by simp [mk]
theorem mk_get (k : Int) (n i : Nat) (h : i < n) : (mk k n)[i]?.getD 0 = k + i := by
  unfold mk; rw [List.getElem?_map, List.getElem?_range h]; rfl

/-- A list whose first i numbers are marked. -/
def part (k : Int) (xs : List Int) (i : Nat) : List Int := mk k i ++ xs.drop i

theorem part_len (k : Int) (xs : List Int) (i : Nat) (h : i ≤ xs.length) : (part k xs i).length = xs.length := by simp [part, mk_len]; omega
theorem part_set (k : Int) (xs : List Int) (i : Nat) (h : i < xs.length) : (part k xs i).set i (k + i) = part k xs (i + 1) := by
  unfold part
  rw [List.set_append_right _ _ (by rw [mk_len]; exact Nat.le_refl _), mk_len, Nat.sub_self]
  have e : xs.drop i = xs[i] :: xs.drop (i + 1) := by rw [List.drop_eq_getElem_cons h]
  rw [e, List.set_cons_zero]
  unfold mk
  rw [List.range_succ, List.map_append, List.append_assoc]
  rfl
theorem part_all (k : Int) (xs : List Int) : part k xs xs.length = mk k xs.length := by simp [part]



end Go.Proofs.Ytfhhfnkgdanakaa
