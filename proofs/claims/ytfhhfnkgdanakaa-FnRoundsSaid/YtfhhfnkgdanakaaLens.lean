/-
  The model's lengths: the place of the first rest that comes again, found with a row of marks.
-/
import Derived.Test.YtfhhfnkgdanakaaTold
import Derived.Test.YtfhhfnkgdanakaaRow
import Derived.Test.YtfhhfnkgdanakaaNext
import Derived.Deep.OwnRows
import Derived.RegionTactic
namespace Go.Proofs.Ytfhhfnkgdanakaa
open Go.RowKit

theorem ret_int2 {k : IntKind} {a b c d : Int} (h : a = b) (h' : c = d) : Ending.returned (.tuple #[.int k a, .int k c]) = .returned (.tuple #[.int k b, .int k d]) := by rw [h, h']

/-- The marks behind k rests. -/
structure Seen (b T B k : Nat) (zs : List Int) : Prop where
  len : zs.length = B
  hit : ∀ j, j < k → zs[rst b T B j]?.getD 0 = j + 1
  miss : ∀ x, x < B → (∀ j, j < k → rst b T B j ≠ x) → zs[x]?.getD 0 = 0
  ne : ∀ i j, i < j → j < k → rst b T B i ≠ rst b T B j

theorem Seen.zero (b T B : Nat) : Seen b T B 0 (List.replicate B 0) where
  len := by simp
  hit j hj := by omega
  miss x hx _ := by simp [hx]
  ne i j _ hj := by omega

theorem Seen.step {b T B k : Nat} {zs : List Int} (hT : T < B) (h : Seen b T B k zs) (hno : ∀ j, j < k → rst b T B j ≠ rst b T B k) : Seen b T B (k + 1) (zs.set (rst b T B k) (k + 1)) := by
  have hl := rst_lt (b := b) hT k
  refine ⟨by rw [List.length_set]; exact h.len, fun j hj => ?_, fun x hx hx2 => ?_, fun i j hij hj => ?_⟩
  · rcases Nat.lt_or_ge j k with hlt | hge
    · rw [List.getElem?_set_ne (fun e => hno j hlt e.symm)]; exact h.hit j hlt
    · obtain rfl : j = k := by omega
      rw [List.getElem?_set_self (by rw [h.len]; exact hl)]; rfl
  · rw [List.getElem?_set_ne (hx2 k (by omega))]
    exact h.miss x hx (fun j hj => hx2 j (by omega))
  · rcases Nat.lt_or_ge j k with hlt | hge
    · exact h.ne i j hij hlt
    · obtain rfl : j = k := by omega
      exact hno i hij

theorem Seen.le {b T B k : Nat} {zs : List Int} (hT : T < B) (h : Seen b T B k zs) : k ≤ B := php B k (rst b T B) (fun i _ => rst_lt hT i) h.ne


end Go.Proofs.Ytfhhfnkgdanakaa
