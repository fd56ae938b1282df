/-
  The model's lengths: the place of the first rest that comes again, found with a row of marks.
  The model's digits: a row that grows digit by digit.
  The digits of the round: the model's.
-/
import Derived.Test.YtbgpdhnfaacenaaTold
import Derived.Test.YtbgpdhnfaacenaaRow
import Derived.Test.YtbgpdhnfaacenaaNext
import Derived.Deep.OwnRows
import Derived.RegionTactic
namespace Go.Proofs.Ytbgpdhnfaacenaa
open Go.RowKit

theorem ret_int2 {k : IntKind} {a b c d : Int} (h : a = b) (h' : c = d) : Ending.returned (.tuple #[.int k a, .int k c]) = .returned (.tuple #[.int k b, .int k d]) := by rw [h, h']

/-- The marks behind k rests. -/
structure Seen (b T B k : Nat) (zs : List Int) : Prop where
  len : zs.length = B
  hit : ∀ j, j < k → zs[rst b T B j]?.getD 0 = j + 1
  miss : ∀ x, x < B → (∀ j, j < k → rst b T B j ≠ x) → zs[x]?.getD 0 = 0
  ne : ∀ i j, i < j → j < k → rst b T B i ≠ rst b T B j

theorem Seen.zero (b T B : Nat) : Seen b T B 0 (List.replicate B 0) where
  len := by simp
  hit j hj := by omega
  miss x hx _ := by simp [hx]
  ne i j _ hj := by omega

theorem Seen.step {b T B k : Nat} {zs : List Int} (hT : T < B) (h : Seen b T B k zs) (hno : ∀ j, j < k → rst b T B j ≠ rst b T B k) : Seen b T B (k + 1) (zs.set (rst b T B k) (k + 1)) := by
  have hl := rst_lt (b := b) hT k
  refine ⟨by rw [List.length_set]; exact h.len, fun j hj => ?_, fun x hx hx2 => ?_, fun i j hij hj => ?_⟩
  · rcases Nat.lt_or_ge j k with hlt | hge
    · rw [List.getElem?_set_ne (fun e => hno j hlt e.symm)]; exact h.hit j hlt
    · obtain rfl : j = k := by omega
      rw [List.getElem?_set_self (by rw [h.len]; exact hl)]; rfl
  · rw [List.getElem?_set_ne (hx2 k (by omega))]
    exact h.miss x hx (fun j hj => hx2 j (by omega))
  · rcases Nat.lt_or_ge j k with hlt | hge
    · exact h.ne i j hij hlt
    · obtain rfl : j = k := by omega
      exact hno i hij

theorem Seen.le {b T B k : Nat} {zs : List Int} (hT : T < B) (h : Seen b T B k zs) : k ≤ B := php B k (rst b T B) (fun i _ => rst_lt hT i) h.ne


end Go.Proofs.Ytbgpdhnfaacenaa

namespace Go.Proofs.Ytbgpdhnfaacenaa
open Go.RowKit

/-- A row under way: a counter, the digits so far. -/
def digL (b T B k : Nat) : List Int := (List.range k).map fun i => (dig b T B i : Int)

theorem digL_succ (b T B k : Nat) : digL b T B (k + 1) = digL b T B k ++ [(dig b T B k : Int)] := by
  unfold digL; rw [List.range_succ, List.map_append]; rfl
theorem digL_len (b T B k : Nat) : (digL b T B k).length = k := by simp [digL]
theorem digL_get (b T B K k : Nat) (hk : k < K) : (digL b T B K)[k]?.getD 0 = (dig b T B k : Int) := by
  unfold digL
  rw [List.getElem?_map, List.getElem?_range hk]
  rfl


end Go.Proofs.Ytbgpdhnfaacenaa

namespace Go.Proofs.Ytbgpdhnfaacenaa
open Go.RowKit

/-- The digits of the round. -/
def rndL (b T B n m : Nat) : List Int := (digL b T B (n + m)).drop n

theorem rndL_len (b T B n m : Nat) : (rndL b T B n m).length = m := by simp [rndL, digL_len]

theorem rndL_get (b T B n m k : Nat) (hk : k < m) : (rndL b T B n m)[k]?.getD 0 = (dig b T B (n + k) : Int) := by
  unfold rndL digL
  rw [List.getElem?_drop, List.getElem?_map, List.getElem?_range (by omega)]
  rfl

theorem digL_frT {b T B : Nat} (hT : T < B) (hg : Nat.gcd T B = 1) (n m : Nat) : digL b (frT b T B n).1 (frT b T B n).2 m = (digL b T B (n + m)).drop n := by
  apply List.ext_getElem?
  intro i
  unfold digL
  rw [List.getElem?_drop, List.getElem?_map, List.getElem?_map]
  by_cases hi : i < m
  · rw [List.getElem?_range hi, List.getElem?_range (by omega)]
    simp [dig_add hT hg]
  · rw [List.getElem?_eq_none (by simp; omega), List.getElem?_eq_none (by simp; omega)]
    rfl


end Go.Proofs.Ytbgpdhnfaacenaa
