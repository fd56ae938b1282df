/-
  Chapter 9: a script is lines: what its text is cut into.
-/
import Derived.Test.YtmpbbflolbakhaaGreatDoorCmdR
namespace Go.Proofs.YtmpbbflolbakhaaGreatDoor
open Go.RowKit

/-- Lines, each with a newline behind it. -/
def textOf (L : List (List UInt8)) : List UInt8 := (L.map fun l => l ++ [10]).flatten
theorem textOf_cons (l : List UInt8) (L : List (List UInt8)) : textOf (l :: L) = l ++ 10 :: textOf L := by simp [textOf]
theorem textOf_snoc (l : List UInt8) (L : List (List UInt8)) : textOf (L ++ [l]) = textOf L ++ (l ++ [10]) := by simp [textOf]
theorem index_line (l r : List UInt8) (h : (10 : UInt8) ∉ l) : Lib.index (l ++ 10 :: r) [10] = l.length := by
  refine Lib.index_first (i := l.length) (by simp) (by simp [Lib.occAt, List.isPrefixOf]) (fun j hj => ?_)
  unfold Lib.occAt
  rw [List.drop_append_of_le_length (by omega)]
  have : (10 : UInt8) ≠ l[j] := fun e => h (e ▸ List.getElem_mem hj)
  rw [show List.drop j l = l[j] :: List.drop (j + 1) l from List.drop_eq_getElem_cons hj]
  show ((10 : UInt8) == l[j] && _) = false
  rw [beq_eq_false_iff_ne.2 this]; rfl
theorem split_text : ∀ L : List (List UInt8), (∀ l ∈ L, (10 : UInt8) ∉ l) → Lib.splitK [10] 0 L.length (textOf L) = L ++ [[]]
  | [], _ => rfl
  | l :: L, h => by
    have hi := index_line l (textOf L) (h l (by simp))
    have ih := split_text L (fun x hx => h x (by simp [hx]))
    rw [textOf_cons, List.length_cons, Lib.splitK, hi, if_neg (fun e => by have := beq_iff_eq.1 e; omega)]
    have e1 : ((l.length : Int).toNat + 0) = l.length := by omega
    have e2 : (l ++ 10 :: textOf L).drop ((l.length : Int).toNat + [(10 : UInt8)].length) = textOf L := by
      rw [show (l.length : Int).toNat + [(10 : UInt8)].length = l.length + 1 by simp, List.drop_append]
      simp
    rw [e1, e2, ih, List.take_left]
    rfl
theorem count_text : ∀ L : List (List UInt8), (∀ l ∈ L, (10 : UInt8) ∉ l) → Lib.count (textOf L) [10] = L.length
  | [], _ => by rw [Lib.count_one]; rfl
  | l :: L, h => by
    have ih := count_text L (fun x hx => h x (by simp [hx]))
    rw [Lib.count_one] at ih ⊢
    rw [textOf_cons, List.count_append, List.count_cons_self, List.count_eq_zero.2 (h l (by simp)), ih, List.length_cons]
    omega
theorem splitB_text (L : List (List UInt8)) (h : ∀ l ∈ L, (10 : UInt8) ∉ l) : (Lib.splitB ⟨#[10]⟩ 0 L.length ⟨(textOf L).toArray⟩).map Value.string = (L ++ [[]]).map fun l : List UInt8 => Value.string ⟨l.toArray⟩ := by
  have hd := Lib.splitB_data ⟨#[10]⟩ 0 L.length ⟨(textOf L).toArray⟩
  have hd' : (Lib.splitB ⟨#[10]⟩ 0 L.length ⟨(textOf L).toArray⟩).map (·.data.toList) = L ++ [[]] := hd.trans (split_text L h)
  rw [← hd', List.map_map]
  rfl
theorem splitLines_any (L : List (List UInt8)) (h : ∀ l ∈ L, (10 : UInt8) ∉ l) (hl : (textOf L).length ≤ 1000) (m : Int) (W : World) (hm : W.cell? ⟨0, 0, none⟩ = some (.int .i64 m)) :
    Calls Tryz.prog 20 #[.string ⟨(textOf L).toArray⟩, .string ⟨#[10]⟩] W fun e w' => e = .returned (.slice (some ⟨W.heap.size, 0, none⟩) (L.length + 1) (L.length + 1)) ∧ w' = W.alloc (.cells ((L ++ [[]]).map fun l : List UInt8 => Value.string ⟨l.toArray⟩).toArray 9) := by
  have hc : Lib.countB ⟨(textOf L).toArray⟩ ⟨#[10]⟩ = L.length := count_text L h
  have hs := Tryz.strings_Split ⟨(textOf L).toArray⟩ ⟨#[10]⟩ m W (by show (textOf L).toArray.size < _; simp; omega) hm (by show 1 ≤ (#[10] : Array UInt8).size; simp)
  rw [hc, splitB_text L h] at hs
  exact hs

end Go.Proofs.YtmpbbflolbakhaaGreatDoor
