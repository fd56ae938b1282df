/-
  Rings: the model's side: products.
-/
import Derived.Test.YtamcpoadpkgogadTurnS
import Derived.Test.YtamcpoadpkgogadRow
import Derived.Test.YtamcpoadpkgogadEqL
namespace Go.Proofs.Ytamcpoadpkgogad
open Go.RowKit

/-- What the product's list holds while the first i digits are still to come. -/
def timZ (b k : Nat) (d : List Int) (i : Nat) : List Int := List.replicate i 0 ++ (tim b k (d.drop i)).2

theorem timZ_set {b k i : Nat} {d : List Int} (hi : i < d.length) :
    (timZ b k d (i + 1)).set i (((tim b k (d.drop (i + 1))).1 + (d[i]?.getD 0) * k) % b) = timZ b k d i ∧
    (tim b k (d.drop i)).1 = ((tim b k (d.drop (i + 1))).1 + (d[i]?.getD 0) * k) / b := by
  have hd : d.drop i = d[i]?.getD 0 :: d.drop (i + 1) := by
    rw [List.drop_eq_getElem_cons hi, List.getElem?_eq_getElem hi]; rfl
  unfold timZ
  rw [hd]
  constructor
  · show (List.replicate (i + 1) 0 ++ (tim b k (d.drop (i + 1))).2).set i _ = List.replicate i 0 ++ (_ :: (tim b k (d.drop (i + 1))).2)
    simp [List.replicate_succ']
  · rfl

theorem timZ_len {b k i : Nat} {d : List Int} (hi : i ≤ d.length) : (timZ b k d i).length = d.length := by
  unfold timZ; rw [List.length_append, tim_len, List.length_replicate, List.length_drop]; omega

theorem row_slc {W : World} {g n₀ : Nat} {zs : List Int} (h : RowI W g zs) (hg : n₀ ≤ g) (hm : zs.length ≤ maxLen) : Slc n₀ W (.slice (some ⟨g, 0, none⟩) zs.length zs.length) zs := by
  obtain ⟨cur, h1, h2⟩ := h
  have hl : cur.size = zs.length := by rw [← Array.length_toList, h2, List.length_map]
  refine .inr ⟨g, 0, zs.length, cur, rfl, hg, h1, Nat.le_refl _, hm, by omega, ?_⟩
  rw [List.drop_zero, h2]
  exact List.take_of_length_le (by simp)




end Go.Proofs.Ytamcpoadpkgogad
