/-
  Two rings added round: the model's side.
-/
import Derived.Test.YtoiofkijinllladSumT
namespace Go.Proofs.Ytoiofkijinlllad
open Go.RowKit

/-- What the sum's list holds while the first i digits are still to come. -/
def adZ (b : Nat) (c : Int) (Z X Y : List Int) (i : Nat) : List Int := Z.take i ++ (adC b c (X.drop i) (Y.drop i)).2

theorem adC_step {b : Nat} {c : Int} {X Y : List Int} {i : Nat} (hx : i < X.length) (hy : i < Y.length) :
    adC b c (X.drop i) (Y.drop i) = ((X[i]?.getD 0 + Y[i]?.getD 0 + (adC b c (X.drop (i + 1)) (Y.drop (i + 1))).1) / b,
      (X[i]?.getD 0 + Y[i]?.getD 0 + (adC b c (X.drop (i + 1)) (Y.drop (i + 1))).1) % b :: (adC b c (X.drop (i + 1)) (Y.drop (i + 1))).2) := by
  rw [List.drop_eq_getElem_cons hx, List.drop_eq_getElem_cons hy, List.getElem?_eq_getElem hx, List.getElem?_eq_getElem hy]
  rfl

theorem adZ_set {b : Nat} {c : Int} {Z X Y : List Int} {i : Nat} (hz : i < Z.length) (hx : i < X.length) (hy : i < Y.length) :
    (adZ b c Z X Y (i + 1)).set i ((X[i]?.getD 0 + Y[i]?.getD 0 + (adC b c (X.drop (i + 1)) (Y.drop (i + 1))).1) % b) = adZ b c Z X Y i := by
  unfold adZ
  rw [adC_step hx hy, List.take_succ_eq_append_getElem hz, List.append_assoc]
  rw [List.set_append_right _ _ (by rw [List.length_take]; omega)]
  congr 1
  have : i - (Z.take i).length = 0 := by rw [List.length_take]; omega
  rw [this]
  rfl

theorem adZ_len {b : Nat} {c : Int} {Z X Y : List Int} {i : Nat} (hz : Z.length = X.length) (hy : X.length = Y.length) (hi : i ≤ X.length) : (adZ b c Z X Y i).length = X.length := by
  unfold adZ
  rw [List.length_append, adC_len b c (by rw [List.length_drop, List.length_drop, hy]), List.length_take, List.length_drop]
  omega

theorem adZ_end {b : Nat} {c : Int} {Z X Y : List Int} (hz : Z.length = X.length) (hy : X.length = Y.length) : adZ b c Z X Y X.length = Z := by
  unfold adZ
  rw [List.take_of_length_le (by omega), List.drop_eq_nil_of_le (Nat.le_refl _), List.drop_eq_nil_of_le (by omega)]
  show Z ++ [] = Z
  rw [List.append_nil]

theorem adZ_zero (b : Nat) (c : Int) (Z X Y : List Int) : adZ b c Z X Y 0 = (adC b c X Y).2 := by unfold adZ; simp

theorem adZ_get {b : Nat} {c : Int} {Z X Y : List Int} {i : Nat} (hz : i < Z.length) : (adZ b c Z X Y (i + 1))[i]?.getD 0 = Z[i]?.getD 0 := by
  unfold adZ
  rw [List.getElem?_append_left (by rw [List.length_take]; omega), List.getElem?_take_of_lt (by omega)]

theorem row_slc' {W : World} {g n₀ : Nat} {zs : List Int} (h : RowI W g zs) (hg : n₀ ≤ g) (hm : zs.length ≤ maxLen) : Slc n₀ W (.slice (some ⟨g, 0, none⟩) zs.length zs.length) zs := by
  obtain ⟨cur, h1, h2⟩ := h
  have hl : cur.size = zs.length := by rw [← Array.length_toList, h2, List.length_map]
  refine .inr ⟨g, 0, zs.length, cur, rfl, hg, h1, Nat.le_refl _, hm, by omega, ?_⟩
  rw [List.drop_zero, h2]
  exact List.take_of_length_le (by simp)

/-- All of the first ones are nines. -/
def ninB (L : List Int) (m : Int) (i : Nat) : Bool := decide (∀ j, j < i → L[j]?.getD 0 = m)
theorem ninB_zero (L : List Int) (m : Int) : ninB L m 0 = true := decide_eq_true fun j h => by omega
theorem ninB_succ (L : List Int) (m : Int) (i : Nat) : ninB L m (i + 1) = (ninB L m i && (L[i]?.getD 0 == m)) := by
  by_cases h1 : ninB L m i = true
  · rw [h1, Bool.true_and]
    have h1' := of_decide_eq_true h1
    by_cases h2 : L[i]?.getD 0 = m
    · rw [beq_iff_eq.2 h2]
      refine decide_eq_true fun j hj => ?_
      by_cases hji : j = i
      · subst hji; exact h2
      · exact h1' j (by omega)
    · rw [beq_eq_false_iff_ne.2 h2]
      exact decide_eq_false fun h => h2 (h i (by omega))
  · rw [Bool.not_eq_true] at h1
    rw [h1, Bool.false_and]
    exact decide_eq_false fun h => of_decide_eq_false h1 fun j hj => h j (by omega)
theorem ninB_all (L : List Int) (m : Int) : ninB L m L.length = decide (L = List.replicate L.length m) := by
  by_cases h : L = List.replicate L.length m
  · rw [decide_eq_true h]
    refine decide_eq_true fun j hj => ?_
    conv => lhs; rw [h]
    rw [List.getElem?_replicate, if_pos hj]; rfl
  · rw [decide_eq_false h]
    refine decide_eq_false fun h' => h ?_
    refine List.eq_replicate_iff.2 ⟨rfl, fun z hz => ?_⟩
    obtain ⟨j, hj, e⟩ := List.getElem_of_mem hz
    have := h' j hj
    rw [List.getElem?_eq_getElem hj, e] at this
    exact this


end Go.Proofs.Ytoiofkijinlllad
