/-
  Greatest differences of counts, longest pieces: the model's side.
-/
import Derived.Test.YtamcpoadpkgogabCntS
namespace Go.Proofs.Ytamcpoadpkgogab
open Go.RowKit

/-- The greatest difference so far: of all pairs with the first one below i, and those with i and the second one below k. -/
structure MxS (c : Nat → Nat) (b i k M : Nat) : Prop where
  le : ∀ x y, (x < i ∧ y < b) ∨ (x = i ∧ y < k) → c x ≤ c y + M
  at_ : M = 0 ∨ ∃ x y, ((x < i ∧ y < b) ∨ (x = i ∧ y < k)) ∧ c x = c y + M
theorem MxS.zero (c : Nat → Nat) (b : Nat) : MxS c b 0 0 0 := ⟨fun x y h => by omega, .inl rfl⟩
theorem MxS.step {c : Nat → Nat} {b i k M : Nat} (h : MxS c b i k M) : MxS c b i (k + 1) (Nat.max M (c i - c k)) := by
  have h1 : M ≤ Nat.max M (c i - c k) := Nat.le_max_left _ _
  have h2 : c i - c k ≤ Nat.max M (c i - c k) := Nat.le_max_right _ _
  refine ⟨fun x y hxy => ?_, ?_⟩
  · by_cases e : x = i ∧ y = k
    · obtain ⟨rfl, rfl⟩ := e; omega
    · have := h.le x y (by omega); omega
  · rcases Nat.le_total (c i - c k) M with h3 | h3
    · rw [show Nat.max M (c i - c k) = M from Nat.max_eq_left h3]
      rcases h.at_ with h4 | ⟨x, y, h4, h5⟩
      · exact .inl h4
      · exact .inr ⟨x, y, by omega, h5⟩
    · rw [show Nat.max M (c i - c k) = c i - c k from Nat.max_eq_right h3]
      by_cases h4 : c i - c k = 0
      · exact .inl h4
      · exact .inr ⟨i, k, by omega, by omega⟩
theorem MxS.next {c : Nat → Nat} {b i M : Nat} (h : MxS c b i b M) : MxS c b (i + 1) 0 M :=
  ⟨fun x y hxy => h.le x y (by omega), by
    rcases h.at_ with h1 | ⟨x, y, h1, h2⟩
    · exact .inl h1
    · exact .inr ⟨x, y, by omega, h2⟩⟩
theorem MxS.most {c : Nat → Nat} {b M : Nat} (hb : 0 < b) (h : MxS c b b 0 M) : IsMost c b M :=
  ⟨fun i k hi hk => h.le i k (.inl ⟨hi, hk⟩), by
    rcases h.at_ with rfl | ⟨x, y, h1, h2⟩
    · exact ⟨0, 0, hb, hb, rfl⟩
    · exact ⟨x, y, by omega, by omega, h2⟩⟩


theorem ret_intb {k : IntKind} {a b : Int} {p : Bool} (h : a = b) : Ending.returned (.tuple #[.int k a, .bool p]) = .returned (.tuple #[.int k b, .bool p]) := by rw [h]


end Go.Proofs.Ytamcpoadpkgogab
