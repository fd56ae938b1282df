/-
  Chapter 5: both sides answer one thing, where the program answers what its sentence says.
-/
import Derived.Test.YtoiofkijinlllabTurnI
import Derived.Test.YtoiofkijinlllabTurnS
import Derived.Test.YtoiofkijinlllabTurnU
namespace Go.Proofs.Ytoiofkijinlllab
open Go.RowKit

theorem rng_and {b k : Int} {d : List Int} {m : Int} (h : (rngB b d && decide (0 ≤ k ∧ k ≤ m)) = true) : ∃ b' k' : Nat, b = b' ∧ k = k' ∧ Rng b' d ∧ (k' : Int) ≤ m := by
  rw [Bool.and_eq_true, decide_eq_true_eq] at h
  obtain ⟨b', rfl, hr⟩ := rng_nat h.1
  obtain ⟨k', rfl⟩ := Int.eq_ofNat_of_zero_le h.2.1
  exact ⟨b', k', rfl, rfl, hr, h.2.2⟩








end Go.Proofs.Ytoiofkijinlllab
