/-
  Chapter 8: both sides answer one thing, where the program answers what its sentence says.
-/
import Derived.Test.YtbgpdhnfaacenadRgtI
import Derived.Test.YtbgpdhnfaacenadRgtS
import Derived.Test.YtbgpdhnfaacenadRgtT
namespace Go.Proofs.Ytbgpdhnfaacenad
open Go.RowKit

theorem vlk_some {b t n k : Int} {K : Nat} (h : (vlB b t n && decide (0 ≤ k ∧ k ≤ (K : Int))) = true) : ∃ b' B k' : Nat, b = b' ∧ n = B ∧ k = k' ∧ k' ≤ K ∧ Rgv b' B t := by
  rw [Bool.and_eq_true, decide_eq_true_eq] at h
  obtain ⟨h1, h2, h3⟩ := h
  obtain ⟨b', B, rfl, rfl, hv⟩ := vl_some h1
  obtain ⟨k', rfl⟩ := Int.eq_ofNat_of_zero_le h2
  exact ⟨b', B, k', rfl, rfl, rfl, by omega, hv⟩





theorem bothRightNegative (H : ImRightNegative) (b t n : Int) : ∃ xs p, xs.length ≤ 1000 ∧ Gives 6 #[.int .i64 b, .agg #[.int .i64 t, .int .i64 n]] xs p ∧ Gives 5 #[.int .i64 b, .agg #[.int .i64 t, .int .i64 n]] xs p := by
  cases h : ngB b t n with
  | false => exact ⟨[], false, by simp, specRightNegative_no b t n h, H.1 b t n h⟩
  | true =>
    obtain ⟨b, T, B, m, rfl, rfl, rfl, hf⟩ := ng_some h
    have := hf.len.le hf.lt; have := hf.r.B2
    exact ⟨_, true, by rw [bkL_len]; omega, specRightNegative_yes b T B m hf, H.2 b T B m hf⟩


end Go.Proofs.Ytbgpdhnfaacenad
