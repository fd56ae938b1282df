/-
  Chapter 8: both sides answer one thing, where the program answers what its sentence says.
-/
import Derived.Test.YtbgpdhnfaacenacRgtI
import Derived.Test.YtbgpdhnfaacenacRgtS
import Derived.Test.YtbgpdhnfaacenacRgtT
namespace Go.Proofs.Ytbgpdhnfaacenac
open Go.RowKit

theorem vlk_some {b t n k : Int} {K : Nat} (h : (vlB b t n && decide (0 ≤ k ∧ k ≤ (K : Int))) = true) : ∃ b' B k' : Nat, b = b' ∧ n = B ∧ k = k' ∧ k' ≤ K ∧ Rgv b' B t := by
  rw [Bool.and_eq_true, decide_eq_true_eq] at h
  obtain ⟨h1, h2, h3⟩ := h
  obtain ⟨b', B, rfl, rfl, hv⟩ := vl_some h1
  obtain ⟨k', rfl⟩ := Int.eq_ofNat_of_zero_le h2
  exact ⟨b', B, k', rfl, rfl, rfl, by omega, hv⟩

theorem bothRightDigits (H : ImRightDigits) (b t n k : Int) : ∃ xs p, xs.length ≤ 1000 ∧ Gives 31 #[.int .i64 b, .int .i64 t, .int .i64 n, .int .i64 k] xs p ∧ Gives 10 #[.int .i64 b, .int .i64 t, .int .i64 n, .int .i64 k] xs p := by
  cases h : (vlB b t n && decide (0 ≤ k ∧ k ≤ 200)) with
  | false => exact ⟨[], false, by simp, specRightDigits_no b t n k h, H.1 b t n k h⟩
  | true =>
    obtain ⟨b, B, k, rfl, rfl, rfl, hk, hv⟩ := vlk_some (K := 200) h
    exact ⟨_, true, by rw [rgL_len]; omega, specRightDigits_yes b B k t hv hk, H.2 b B k t hv hk⟩


theorem bothRightLengths (H : ImRightLengths) (b t n : Int) : ∃ x y p, GivesII 9 #[.int .i64 b, .int .i64 t, .int .i64 n] x y p ∧ GivesII 8 #[.int .i64 b, .int .i64 t, .int .i64 n] x y p := by
  cases h : vlB b t n with
  | false => exact ⟨0, 0, false, specRightLengths_no b t n h, H.1 b t n h⟩
  | true =>
    obtain ⟨b, B, rfl, rfl, hv⟩ := vl_some h
    obtain ⟨i, m, hm⟩ := hv.some
    exact ⟨_, _, true, specRightLengths_yes b B i m t hv hm, H.2 b B i m t hv hm⟩

theorem bothRightRest (H : ImRightRest) (b t n k : Int) : ∃ x p, GivesI 14 #[.int .i64 b, .int .i64 t, .int .i64 n, .int .i64 k] x p ∧ GivesI 13 #[.int .i64 b, .int .i64 t, .int .i64 n, .int .i64 k] x p := by
  cases h : (vlB b t n && decide (0 ≤ k ∧ k ≤ 4)) with
  | false => exact ⟨0, false, specRightRest_no b t n k h, H.1 b t n k h⟩
  | true =>
    obtain ⟨b, B, k, rfl, rfl, rfl, hk, hv⟩ := vlk_some (K := 4) h
    exact ⟨_, true, specRightRest_yes b B k t hv hk, H.2 b B k t hv hk⟩



end Go.Proofs.Ytbgpdhnfaacenac
