/-
  Chapter 8: both sides answer one thing, where the program answers what its sentence says.
-/
import Derived.Test.YtbgpdhnfaacenabRgtI
import Derived.Test.YtbgpdhnfaacenabRgtS
import Derived.Test.YtbgpdhnfaacenabRgtT
namespace Go.Proofs.Ytbgpdhnfaacenab
open Go.RowKit

theorem vlk_some {b t n k : Int} {K : Nat} (h : (vlB b t n && decide (0 ≤ k ∧ k ≤ (K : Int))) = true) : ∃ b' B k' : Nat, b = b' ∧ n = B ∧ k = k' ∧ k' ≤ K ∧ Rgv b' B t := by
  rw [Bool.and_eq_true, decide_eq_true_eq] at h
  obtain ⟨h1, h2, h3⟩ := h
  obtain ⟨b', B, rfl, rfl, hv⟩ := vl_some h1
  obtain ⟨k', rfl⟩ := Int.eq_ofNat_of_zero_le h2
  exact ⟨b', B, k', rfl, rfl, rfl, by omega, hv⟩

theorem bothRightDigits (H : ImRightDigits) (b t n k : Int) : ∃ xs p, xs.length ≤ 1000 ∧ Gives 17 #[.int .i64 b, .int .i64 t, .int .i64 n, .int .i64 k] xs p ∧ Gives 16 #[.int .i64 b, .int .i64 t, .int .i64 n, .int .i64 k] xs p := by
  cases h : (vlB b t n && decide (0 ≤ k ∧ k ≤ 200)) with
  | false => exact ⟨[], false, by simp, specRightDigits_no b t n k h, H.1 b t n k h⟩
  | true =>
    obtain ⟨b, B, k, rfl, rfl, rfl, hk, hv⟩ := vlk_some (K := 200) h
    exact ⟨_, true, by rw [rgL_len]; omega, specRightDigits_yes b B k t hv hk, H.2 b B k t hv hk⟩

theorem bothRightTops (H : ImRightTops) (b t n k : Int) : ∃ xs p, xs.length ≤ 1000 ∧ Gives 21 #[.int .i64 b, .int .i64 t, .int .i64 n, .int .i64 k] xs p ∧ Gives 19 #[.int .i64 b, .int .i64 t, .int .i64 n, .int .i64 k] xs p := by
  cases h : (vlB b t n && decide (0 ≤ k ∧ k ≤ 200)) with
  | false => exact ⟨[], false, by simp, specRightTops_no b t n k h, H.1 b t n k h⟩
  | true =>
    obtain ⟨b, B, k, rfl, rfl, rfl, hk, hv⟩ := vlk_some (K := 200) h
    exact ⟨_, true, by rw [tpL_len]; omega, specRightTops_yes b B k t hv hk, H.2 b B k t hv hk⟩



theorem bothRightNegative (H : ImRightNegative) (b t n : Int) : ∃ xs p, xs.length ≤ 1000 ∧ Gives 7 #[.int .i64 b, .agg #[.int .i64 t, .int .i64 n]] xs p ∧ Gives 9 #[.int .i64 b, .agg #[.int .i64 t, .int .i64 n]] xs p := by
  cases h : ngB b t n with
  | false => exact ⟨[], false, by simp, specRightNegative_no b t n h, H.1 b t n h⟩
  | true =>
    obtain ⟨b, T, B, m, rfl, rfl, rfl, hf⟩ := ng_some h
    have := hf.len.le hf.lt; have := hf.r.B2
    exact ⟨_, true, by rw [bkL_len]; omega, specRightNegative_yes b T B m hf, H.2 b T B m hf⟩

theorem bothRightWhole (H : ImRightWhole) (b t n : Int) : ∃ p, GivesB 13 #[.int .i64 b, .int .i64 t, .int .i64 n] p ∧ GivesB 14 #[.int .i64 b, .int .i64 t, .int .i64 n] p := by
  cases h : vlB b t n with
  | false => exact ⟨false, specRightWhole_no b t n h, H.1 b t n h⟩
  | true =>
    obtain ⟨b, B, rfl, rfl, hv⟩ := vl_some h
    exact ⟨_, specRightWhole_yes b B t hv, H.2 b B t hv⟩

end Go.Proofs.Ytbgpdhnfaacenab
