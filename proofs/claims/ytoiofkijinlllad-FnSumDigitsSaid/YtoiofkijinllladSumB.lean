/-
  Chapter 6: both sides answer one thing, where the program answers what its sentence says.
-/
import Derived.Test.YtoiofkijinllladSumI
import Derived.Test.YtoiofkijinllladSumS
namespace Go.Proofs.Ytoiofkijinlllad
open Go.RowKit

theorem fin_tms {t n k : Int} (h : (finB t n && decide (0 ≤ k ∧ k ≤ 1000)) = true) : ∃ T B k' : Nat, t = T ∧ n = B ∧ k = k' ∧ FOk T B ∧ k' ≤ 1000 := by
  rw [Bool.and_eq_true, decide_eq_true_eq] at h
  obtain ⟨T, B, rfl, rfl, hf⟩ := fin_nat h.1
  obtain ⟨k', rfl⟩ := Int.eq_ofNat_of_zero_le h.2.1
  exact ⟨T, B, k', rfl, rfl, rfl, hf, by omega⟩





theorem bothSumLengths (H : ImSumLengths) (b t n u m : Int) : ∃ x p, GivesI 6 #[.int .i64 b, .agg #[.int .i64 t, .int .i64 n], .agg #[.int .i64 u, .int .i64 m]] x p ∧ GivesI 5 #[.int .i64 b, .agg #[.int .i64 t, .int .i64 n], .agg #[.int .i64 u, .int .i64 m]] x p := by
  cases h : tldB b t n && tldB b u m with
  | false => exact ⟨0, false, specSumLengths_no b t n u m h, H.1 b t n u m h⟩
  | true =>
    obtain ⟨b, T, B, U, C, rfl, rfl, rfl, rfl, rfl, h3, h4, h1, h2⟩ := tld_and h
    obtain ⟨n, m, hm⟩ := len_some (b := b) h1.lt h1.cop
    obtain ⟨i, k, hk⟩ := len_some (b := b) h2.lt h2.cop
    exact ⟨_, true, specSumLengths_yes b T B U C n m i k h3 h4 h1 h2 hm hk, H.2 b T B U C n m i k h3 h4 h1 h2 hm hk⟩


end Go.Proofs.Ytoiofkijinlllad
