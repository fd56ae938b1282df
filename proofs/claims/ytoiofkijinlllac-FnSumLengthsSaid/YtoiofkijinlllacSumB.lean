/-
  Chapter 6: both sides answer one thing, where the program answers what its sentence says.
-/
import Derived.Test.YtoiofkijinlllacSumI
import Derived.Test.YtoiofkijinlllacSumS
import Derived.Test.YtoiofkijinlllacSumT
namespace Go.Proofs.Ytoiofkijinlllac
open Go.RowKit

theorem fin_tms {t n k : Int} (h : (finB t n && decide (0 ≤ k ∧ k ≤ 1000)) = true) : ∃ T B k' : Nat, t = T ∧ n = B ∧ k = k' ∧ FOk T B ∧ k' ≤ 1000 := by
  rw [Bool.and_eq_true, decide_eq_true_eq] at h
  obtain ⟨T, B, rfl, rfl, hf⟩ := fin_nat h.1
  obtain ⟨k', rfl⟩ := Int.eq_ofNat_of_zero_le h.2.1
  exact ⟨T, B, k', rfl, rfl, rfl, hf, by omega⟩

theorem bothSumOf (H : ImSumOf) (t n u m : Int) : ∃ x y p, GivesF 9 #[.agg #[.int .i64 t, .int .i64 n], .agg #[.int .i64 u, .int .i64 m]] x y p ∧ GivesF 8 #[.agg #[.int .i64 t, .int .i64 n], .agg #[.int .i64 u, .int .i64 m]] x y p := by
  cases h : finB t n && finB u m with
  | false => exact ⟨0, 0, false, specSumOf_no t n u m h, H.1 t n u m h⟩
  | true =>
    obtain ⟨T, B, U, C, rfl, rfl, rfl, rfl, h1, h2⟩ := fin_and h
    by_cases hle : sumN' T B U C ≤ 1000
    · exact ⟨_, _, true, specSumOf_yes T B U C h1 h2 hle, H.2.2 T B U C h1 h2 hle⟩
    · exact ⟨0, 0, false, specSumOf_off T B U C h1 h2 (by omega), H.2.1 T B U C h1 h2 (by omega)⟩

theorem bothSumTimes (H : ImSumTimes) (t n k : Int) : ∃ x y p, GivesF 13 #[.agg #[.int .i64 t, .int .i64 n], .int .i64 k] x y p ∧ GivesF 12 #[.agg #[.int .i64 t, .int .i64 n], .int .i64 k] x y p := by
  cases h : finB t n && decide (0 ≤ k ∧ k ≤ 1000) with
  | false => exact ⟨0, 0, false, specSumTimes_no t n k h, H.1 t n k h⟩
  | true =>
    obtain ⟨T, B, k, rfl, rfl, rfl, h1, hk⟩ := fin_tms h
    exact ⟨_, _, true, specSumTimes_yes T B k h1 hk, H.2 T B k h1 hk⟩



theorem bothSumLengths (H : ImSumLengths) (b t n u m : Int) : ∃ x p, GivesI 20 #[.int .i64 b, .agg #[.int .i64 t, .int .i64 n], .agg #[.int .i64 u, .int .i64 m]] x p ∧ GivesI 19 #[.int .i64 b, .agg #[.int .i64 t, .int .i64 n], .agg #[.int .i64 u, .int .i64 m]] x p := by
  cases h : tldB b t n && tldB b u m with
  | false => exact ⟨0, false, specSumLengths_no b t n u m h, H.1 b t n u m h⟩
  | true =>
    obtain ⟨b, T, B, U, C, rfl, rfl, rfl, rfl, rfl, h3, h4, h1, h2⟩ := tld_and h
    obtain ⟨n, m, hm⟩ := len_some (b := b) h1.lt h1.cop
    obtain ⟨i, k, hk⟩ := len_some (b := b) h2.lt h2.cop
    exact ⟨_, true, specSumLengths_yes b T B U C n m i k h3 h4 h1 h2 hm hk, H.2 b T B U C n m i k h3 h4 h1 h2 hm hk⟩

theorem bothSumLess (H : ImSumLess) (b t n u m : Int) : ∃ p, GivesB 16 #[.int .i64 b, .agg #[.int .i64 t, .int .i64 n], .agg #[.int .i64 u, .int .i64 m]] p ∧ GivesB 15 #[.int .i64 b, .agg #[.int .i64 t, .int .i64 n], .agg #[.int .i64 u, .int .i64 m]] p := by
  cases h : tldB b t n && tldB b u m with
  | false => exact ⟨false, specSumLess_no b t n u m h, H.1 b t n u m h⟩
  | true =>
    obtain ⟨b, T, B, U, C, rfl, rfl, rfl, rfl, rfl, h3, h4, h1, h2⟩ := tld_and h
    exact ⟨_, specSumLess_yes b T B U C h3 h4 h1 h2, H.2 b T B U C h3 h4 h1 h2⟩

end Go.Proofs.Ytoiofkijinlllac
