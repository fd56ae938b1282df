/-
  Chapter 6: both sides answer one thing, where the program answers what its sentence says.
-/
import Derived.Test.YtoiofkijinlllabSumI
import Derived.Test.YtoiofkijinlllabSumS
import Derived.Test.YtoiofkijinlllabSumT
import Derived.Test.YtoiofkijinlllabSumU
namespace Go.Proofs.Ytoiofkijinlllab
open Go.RowKit

theorem fin_tms {t n k : Int} (h : (finB t n && decide (0 ≤ k ∧ k ≤ 1000)) = true) : ∃ T B k' : Nat, t = T ∧ n = B ∧ k = k' ∧ FOk T B ∧ k' ≤ 1000 := by
  rw [Bool.and_eq_true, decide_eq_true_eq] at h
  obtain ⟨T, B, rfl, rfl, hf⟩ := fin_nat h.1
  obtain ⟨k', rfl⟩ := Int.eq_ofNat_of_zero_le h.2.1
  exact ⟨T, B, k', rfl, rfl, rfl, hf, by omega⟩



theorem bothSumRound (H : ImSumRound) (b : Int) (x y : List Int) (hx : x.length ≤ 1048576) (hy : y.length ≤ 1048576) : ∃ zs p, zs.length ≤ 10000 ∧ GivesDD 7 (fun v u => #[.int .i64 b, v, u]) x y zs p ∧ GivesDD 9 (fun v u => #[.int .i64 b, v, u]) x y zs p := by
  cases h : twoB b x y with
  | false => exact ⟨[], false, by simp, specSumRound_no b x y hx hy h, H.1 b x y hx hy h⟩
  | true =>
    obtain ⟨b, rfl, r1, r2, hl⟩ := two_nat h
    have := r1.l2
    exact ⟨_, true, by rw [addL_len]; omega, specSumRound_yes b x y r1 r2 hl, H.2 b x y r1 r2 hl⟩

theorem bothSumOther (H : ImSumOther) (b : Int) (x : List Int) (hl : x.length ≤ 1048576) : ∃ zs p, zs.length ≤ 10000 ∧ GivesD 21 (fun v => #[.int .i64 b, v]) x zs p ∧ GivesD 20 (fun v => #[.int .i64 b, v]) x zs p := by
  cases h : rngB b x with
  | false => exact ⟨[], false, by simp, specSumOther_no b x hl h, H.1 b x hl h⟩
  | true =>
    obtain ⟨b, rfl, hr⟩ := rng_nat h
    have := hr.l2
    exact ⟨_, true, by rw [othL_len]; omega, specSumOther_yes b x hr, H.2 b x hr⟩

theorem bothSumLengths (H : ImSumLengths) (b t n u m : Int) : ∃ x p, GivesI 13 #[.int .i64 b, .agg #[.int .i64 t, .int .i64 n], .agg #[.int .i64 u, .int .i64 m]] x p ∧ GivesI 15 #[.int .i64 b, .agg #[.int .i64 t, .int .i64 n], .agg #[.int .i64 u, .int .i64 m]] x p := by
  cases h : tldB b t n && tldB b u m with
  | false => exact ⟨0, false, specSumLengths_no b t n u m h, H.1 b t n u m h⟩
  | true =>
    obtain ⟨b, T, B, U, C, rfl, rfl, rfl, rfl, rfl, h3, h4, h1, h2⟩ := tld_and h
    obtain ⟨n, m, hm⟩ := len_some (b := b) h1.lt h1.cop
    obtain ⟨i, k, hk⟩ := len_some (b := b) h2.lt h2.cop
    exact ⟨_, true, specSumLengths_yes b T B U C n m i k h3 h4 h1 h2 hm hk, H.2 b T B U C n m i k h3 h4 h1 h2 hm hk⟩


end Go.Proofs.Ytoiofkijinlllab
