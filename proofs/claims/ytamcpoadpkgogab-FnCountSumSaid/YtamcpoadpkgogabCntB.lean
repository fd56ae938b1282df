/-
  Chapter 7: both sides answer one thing, where the program answers what its sentence says.
-/
import Derived.Test.YtamcpoadpkgogabCntI
import Derived.Test.YtamcpoadpkgogabCntS
import Derived.Test.YtamcpoadpkgogabCntT
import Derived.Test.YtamcpoadpkgogabCntV
namespace Go.Proofs.Ytamcpoadpkgogab
open Go.RowKit

theorem bothCountDigits (H : ImCountDigits) (b t n : Int) : ∃ xs p, xs.length ≤ 1000 ∧ Gives 14 #[.int .i64 b, .agg #[.int .i64 t, .int .i64 n]] xs p ∧ Gives 13 #[.int .i64 b, .agg #[.int .i64 t, .int .i64 n]] xs p := by
  cases h : tldB b t n with
  | false => exact ⟨[], false, by simp, specCountDigits_no b t n h, H.1 b t n h⟩
  | true =>
    obtain ⟨b, T, B, i, m, rfl, rfl, rfl, hf⟩ := frd_some h
    have := hf.b16
    exact ⟨_, true, by rw [cntL_len]; omega, specCountDigits_yes b T B i m hf, H.2 b T B i m hf⟩

theorem bothCountSum (H : ImCountSum) (b t n : Int) : ∃ x p, GivesI 20 #[.int .i64 b, .agg #[.int .i64 t, .int .i64 n]] x p ∧ GivesI 17 #[.int .i64 b, .agg #[.int .i64 t, .int .i64 n]] x p := by
  cases h : tldB b t n with
  | false => exact ⟨0, false, specCountSum_no b t n h, H.1 b t n h⟩
  | true =>
    obtain ⟨b, T, B, i, m, rfl, rfl, rfl, hf⟩ := frd_some h
    exact ⟨_, true, specCountSum_yes b T B i m hf, H.2 b T B i m hf⟩

theorem bothCountFull (H : ImCountFull) (b p d : Int) : ∃ x q, GivesI 10 #[.int .i64 b, .int .i64 p, .int .i64 d] x q ∧ GivesI 11 #[.int .i64 b, .int .i64 p, .int .i64 d] x q := by
  rcases ful_or b p d with h | ⟨b, p, d, rfl, rfl, rfl, h1, h2, h3, h4⟩
  · exact ⟨0, false, specCountFull_no b p d h, H.1 b p d h⟩
  · exact ⟨_, true, specCountFull_yes b p d h1 h2 h3 h4, H.2 b p d h1 h2 h3 h4⟩



theorem bothCountPairs (H : ImCountPairs) (b t n : Int) : ∃ x p, GivesI 7 #[.int .i64 b, .agg #[.int .i64 t, .int .i64 n]] x p ∧ GivesI 9 #[.int .i64 b, .agg #[.int .i64 t, .int .i64 n]] x p := by
  cases h : tldB b t n with
  | false => exact ⟨0, false, specCountPairs_no b t n h, H.1 b t n h⟩
  | true =>
    obtain ⟨b, T, B, i, m, rfl, rfl, rfl, hf⟩ := frd_some h
    exact ⟨_, true, specCountPairs_yes b T B i m hf, H.2 b T B i m hf⟩

end Go.Proofs.Ytamcpoadpkgogab
