/-
  Chapter 7: both sides answer one thing, where the program answers what its sentence says.
-/
import Derived.Test.YtamcpoadpkgogacCntI
import Derived.Test.YtamcpoadpkgogacCntS
import Derived.Test.YtamcpoadpkgogacCntU
import Derived.Test.YtamcpoadpkgogacCntV
namespace Go.Proofs.Ytamcpoadpkgogac
open Go.RowKit

theorem bothCountDigits (H : ImCountDigits) (b t n : Int) : ∃ xs p, xs.length ≤ 1000 ∧ Gives 14 #[.int .i64 b, .agg #[.int .i64 t, .int .i64 n]] xs p ∧ Gives 13 #[.int .i64 b, .agg #[.int .i64 t, .int .i64 n]] xs p := by
  cases h : tldB b t n with
  | false => exact ⟨[], false, by simp, specCountDigits_no b t n h, H.1 b t n h⟩
  | true =>
    obtain ⟨b, T, B, i, m, rfl, rfl, rfl, hf⟩ := frd_some h
    have := hf.b16
    exact ⟨_, true, by rw [cntL_len]; omega, specCountDigits_yes b T B i m hf, H.2 b T B i m hf⟩



theorem bothCountMost (H : ImCountMost) (b t n : Int) : ∃ x p, GivesI 9 #[.int .i64 b, .agg #[.int .i64 t, .int .i64 n]] x p ∧ GivesI 8 #[.int .i64 b, .agg #[.int .i64 t, .int .i64 n]] x p := by
  cases h : tldB b t n with
  | false => exact ⟨0, false, specCountMost_no b t n h, H.1 b t n h⟩
  | true =>
    obtain ⟨b, T, B, i, m, rfl, rfl, rfl, hf⟩ := frd_some h
    obtain ⟨M, hM⟩ := most_some (fun v => dgC (rdg b T B i) v m) b (by have := hf.b2; omega)
    exact ⟨_, true, specCountMost_yes b T B i m M hf hM, H.2 b T B i m M hf hM⟩

theorem bothCountRuns (H : ImCountRuns) (b t n : Int) : ∃ x p, GivesI 19 #[.int .i64 b, .agg #[.int .i64 t, .int .i64 n]] x p ∧ GivesI 18 #[.int .i64 b, .agg #[.int .i64 t, .int .i64 n]] x p := by
  cases h : tldB b t n with
  | false => exact ⟨0, false, specCountRuns_no b t n h, H.1 b t n h⟩
  | true =>
    obtain ⟨b, T, B, i, m, rfl, rfl, rfl, hf⟩ := frd_some h
    obtain ⟨r, hr⟩ := run_some (rdg b T B i) hf.pos
    exact ⟨_, true, specCountRuns_yes b T B i m r hf hr, H.2 b T B i m r hf hr⟩

theorem bothCountPairs (H : ImCountPairs) (b t n : Int) : ∃ x p, GivesI 22 #[.int .i64 b, .agg #[.int .i64 t, .int .i64 n]] x p ∧ GivesI 21 #[.int .i64 b, .agg #[.int .i64 t, .int .i64 n]] x p := by
  cases h : tldB b t n with
  | false => exact ⟨0, false, specCountPairs_no b t n h, H.1 b t n h⟩
  | true =>
    obtain ⟨b, T, B, i, m, rfl, rfl, rfl, hf⟩ := frd_some h
    exact ⟨_, true, specCountPairs_yes b T B i m hf, H.2 b T B i m hf⟩

end Go.Proofs.Ytamcpoadpkgogac
