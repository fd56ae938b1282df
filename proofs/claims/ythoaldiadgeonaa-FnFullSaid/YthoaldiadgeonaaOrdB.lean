/-
  Chapter 3: both sides answer one thing, where the program answers what its sentence says.
-/
import Derived.Test.YthoaldiadgeonaaGOrx
namespace Go.Proofs.Ythoaldiadgeonaa
open Go.RowKit

theorem bothOf (H : ImOf) (b n : Int) : ∃ x p, GivesI 23 #[.int .i64 b, .int .i64 n] x p ∧ GivesI 22 #[.int .i64 b, .int .i64 n] x p := by
  cases h : prmB b n with
  | false => exact ⟨0, false, specOrderOf_no b n h, H.1 b n h⟩
  | true =>
    obtain ⟨b, n, rfl, rfl, h3, h4, hn, hn2, hbn⟩ := prm_nat h
    obtain ⟨m, hm⟩ := ord_some hbn hn
    exact ⟨m, true, specOrderOf_yes b n m h h4 hn hn2 hm, H.2 b n m h h4 hn hn2 hm⟩


theorem bothMost (H : ImMost) (n : Int) : ∃ x p, GivesI 9 #[.int .i64 n] x p ∧ GivesI 8 #[.int .i64 n] x p := by
  by_cases h : 2 ≤ n ∧ n ≤ 1000
  case neg => exact ⟨0, false, specOrderMost_no n h, H.1 n h⟩
  case pos =>
    obtain ⟨n, rfl⟩ := Int.eq_ofNat_of_zero_le (show 0 ≤ n by omega)
    have hn : 2 ≤ n := by omega
    have hn2 : n ≤ 1000 := by omega
    obtain ⟨m, hm⟩ := mst_some hn n
    exact ⟨_, true, specOrderMost_yes n m hn hn2 hm, H.2 n m hn hn2 hm⟩




theorem bothFull (H : ImFull) (b n : Int) : ∃ xs p, xs.length ≤ 1001 ∧ Gives 14 #[.int .i64 b, .int .i64 n] xs p ∧ Gives 13 #[.int .i64 b, .int .i64 n] xs p := by
  by_cases h : (2 ≤ b ∧ b ≤ 16) ∧ (2 ≤ n ∧ n ≤ 1000)
  case neg => exact ⟨[], false, by simp, specOrderFull_no b n h, H.1 b n h⟩
  case pos =>
    obtain ⟨b, rfl⟩ := Int.eq_ofNat_of_zero_le (show 0 ≤ b by omega)
    obtain ⟨n, rfl⟩ := Int.eq_ofNat_of_zero_le (show 0 ≤ n by omega)
    have h3 : 2 ≤ b := by omega
    have h4 : b ≤ 16 := by omega
    have hn : 2 ≤ n := by omega
    have hn2 : n ≤ 1000 := by omega
    exact ⟨_, true, Nat.le_trans (fulL_len b (n + 1)) (by omega), specOrderFull_yes b n h3 h4 hn hn2, H.2 b n h3 h4 hn hn2⟩

theorem bothBases (H : ImBases) (n k : Int) : ∃ xs p, xs.length ≤ 1001 ∧ Gives 19 #[.int .i64 n, .int .i64 k] xs p ∧ Gives 18 #[.int .i64 n, .int .i64 k] xs p := by
  by_cases h : (2 ≤ n ∧ n ≤ 1000) ∧ (1 ≤ k ∧ k ≤ 1000)
  case neg => exact ⟨[], false, by simp, specOrderBases_no n k h, H.1 n k h⟩
  case pos =>
    obtain ⟨n, rfl⟩ := Int.eq_ofNat_of_zero_le (show 0 ≤ n by omega)
    obtain ⟨k, rfl⟩ := Int.eq_ofNat_of_zero_le (show 0 ≤ k by omega)
    obtain ⟨L, hL⟩ := bas_some (show 2 ≤ n by omega) k 17
    exact ⟨L, true, by have := hL.len; omega, specOrderBases_yes n k L (by omega) (by omega) (by omega) (by omega) hL, H.2 n k L (by omega) (by omega) (by omega) (by omega) hL⟩

end Go.Proofs.Ythoaldiadgeonaa
