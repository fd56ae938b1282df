/-
  Chapter 3: both sides answer one thing, where the program answers what its sentence says.
-/
import Derived.Test.YthhbkhamhkbikaaOrdI
namespace Go.Proofs.Ythhbkhamhkbikaa
open Go.RowKit

theorem bothOf (H : ImOf) (b n : Int) : ∃ x p, GivesI 7 #[.int .i64 b, .int .i64 n] x p ∧ GivesI 8 #[.int .i64 b, .int .i64 n] x p := by
  cases h : prmB b n with
  | false => exact ⟨0, false, specOrderOf_no b n h, H.1 b n h⟩
  | true =>
    obtain ⟨b, n, rfl, rfl, h3, h4, hn, hn2, hbn⟩ := prm_nat h
    obtain ⟨m, hm⟩ := ord_some hbn hn
    exact ⟨m, true, specOrderOf_yes b n m h h4 hn hn2 hm, H.2 b n m h h4 hn hn2 hm⟩

theorem bothUnits (H : ImUnits) (n : Int) : ∃ x p, GivesI 9 #[.int .i64 n] x p ∧ GivesI 10 #[.int .i64 n] x p := by
  by_cases h : 2 ≤ n ∧ n ≤ 1000
  case neg => exact ⟨0, false, specOrderUnits_no n h, H.1 n h⟩
  case pos =>
    obtain ⟨n, rfl⟩ := Int.eq_ofNat_of_zero_le (show 0 ≤ n by omega)
    have hn : 2 ≤ n := by omega
    have hn2 : n ≤ 1000 := by omega
    exact ⟨_, true, specOrderUnits_yes n hn hn2, H.2 n hn hn2⟩


theorem bothOnes (H : ImOnes) (b n : Int) : ∃ x p, GivesI 11 #[.int .i64 b, .int .i64 n] x p ∧ GivesI 12 #[.int .i64 b, .int .i64 n] x p := by
  cases h : prmB b n with
  | false => exact ⟨0, false, specOrderOnes_no b n h, H.1 b n h⟩
  | true =>
    obtain ⟨b, n, rfl, rfl, h3, h4, hn, hn2, hbn⟩ := prm_nat h
    obtain ⟨k, hkn, hk⟩ := isOne_some hbn (show 0 < n by omega)
    exact ⟨_, true, specOrderOnes_yes b n k h h3 h4 hn hn2 hk hkn, H.2 b n k h h3 h4 hn hn2 hk hkn⟩

theorem bothSplit (H : ImSplit) (b n : Int) : ∃ x y p, GivesII 13 #[.int .i64 b, .int .i64 n] x y p ∧ GivesII 14 #[.int .i64 b, .int .i64 n] x y p := by
  by_cases h : (2 ≤ b ∧ b ≤ 16) ∧ (2 ≤ n ∧ n ≤ 1000)
  case neg => exact ⟨0, 0, false, specOrderSplit_no b n h, H.1 b n h⟩
  case pos =>
    obtain ⟨b, rfl⟩ := Int.eq_ofNat_of_zero_le (show 0 ≤ b by omega)
    obtain ⟨n, rfl⟩ := Int.eq_ofNat_of_zero_le (show 0 ≤ n by omega)
    have h3 : 2 ≤ b := by omega
    have h4 : b ≤ 16 := by omega
    have hn : 2 ≤ n := by omega
    have hn2 : n ≤ 1000 := by omega
    obtain ⟨f, s, hs⟩ := split_some (b := b) (show 0 < n by omega)
    exact ⟨_, _, true, specOrderSplit_is b n f s h3 h4 hn hn2 hs, H.2 b n f s h3 h4 hn hn2 hs⟩




end Go.Proofs.Ythhbkhamhkbikaa
