/-
  Chapter 3: both sides answer one thing, where the program answers what its sentence says.
-/
import Derived.Test.YtkpdbkfbakbpkaaOrdI
namespace Go.Proofs.Ytkpdbkfbakbpkaa
open Go.RowKit






theorem bothBegin (H : ImBegin) (b n : Int) : ∃ x p, GivesI 6 #[.int .i64 b, .int .i64 n] x p ∧ GivesI 7 #[.int .i64 b, .int .i64 n] x p := by
  by_cases h : (2 ≤ b ∧ b ≤ 16) ∧ (2 ≤ n ∧ n ≤ 1000)
  case neg => exact ⟨0, false, specOrderBegin_no b n h, H.1 b n h⟩
  case pos =>
    obtain ⟨b, rfl⟩ := Int.eq_ofNat_of_zero_le (show 0 ≤ b by omega)
    obtain ⟨n, rfl⟩ := Int.eq_ofNat_of_zero_le (show 0 ≤ n by omega)
    have h3 : 2 ≤ b := by omega
    have h4 : b ≤ 16 := by omega
    have hn : 2 ≤ n := by omega
    have hn2 : n ≤ 1000 := by omega
    obtain ⟨f, s, hs⟩ := split_some (b := b) (show 0 < n by omega)
    obtain ⟨k, hk⟩ := isPow_some hs.pow
    have hk9 := (pow_bound hn hn2 hs hk).2
    exact ⟨_, true, specOrderBegin_yes b n f s k h3 h4 hn hn2 hs hk (by omega), H.2 b n f s k h3 h4 hn hn2 hs hk (by omega)⟩



end Go.Proofs.Ytkpdbkfbakbpkaa
