/-
  Chapter 5: both sides answer one thing, where the program answers what its sentence says.
-/
import Derived.Test.YtagkbpdfpeadbadTurnI
import Derived.Test.YtagkbpdfpeadbadTurnS
import Derived.Test.YtagkbpdfpeadbadTurnT
import Derived.Test.YtagkbpdfpeadbadTurnU
import Derived.Test.YtagkbpdfpeadbadTurnV
namespace Go.Proofs.Ytagkbpdfpeadbad
open Go.RowKit

theorem rng_and {b k : Int} {d : List Int} {m : Int} (h : (rngB b d && decide (0 ≤ k ∧ k ≤ m)) = true) : ∃ b' k' : Nat, b = b' ∧ k = k' ∧ Rng b' d ∧ (k' : Int) ≤ m := by
  rw [Bool.and_eq_true, decide_eq_true_eq] at h
  obtain ⟨b', rfl, hr⟩ := rng_nat h.1
  obtain ⟨k', rfl⟩ := Int.eq_ofNat_of_zero_le h.2.1
  exact ⟨b', k', rfl, rfl, hr, h.2.2⟩


theorem bothTurnTimes (H : ImTurnTimes) (b k : Int) (d : List Int) (hl : d.length ≤ 1048576) : ∃ xs p, xs.length ≤ 10000 ∧ GivesD 23 (fun v => #[.int .i64 b, v, .int .i64 k]) d xs p ∧ GivesD 12 (fun v => #[.int .i64 b, v, .int .i64 k]) d xs p := by
  cases h : rngB b d && decide (0 ≤ k ∧ k ≤ 100) with
  | false => exact ⟨[], false, by simp, specTurnTimes_no b k d hl h, H.1 b k d hl h⟩
  | true =>
    obtain ⟨b, k, rfl, rfl, hr, hk⟩ := rng_and h
    have := hr.l2
    by_cases h0 : (tim b k d).1 = 0
    · exact ⟨_, true, by rw [tim_len]; omega, specTurnTimes_yes b k d hr (by omega) h0, H.2.2 b k d hr (by omega) h0⟩
    · exact ⟨[], false, by simp, specTurnTimes_off b k d hr (by omega) h0, H.2.1 b k d hr (by omega) h0⟩

theorem bothTurnIs (H : ImTurnIs) (b k : Int) (d : List Int) (hl : d.length ≤ 1048576) : ∃ p, GivesDB 7 (fun v => #[.int .i64 b, v, .int .i64 k]) d p ∧ GivesDB 6 (fun v => #[.int .i64 b, v, .int .i64 k]) d p := by
  cases h : rngB b d && decide (0 ≤ k ∧ k ≤ 100) with
  | false => exact ⟨false, specTurnIs_no b k d hl h, H.1 b k d hl h⟩
  | true =>
    obtain ⟨b, k, rfl, rfl, hr, hk⟩ := rng_and h
    exact ⟨_, specTurnIs_yes b k d hr (by omega), H.2 b k d hr (by omega)⟩


theorem bothTurnAll (H : ImTurnAll) (b : Int) (d : List Int) (hl : d.length ≤ 1048576) : ∃ xs p, xs.length ≤ 10000 ∧ GivesD 10 (fun v => #[.int .i64 b, v]) d xs p ∧ GivesD 9 (fun v => #[.int .i64 b, v]) d xs p := by
  cases h : rngB b d with
  | false => exact ⟨[], false, by simp, specTurnAll_no b d hl h, H.1 b d hl h⟩
  | true =>
    obtain ⟨b, rfl, hr⟩ := rng_nat h
    exact ⟨_, true, Nat.le_trans (turA_len b d 101) (by omega), specTurnAll_yes b d hr, H.2 b d hr⟩



end Go.Proofs.Ytagkbpdfpeadbad
