/-
  Chapter 5: both sides answer one thing, where the program answers what its sentence says.
-/
import Derived.Test.YtagkbpdfpeadbacTurnI
import Derived.Test.YtagkbpdfpeadbacTurnS
import Derived.Test.YtagkbpdfpeadbacTurnU
namespace Go.Proofs.Ytagkbpdfpeadbac
open Go.RowKit

theorem rng_and {b k : Int} {d : List Int} {m : Int} (h : (rngB b d && decide (0 ≤ k ∧ k ≤ m)) = true) : ∃ b' k' : Nat, b = b' ∧ k = k' ∧ Rng b' d ∧ (k' : Int) ≤ m := by
  rw [Bool.and_eq_true, decide_eq_true_eq] at h
  obtain ⟨b', rfl, hr⟩ := rng_nat h.1
  obtain ⟨k', rfl⟩ := Int.eq_ofNat_of_zero_le h.2.1
  exact ⟨b', k', rfl, rfl, hr, h.2.2⟩

theorem bothTurnBy (H : ImTurnBy) (b k : Int) (d : List Int) (hl : d.length ≤ 1048576) : ∃ xs p, xs.length ≤ 10000 ∧ GivesD 9 (fun v => #[.int .i64 b, v, .int .i64 k]) d xs p ∧ GivesD 8 (fun v => #[.int .i64 b, v, .int .i64 k]) d xs p := by
  cases h : rngB b d && decide (0 ≤ k ∧ k ≤ 250) with
  | false => exact ⟨[], false, by simp, specTurnBy_no b k d hl h, H.1 b k d hl h⟩
  | true =>
    obtain ⟨b, k, rfl, rfl, hr, hk⟩ := rng_and h
    have := hr.l2
    exact ⟨_, true, by rw [rotL_len]; omega, specTurnBy_yes b k d hr (by omega), H.2 b k d hr (by omega)⟩



theorem bothTurnFind (H : ImTurnFind) (b k d : Int) : ∃ xs p, xs.length ≤ 1000 ∧ Gives 22 #[.int .i64 b, .int .i64 k, .int .i64 d] xs p ∧ Gives 21 #[.int .i64 b, .int .i64 k, .int .i64 d] xs p := by
  cases h : findB b k d with
  | false => exact ⟨[], false, by simp, specTurnFind_no b k d h, H.1 b k d h⟩
  | true =>
    obtain ⟨b, k, d, g, T, B, m, rfl, rfl, rfl, h2, h16, hk1, hk2, hd1, hd2, hT, hB, hlt, hc, hm, hg, hkb⟩ := find_some h
    have hml := hm.le hlt
    have hBB : B ≤ B * g := Nat.le_mul_of_pos_right B hg
    exact ⟨_, true, by rw [digL_len]; omega, specTurnFind_yes b k d g T B m h h16 hT hB hlt hc hm, H.2 b k d g T B m h h16 hT hB hlt hc hm⟩


theorem bothTurnCyclic (H : ImTurnCyclic) (b p : Int) : ∃ xs q, xs.length ≤ 1000 ∧ Gives 17 #[.int .i64 b, .int .i64 p] xs q ∧ Gives 16 #[.int .i64 b, .int .i64 p] xs q := by
  by_cases h : ∃ b' p' : Nat, b = b' ∧ p = p' ∧ p' ≤ 200 ∧ primeB p' = true ∧ prmB b' p' = true ∧ IsLen b' 1 p' 0 (p' - 1)
  · obtain ⟨b, p, rfl, rfl, hp, hpr, hb, hm⟩ := h
    exact ⟨_, true, by rw [digL_len]; omega, specTurnCyclic_yes b p hp hpr hb hm, H.2 b p hp hpr hb hm⟩
  · have hn : NoCyc b p := fun b' p' e1 e2 e3 e4 e5 e6 => h ⟨b', p', e1, e2, e3, e4, e5, e6⟩
    exact ⟨[], false, by simp, specTurnCyclic_no b p hn, H.1 b p hn⟩

theorem bothTurnLeast (H : ImTurnLeast) (b : Int) (d : List Int) (hl : d.length ≤ 1048576) : ∃ x p, GivesDI 14 (fun v => #[.int .i64 b, v]) d x p ∧ GivesDI 13 (fun v => #[.int .i64 b, v]) d x p := by
  cases h : rngB b d with
  | false => exact ⟨0, false, specTurnLeast_no b d hl h, H.1 b d hl h⟩
  | true =>
    obtain ⟨b, rfl, hr⟩ := rng_nat h
    obtain ⟨k, hk, _⟩ := turn_some (d := d) hr.l1
    exact ⟨k, true, specTurnLeast_yes b k d hr hk, H.2 b k d hr hk⟩

end Go.Proofs.Ytagkbpdfpeadbac
