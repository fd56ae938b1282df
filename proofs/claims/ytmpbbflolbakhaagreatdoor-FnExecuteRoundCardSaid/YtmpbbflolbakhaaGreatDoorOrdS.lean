/-
  Orders, units, rows of ones, products of a base's primes: the model's.
-/
import Derived.Test.YtmpbbflolbakhaaGreatDoorGOrd
import Derived.Test.YtmpbbflolbakhaaGreatDoorPower
import Derived.Test.YtmpbbflolbakhaaGreatDoorGrown
import Derived.Test.YtmpbbflolbakhaaGreatDoorGRnd
import Derived.Test.YtmpbbflolbakhaaGreatDoorPrm
import Derived.Test.YtmpbbflolbakhaaGreatDoorAns
import Derived.Maps.AppendAt
namespace Go.Proofs.YtmpbbflolbakhaaGreatDoor
set_option maxRecDepth 100000
open Go.RowKit

set_option maxHeartbeats 1000000 in
theorem l3Order_any (b n m : Nat) (w : World) (hb : b ≤ 1000) (hn : 2 ≤ n) (hn2 : n ≤ 1000) (hm : IsLen b 1 n 0 m) :
    Calls Tryz.prog 29 #[.int .i64 b, .int .i64 n] w fun e w' => e = .returned (.int .i64 m) ∧ w = w' := by
  go_enter Tryz.func29, Tryz.ntmps29
  go_wp2_with fail
  have h1n : (1 : Int) % (n : Int) = 1 := Int.emod_eq_of_lt (by omega) (by omega)
  have hn0 : ¬ n = 0 := by omega
  have hrst := fun k => rst_lt (b := b) (T := 1) (B := n) (by omega) k
  have HM := Lib.hid hm; clear hm
  have hp := HM.out.pos
  have hml := HM.out.le (show 1 < n by omega)
  go_loop [5, 6] (fun k r => ∃ j : Nat, 1 ≤ j ∧ j ≤ m ∧ k = .int .i64 j ∧ r = .int .i64 (rst b 1 n j)) (fun k _ => m - (intOf k).toNat)
  case atStart => exact ⟨1, Nat.le_refl _, hp, rfl, by rw [show rst b 1 n 1 = 1 * b % n from rfl, Nat.one_mul]; simp⟩
  case round =>
    obtain ⟨j, hj1, hjm, rfl, rfl⟩ := hrel
    have hr := hrst j
    by_cases hlt : j < m
    · have hne : ¬ rst b 1 n j = 1 := fun e => HM.out.ne 0 j hj1 (by omega) e.symm
      have hne' : ¬ (rst b 1 n j : Int) = 1 := by omega
      have m1 : 0 ≤ (rst b 1 n j : Int) * b := Int.mul_nonneg (by omega) (by omega)
      have m2 : (rst b 1 n j : Int) * b ≤ 1000 * 1000 := Int.mul_le_mul (by omega) (by omega) (by omega) (by omega)
      go_wp2_with fail
      refine ⟨⟨j + 1, by omega, hlt, rfl, ?_⟩, by simp [intOf]; omega⟩
      rw [show rst b 1 n (j + 1) = rst b 1 n j * b % n from rfl]; simp
    · obtain rfl : j = m := by omega
      have he : rst b 1 n j = 1 := by have := HM.out.eq; rw [Nat.zero_add] at this; exact this
      rw [he]
      go_wp2_with fail
      go_ret
      exact ⟨rfl, rfl⟩





set_option maxHeartbeats 1000000 in
theorem specOrderOf_no (b n : Int) (h : prmB b n = false) : GivesI 14 #[.int .i64 b, .int .i64 n] 0 false := by
  intro w
  go_enter Tryz.func14, Tryz.ntmps14
  go_wp2_with fail
  refine (l2Prime_any _ _ _).mono ?_
  rintro e w1 ⟨rfl, rfl⟩
  rw [h]
  go_wp2_with fail
  go_ret2
  exact ⟨rfl, Below.refl _ _⟩

set_option maxHeartbeats 1000000 in
theorem specOrderOf_yes (b n m : Nat) (h : prmB b n = true) (h4 : b ≤ 16) (hn : 2 ≤ n) (hn2 : n ≤ 1000) (hm : IsLen b 1 n 0 m) : GivesI 14 #[.int .i64 b, .int .i64 n] m true := by
  intro w
  go_enter Tryz.func14, Tryz.ntmps14
  go_wp2_with fail
  refine (l2Prime_any _ _ _).mono ?_
  rintro e w1 ⟨rfl, rfl⟩
  rw [h]
  go_wp2_with fail
  refine (l3Order_any b n m _ (by omega) hn hn2 hm).mono ?_
  rintro e w1 ⟨rfl, rfl⟩
  go_wp2_with fail
  go_ret2
  exact ⟨rfl, Below.refl _ _⟩











end Go.Proofs.YtmpbbflolbakhaaGreatDoor
