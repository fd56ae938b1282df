/-
  The leaves: the divisor functions, the range test.
-/
import Derived.Test.YtmpbbflolbakhaaGreatDoorRows
import Derived.Test.YtmpbbflolbakhaaGreatDoorMath
import Derived.WalkKit
import Derived.WalkSpells
import Derived.WalkLawsBesides
import Derived.Lib.Hide
namespace Go.Proofs.YtmpbbflolbakhaaGreatDoor
open Go.RowKit

theorem ret_int {k : IntKind} {a b : Int} (h : a = b) : Ending.returned (.int k a) = .returned (.int k b) := by rw [h]
theorem ret_bool {a b : Bool} (h : a = b) : Ending.returned (.bool a) = .returned (.bool b) := by rw [h]

set_option maxHeartbeats 400000 in
theorem commonDivisor_any (x y : Int) (w : World) (hx : 0 ≤ x) (hy : 0 ≤ y) (hx2 : x ≤ 1000000000000000000) (hy2 : y ≤ 1000000000000000000) :
    Calls Tryz.prog 52 #[.int .i64 x, .int .i64 y] w fun e w' => e = .returned (.int .i64 (gcdI x y)) ∧ w = w' := by
  go_enter Tryz.func52, Tryz.ntmps52
  go_wp2
  go_loop [0, 1] (fun a b => ∃ p q : Int, 0 ≤ p ∧ 0 ≤ q ∧ p ≤ 1000000000000000000 ∧ q ≤ 1000000000000000000 ∧ a = .int .i64 p ∧ b = .int .i64 q ∧ Hid (gcdI p q = gcdI x y)) (fun a _ => (intOf a).toNat)
  case atStart => exact ⟨x, y, hx, hy, hx2, hy2, rfl, rfl, rfl⟩
  case round =>
    obtain ⟨p, q, hp, hq, hp2, hq2, rfl, rfl, hg⟩ := hrel
    by_cases h0 : p = 0
    · subst h0
      have hr : gcdI x y = q := by rw [← hg.out]; exact gcdI_zero q hq
      have HR := Lib.hid hr; clear hr
      go_wp2
      go_ret
      exact ⟨ret_int HR.out.symm, rfl⟩
    · have hm : 0 ≤ q % p := Int.emod_nonneg q h0
      have hm2 : q % p < p := Int.emod_lt_of_pos q (by omega)
      have hg2 := gcdI_step p q hp hq
      have HG : Hid (gcdI (q % p) p = gcdI x y) := by rw [hg2]; exact hg
      clear hg2
      go_wp2
      go_round
      case rel => exact ⟨q % p, p, hm, hp, by omega, hp2, rfl, rfl, HG⟩
      case measure => simp [intOf]; omega

set_option maxHeartbeats 400000 in
theorem l1Gcd_any (x y : Int) (w : World) (hx : 0 ≤ x) (hy : 0 ≤ y) (hx2 : x ≤ 1000000000000000000) (hy2 : y ≤ 1000000000000000000) :
    Calls Tryz.prog 50 #[.int .i64 x, .int .i64 y] w fun e w' => e = .returned (.int .i64 (gcdI x y)) ∧ w = w' := by
  go_enter Tryz.func50, Tryz.ntmps50
  go_wp2
  go_loop [0, 1, 5] (fun a b _ => ∃ p q : Int, 0 ≤ p ∧ 0 ≤ q ∧ p ≤ 1000000000000000000 ∧ q ≤ 1000000000000000000 ∧ a = .int .i64 p ∧ b = .int .i64 q ∧ Hid (gcdI p q = gcdI x y)) (fun _ b _ => (intOf b).toNat)
  case atStart => exact ⟨x, y, hx, hy, hx2, hy2, rfl, rfl, rfl⟩
  case round =>
    obtain ⟨p, q, hp, hq, hp2, hq2, rfl, rfl, hg⟩ := hrel
    by_cases h0 : q = 0
    · subst h0
      have hr : gcdI x y = p := by rw [← hg.out, gcdI_comm]; exact gcdI_zero p hp
      have HR := Lib.hid hr; clear hr
      go_wp2
      go_ret
      exact ⟨ret_int HR.out.symm, rfl⟩
    · have hm : 0 ≤ p % q := Int.emod_nonneg p h0
      have hm2 : p % q < q := Int.emod_lt_of_pos p (by omega)
      have hg2 := gcdI_step q p hq hp
      have HG : Hid (gcdI q (p % q) = gcdI x y) := by rw [gcdI_comm, hg2, gcdI_comm]; exact hg
      clear hg2
      go_wp2
      go_round
      case rel => exact ⟨q, p % q, hq, hm, hq2, by omega, rfl, rfl, HG⟩
      case measure => simp [intOf]; omega

set_option maxHeartbeats 400000 in
theorem l6In_any (n a b : Int) (w : World) :
    Calls Tryz.prog 37 #[.int .i64 n, .int .i64 a, .int .i64 b] w fun e w' => e = .returned (.bool (decide (a ≤ n ∧ n ≤ b))) ∧ w = w' := by
  by_cases h1 : a ≤ n
  · have h1' : decide (a ≤ n) = true := by simpa using h1
    go_enter Tryz.func37, Tryz.ntmps37
    go_wp2
    go_ret
    exact ⟨by simp [h1], rfl⟩
  · have h1' : decide (a ≤ n) = false := by simpa using h1
    go_enter Tryz.func37, Tryz.ntmps37
    go_wp2
    go_ret
    exact ⟨by simp, rfl⟩

set_option maxHeartbeats 400000 in
theorem baseIn_any (b : Int) (w : World) :
    Calls Tryz.prog 33 #[.int .i64 b] w fun e w' => e = .returned (.bool (decide (2 ≤ b ∧ b ≤ 16))) ∧ w = w' := by
  by_cases h1 : 2 ≤ b
  · have h1' : decide (2 ≤ b) = true := by simpa using h1
    go_enter Tryz.func33, Tryz.ntmps33
    go_wp2
    go_ret
    exact ⟨by simp [h1], rfl⟩
  · have h1' : decide (2 ≤ b) = false := by simpa using h1
    go_enter Tryz.func33, Tryz.ntmps33
    go_wp2
    go_ret
    exact ⟨by simp, rfl⟩

end Go.Proofs.YtmpbbflolbakhaaGreatDoor
