/-
  A base and a number without a common divisor: the test, on both sides.
-/
import Derived.Test.YtmpbbflolbakhaaGreatDoorNext
import Derived.Test.YtmpbbflolbakhaaGreatDoorIn
namespace Go.Proofs.YtmpbbflolbakhaaGreatDoor
open Go.RowKit

/-- A base and a bottom have rounds of tops. -/
def prmB (b n : Int) : Bool := decide (2 ≤ b ∧ b ≤ 16) && (decide (2 ≤ n ∧ n ≤ 1000) && decide (gcdI b n = 1))

theorem prm_nat {b n : Int} (h : prmB b n = true) : ∃ b' n' : Nat, b = b' ∧ n = n' ∧ 2 ≤ b' ∧ b' ≤ 16 ∧ 2 ≤ n' ∧ n' ≤ 1000 ∧ Nat.gcd b' n' = 1 := by
  unfold prmB at h
  rw [Bool.and_eq_true, Bool.and_eq_true, decide_eq_true_eq, decide_eq_true_eq, decide_eq_true_eq] at h
  obtain ⟨⟨h1, h2⟩, ⟨h3, h4⟩, h5⟩ := h
  obtain ⟨b', rfl⟩ := Int.eq_ofNat_of_zero_le (show 0 ≤ b by omega)
  obtain ⟨n', rfl⟩ := Int.eq_ofNat_of_zero_le (show 0 ≤ n by omega)
  rw [gcdI_nat] at h5
  exact ⟨b', n', rfl, rfl, by omega, by omega, by omega, by omega, by omega⟩

theorem prm_mk {b n : Nat} (h3 : 2 ≤ b) (h4 : b ≤ 16) (hn : 2 ≤ n) (hn2 : n ≤ 1000) (hg : Nat.gcd b n = 1) : prmB b n = true := by
  unfold prmB
  rw [Bool.and_eq_true, Bool.and_eq_true, decide_eq_true_eq, decide_eq_true_eq, decide_eq_true_eq, gcdI_nat]
  omega

set_option maxHeartbeats 400000 in
theorem l2Prime_any (b n : Int) (w : World) :
    Calls Tryz.prog 28 #[.int .i64 b, .int .i64 n] w fun e w' => e = .returned (.bool (prmB b n)) ∧ w = w' := by
  by_cases h1 : 2 ≤ b ∧ b ≤ 16
  · have h1' : decide (2 ≤ b ∧ b ≤ 16) = true := by simpa using h1
    by_cases h2 : 2 ≤ n ∧ n ≤ 1000
    · have h2' : decide (2 ≤ n ∧ n ≤ 1000) = true := by simpa using h2
      have HF : Hid (prmB b n = (gcdI b n == 1)) := by unfold Hid prmB; rw [h1', h2', Bool.true_and, Bool.true_and]; rfl
      obtain ⟨a1, a2⟩ := h1
      obtain ⟨a3, a4⟩ := h2
      go_enter Tryz.func28, Tryz.ntmps28
      go_wp2_with (first | (go_at_call 37; refine (l6In_any _ _ _ _).mono ?_; rintro e w' ⟨rfl, rfl⟩) | (go_at_call 50; refine (l1Gcd_any _ _ _ (by omega) (by omega) (by omega) (by omega)).mono ?_; rintro e w' ⟨rfl, rfl⟩))
      go_ret
      exact ⟨ret_bool (by rw [HF.out]), rfl⟩
    · have h2' : decide (2 ≤ n ∧ n ≤ 1000) = false := by simpa using h2
      have HF : Hid (prmB b n = false) := by unfold Hid prmB; rw [h1', h2']; rfl
      clear h1 h2
      go_enter Tryz.func28, Tryz.ntmps28
      go_wp2_with (go_at_call 37; refine (l6In_any _ _ _ _).mono ?_; rintro e w' ⟨rfl, rfl⟩)
      go_ret
      exact ⟨ret_bool (by rw [HF.out]), rfl⟩
  · have h1' : decide (2 ≤ b ∧ b ≤ 16) = false := by simpa using h1
    have HF : Hid (prmB b n = false) := by unfold Hid prmB; rw [h1']; rfl
    clear h1
    go_enter Tryz.func28, Tryz.ntmps28
    go_wp2_with (go_at_call 37; refine (l6In_any _ _ _ _).mono ?_; rintro e w' ⟨rfl, rfl⟩)
    go_ret
    exact ⟨ret_bool (by rw [HF.out]), rfl⟩

set_option maxHeartbeats 400000 in
theorem bottomIn_any (n : Int) (w : World) :
    Calls Tryz.prog 51 #[.int .i64 n] w fun e w' => e = .returned (.bool (decide (2 ≤ n ∧ n ≤ 1000))) ∧ w = w' := by
  by_cases h2 : 2 ≤ n
  · by_cases h3 : n ≤ 1000
    · have HF : Hid (decide (2 ≤ n ∧ n ≤ 1000) = true) := by unfold Hid; simp; omega
      go_enter Tryz.func51, Tryz.ntmps51
      go_wp2
      go_ret
      exact ⟨ret_bool (by rw [HF.out]), rfl⟩
    · have HF : Hid (decide (2 ≤ n ∧ n ≤ 1000) = false) := by unfold Hid; simp; omega
      have h3' : decide (n ≤ 1000) = false := by simpa using h3
      go_enter Tryz.func51, Tryz.ntmps51
      go_wp2
      go_ret
      exact ⟨rfl, rfl⟩
  · have HF : Hid (decide (2 ≤ n ∧ n ≤ 1000) = false) := by unfold Hid; simp; omega
    have h2' : decide (2 ≤ n) = false := by simpa using h2
    go_enter Tryz.func51, Tryz.ntmps51
    go_wp2
    go_ret
    exact ⟨rfl, rfl⟩

set_option maxHeartbeats 400000 in
theorem roundsTold_any (b n : Int) (w : World) :
    Calls Tryz.prog 26 #[.int .i64 b, .int .i64 n] w fun e w' => e = .returned (.bool (prmB b n)) ∧ w = w' := by
  by_cases h1 : 2 ≤ b ∧ b ≤ 16
  · have h1' : decide (2 ≤ b ∧ b ≤ 16) = true := by simpa using h1
    by_cases h2 : 2 ≤ n ∧ n ≤ 1000
    · have h2' : decide (2 ≤ n ∧ n ≤ 1000) = true := by simpa using h2
      have HF : Hid (prmB b n = (gcdI b n == 1)) := by unfold Hid prmB; rw [h1', h2', Bool.true_and, Bool.true_and]; rfl
      obtain ⟨a1, a2⟩ := h1
      obtain ⟨a3, a4⟩ := h2
      go_enter Tryz.func26, Tryz.ntmps26
      go_wp2_with (first | (go_at_call 33; refine (baseIn_any _ _).mono ?_; rintro e w' ⟨rfl, rfl⟩) | (go_at_call 51; refine (bottomIn_any _ _).mono ?_; rintro e w' ⟨rfl, rfl⟩) | (go_at_call 52; refine (commonDivisor_any _ _ _ (by omega) (by omega) (by omega) (by omega)).mono ?_; rintro e w' ⟨rfl, rfl⟩))
      go_ret
      exact ⟨ret_bool (by rw [HF.out]), rfl⟩
    · have h2' : decide (2 ≤ n ∧ n ≤ 1000) = false := by simpa using h2
      have HF : Hid (prmB b n = false) := by unfold Hid prmB; rw [h1', h2']; rfl
      clear h1 h2
      go_enter Tryz.func26, Tryz.ntmps26
      go_wp2_with (first | (go_at_call 33; refine (baseIn_any _ _).mono ?_; rintro e w' ⟨rfl, rfl⟩) | (go_at_call 51; refine (bottomIn_any _ _).mono ?_; rintro e w' ⟨rfl, rfl⟩))
      go_ret
      exact ⟨ret_bool (by rw [HF.out]), rfl⟩
  · have h1' : decide (2 ≤ b ∧ b ≤ 16) = false := by simpa using h1
    have HF : Hid (prmB b n = false) := by unfold Hid prmB; rw [h1']; rfl
    clear h1
    go_enter Tryz.func26, Tryz.ntmps26
    go_wp2_with (go_at_call 33; refine (baseIn_any _ _).mono ?_; rintro e w' ⟨rfl, rfl⟩)
    go_ret
    exact ⟨ret_bool (by rw [HF.out]), rfl⟩

end Go.Proofs.YtmpbbflolbakhaaGreatDoor
