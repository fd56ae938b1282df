/-
  A base and a number without a common divisor: the test, on both sides.
-/
import Derived.Test.YtmnlafdajeimcaaNext
import Derived.Test.YtmnlafdajeimcaaIn
import Derived.Test.YtmnlafdajeimcaaTq
namespace Go.Proofs.Ytmnlafdajeimcaa
open Go.RowKit

/-- A base and a bottom have rounds of tops. -/
def prmB (b n : Int) : Bool := decide (2 ≤ b ∧ b ≤ 16) && (decide (2 ≤ n ∧ n ≤ 1000) && decide (gcdI b n = 1))

theorem prm_nat {b n : Int} (h : prmB b n = true) : ∃ b' n' : Nat, b = b' ∧ n = n' ∧ 2 ≤ b' ∧ b' ≤ 16 ∧ 2 ≤ n' ∧ n' ≤ 1000 ∧ Nat.gcd b' n' = 1 := by
  unfold prmB at h
  rw [Bool.and_eq_true, Bool.and_eq_true, decide_eq_true_eq, decide_eq_true_eq, decide_eq_true_eq] at h
  obtain ⟨⟨h1, h2⟩, ⟨h3, h4⟩, h5⟩ := h
  obtain ⟨b', rfl⟩ := Int.eq_ofNat_of_zero_le (show 0 ≤ b by omega)
  obtain ⟨n', rfl⟩ := Int.eq_ofNat_of_zero_le (show 0 ≤ n by omega)
  rw [gcdI_nat] at h5
  exact ⟨b', n', rfl, rfl, by omega, by omega, by omega, by omega, by omega⟩

theorem prm_mk {b n : Nat} (h3 : 2 ≤ b) (h4 : b ≤ 16) (hn : 2 ≤ n) (hn2 : n ≤ 1000) (hg : Nat.gcd b n = 1) : prmB b n = true := by
  unfold prmB
  rw [Bool.and_eq_true, Bool.and_eq_true, decide_eq_true_eq, decide_eq_true_eq, decide_eq_true_eq, gcdI_nat]
  omega


set_option maxHeartbeats 400000 in
theorem bottomIn_any (n : Int) (w : World) :
    Calls Tryq.prog 18 #[.int .i64 n] w fun e w' => e = .returned (.bool (decide (2 ≤ n ∧ n ≤ 1000))) ∧ w = w' := by
  by_cases h2 : 2 ≤ n
  · by_cases h3 : n ≤ 1000
    · have HF : Hid (decide (2 ≤ n ∧ n ≤ 1000) = true) := by unfold Hid; simp; omega
      go_enter Tryq.func18, Try.ntmps18
      go_wp2
      go_ret
      exact ⟨ret_bool (by rw [HF.out]), rfl⟩
    · have HF : Hid (decide (2 ≤ n ∧ n ≤ 1000) = false) := by unfold Hid; simp; omega
      have h3' : decide (n ≤ 1000) = false := by simpa using h3
      go_enter Tryq.func18, Try.ntmps18
      go_wp2
      go_ret
      exact ⟨rfl, rfl⟩
  · have HF : Hid (decide (2 ≤ n ∧ n ≤ 1000) = false) := by unfold Hid; simp; omega
    have h2' : decide (2 ≤ n) = false := by simpa using h2
    go_enter Tryq.func18, Try.ntmps18
    go_wp2
    go_ret
    exact ⟨rfl, rfl⟩


end Go.Proofs.Ytmnlafdajeimcaa
