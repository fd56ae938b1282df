/-
  A base and a fraction are told: the program's test and the model's.
-/
import Derived.Test.YtmpbbflolbakhaaGreatDoorIn
import Derived.Test.YtmpbbflolbakhaaGreatDoorNum
namespace Go.Proofs.YtmpbbflolbakhaaGreatDoor
open Go.RowKit

/-- The test of a base and a fraction, as a Bool that the walk does not open. -/
def tldB (b t n : Int) : Bool := decide (2 ≤ b ∧ b ≤ 16) && finB t n

theorem tld_nat {b t n : Int} (h : tldB b t n = true) : ∃ b' T B : Nat, b = b' ∧ t = T ∧ n = B ∧ 2 ≤ b' ∧ b' ≤ 16 ∧ T < B ∧ B ≤ 1000 ∧ Nat.gcd T B = 1 := by
  unfold tldB at h
  rw [Bool.and_eq_true, decide_eq_true_eq, finB_iff] at h
  obtain ⟨⟨h1, h2⟩, h3, h4, h5, h6, h7⟩ := h
  obtain ⟨b', rfl⟩ := Int.eq_ofNat_of_zero_le (show 0 ≤ b by omega)
  obtain ⟨T, rfl⟩ := Int.eq_ofNat_of_zero_le h5
  obtain ⟨B, rfl⟩ := Int.eq_ofNat_of_zero_le (show 0 ≤ n by omega)
  refine ⟨b', T, B, rfl, rfl, rfl, by omega, by omega, by omega, by omega, ?_⟩
  unfold gcdI at h7; simp at h7; omega

set_option maxHeartbeats 400000 in
theorem fracTold_any (b t n : Int) (w : World) :
    Calls Tryz.prog 16 #[.int .i64 b, .agg #[.int .i64 t, .int .i64 n]] w fun e w' => e = .returned (.bool (tldB b t n)) ∧ Below w.heap.size w w' := by
  by_cases h1 : 2 ≤ b ∧ b ≤ 16
  · have h1' : decide (2 ≤ b ∧ b ≤ 16) = true := by simpa using h1
    have HF : Hid (tldB b t n = finB t n) := by unfold Hid tldB; rw [h1', Bool.true_and]
    clear h1
    go_enter Tryz.func16, Tryz.ntmps16
    go_wp2_with (first | (go_at_call 33; refine (baseIn_any _ _).mono ?_; rintro e w' ⟨rfl, rfl⟩) | (go_at_call 34; refine (implFracIn_any _ _ _).mono ?_; rintro e w1 ⟨rfl, hb1⟩))
    go_ret
    exact ⟨ret_bool (by rw [HF.out]), ((Below.refl w.heap.size w).alloc (Nat.le_refl _) _).trans (hb1.mono (by simp))⟩
  · have h1' : decide (2 ≤ b ∧ b ≤ 16) = false := by simpa using h1
    have HF : Hid (tldB b t n = false) := by unfold Hid tldB; rw [h1', Bool.false_and]
    clear h1
    go_enter Tryz.func16, Tryz.ntmps16
    go_wp2_with (go_at_call 33; refine (baseIn_any _ _).mono ?_; rintro e w' ⟨rfl, rfl⟩)
    go_ret
    exact ⟨ret_bool (by rw [HF.out]), (Below.refl w.heap.size w).alloc (Nat.le_refl _) _⟩

set_option maxHeartbeats 400000 in
theorem l1Given_any (b t n : Int) (w : World) :
    Calls Tryz.prog 18 #[.int .i64 b, .agg #[.int .i64 t, .int .i64 n]] w fun e w' => e = .returned (.bool (tldB b t n)) ∧ Below w.heap.size w w' := by
  by_cases h1 : 2 ≤ b ∧ b ≤ 16
  · have h1' : decide (2 ≤ b ∧ b ≤ 16) = true := by simpa using h1
    have HF : Hid (tldB b t n = finB t n) := by unfold Hid tldB; rw [h1', Bool.true_and]
    clear h1
    go_enter Tryz.func18, Tryz.ntmps18
    go_wp2_with (first | (go_at_call 37; refine (l6In_any _ _ _ _).mono ?_; rintro e w' ⟨rfl, rfl⟩) | (go_at_call 38; refine (specFracIn_any _ _ _).mono ?_; rintro e w1 ⟨rfl, hb1⟩))
    go_ret
    exact ⟨ret_bool (by rw [HF.out]), ((Below.refl w.heap.size w).alloc (Nat.le_refl _) _).trans (hb1.mono (by simp))⟩
  · have h1' : decide (2 ≤ b ∧ b ≤ 16) = false := by simpa using h1
    have HF : Hid (tldB b t n = false) := by unfold Hid tldB; rw [h1', Bool.false_and]
    clear h1
    go_enter Tryz.func18, Tryz.ntmps18
    go_wp2_with (go_at_call 37; refine (l6In_any _ _ _ _).mono ?_; rintro e w' ⟨rfl, rfl⟩)
    go_ret
    exact ⟨ret_bool (by rw [HF.out]), (Below.refl w.heap.size w).alloc (Nat.le_refl _) _⟩

end Go.Proofs.YtmpbbflolbakhaaGreatDoor
