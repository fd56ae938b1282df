/-
  Rings: the model's side: rings that are found; full primes; the least turn.
-/
import Derived.Test.YtoiofkijinlllabTurnT
import Derived.Test.YtoiofkijinlllabRed
import Derived.Test.YtoiofkijinlllabOrdS
import Derived.Test.YtoiofkijinlllabGRnd
namespace Go.Proofs.Ytoiofkijinlllab
open Go.RowKit

theorem rndL_dig (b T B m : Nat) : rndL b T B 0 m = digL b T B m := by unfold rndL; rw [List.drop_zero, Nat.zero_add]

theorem red_of {T B g : Nat} (hg : 0 < g) (h : Nat.gcd T B = 1) : ((T * g : Nat) : Int) / gcdI ((T * g : Nat) : Int) ((B * g : Nat) : Int) = T ∧ ((B * g : Nat) : Int) / gcdI ((T * g : Nat) : Int) ((B * g : Nat) : Int) = B := by
  rw [gcdI_nat, Nat.gcd_mul_right, h, Nat.one_mul]
  have e1 : ((T * g : Nat) : Int) / (g : Int) = ((T * g / g : Nat) : Int) := rfl
  have e2 : ((B * g : Nat) : Int) / (g : Int) = ((B * g / g : Nat) : Int) := rfl
  rw [e1, e2, Nat.mul_div_cancel T hg, Nat.mul_div_cancel B hg]
  exact ⟨rfl, rfl⟩

/-- What is found: the reduced fraction, its round. -/
theorem find_some {b k d : Int} (h : findB b k d = true) : ∃ b' k' d' g T B m : Nat, b = b' ∧ k = k' ∧ d = d' ∧ 2 ≤ b' ∧ b' ≤ 16 ∧ 1 ≤ k' ∧ k' < b' ∧ 1 ≤ d' ∧ d' < b' ∧ T * g = d' ∧ B * g = k' * b' - 1 ∧ T < B ∧ Nat.gcd T B = 1 ∧ IsLen b' T B 0 m ∧ 0 < g ∧ k' * b' ≤ 240 := by
  unfold findB at h
  rw [Bool.and_eq_true, Bool.and_eq_true, Bool.and_eq_true, decide_eq_true_eq, decide_eq_true_eq, decide_eq_true_eq, decide_eq_true_eq] at h
  obtain ⟨h1, h2, h3, h4⟩ := h
  obtain ⟨b, rfl⟩ := Int.eq_ofNat_of_zero_le (show 0 ≤ b by omega)
  obtain ⟨k, rfl⟩ := Int.eq_ofNat_of_zero_le (show 0 ≤ k by omega)
  obtain ⟨d, rfl⟩ := Int.eq_ofNat_of_zero_le (show 0 ≤ d by omega)
  have e : (k : Int) * b = ((k * b : Nat) : Int) := by simp
  rw [e] at h4
  have hkb : 1 ≤ k * b := Nat.mul_pos (by omega) (by omega)
  have hkb2 : k * b ≤ 15 * 16 := Nat.mul_le_mul (by omega) (by omega)
  have hM : 0 < k * b - 1 := by omega
  have hg : 0 < Nat.gcd d (k * b - 1) := Nat.gcd_pos_of_pos_right _ hM
  have hT := Nat.div_mul_cancel (Nat.gcd_dvd_left d (k * b - 1))
  have hB := Nat.div_mul_cancel (Nat.gcd_dvd_right d (k * b - 1))
  have hc : Nat.gcd (d / Nat.gcd d (k * b - 1)) ((k * b - 1) / Nat.gcd d (k * b - 1)) = 1 := by rw [Nat.gcd_div (Nat.gcd_dvd_left _ _) (Nat.gcd_dvd_right _ _)]; exact Nat.div_self hg
  have hlt : d / Nat.gcd d (k * b - 1) < (k * b - 1) / Nat.gcd d (k * b - 1) := Nat.div_lt_div_of_lt_of_dvd (Nat.gcd_dvd_right _ _) (by omega)
  revert hT hB hc hlt hg
  generalize Nat.gcd d (k * b - 1) = g
  generalize d / g = T
  generalize (k * b - 1) / g = B
  intro hg hT hB hc hlt
  have hbB : Nat.gcd b B = 1 := by
    have hd1 : Nat.gcd b B ∣ k * b := Nat.dvd_trans (Nat.gcd_dvd_left b B) (Nat.dvd_mul_left b k)
    have hd2 : Nat.gcd b B ∣ k * b - 1 := by rw [← hB]; exact Nat.dvd_trans (Nat.gcd_dvd_right b B) (Nat.dvd_mul_right B g)
    have hd3 : Nat.gcd b B ∣ 1 := by
      have := Nat.dvd_sub hd1 hd2
      rwa [show k * b - (k * b - 1) = 1 by omega] at this
    exact Nat.dvd_one.1 hd3
  obtain ⟨m, hm⟩ := len_zero hbB hlt hc
  exact ⟨b, k, d, g, T, B, m, rfl, rfl, rfl, by omega, by omega, by omega, by omega, by omega, by omega, hT, hB, hlt, hc, hm, hg, by omega⟩

set_option maxHeartbeats 1000000 in
theorem specTurnFind_no (b k d : Int) (h : findB b k d = false) : Gives 50 #[.int .i64 b, .int .i64 k, .int .i64 d] [] false := by
  intro w
  unfold findB at h
  cases h1 : decide (2 ≤ b ∧ b ≤ 16) with
  | false =>
    clear h
    go_enter Try.func50, Try.ntmps50
    go_wp2_with (go_at_call 39; refine (l6In_any _ _ _ _).mono ?_; rintro e w' ⟨rfl, rfl⟩)
    go_ret2
    exact ⟨_, rfl, Slc.empty (Nat.le_refl _), (Below.refl _ _).alloc (Nat.le_refl _) _⟩
  | true =>
    rw [h1, Bool.true_and] at h
    have b1 := of_decide_eq_true h1
    cases h2 : decide (1 ≤ k ∧ k ≤ b - 1) with
    | false =>
      clear h
      go_enter Try.func50, Try.ntmps50
      go_wp2_with (go_at_call 39; refine (l6In_any _ _ _ _).mono ?_; rintro e w' ⟨rfl, rfl⟩)
      go_ret2
      exact ⟨_, rfl, Slc.empty (Nat.le_refl _), (Below.refl _ _).alloc (Nat.le_refl _) _⟩
    | true =>
      rw [h2, Bool.true_and] at h
      have b2 := of_decide_eq_true h2
      cases h3 : decide (1 ≤ d ∧ d ≤ b - 1) with
      | false =>
        clear h
        go_enter Try.func50, Try.ntmps50
        go_wp2_with (go_at_call 39; refine (l6In_any _ _ _ _).mono ?_; rintro e w' ⟨rfl, rfl⟩)
        go_ret2
        exact ⟨_, rfl, Slc.empty (Nat.le_refl _), (Below.refl _ _).alloc (Nat.le_refl _) _⟩
      | true =>
        rw [h3, Bool.true_and] at h
        have b3 := of_decide_eq_true h3
        have b4 := of_decide_eq_false h
        have m1 : 0 ≤ k * b := Int.mul_nonneg (by omega) (by omega)
        have m2 : k * b ≤ 15 * 16 := Int.mul_le_mul (by omega) (by omega) (by omega) (by omega)
        have j4 : d ≥ k * b - 1 := by omega
        clear h b4
        go_enter Try.func50, Try.ntmps50
        go_wp2_with (go_at_call 39; refine (l6In_any _ _ _ _).mono ?_; rintro e w' ⟨rfl, rfl⟩)
        go_ret2
        exact ⟨_, rfl, Slc.empty (Nat.le_refl _), (Below.refl _ _).alloc (Nat.le_refl _) _⟩

set_option maxHeartbeats 1000000 in
theorem specTurnFind_yes (b k d g T B m : Nat) (h : findB b k d = true) (hb16 : b ≤ 16) (hT : T * g = d) (hB : B * g = k * b - 1) (hlt : T < B) (hc : Nat.gcd T B = 1) (hm : IsLen b T B 0 m) :
    Gives 50 #[.int .i64 b, .int .i64 k, .int .i64 d] (digL b T B m) true := by
  intro w
  unfold findB at h
  rw [Bool.and_eq_true, Bool.and_eq_true, Bool.and_eq_true] at h
  obtain ⟨h1, h2, h3, h4⟩ := h
  have b1 := of_decide_eq_true h1; have b2 := of_decide_eq_true h2; have b3 := of_decide_eq_true h3; have b4 := of_decide_eq_true h4
  have m1 : 0 ≤ (k : Int) * b := Int.mul_nonneg (by omega) (by omega)
  have m2 : (k : Int) * b ≤ 15 * 16 := Int.mul_le_mul (by omega) (by omega) (by omega) (by omega)
  have hkb : 1 ≤ k * b := Nat.mul_pos (by omega) (by omega)
  have eM : (k : Int) * b - 1 = ((B * g : Nat) : Int) := by rw [hB, Int.natCast_sub hkb]; simp
  have hgp : 0 < g := Nat.pos_of_ne_zero fun e => by rw [e, Nat.mul_zero] at hT; omega
  have hred := red_of hgp hc
  have RD : Hid (∀ wx, Calls Try.prog 60 #[.int .i64 d, .int .i64 ((k : Int) * b - 1)] wx fun e w' => e = .returned (.agg #[.int .i64 T, .int .i64 B]) ∧ Below wx.heap.size wx w') := fun wx => by
    have := l2Reduced_int (d : Int) ((k : Int) * b - 1) wx (by omega) (by omega) (by omega) (by omega)
    rw [eM, ← hT, hred.1, hred.2] at this
    rw [eM, ← hT]
    exact this
  have hBB : B ≤ 1000 := by
    have : B ≤ B * g := Nat.le_mul_of_pos_right B hgp
    omega
  have j4 : ¬ (d : Int) ≥ (k : Int) * b - 1 := by omega
  have HM := Lib.hid hm
  clear hm hT hB hred eM b4 h4 hc
  go_enter Try.func50, Try.ntmps50
  go_wp2_with (go_at_call 39; refine (l6In_any _ _ _ _).mono ?_; rintro e w' ⟨rfl, rfl⟩)
  refine (RD.out _).mono ?_
  rintro e w1 ⟨rfl, hb1⟩
  go_wp2_with fail
  refine (l1Round_any b T B _ hlt hBB (by omega) hb16).mono ?_
  rintro e w2 ⟨v, n', m', hm', rfl, hv, hb2⟩
  obtain ⟨rfl, rfl⟩ := HM.out.unique hm'
  rw [rndL_dig] at hv
  go_wp2_with fail
  go_ret2
  exact ⟨_, rfl, hv.mono hb1.size, hb1.trans (hb2.mono hb1.size)⟩



end Go.Proofs.Ytoiofkijinlllab
