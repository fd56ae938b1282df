/-
  Rings: the model's side: rings that are found; full primes; the least turn.
-/
import Derived.Test.YtagkbpdfpeadbacTurnT
import Derived.Test.YtagkbpdfpeadbacRed
import Derived.Test.YtagkbpdfpeadbacOrdS
import Derived.Test.YtagkbpdfpeadbacGRnd
namespace Go.Proofs.Ytagkbpdfpeadbac
open Go.RowKit

theorem rndL_dig (b T B m : Nat) : rndL b T B 0 m = digL b T B m := by unfold rndL; rw [List.drop_zero, Nat.zero_add]

theorem red_of {T B g : Nat} (hg : 0 < g) (h : Nat.gcd T B = 1) : ((T * g : Nat) : Int) / gcdI ((T * g : Nat) : Int) ((B * g : Nat) : Int) = T ∧ ((B * g : Nat) : Int) / gcdI ((T * g : Nat) : Int) ((B * g : Nat) : Int) = B := by
  rw [gcdI_nat, Nat.gcd_mul_right, h, Nat.one_mul]
  have e1 : ((T * g : Nat) : Int) / (g : Int) = ((T * g / g : Nat) : Int) := rfl
  have e2 : ((B * g : Nat) : Int) / (g : Int) = ((B * g / g : Nat) : Int) := rfl
  rw [e1, e2, Nat.mul_div_cancel T hg, Nat.mul_div_cancel B hg]
  exact ⟨rfl, rfl⟩

/-- What is found: the reduced fraction, its round. -/
theorem find_some {b k d : Int} (h : findB b k d = true) : ∃ b' k' d' g T B m : Nat, b = b' ∧ k = k' ∧ d = d' ∧ 2 ≤ b' ∧ b' ≤ 16 ∧ 1 ≤ k' ∧ k' < b' ∧ 1 ≤ d' ∧ d' < b' ∧ T * g = d' ∧ B * g = k' * b' - 1 ∧ T < B ∧ Nat.gcd T B = 1 ∧ IsLen b' T B 0 m ∧ 0 < g ∧ k' * b' ≤ 240 := by
  unfold findB at h
  rw [Bool.and_eq_true, Bool.and_eq_true, Bool.and_eq_true, decide_eq_true_eq, decide_eq_true_eq, decide_eq_true_eq, decide_eq_true_eq] at h
  obtain ⟨h1, h2, h3, h4⟩ := h
  obtain ⟨b, rfl⟩ := Int.eq_ofNat_of_zero_le (show 0 ≤ b by omega)
  obtain ⟨k, rfl⟩ := Int.eq_ofNat_of_zero_le (show 0 ≤ k by omega)
  obtain ⟨d, rfl⟩ := Int.eq_ofNat_of_zero_le (show 0 ≤ d by omega)
  have e : (k : Int) * b = ((k * b : Nat) : Int) := by simp
  rw [e] at h4
  have hkb : 1 ≤ k * b := Nat.mul_pos (by omega) (by omega)
  have hkb2 : k * b ≤ 15 * 16 := Nat.mul_le_mul (by omega) (by omega)
  have hM : 0 < k * b - 1 := by omega
  have hg : 0 < Nat.gcd d (k * b - 1) := Nat.gcd_pos_of_pos_right _ hM
  have hT := Nat.div_mul_cancel (Nat.gcd_dvd_left d (k * b - 1))
  have hB := Nat.div_mul_cancel (Nat.gcd_dvd_right d (k * b - 1))
  have hc : Nat.gcd (d / Nat.gcd d (k * b - 1)) ((k * b - 1) / Nat.gcd d (k * b - 1)) = 1 := by rw [Nat.gcd_div (Nat.gcd_dvd_left _ _) (Nat.gcd_dvd_right _ _)]; exact Nat.div_self hg
  have hlt : d / Nat.gcd d (k * b - 1) < (k * b - 1) / Nat.gcd d (k * b - 1) := Nat.div_lt_div_of_lt_of_dvd (Nat.gcd_dvd_right _ _) (by omega)
  revert hT hB hc hlt hg
  generalize Nat.gcd d (k * b - 1) = g
  generalize d / g = T
  generalize (k * b - 1) / g = B
  intro hg hT hB hc hlt
  have hbB : Nat.gcd b B = 1 := by
    have hd1 : Nat.gcd b B ∣ k * b := Nat.dvd_trans (Nat.gcd_dvd_left b B) (Nat.dvd_mul_left b k)
    have hd2 : Nat.gcd b B ∣ k * b - 1 := by rw [← hB]; exact Nat.dvd_trans (Nat.gcd_dvd_right b B) (Nat.dvd_mul_right B g)
    have hd3 : Nat.gcd b B ∣ 1 := by
      have := Nat.dvd_sub hd1 hd2
      rwa [show k * b - (k * b - 1) = 1 by omega] at this
    exact Nat.dvd_one.1 hd3
  obtain ⟨m, hm⟩ := len_zero hbB hlt hc
  exact ⟨b, k, d, g, T, B, m, rfl, rfl, rfl, by omega, by omega, by omega, by omega, by omega, by omega, hT, hB, hlt, hc, hm, hg, by omega⟩

set_option maxHeartbeats 1000000 in
theorem specTurnFind_no (b k d : Int) (h : findB b k d = false) : Gives 22 #[.int .i64 b, .int .i64 k, .int .i64 d] [] false := by
  intro w
  unfold findB at h
  cases h1 : decide (2 ≤ b ∧ b ≤ 16) with
  | false =>
    clear h
    go_enter Try.func22, Try.ntmps22
    go_wp2_with (go_at_call 30; refine (l6In_any _ _ _ _).mono ?_; rintro e w' ⟨rfl, rfl⟩)
    go_ret2
    exact ⟨_, rfl, Slc.empty (Nat.le_refl _), (Below.refl _ _).alloc (Nat.le_refl _) _⟩
  | true =>
    rw [h1, Bool.true_and] at h
    have b1 := of_decide_eq_true h1
    cases h2 : decide (1 ≤ k ∧ k ≤ b - 1) with
    | false =>
      clear h
      go_enter Try.func22, Try.ntmps22
      go_wp2_with (go_at_call 30; refine (l6In_any _ _ _ _).mono ?_; rintro e w' ⟨rfl, rfl⟩)
      go_ret2
      exact ⟨_, rfl, Slc.empty (Nat.le_refl _), (Below.refl _ _).alloc (Nat.le_refl _) _⟩
    | true =>
      rw [h2, Bool.true_and] at h
      have b2 := of_decide_eq_true h2
      cases h3 : decide (1 ≤ d ∧ d ≤ b - 1) with
      | false =>
        clear h
        go_enter Try.func22, Try.ntmps22
        go_wp2_with (go_at_call 30; refine (l6In_any _ _ _ _).mono ?_; rintro e w' ⟨rfl, rfl⟩)
        go_ret2
        exact ⟨_, rfl, Slc.empty (Nat.le_refl _), (Below.refl _ _).alloc (Nat.le_refl _) _⟩
      | true =>
        rw [h3, Bool.true_and] at h
        have b3 := of_decide_eq_true h3
        have b4 := of_decide_eq_false h
        have m1 : 0 ≤ k * b := Int.mul_nonneg (by omega) (by omega)
        have m2 : k * b ≤ 15 * 16 := Int.mul_le_mul (by omega) (by omega) (by omega) (by omega)
        have j4 : d ≥ k * b - 1 := by omega
        clear h b4
        go_enter Try.func22, Try.ntmps22
        go_wp2_with (go_at_call 30; refine (l6In_any _ _ _ _).mono ?_; rintro e w' ⟨rfl, rfl⟩)
        go_ret2
        exact ⟨_, rfl, Slc.empty (Nat.le_refl _), (Below.refl _ _).alloc (Nat.le_refl _) _⟩

set_option maxHeartbeats 1000000 in
theorem specTurnFind_yes (b k d g T B m : Nat) (h : findB b k d = true) (hb16 : b ≤ 16) (hT : T * g = d) (hB : B * g = k * b - 1) (hlt : T < B) (hc : Nat.gcd T B = 1) (hm : IsLen b T B 0 m) :
    Gives 22 #[.int .i64 b, .int .i64 k, .int .i64 d] (digL b T B m) true := by
  intro w
  unfold findB at h
  rw [Bool.and_eq_true, Bool.and_eq_true, Bool.and_eq_true] at h
  obtain ⟨h1, h2, h3, h4⟩ := h
  have b1 := of_decide_eq_true h1; have b2 := of_decide_eq_true h2; have b3 := of_decide_eq_true h3; have b4 := of_decide_eq_true h4
  have m1 : 0 ≤ (k : Int) * b := Int.mul_nonneg (by omega) (by omega)
  have m2 : (k : Int) * b ≤ 15 * 16 := Int.mul_le_mul (by omega) (by omega) (by omega) (by omega)
  have hkb : 1 ≤ k * b := Nat.mul_pos (by omega) (by omega)
  have eM : (k : Int) * b - 1 = ((B * g : Nat) : Int) := by rw [hB, Int.natCast_sub hkb]; simp
  have hgp : 0 < g := Nat.pos_of_ne_zero fun e => by rw [e, Nat.mul_zero] at hT; omega
  have hred := red_of hgp hc
  have RD : Hid (∀ wx, Calls Try.prog 48 #[.int .i64 d, .int .i64 ((k : Int) * b - 1)] wx fun e w' => e = .returned (.agg #[.int .i64 T, .int .i64 B]) ∧ Below wx.heap.size wx w') := fun wx => by
    have := l2Reduced_int (d : Int) ((k : Int) * b - 1) wx (by omega) (by omega) (by omega) (by omega)
    rw [eM, ← hT, hred.1, hred.2] at this
    rw [eM, ← hT]
    exact this
  have hBB : B ≤ 1000 := by
    have : B ≤ B * g := Nat.le_mul_of_pos_right B hgp
    omega
  have j4 : ¬ (d : Int) ≥ (k : Int) * b - 1 := by omega
  have HM := Lib.hid hm
  clear hm hT hB hred eM b4 h4 hc
  go_enter Try.func22, Try.ntmps22
  go_wp2_with (go_at_call 30; refine (l6In_any _ _ _ _).mono ?_; rintro e w' ⟨rfl, rfl⟩)
  refine (RD.out _).mono ?_
  rintro e w1 ⟨rfl, hb1⟩
  go_wp2_with fail
  refine (l1Round_any b T B _ hlt hBB (by omega) hb16).mono ?_
  rintro e w2 ⟨v, n', m', hm', rfl, hv, hb2⟩
  obtain ⟨rfl, rfl⟩ := HM.out.unique hm'
  rw [rndL_dig] at hv
  go_wp2_with fail
  go_ret2
  exact ⟨_, rfl, hv.mono hb1.size, hb1.trans (hb2.mono hb1.size)⟩

set_option maxHeartbeats 1000000 in
theorem specTurnLeast_no (b : Int) (d : List Int) (hl : d.length ≤ 1048576) (h : rngB b d = false) : GivesDI 14 (fun v => #[.int .i64 b, v]) d 0 false := by
  intro n₀ v w hv
  have RG := Lib.hid (l5Ring_any n₀ b v d w hv hl)
  rw [h] at RG
  go_enter Try.func14, Try.ntmps14
  go_wp2_with (go_at_call 29; refine RG.out.mono ?_; rintro e w' ⟨rfl, rfl⟩)
  go_ret2
  exact ⟨rfl, Below.refl _ _⟩

set_option maxHeartbeats 1000000 in
theorem specTurnLeast_yes (b k : Nat) (d : List Int) (h : Rng b d) (hk : IsTurn d k) : GivesDI 14 (fun v => #[.int .i64 b, v]) d k true := by
  intro n₀ v w hv
  have h1 := h.l1; have h2 := h.l2
  have hkl : k ≤ d.length := by
    obtain ⟨k', h3, h4⟩ := turn_some (d := d) h1
    rw [hk.unique h3]; exact h4
  have hk1 := hk.1
  have RG := Lib.hid (l5Ring_any n₀ b v d w hv (by omega))
  rw [h.told] at RG
  have TD := Lib.hid (fun (j : Nat) (w1 : World) (h' : Below w.heap.size w w1) => l5Turned_any n₀ v d j w1 (hv.later h') h1 (by omega))
  have EQ := Lib.hid (fun (u : Value) (n₁ : Nat) (xs : List Int) (w1 : World) (h' : Below w.heap.size w w1) (hu : Slc n₁ w1 u xs) (hl : xs.length ≤ 1048576) => l2Equal_any n₁ n₀ u v xs d w1 hu (hv.later h') hl (by omega))
  have HK := Lib.hid hk
  clear hk h
  go_enter Try.func14, Try.ntmps14
  go_wp2_with (go_at_call 29; refine RG.out.mono ?_; rintro e w' ⟨rfl, rfl⟩)
  go_loopw [6] (fun x wr => ∃ j : Nat, 1 ≤ j ∧ j ≤ k ∧ x = .int .i64 j ∧ Below w.heap.size w wr) (fun x _ => k - (intOf x).toNat)
  case atStart => exact ⟨1, Nat.le_refl _, hk1, rfl, Below.refl _ _⟩
  case round =>
    obtain ⟨j, hj1, hjk, rfl, hb⟩ := hrel
    go_wp2_with fail
    refine (TD.out j wr hb).mono ?_
    rintro e w1 ⟨u, rfl, hu, hb1⟩
    have B1 := hb.trans (hb1.mono hb.size)
    go_wp2_with fail
    refine (EQ.out u _ _ w1 B1 hu (by rw [rotL_len]; omega)).mono ?_
    rintro e w2 ⟨rfl, hb2⟩
    have B2 := B1.trans (hb2.mono B1.size)
    clear hb hb1 hb2 hu B1
    by_cases hlt : j < k
    · rw [decide_eq_false (HK.out.2.2 j hj1 hlt)]
      go_wp2_with fail
      exact ⟨⟨j + 1, by omega, hlt, rfl, B2⟩, by simp [intOf]; omega⟩
    · obtain rfl : j = k := by omega
      rw [decide_eq_true HK.out.2.1]
      go_wp2_with fail
      go_ret2
      exact ⟨rfl, B2⟩

set_option maxHeartbeats 1000000 in
theorem specTurnCyclic_no (b p : Int) (h : NoCyc b p) : Gives 17 #[.int .i64 b, .int .i64 p] [] false := by
  intro w
  by_cases h1 : 2 ≤ p ∧ p ≤ 200
  case neg =>
    have j1 : decide (2 ≤ p ∧ p ≤ 200) = false := by simpa using h1
    clear h h1
    go_enter Try.func17, Try.ntmps17
    go_wp2_with (go_at_call 30; refine (l6In_any _ _ _ _).mono ?_; rintro e w' ⟨rfl, rfl⟩)
    go_ret2
    exact ⟨_, rfl, Slc.empty (Nat.le_refl _), (Below.refl _ _).alloc (Nat.le_refl _) _⟩
  case pos =>
    have j1 : decide (2 ≤ p ∧ p ≤ 200) = true := by simpa using h1
    obtain ⟨p, rfl⟩ := Int.eq_ofNat_of_zero_le (show 0 ≤ p by omega)
    have j2 : (2 : Int) ≤ p := h1.1
    have j3 : (p : Int) ≤ 200 := h1.2
    cases hpr : primeB p with
    | false =>
      clear h h1
      go_enter Try.func17, Try.ntmps17
      go_wp2_with (go_at_call 30; refine (l6In_any _ _ _ _).mono ?_; rintro e w' ⟨rfl, rfl⟩)
      refine (l3Prime_any p _ (by omega)).mono ?_
      rintro e w1 ⟨rfl, rfl⟩
      rw [hpr]
      go_wp2_with fail
      go_ret2
      exact ⟨_, rfl, Slc.empty (Nat.le_refl _), (Below.refl _ _).alloc (Nat.le_refl _) _⟩
    | true =>
      cases hb : prmB b p with
      | false =>
        clear h h1
        go_enter Try.func17, Try.ntmps17
        go_wp2_with (go_at_call 30; refine (l6In_any _ _ _ _).mono ?_; rintro e w' ⟨rfl, rfl⟩)
        refine (l3Prime_any p _ (by omega)).mono ?_
        rintro e w1 ⟨rfl, rfl⟩
        rw [hpr]
        go_wp2_with fail
        refine (l2Prime_any _ _ _).mono ?_
        rintro e w1 ⟨rfl, rfl⟩
        rw [hb]
        go_wp2_with fail
        go_ret2
        exact ⟨_, rfl, Slc.empty (Nat.le_refl _), (Below.refl _ _).alloc (Nat.le_refl _) _⟩
      | true =>
        obtain ⟨b, p', rfl, hpp, h3, h4, hn, hn2, hbn⟩ := prm_nat hb
        obtain rfl : p = p' := by omega
        obtain ⟨m, hm⟩ := ord_some hbn hn
        have hne : m ≠ p - 1 := fun e => h b p rfl rfl (by omega) hpr hb (by rw [← e]; exact hm)
        have hne' : ((m : Int) == (p : Int) - 1) = false := by simp; omega
        have hne2 : ((m : Int) != (p : Int) - 1) = true := by simp; omega
        have HM := Lib.hid hm
        clear h h1 hm hpp
        go_enter Try.func17, Try.ntmps17
        go_wp2_with (go_at_call 30; refine (l6In_any _ _ _ _).mono ?_; rintro e w' ⟨rfl, rfl⟩)
        refine (l3Prime_any p _ (by omega)).mono ?_
        rintro e w1 ⟨rfl, rfl⟩
        rw [hpr]
        go_wp2_with fail
        refine (l2Prime_any _ _ _).mono ?_
        rintro e w1 ⟨rfl, rfl⟩
        rw [hb]
        go_wp2_with fail
        refine (l3Order_any b p m _ (by omega) hn (by omega) HM.out).mono ?_
        rintro e w1 ⟨rfl, rfl⟩
        go_wp2_with fail
        go_ret2
        exact ⟨_, rfl, Slc.empty (Nat.le_refl _), (Below.refl _ _).alloc (Nat.le_refl _) _⟩

set_option maxHeartbeats 1000000 in
theorem specTurnCyclic_yes (b p : Nat) (hp : p ≤ 200) (hpr : primeB p = true) (hb : prmB b p = true) (hm : IsLen b 1 p 0 (p - 1)) : Gives 17 #[.int .i64 b, .int .i64 p] (digL b 1 p (p - 1)) true := by
  intro w
  obtain ⟨b', p', e1, e2, h3, h4, hn, hn2, hbn⟩ := prm_nat hb
  obtain rfl : b = b' := by omega
  obtain rfl : p = p' := by omega
  have HM := Lib.hid hm
  have j2 : (2 : Int) ≤ p := by omega
  have j3 : (p : Int) ≤ 200 := by omega
  have e3 : ((p - 1 : Nat) : Int) = (p : Int) - 1 := by omega
  have LO : Hid (∀ wx, Calls Try.prog 41 #[.int .i64 b, .int .i64 p] wx fun e w' => e = .returned (.int .i64 ((p : Int) - 1)) ∧ wx = w') := fun wx => by
    have := l3Order_any b p (p - 1) wx (by omega) hn (by omega) hm
    rw [e3] at this
    exact this
  clear hm e1 e2 e3
  go_enter Try.func17, Try.ntmps17
  go_wp2_with (go_at_call 30; refine (l6In_any _ _ _ _).mono ?_; rintro e w' ⟨rfl, rfl⟩)
  refine (l3Prime_any p _ (by omega)).mono ?_
  rintro e w1 ⟨rfl, rfl⟩
  rw [hpr]
  go_wp2_with fail
  refine (l2Prime_any _ _ _).mono ?_
  rintro e w1 ⟨rfl, rfl⟩
  rw [hb]
  go_wp2_with fail
  refine (LO.out _).mono ?_
  rintro e w1 ⟨rfl, rfl⟩
  go_wp2_with fail
  have RN := Lib.hid (fun wx => l1Round_any b 1 p wx (by omega) (by omega) h3 h4)
  refine (RN.out _).mono ?_
  rintro e w2 ⟨v, n', m', hm', rfl, hv, hb2⟩
  obtain ⟨rfl, rfl⟩ := HM.out.unique hm'
  rw [rndL_dig] at hv
  go_wp2_with fail
  go_ret2
  exact ⟨_, rfl, hv, hb2⟩

end Go.Proofs.Ytagkbpdfpeadbac
