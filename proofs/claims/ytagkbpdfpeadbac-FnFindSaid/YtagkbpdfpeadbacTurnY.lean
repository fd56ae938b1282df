/-
  Chapter 5, the program's side: rings turned by numbers, rings that turn by products, rounds of full primes, least turns.
-/
import Derived.Test.YtagkbpdfpeadbacTurnX
import Derived.Test.YtagkbpdfpeadbacRndDig
import Derived.Test.YtagkbpdfpeadbacPower
import Derived.Test.YtagkbpdfpeadbacGOrx
import Derived.Test.YtagkbpdfpeadbacTurnU
namespace Go.Proofs.Ytagkbpdfpeadbac
open Go.RowKit

set_option maxHeartbeats 1000000 in
theorem imTurnBy : ImTurnBy := by
  constructor
  · intro b k d hl h n₀ v w hv
    have RG := Lib.hid (ringIn_any n₀ b v d w hv hl)
    cases hr : rngB b d with
    | false =>
      rw [hr] at RG
      clear h hr
      go_enter Try.func8, Try.ntmps8
      go_wp2_with (go_at_call 27; refine RG.out.mono ?_; rintro e w' ⟨rfl, rfl⟩)
      go_ret2
      exact ⟨_, rfl, Slc.nil _ _, Below.refl _ _⟩
    | true =>
      rw [hr, Bool.true_and] at h
      rw [hr] at RG
      clear hr
      have h' := of_decide_eq_false h
      clear h
      by_cases h1 : k < 0
      · have j1 : decide (k < 0) = true := by simpa using h1
        go_enter Try.func8, Try.ntmps8
        go_wp2_with (go_at_call 27; refine RG.out.mono ?_; rintro e w' ⟨rfl, rfl⟩)
        go_ret2
        exact ⟨_, rfl, Slc.nil _ _, Below.refl _ _⟩
      · have j1 : decide (k < 0) = false := by simpa using h1
        have j2 : decide (k > 250) = true := by simp; omega
        have j3 : k > 250 := by omega
        go_enter Try.func8, Try.ntmps8
        go_wp2_with (go_at_call 27; refine RG.out.mono ?_; rintro e w' ⟨rfl, rfl⟩)
        go_ret2
        exact ⟨_, rfl, Slc.nil _ _, Below.refl _ _⟩
  · intro b k d h hk n₀ v w hv
    have h2 := h.l2
    have RG := Lib.hid (ringIn_any n₀ b v d w hv (by omega))
    have TD := Lib.hid (turned_any n₀ v d k w hv h.l1 (by omega))
    rw [h.told] at RG
    have j1 : decide ((k : Int) < 0) = false := by simp
    have j2 : decide ((k : Int) > 250) = false := by simp; omega
    have j3 : ¬ ((k : Int) > 250) := by omega
    go_enter Try.func8, Try.ntmps8
    go_wp2_with (go_at_call 27; refine RG.out.mono ?_; rintro e w' ⟨rfl, rfl⟩)
    refine TD.out.mono ?_
    rintro e w1 ⟨u, rfl, hu, hb⟩
    go_wp2_with fail
    go_ret2
    exact ⟨_, rfl, hu, hb⟩

set_option maxHeartbeats 1000000 in
theorem imTurnLeast : ImTurnLeast := by
  constructor
  · intro b d hl h n₀ v w hv
    have RG := Lib.hid (ringIn_any n₀ b v d w hv hl)
    rw [h] at RG
    go_enter Try.func13, Try.ntmps13
    go_wp2_with (go_at_call 27; refine RG.out.mono ?_; rintro e w' ⟨rfl, rfl⟩)
    go_ret2
    exact ⟨rfl, Below.refl _ _⟩
  · intro b k d h hk n₀ v w hv
    have h1 := h.l1; have h2 := h.l2
    have hkl : k ≤ d.length := by
      obtain ⟨k', h3, h4⟩ := turn_some (d := d) h1
      rw [hk.unique h3]; exact h4
    have hk1 := hk.1
    have RG := Lib.hid (ringIn_any n₀ b v d w hv (by omega))
    rw [h.told] at RG
    have TD := Lib.hid (fun (j : Nat) (w1 : World) (h' : Below w.heap.size w w1) => turned_any n₀ v d j w1 (hv.later h') h1 (by omega))
    have EQ := Lib.hid (fun (u : Value) (n₁ : Nat) (xs : List Int) (w1 : World) (h' : Below w.heap.size w w1) (hu : Slc n₁ w1 u xs) (hl : xs.length ≤ 1048576) => ringEq_any n₁ n₀ u v xs d w1 hu (hv.later h') hl (by omega))
    have HK := Lib.hid hk
    clear hk h
    go_enter Try.func13, Try.ntmps13
    go_wp2_with (go_at_call 27; refine RG.out.mono ?_; rintro e w' ⟨rfl, rfl⟩)
    go_loopw [6] (fun x wr => ∃ j : Nat, 1 ≤ j ∧ j ≤ k ∧ x = .int .i64 j ∧ Below w.heap.size w wr) (fun x _ => k - (intOf x).toNat)
    case atStart => exact ⟨1, Nat.le_refl _, hk1, rfl, Below.refl _ _⟩
    case round =>
      obtain ⟨j, hj1, hjk, rfl, hb⟩ := hrel
      go_wp2_with fail
      refine (TD.out j wr hb).mono ?_
      rintro e w1 ⟨u, rfl, hu, hb1⟩
      have B1 := hb.trans (hb1.mono hb.size)
      go_wp2_with fail
      refine (EQ.out u _ _ w1 B1 hu (by rw [rotL_len]; omega)).mono ?_
      rintro e w2 ⟨rfl, hb2⟩
      have B2 := B1.trans (hb2.mono B1.size)
      clear hb hb1 hb2 hu B1
      by_cases hlt : j < k
      · rw [decide_eq_false (HK.out.2.2 j hj1 hlt)]
        go_wp2_with fail
        exact ⟨⟨j + 1, by omega, hlt, rfl, B2⟩, by simp [intOf]; omega⟩
      · obtain rfl : j = k := by omega
        rw [decide_eq_true HK.out.2.1]
        go_wp2_with fail
        go_ret2
        exact ⟨rfl, B2⟩

set_option maxHeartbeats 1000000 in
theorem imTurnFind : ImTurnFind := by
  constructor
  · intro b k d h w
    unfold findB at h
    cases h1 : decide (2 ≤ b ∧ b ≤ 16) with
    | false =>
      clear h
      go_enter Try.func21, Try.ntmps21
      go_wp2_with (go_at_call 46; refine (baseIn_any _ _).mono ?_; rintro e w' ⟨rfl, rfl⟩)
      go_ret2
      exact ⟨_, rfl, Slc.nil _ _, Below.refl _ _⟩
    | true =>
      rw [h1, Bool.true_and] at h
      have b1 := of_decide_eq_true h1
      have fin : ∀ (H : (decide (k < 1) || decide (k ≥ b) || decide (d < 1) || decide (d ≥ b)) = true ∨ (1 ≤ k ∧ k < b ∧ 1 ≤ d ∧ d < b ∧ d ≥ k * b - 1)), True := fun _ => trivial
      by_cases k1 : k < 1
      · have j1 : decide (k < 1) = true := by simpa using k1
        clear h
        go_enter Try.func21, Try.ntmps21
        go_wp2_with (go_at_call 46; refine (baseIn_any _ _).mono ?_; rintro e w' ⟨rfl, rfl⟩)
        go_ret2
        exact ⟨_, rfl, Slc.nil _ _, Below.refl _ _⟩
      · have j1 : decide (k < 1) = false := by simpa using k1
        by_cases k2 : b ≤ k
        · have j2 : decide (k ≥ b) = true := by simpa using k2
          have j2' : k ≥ b := k2
          clear h
          go_enter Try.func21, Try.ntmps21
          go_wp2_with (go_at_call 46; refine (baseIn_any _ _).mono ?_; rintro e w' ⟨rfl, rfl⟩)
          go_ret2
          exact ⟨_, rfl, Slc.nil _ _, Below.refl _ _⟩
        · have j2 : decide (b ≤ k) = false := by simpa using k2
          rw [decide_eq_true (show 1 ≤ k ∧ k ≤ b - 1 by omega), Bool.true_and] at h
          by_cases k3 : d < 1
          · have j3 : decide (d < 1) = true := by simpa using k3
            clear h
            go_enter Try.func21, Try.ntmps21
            go_wp2_with (go_at_call 46; refine (baseIn_any _ _).mono ?_; rintro e w' ⟨rfl, rfl⟩)
            go_ret2
            exact ⟨_, rfl, Slc.nil _ _, Below.refl _ _⟩
          · have j3 : decide (d < 1) = false := by simpa using k3
            by_cases k4 : b ≤ d
            · have j4 : decide (b ≤ d) = true := by simpa using k4
              clear h
              go_enter Try.func21, Try.ntmps21
              go_wp2_with (go_at_call 46; refine (baseIn_any _ _).mono ?_; rintro e w' ⟨rfl, rfl⟩)
              go_ret2
              exact ⟨_, rfl, Slc.nil _ _, Below.refl _ _⟩
            · have j4 : decide (b ≤ d) = false := by simpa using k4
              rw [decide_eq_true (show 1 ≤ d ∧ d ≤ b - 1 by omega), Bool.true_and] at h
              have b4 := of_decide_eq_false h
              have m1 : 0 ≤ k * b := Int.mul_nonneg (by omega) (by omega)
              have m2 : k * b ≤ 15 * 16 := Int.mul_le_mul (by omega) (by omega) (by omega) (by omega)
              have j5 : k * b - 1 ≤ d := by omega
              clear h b4
              go_enter Try.func21, Try.ntmps21
              go_wp2_with (go_at_call 46; refine (baseIn_any _ _).mono ?_; rintro e w' ⟨rfl, rfl⟩)
              go_ret2
              exact ⟨_, rfl, Slc.nil _ _, Below.refl _ _⟩
  · intro b k d g T B m h hb16 hT hB hlt hc hm w
    unfold findB at h
    rw [Bool.and_eq_true, Bool.and_eq_true, Bool.and_eq_true] at h
    obtain ⟨h1, h2, h3, h4⟩ := h
    have b1 := of_decide_eq_true h1; have b2 := of_decide_eq_true h2; have b3 := of_decide_eq_true h3; have b4 := of_decide_eq_true h4
    have m1 : 0 ≤ (k : Int) * b := Int.mul_nonneg (by omega) (by omega)
    have m2 : (k : Int) * b ≤ 15 * 16 := Int.mul_le_mul (by omega) (by omega) (by omega) (by omega)
    have hkb : 1 ≤ k * b := Nat.mul_pos (by omega) (by omega)
    have eM : (k : Int) * b - 1 = ((B * g : Nat) : Int) := by rw [hB, Int.natCast_sub hkb]; simp
    have hgp : 0 < g := Nat.pos_of_ne_zero fun e => by rw [e, Nat.mul_zero] at hT; omega
    have hred := red_of hgp hc
    have RD : Hid (∀ wx, Calls Try.prog 47 #[.int .i64 d, .int .i64 ((k : Int) * b - 1)] wx fun e w' => e = .returned (.agg #[.int .i64 T, .int .i64 B]) ∧ Below wx.heap.size wx w') := fun wx => by
      have := lowest_int (d : Int) ((k : Int) * b - 1) wx (by omega) (by omega) (by omega) (by omega)
      rw [eM, ← hT, hred.1, hred.2] at this
      rw [eM, ← hT]
      exact this
    have hBB : B ≤ 1000 := by
      have : B ≤ B * g := Nat.le_mul_of_pos_right B hgp
      omega
    have j1 : decide ((k : Int) < 1) = false := by simp; omega
    have j2 : decide ((b : Int) ≤ (k : Int)) = false := by simp; omega
    have j2' : ¬ b ≤ k := by omega
    have j3 : decide ((d : Int) < 1) = false := by simp; omega
    have j4 : decide ((b : Int) ≤ (d : Int)) = false := by simp; omega
    have j4' : ¬ b ≤ d := by omega
    have j1' : ¬ k = 0 := by omega
    have j3' : ¬ d = 0 := by omega
    have j5 : ¬ (k : Int) * b - 1 ≤ (d : Int) := by omega
    have HM := Lib.hid hm; have HC := Lib.hid hc
    clear hm hT hB hred eM b4 h4 hc
    go_enter Try.func21, Try.ntmps21
    go_wp2_with (go_at_call 46; refine (baseIn_any _ _).mono ?_; rintro e w' ⟨rfl, rfl⟩)
    refine (RD.out _).mono ?_
    rintro e w1 ⟨rfl, hb1⟩
    go_wp2_with fail
    refine (round_any b T B _ hlt HC.out hBB (by omega) hb16).mono ?_
    rintro e w2 ⟨v, n', m', hm', rfl, hv, hb2⟩
    obtain ⟨rfl, rfl⟩ := HM.out.unique hm'
    rw [rndL_dig] at hv
    go_wp2_with fail
    go_ret2
    exact ⟨_, rfl, hv.mono hb1.size, hb1.trans (hb2.mono hb1.size)⟩

set_option maxHeartbeats 1000000 in
theorem implPrime_any (n : Nat) (w : World) (hn : 2 ≤ n) (hn2 : n ≤ 1000) :
    Calls Try.prog 37 #[.int .i64 n] w fun e w' => e = .returned (.bool (primeB n)) ∧ w = w' := by
  go_enter Try.func37, Try.ntmps37
  go_wp2_with fail
  go_loop [3] (fun x => ∃ k : Nat, 2 ≤ k ∧ k ≤ 33 ∧ x = .int .i64 k ∧ ∀ j, j < k → 2 ≤ j → n % j ≠ 0) (fun x => 40 - (intOf x).toNat)
  case atStart => exact ⟨2, by omega, by omega, rfl, fun j h1 h2 => by omega⟩
  case round =>
    obtain ⟨k, hk2, hk3, rfl, hno⟩ := hrel
    have m0 : k * k ≤ 33 * 33 := Nat.mul_le_mul hk3 hk3
    have m1 : (k : Int) * k ≤ 1089 := by have : ((k * k : Nat) : Int) ≤ 1089 := by omega
                                         simpa using this
    have m2 : 0 ≤ (k : Int) * k := Int.mul_nonneg (by omega) (by omega)
    have hk0 : ¬ k = 0 := by omega
    by_cases hle : k * k ≤ n
    · have hle' : (k : Int) * k ≤ n := by exact_mod_cast hle
      have hkn : k < n := by have : 2 * k ≤ k * k := Nat.mul_le_mul_right k hk2
                             omega
      have hk32 : k ≤ 32 := by
        rcases Nat.lt_or_ge 32 k with h | h
        · have : 33 * 33 ≤ k * k := Nat.mul_le_mul h h
          omega
        · exact h
      by_cases hm : n % k = 0
      · have HP := Lib.hid (not_prime hk2 hkn hm)
        have hm' : (n : Int) % k = 0 := by omega
        clear hno
        go_wp2_with fail
        go_ret
        exact ⟨ret_bool HP.out.symm, rfl⟩
      · have hm' : ¬ (n : Int) % k = 0 := by omega
        have HN := Lib.hid hno
        clear hno
        go_wp2_with fail
        refine ⟨⟨k + 1, by omega, by omega, rfl, fun j h1 h2 => ?_⟩, by simp [intOf]; omega⟩
        rcases Nat.lt_or_ge j k with h | h
        · exact HN.out j h h2
        · obtain rfl : j = k := by omega
          exact hm
    · have hle' : ¬ (k : Int) * k ≤ n := by intro h; exact hle (by exact_mod_cast h)
      have HP : Hid (primeB n = true) := prime_root hn hno (by omega)
      clear hno
      go_wp2_with fail
      go_ret
      exact ⟨ret_bool HP.out.symm, rfl⟩

set_option maxHeartbeats 1000000 in
theorem imTurnCyclic : ImTurnCyclic := by
  constructor
  · intro b p h w
    by_cases h1 : 200 < p
    case pos =>
      have j1 : decide (p > 200) = true := by simpa using h1
      clear h
      go_enter Try.func16, Try.ntmps16
      go_wp2_with fail
      go_ret2
      exact ⟨_, rfl, Slc.nil _ _, Below.refl _ _⟩
    case neg =>
      have j1 : decide (200 < p) = false := by simpa using h1
      cases hb : prmB b p with
      | false =>
        clear h h1
        go_enter Try.func16, Try.ntmps16
        go_wp2_with (go_at_call 36; refine (roundsTold_any _ _ _).mono ?_; rintro e w1 ⟨rfl, rfl⟩; rw [hb])
        go_ret2
        exact ⟨_, rfl, Slc.nil _ _, Below.refl _ _⟩
      | true =>
        obtain ⟨b, p, rfl, rfl, h3, h4, hn, hn2, hbn⟩ := prm_nat hb
        cases hpr : primeB p with
        | false =>
          clear h h1
          go_enter Try.func16, Try.ntmps16
          go_wp2_with (first | (go_at_call 36; refine (roundsTold_any _ _ _).mono ?_; rintro e w1 ⟨rfl, rfl⟩; rw [hb]) | (go_at_call 37; refine (implPrime_any p _ hn hn2).mono ?_; rintro e w1 ⟨rfl, rfl⟩; rw [hpr]))
          go_ret2
          exact ⟨_, rfl, Slc.nil _ _, Below.refl _ _⟩
        | true =>
          obtain ⟨m, hm⟩ := ord_some hbn hn
          have hne : m ≠ p - 1 := fun e => h b p rfl rfl (by omega) hpr hb (by rw [← e]; exact hm)
          have hne' : ((m : Int) == (p : Int) - 1) = false := by simp; omega
          have hne2 : ((m : Int) != (p : Int) - 1) = true := by simp; omega
          have hne3 : ¬ (m : Int) = (p : Int) - 1 := by omega
          have HM := Lib.hid hm
          clear h h1 hm
          go_enter Try.func16, Try.ntmps16
          go_wp2_with (first | (go_at_call 36; refine (roundsTold_any _ _ _).mono ?_; rintro e w1 ⟨rfl, rfl⟩; rw [hb]) | (go_at_call 37; refine (implPrime_any p _ hn hn2).mono ?_; rintro e w1 ⟨rfl, rfl⟩; rw [hpr]))
          have RN := Lib.hid (fun wx => round_any b 1 p wx (by omega) (Nat.gcd_one_left p) (by omega) h3 h4)
          refine (RN.out _).mono ?_
          rintro e w2 ⟨v, n', m', hm', rfl, hv, hb2⟩
          obtain ⟨rfl, rfl⟩ := HM.out.unique hm'
          rw [rndL_dig] at hv
          obtain ⟨a, c, rfl⟩ := slc_form hv
          rw [digL_len]
          clear hv
          go_wp2_with fail
          go_ret2
          exact ⟨_, rfl, Slc.nil _ _, hb2⟩
  · intro b p hp hpr hb hm w
    obtain ⟨b', p', e1, e2, h3, h4, hn, hn2, hbn⟩ := prm_nat hb
    obtain rfl : b = b' := by omega
    obtain rfl : p = p' := by omega
    have j1 : decide (200 < p) = false := by simp; omega
    have HM := Lib.hid hm
    clear hm e1 e2
    go_enter Try.func16, Try.ntmps16
    go_wp2_with (first | (go_at_call 36; refine (roundsTold_any _ _ _).mono ?_; rintro e w1 ⟨rfl, rfl⟩; rw [hb]) | (go_at_call 37; refine (implPrime_any p _ hn hn2).mono ?_; rintro e w1 ⟨rfl, rfl⟩; rw [hpr]))
    have RN := Lib.hid (fun wx => round_any b 1 p wx (by omega) (Nat.gcd_one_left p) (by omega) h3 h4)
    refine (RN.out _).mono ?_
    rintro e w2 ⟨v, n', m', hm', rfl, hv, hb2⟩
    obtain ⟨rfl, rfl⟩ := HM.out.unique hm'
    rw [rndL_dig] at hv
    obtain ⟨a, c, rfl⟩ := slc_form hv
    rw [digL_len] at hv ⊢
    obtain ⟨q, hq⟩ : ∃ q, p - 1 = q := ⟨_, rfl⟩
    rw [hq] at hv ⊢
    have t1 : ((q : Int) == (p : Int) - 1) = true := by simp; omega
    have t2 : ((q : Int) != (p : Int) - 1) = false := by simp; omega
    have t3 : (q : Int) = (p : Int) - 1 := by omega
    have HV := Lib.hid hv; have HQ := Lib.hid hq
    clear hv hq hm' HM
    go_wp2_with fail
    go_ret2
    exact ⟨_, rfl, by rw [HQ.out]; exact HV.out, hb2⟩

end Go.Proofs.Ytagkbpdfpeadbac
