/-
  How often a digit stands in the round of 1 over a full prime: the model's side.
-/
import Derived.Test.YtamcpoadpkgogadCntS
import Derived.Test.YtamcpoadpkgogadPrm
import Derived.Test.YtamcpoadpkgogadOrdS
namespace Go.Proofs.Ytamcpoadpkgogad
open Go.RowKit

theorem cnt_digit {r b p d : Nat} (h : r * b / p = d) : one (1 ≤ r ∧ r * b / p = d) = one (1 ≤ r) := by
  by_cases h1 : 1 ≤ r
  · rw [one_yes ⟨h1, h⟩, one_yes h1]
  · rw [one_no (fun e => h1 e.1), one_no h1]

theorem ret_intb0 {k : IntKind} {a b : Int} {p : Bool} (h : a = b) : Ending.returned (.tuple #[.int k a, .bool p]) = .returned (.tuple #[.int k b, .bool p]) := by rw [h]

set_option maxHeartbeats 1000000 in
theorem specCountFull_no (b p d : Int) (h : NoFul b p d) : GivesI 6 #[.int .i64 b, .int .i64 p, .int .i64 d] 0 false := by
  intro w
  cases hb : prmB b p with
  | false =>
    clear h
    go_enter Try.func6, Try.ntmps6
    go_wp2_with fail
    refine (l2Prime_any _ _ _).mono ?_
    rintro e w1 ⟨rfl, rfl⟩
    rw [hb]
    go_wp2_with fail
    go_ret2
    exact ⟨rfl, Below.refl _ _⟩
  | true =>
    obtain ⟨b, p, rfl, rfl, h3, h4, hn, hn2, hbn⟩ := prm_nat hb
    cases hpr : primeB p with
    | false =>
      clear h
      go_enter Try.func6, Try.ntmps6
      go_wp2_with fail
      refine (l2Prime_any _ _ _).mono ?_
      rintro e w1 ⟨rfl, rfl⟩
      rw [hb]
      go_wp2_with fail
      refine (l3Prime_any p _ (by omega)).mono ?_
      rintro e w1 ⟨rfl, rfl⟩
      rw [hpr]
      go_wp2_with fail
      go_ret2
      exact ⟨rfl, Below.refl _ _⟩
    | true =>
      obtain ⟨m, hm⟩ := ord_some hbn hn
      have HM := Lib.hid hm
      by_cases hne : m = p - 1
      case neg =>
        have hne' : ((m : Int) == (p : Int) - 1) = false := by simp; omega
        have hne2 : ((m : Int) != (p : Int) - 1) = true := by simp; omega
        clear h hm
        go_enter Try.func6, Try.ntmps6
        go_wp2_with fail
        refine (l2Prime_any _ _ _).mono ?_
        rintro e w1 ⟨rfl, rfl⟩
        rw [hb]
        go_wp2_with fail
        refine (l3Prime_any p _ (by omega)).mono ?_
        rintro e w1 ⟨rfl, rfl⟩
        rw [hpr]
        go_wp2_with fail
        refine (l3Order_any b p m _ (by omega) hn (by omega) HM.out).mono ?_
        rintro e w1 ⟨rfl, rfl⟩
        go_wp2_with fail
        go_ret2
        exact ⟨rfl, Below.refl _ _⟩
      case pos =>
        have hd : decide (0 ≤ d ∧ d ≤ (b : Int) - 1) = false := by
          rw [decide_eq_false_iff_not]
          rintro ⟨d1, d2⟩
          obtain ⟨d, rfl⟩ := Int.eq_ofNat_of_zero_le d1
          exact h b p d rfl rfl rfl hpr hb (by rw [← hne]; exact hm) (by omega)
        have e3 : (m : Int) = (p : Int) - 1 := by omega
        have LO : Hid (∀ wx, Calls Try.prog 17 #[.int .i64 b, .int .i64 p] wx fun e w' => e = .returned (.int .i64 ((p : Int) - 1)) ∧ wx = w') := fun wx => by
          have := l3Order_any b p m wx (by omega) hn (by omega) hm
          rw [e3] at this
          exact this
        clear h hm HM hne e3
        go_enter Try.func6, Try.ntmps6
        go_wp2_with fail
        refine (l2Prime_any _ _ _).mono ?_
        rintro e w1 ⟨rfl, rfl⟩
        rw [hb]
        go_wp2_with fail
        refine (l3Prime_any p _ (by omega)).mono ?_
        rintro e w1 ⟨rfl, rfl⟩
        rw [hpr]
        go_wp2_with fail
        refine (LO.out _).mono ?_
        rintro e w1 ⟨rfl, rfl⟩
        go_wp2_with fail
        refine (l6In_any _ _ _ _).mono ?_
        rintro e w1 ⟨rfl, rfl⟩
        rw [hd]
        go_wp2_with fail
        go_ret2
        exact ⟨rfl, Below.refl _ _⟩

set_option maxHeartbeats 2000000 in
theorem specCountFull_yes (b p d : Nat) (hpr : primeB p = true) (hb : prmB b p = true) (hm : IsLen b 1 p 0 (p - 1)) (hdb : d < b) : GivesI 6 #[.int .i64 b, .int .i64 p, .int .i64 d] (fulC b p d p : Nat) true := by
  intro w
  obtain ⟨b', p', e1, e2, h3, h4, hn, hn2, hbn⟩ := prm_nat hb
  obtain rfl : b = b' := by omega
  obtain rfl : p = p' := by omega
  have hd : decide ((0 : Int) ≤ (d : Int) ∧ (d : Int) ≤ (b : Int) - 1) = true := by
    rw [decide_eq_true_eq]; omega
  have e3 : ((p - 1 : Nat) : Int) = (p : Int) - 1 := by omega
  have LO : Hid (∀ wx, Calls Try.prog 17 #[.int .i64 b, .int .i64 p] wx fun e w' => e = .returned (.int .i64 ((p : Int) - 1)) ∧ wx = w') := fun wx => by
    have := l3Order_any b p (p - 1) wx (by omega) hn (by omega) hm
    rw [e3] at this
    exact this
  have hf1 : fulC b p d 1 = 0 := by
    show 0 + one (1 ≤ 0 ∧ 0 * b / p = d) = 0
    rw [one_no (by omega)]
  have HF1 := Lib.hid hf1
  clear hm e1 e2 e3 hf1
  go_enter Try.func6, Try.ntmps6
  go_wp2_with fail
  refine (l2Prime_any _ _ _).mono ?_
  rintro e w1 ⟨rfl, rfl⟩
  rw [hb]
  go_wp2_with fail
  refine (l3Prime_any p _ (by omega)).mono ?_
  rintro e w1 ⟨rfl, rfl⟩
  rw [hpr]
  go_wp2_with fail
  refine (LO.out _).mono ?_
  rintro e w1 ⟨rfl, rfl⟩
  go_wp2_with fail
  refine (l6In_any _ _ _ _).mono ?_
  rintro e w1 ⟨rfl, rfl⟩
  rw [hd]
  go_wp2_with fail
  go_loop [8, 9] (fun c r' => ∃ r C : Nat, 1 ≤ r ∧ r ≤ p ∧ r' = .int .i64 r ∧ c = .int .i64 C ∧ C ≤ r ∧ C = fulC b p d r) (fun _ r' => p - (intOf r').toNat)
  case atStart => exact ⟨1, 0, Nat.le_refl _, by omega, rfl, rfl, by omega, HF1.out.symm⟩
  case round =>
    obtain ⟨r, C, hr1, hrp, rfl, rfl, hCr, hC⟩ := hrel
    by_cases hlt : r < p
    · have j1 : (r : Int) < (p : Int) := by omega
      obtain ⟨m1, m2⟩ := mul_bd r b p (by omega) (by omega) (by omega) (by omega) (by omega)
      have hp0 : ¬ (p : Int) = 0 := by omega
      have hp0' : ¬ p = 0 := by omega
      have t1 : ((r : Int) * (b : Int)).tdiv (p : Int) = ((r * b / p : Nat) : Int) := by
        rw [Int.tdiv_eq_ediv_of_nonneg (by omega)]
        simp
      by_cases he : r * b / p = d
      · have hst : fulC b p d (r + 1) = C + 1 := by
          show fulC b p d r + one (1 ≤ r ∧ r * b / p = d) = C + 1
          rw [one_yes ⟨hr1, he⟩, hC]
        have HST := Lib.hid hst
        rw [he] at t1
        clear hst hC he
        go_wp2_with fail
        exact ⟨⟨r + 1, C + 1, by omega, by omega, rfl, rfl, by omega, HST.out.symm⟩, by simp [intOf]; omega⟩
      · have hst : fulC b p d (r + 1) = C := by
          show fulC b p d r + one (1 ≤ r ∧ r * b / p = d) = C
          rw [one_no (fun e => he e.2), hC, Nat.add_zero]
        have HST := Lib.hid hst
        have e5 : (((r * b / p : Nat) : Int) == (d : Int)) = false := by simp only [beq_eq_false_iff_ne]; omega
        have hqb : r * b / p < b := by
          rw [Nat.div_lt_iff_lt_mul (by omega), Nat.mul_comm]
          exact Nat.mul_lt_mul_of_pos_left hlt (show 0 < b by omega)
        clear hst hC
        revert t1 e5 hqb
        generalize r * b / p = q at *
        intro t1 e5 hqb
        have t6 : wrap64 (q : Int) = (q : Int) := IntWalk.wrap64_in _ (by omega)
        go_wp2_with fail
        exact ⟨⟨r + 1, C, by omega, by omega, rfl, rfl, by omega, HST.out.symm⟩, by simp [intOf]; omega⟩
    · obtain rfl : r = p := by omega
      have j1 : ¬ (r : Int) < (r : Int) := by omega
      have HC := Lib.hid hC
      clear hC
      go_wp2_with fail
      go_ret2
      exact ⟨ret_intb0 (by rw [HC.out]), Below.refl _ _⟩

end Go.Proofs.Ytamcpoadpkgogad
