/-
  The law FnTurnTimes's walk.
-/
import Derived.Test.YtagkbpdfpeadbabDrawR
import Derived.Test.YtagkbpdfpeadbabTurnB
import Derived.Test.YtagkbpdfpeadbabGRow
import Derived.Test.YtagkbpdfpeadbabTotI
namespace Go.Proofs.Ytagkbpdfpeadbab
open Go.RowKit

set_option maxRecDepth 100000 in
set_option maxHeartbeats 4000000 in
theorem lawTurnTimes_any (H : ImTurnTimes) (a : Option Addr) (len cap : Nat) (zs : List Int) (w : World) (r : IsRow .u8 w a len cap zs) :
    Calls Try.prog 6 #[.slice a len cap] w fun e w' => e = .returned (.bool true) ∧ Below w.heap.size w w' := by
  have hB := byt_of_row r
  clear r
  by_cases hl : 1048576 < len
  · have hl' : (1048576 : Int) < (len : Int) := by omega
    go_enter Try.func6, Try.ntmps6
    go_wp2
    go_ret
    exact ⟨rfl, Below.refl _ _⟩
  have hl' : decide ((1048576 : Int) < (len : Int)) = false := by simp; omega
  go_enter Try.func6, Try.ntmps6
  go_wp2_with fail
  refine (drawTurnTimes_any a len cap _ hB).mono ?_
  rintro e w1 ⟨b, k, y, d, d1, d2, hd, hk4, rfl, ly1, B1⟩
  clear hl hB
  have hdl : d.length ≤ 1048576 := by omega
  cases h : rngB b d && decide (0 ≤ (k : Int) ∧ (k : Int) ≤ 100) with
  | false =>
    have HI := Lib.hid (H.1 b k d hdl h); have HS := Lib.hid (specTurnTimes_no b k d hdl h)
    clear h
    go_wp2_with fail
    refine (HI.out _ y w1 ly1).mono ?_
    rintro e w2 ⟨v, rfl, lv2, hb2⟩
    have B2 := B1.trans (hb2.mono B1.size)
    have ly2 := ly1.later hb2
    clear B1 hb2 ly1
    go_wp2_with fail
    refine (HS.out _ y w2 ly2).mono ?_
    rintro e w3 ⟨u, rfl, lu3, hb3⟩
    have B3 := B2.trans (hb3.mono B2.size)
    have lv3 := lv2.later hb3
    clear B2 hb3 lv2
    go_wp2_with fail
    refine (sameInts_any _ _ _ _ ([] : List Int) ([] : List Int) _ lv3 lu3 (by simp) (by simp)).mono ?_
    rintro e w4 ⟨rfl, hb4⟩
    have B4 := B3.trans (hb4.mono B3.size)
    have lv4 := lv3.later hb4
    have lu4 := lu3.later hb4
    clear B3 hb4 lv3 lu3
    have hxx : decide (([] : List Int) = ([] : List Int)) = true := by simp
    rw [hxx]
    clear hxx
    go_wp2_with fail
    refine (sameInts_any _ _ _ _ ([] : List Int) ([] : List Int) _ lv4 lu4 (by simp) (by simp)).mono ?_
    rintro e w5 ⟨rfl, hb5⟩
    have B5 := B4.trans (hb5.mono B4.size)
    clear B4 hb5
    have hxx : decide (([] : List Int) = ([] : List Int)) = true := by simp
    rw [hxx]
    clear hxx
    go_wp2_with fail
    go_ret
    exact ⟨rfl, B5⟩
  | true =>
    obtain ⟨b', k', e1, e2, hr, hk⟩ := rng_and h
    obtain rfl : b = b' := by omega
    obtain rfl : k = k' := by omega
    clear e1 e2 h
    by_cases h0 : (tim b k d).1 = 0
    case neg =>
      have HI := Lib.hid (H.2.1 b k d hr (by omega) h0); have HS := Lib.hid (specTurnTimes_off b k d hr (by omega) h0)
      clear h0 hr
      go_wp2_with fail
      refine (HI.out _ y w1 ly1).mono ?_
      rintro e w2 ⟨v, rfl, lv2, hb2⟩
      have B2 := B1.trans (hb2.mono B1.size)
      have ly2 := ly1.later hb2
      clear B1 hb2 ly1
      go_wp2_with fail
      refine (HS.out _ y w2 ly2).mono ?_
      rintro e w3 ⟨u, rfl, lu3, hb3⟩
      have B3 := B2.trans (hb3.mono B2.size)
      have lv3 := lv2.later hb3
      clear B2 hb3 lv2
      go_wp2_with fail
      refine (sameInts_any _ _ _ _ ([] : List Int) ([] : List Int) _ lv3 lu3 (by simp) (by simp)).mono ?_
      rintro e w4 ⟨rfl, hb4⟩
      have B4 := B3.trans (hb4.mono B3.size)
      have lv4 := lv3.later hb4
      have lu4 := lu3.later hb4
      clear B3 hb4 lv3 lu3
      have hxx : decide (([] : List Int) = ([] : List Int)) = true := by simp
      rw [hxx]
      clear hxx
      go_wp2_with fail
      refine (sameInts_any _ _ _ _ ([] : List Int) ([] : List Int) _ lv4 lu4 (by simp) (by simp)).mono ?_
      rintro e w5 ⟨rfl, hb5⟩
      have B5 := B4.trans (hb5.mono B4.size)
      clear B4 hb5
      have hxx : decide (([] : List Int) = ([] : List Int)) = true := by simp
      rw [hxx]
      clear hxx
      go_wp2_with fail
      go_ret
      exact ⟨rfl, B5⟩
    case pos =>
      have HI := Lib.hid (H.2.2 b k d hr (by omega) h0); have HS := Lib.hid (specTurnTimes_yes b k d hr (by omega) h0)
      obtain ⟨q, hq⟩ := tim_cast h0
      have hb2 := hr.b2; have hb16 := hr.b16; have hd1 := hr.l1; have hd2 := hr.l2
      have hx1 : ∀ x ∈ d, 0 ≤ x ∧ x ≤ 1000 := fun x hx => by have := hr.dg x hx; omega
      have hx2 : ∀ x ∈ (tim b k d).2, 0 ≤ x ∧ x ≤ 1000 := fun x hx => by have := tim_dgt (by omega) k d x hx; omega
      have htl := tim_len b k d
      have hle : (tim b k d).2.length ≤ 1048576 := by omega
      have s1 := sumI_bd (by omega) hx1
      have s2 := sumI_bd (by omega) hx2
      have HX1 := Lib.hid hx1; have HX2 := Lib.hid hx2; have HTL := Lib.hid htl
      have T1 : Hid (∀ (n₀ : Nat) (v : Value) (wx : World), Slc n₀ wx v d → Calls Try.prog 19 #[v] wx fun e w' => e = .returned (.int .i64 (sumI d)) ∧ wx = w') := fun n₀ v wx hv => totalI_any n₀ v d wx hv (by omega) HX1.out
      have T2 : Hid (∀ (n₀ : Nat) (v : Value) (wx : World), Slc n₀ wx v (tim b k d).2 → Calls Try.prog 19 #[v] wx fun e w' => e = .returned (.int .i64 (sumI (tim b k d).2)) ∧ wx = w') := fun n₀ v wx hv => totalI_any n₀ v _ wx hv (by omega) HX2.out
      obtain ⟨n, hn⟩ : ∃ n, d.length = n := ⟨_, rfl⟩
      have HN := Lib.hid hn
      have b1 : sumI d ≤ 250000 := by have := s1.2; omega
      have b2 : sumI (tim b k d).2 ≤ 250000 := by have := s2.2; omega
      have b3 := s1.1
      have b4 := s2.1
      have m1 : 0 ≤ (k : Int) * sumI d := Int.mul_nonneg (by omega) b3
      have m2 : (k : Int) * sumI d ≤ 100 * 250000 := Int.mul_le_mul (by omega) (by omega) b3 (by omega)
      have hmod : (sumI (tim b k d).2 - (k : Int) * sumI d).tmod ((b : Int) - 1) = 0 := by rw [hq]; exact Int.mul_tmod_right _ _
      clear hr h0 hx1 hx2 hq s1 s2 htl hn HX1 HX2
      go_wp2_with fail
      refine (HI.out _ y w1 ly1).mono ?_
      rintro e w2 ⟨v, rfl, lv2, hb02⟩
      have B2 := B1.trans (hb02.mono B1.size)
      have ly2 := ly1.later hb02
      clear B1 hb02 ly1
      go_wp2_with fail
      refine (HS.out _ y w2 ly2).mono ?_
      rintro e w3 ⟨u, rfl, lu3, hb3⟩
      have B3 := B2.trans (hb3.mono B2.size)
      have lv3 := lv2.later hb3
      have ly3 := ly2.later hb3
      clear B2 hb3 lv2 ly2
      go_wp2_with fail
      refine (sameInts_any _ _ _ _ (tim b k d).2 (tim b k d).2 _ lv3 lu3 hle hle).mono ?_
      rintro e w4 ⟨rfl, hb4⟩
      have B4 := B3.trans (hb4.mono B3.size)
      have lv4 := lv3.later hb4
      have ly4 := ly3.later hb4
      clear B3 hb4 lv3 ly3
      have hxx : decide ((tim b k d).2 = (tim b k d).2) = true := by simp
      rw [hxx]
      clear hxx
      obtain ⟨av, cv, rfl⟩ := slc_form lv4
      obtain ⟨ay, cy, rfl⟩ := slc_form ly4
      have T14 := Lib.hid (T1.out _ _ w4 ly4)
      have T24 := Lib.hid (T2.out _ _ w4 lv4)
      clear lv4 ly4 T1 T2 HI HS lu3 hle
      revert T14 T24
      rw [HTL.out, HN.out]
      intro T14 T24
      by_cases hb : b = 2
      · have hbI : ((b : Int) == 2) = true := by simp; omega
        clear hb
        go_wp2_with fail
        go_ret
        exact ⟨rfl, B4⟩
      · have hbI : ((b : Int) == 2) = false := by simp; omega
        have hb10 : ¬ (b : Int) - 1 = 0 := by omega
        go_wp2_with fail
        refine T24.out.mono ?_
        rintro e w5 ⟨rfl, rfl⟩
        go_wp2_with fail
        refine T14.out.mono ?_
        rintro e w5 ⟨rfl, rfl⟩
        clear T14 T24
        revert hmod b1 b2 b3 b4 m1 m2
        generalize sumI (tim b k d).2 = S1
        generalize sumI d = S2
        intro b1 b2 b3 b4 m1 m2 hmod
        go_wp2_with fail
        go_ret
        exact ⟨rfl, B4⟩

end Go.Proofs.Ytagkbpdfpeadbab
