/-
  The law FnFind's walk.
-/
import Derived.Test.YtagkbpdfpeadbacDrawR
import Derived.Test.YtagkbpdfpeadbacTurnB
import Derived.Test.YtagkbpdfpeadbacGRow
namespace Go.Proofs.Ytagkbpdfpeadbac
open Go.RowKit

set_option maxRecDepth 100000 in
set_option maxHeartbeats 4000000 in
theorem lawFind_any (H : ImTurnFind) (HI2 : ImTurnIs) (a : Option Addr) (len cap : Nat) (zs : List Int) (w : World) (r : IsRow .u8 w a len cap zs) :
    Calls Try.prog 6 #[.slice a len cap] w fun e w' => e = .returned (.bool true) ∧ Below w.heap.size w w' := by
  have hB := byt_of_row r
  clear r
  by_cases hl : 1048576 < len
  · have hl' : (1048576 : Int) < (len : Int) := by omega
    go_enter Try.func6, Try.ntmps6
    go_wp2
    go_ret
    exact ⟨rfl, Below.refl _ _⟩
  have hl' : decide ((1048576 : Int) < (len : Int)) = false := by simp; omega
  go_enter Try.func6, Try.ntmps6
  go_wp2_with fail
  refine (drawTurnFind_any a len cap _ hB).mono ?_
  rintro e w1 ⟨b, k, d, rfl, B1⟩
  clear hl hB
  cases h : findB b k d with
  | false =>
    have HI := Lib.hid (H.1 b k d h); have HS := Lib.hid (specTurnFind_no b k d h)
    clear h
    go_wp2_with fail
    refine (HI.out _).mono ?_
    rintro e w2 ⟨v, rfl, lv2, hb2⟩
    have B2 := B1.trans (hb2.mono B1.size)
    clear B1 hb2
    go_wp2_with fail
    refine (HS.out _).mono ?_
    rintro e w3 ⟨u, rfl, lu3, hb3⟩
    have B3 := B2.trans (hb3.mono B2.size)
    have lv3 := lv2.later hb3
    clear B2 hb3 lv2
    go_wp2_with fail
    refine (sameInts_any _ _ _ _ ([] : List Int) ([] : List Int) _ lv3 lu3 (by simp) (by simp)).mono ?_
    rintro e w4 ⟨rfl, hb4⟩
    have B4 := B3.trans (hb4.mono B3.size)
    have lv4 := lv3.later hb4
    have lu4 := lu3.later hb4
    clear B3 hb4 lv3 lu3
    have hxx : decide (([] : List Int) = ([] : List Int)) = true := by simp
    rw [hxx]
    clear hxx
    go_wp2_with fail
    refine (sameInts_any _ _ _ _ ([] : List Int) ([] : List Int) _ lv4 lu4 (by simp) (by simp)).mono ?_
    rintro e w5 ⟨rfl, hb5⟩
    have B5 := B4.trans (hb5.mono B4.size)
    clear B4 hb5
    have hxx : decide (([] : List Int) = ([] : List Int)) = true := by simp
    rw [hxx]
    clear hxx
    go_wp2_with fail
    go_ret
    exact ⟨rfl, B5⟩
  | true =>
    obtain ⟨b, k, d, g, T, B, m, rfl, rfl, rfl, h2, h16, hk1, hk2, hd1, hd2, hT, hBg, hlt, hc, hm, hg, hkb⟩ := find_some h
    have hml := hm.le hlt
    have hmp := hm.pos
    have hBB : B ≤ B * g := Nat.le_mul_of_pos_right B hg
    have hft := find_turns h2 hk1 hd2 hlt hT hBg hm
    have HI := Lib.hid (H.2 b k d g T B m h h16 hT hBg hlt hc hm); have HS := Lib.hid (specTurnFind_yes b k d g T B m h h16 hT hBg hlt hc hm)
    have hdl := digL_len b T B m
    have hr : Rng b (digL b T B m) := ⟨h2, h16, by rw [hdl]; omega, by rw [hdl]; omega, digL_dgt hlt (by omega) m⟩
    have his : isB b (digL b T B m) k = true := decide_eq_true ((tim_iff (by omega) rotL_len (digL_dgt hlt (by omega) m).rot).2 hft.1)
    have HT := Lib.hid (HI2.2 b k (digL b T B m) hr (by omega))
    rw [his] at HT
    have hlast := hft.2
    rw [hdl] at hlast
    have hle : (digL b T B m).length ≤ 1048576 := by omega
    have HN := Lib.hid hdl; have HLA := Lib.hid hlast
    have hm250 : m ≤ 250 := by omega
    clear hft hr his h hc hm hT hBg hdl hlast
    go_wp2_with fail
    refine (HI.out _).mono ?_
    rintro e w2 ⟨v, rfl, lv2, hb2⟩
    have B2 := B1.trans (hb2.mono B1.size)
    clear B1 hb2
    go_wp2_with fail
    refine (HS.out _).mono ?_
    rintro e w3 ⟨u, rfl, lu3, hb3⟩
    have B3 := B2.trans (hb3.mono B2.size)
    have lv3 := lv2.later hb3
    clear B2 hb3 lv2
    go_wp2_with fail
    refine (sameInts_any _ _ _ _ (digL b T B m) (digL b T B m) _ lv3 lu3 hle hle).mono ?_
    rintro e w4 ⟨rfl, hb4⟩
    have B4 := B3.trans (hb4.mono B3.size)
    have lv4 := lv3.later hb4
    clear B3 hb4 lv3
    have hxx : decide ((digL b T B m) = (digL b T B m)) = true := by simp
    rw [hxx]
    clear hxx
    obtain ⟨gv, ov, cv, rfl, _, _, _, _⟩ := slc_some lv4 (by rw [HN.out]; exact hmp)
    have HT4 := Lib.hid (HT.out _ _ w4 lv4)
    revert lv4 HT4
    rw [HN.out]
    intro lv4 HT4
    clear HI HS HT lu3 hle
    go_wp2_with fail
    refine HT4.out.mono ?_
    rintro e w5 ⟨rfl, hb5⟩
    have B5 := B4.trans (hb5.mono B4.size)
    have lv5 := lv4.later hb5
    clear lv4 B4 hb5
    obtain ⟨m1, hm1⟩ : ∃ m1, m = m1 + 1 := ⟨m - 1, by omega⟩
    have kc := Slc.cell HN.out lv5 m1 (by omega)
    have hla := HLA.out
    rw [show m - 1 = m1 by omega] at hla
    rw [hla] at kc
    have hmI : (m : Int) - 1 = (m1 : Int) := by omega
    have hm1l : (m1 : Int) < (m : Int) := by omega
    have HM1 := Lib.hid hm1
    clear hla hm1
    go_wp2_with fail
    go_ret
    exact ⟨rfl, B5⟩

end Go.Proofs.Ytagkbpdfpeadbac
