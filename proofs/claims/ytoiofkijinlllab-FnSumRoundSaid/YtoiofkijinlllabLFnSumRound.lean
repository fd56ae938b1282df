/-
  The law FnSumRound's walk.
-/
import Derived.Test.YtoiofkijinlllabDrawU
import Derived.Test.YtoiofkijinlllabSumB
import Derived.Test.YtoiofkijinlllabGRow
namespace Go.Proofs.Ytoiofkijinlllab
open Go.RowKit

set_option maxRecDepth 100000 in
set_option maxHeartbeats 4000000 in
theorem lawSumRound_any (H : ImSumRound) (HT : ImTurnBy) (a : Option Addr) (len cap : Nat) (zs : List Int) (w : World) (r : IsRow .u8 w a len cap zs) :
    Calls Try.prog 5 #[.slice a len cap] w fun e w' => e = .returned (.bool true) ∧ Below w.heap.size w w' := by
  have hB := byt_of_row r
  clear r
  by_cases hl : 1048576 < len
  · have hl' : (1048576 : Int) < (len : Int) := by omega
    go_enter Try.func5, Try.ntmps5
    go_wp2
    go_ret
    exact ⟨rfl, Below.refl _ _⟩
  have hl' : decide ((1048576 : Int) < (len : Int)) = false := by simp; omega
  go_enter Try.func5, Try.ntmps5
  go_wp2_with fail
  refine (drawSumRound_any a len cap _ hB).mono ?_
  rintro e w1 ⟨b, vx, vy, x, y, hx, hy, rfl, lx1, ly1, B1⟩
  clear hl hB
  have hxl : x.length ≤ 1048576 := by omega
  have hyl : y.length ≤ 1048576 := by omega
  cases h : twoB b x y with
  | false =>
    have HI := Lib.hid (H.1 b x y hxl hyl h); have HS := Lib.hid (specSumRound_no b x y hxl hyl h)
    clear h
    go_wp2_with fail
    refine (HI.out _ _ vx vy w1 lx1 ly1).mono ?_
    rintro e w2 ⟨v, rfl, lv2, hb2⟩
    have lx2 := lx1.later hb2
    have ly2 := ly1.later hb2
    have B2 := B1.trans (hb2.mono B1.size)
    clear B1 hb2 lx1 ly1
    go_wp2_with fail
    refine (HS.out _ _ vx vy w2 lx2 ly2).mono ?_
    rintro e w3 ⟨u, rfl, lu3, hb3⟩
    have lv3 := lv2.later hb3
    have B3 := B2.trans (hb3.mono B2.size)
    clear B2 hb3 lv2
    go_wp2_with fail
    refine (sameInts_any _ _ _ _ ([] : List Int) ([] : List Int) _ lv3 lu3 (by simp) (by simp)).mono ?_
    rintro e w4 ⟨rfl, hb4⟩
    have lv4 := lv3.later hb4
    have lu4 := lu3.later hb4
    have B4 := B3.trans (hb4.mono B3.size)
    clear B3 hb4 lv3 lu3
    have hxx : decide (([] : List Int) = ([] : List Int)) = true := by simp
    rw [hxx]
    clear hxx
    go_wp2_with fail
    refine (sameInts_any _ _ _ _ ([] : List Int) ([] : List Int) _ lv4 lu4 (by simp) (by simp)).mono ?_
    rintro e w5 ⟨rfl, hb5⟩
    have B5 := B4.trans (hb5.mono B4.size)
    clear B4 hb5
    have hxx : decide (([] : List Int) = ([] : List Int)) = true := by simp
    rw [hxx]
    clear hxx
    go_wp2_with fail
    go_ret
    exact ⟨rfl, B5⟩
  | true =>
    obtain ⟨b, rfl, r1, r2, hxy⟩ := two_nat h
    clear h
    have HI := Lib.hid (H.2 b x y r1 r2 hxy); have HS := Lib.hid (specSumRound_yes b x y r1 r2 hxy)
    have hc := H.2 b y x r2 r1 hxy.symm
    rw [← addL_comm hxy] at hc
    have ht1 := HT.2 b 1 x r1 (by omega)
    have ht2 := HT.2 b 1 y r2 (by omega)
    have hlz := addL_len b x y
    have ht3 := HT.2 b 1 (addL b x y) r1.add (by omega)
    have hlx0 := r1.l1
    have hlx2 := r1.l2
    rw [rot_one hlx0] at ht1
    rw [rot_one (by omega)] at ht2
    rw [rot_one (by omega)] at ht3
    have hs := H.2 b (rotL x 1) (rotL y 1) (r1.rot 1) (r2.rot 1) (by rw [rotL_len, rotL_len]; exact hxy)
    rw [add_rot r1.b2 hlx0 hxy] at hs
    have hzl : (addL b x y).length ≤ 1048576 := by omega
    have hrl : (rotL (addL b x y) 1).length ≤ 1048576 := by rw [rotL_len]; omega
    have HC := Lib.hid hc; have HT1 := Lib.hid ht1; have HT2 := Lib.hid ht2; have HT3 := Lib.hid ht3; have HSS := Lib.hid hs
    clear hc ht1 ht2 ht3 hs r1 r2 hlz hlx0 hlx2 hxy
    generalize addL b x y = Z at *
    generalize rotL Z 1 = RZ at *
    generalize rotL x 1 = RX at *
    generalize rotL y 1 = RY at *
    go_wp2_with fail
    refine (HI.out _ _ vx vy w1 lx1 ly1).mono ?_
    rintro e w2 ⟨v, rfl, lv2, hb2⟩
    have lx2 := lx1.later hb2
    have ly2 := ly1.later hb2
    have B2 := B1.trans (hb2.mono B1.size)
    clear B1 hb2 lx1 ly1
    go_wp2_with fail
    refine (HS.out _ _ vx vy w2 lx2 ly2).mono ?_
    rintro e w3 ⟨u, rfl, lu3, hb3⟩
    have lv3 := lv2.later hb3
    have lx3 := lx2.later hb3
    have ly3 := ly2.later hb3
    have B3 := B2.trans (hb3.mono B2.size)
    clear B2 hb3 lv2 lx2 ly2
    go_wp2_with fail
    refine (sameInts_any _ _ _ _ Z Z _ lv3 lu3 hzl hzl).mono ?_
    rintro e w4 ⟨rfl, hb4⟩
    have lv4 := lv3.later hb4
    have lx4 := lx3.later hb4
    have ly4 := ly3.later hb4
    have B4 := B3.trans (hb4.mono B3.size)
    clear B3 hb4 lv3 lx3 ly3
    have hxx : decide (Z = Z) = true := by simp
    rw [hxx]
    clear hxx
    clear lu3
    go_wp2_with fail
    refine (HC.out _ _ vy vx w4 ly4 lx4).mono ?_
    rintro e w5 ⟨z, rfl, lz5, hb5⟩
    have lv5 := lv4.later hb5
    have lx5 := lx4.later hb5
    have ly5 := ly4.later hb5
    have B5 := B4.trans (hb5.mono B4.size)
    clear B4 hb5 lv4 lx4 ly4
    go_wp2_with fail
    refine (HT1.out _ vx w5 lx5).mono ?_
    rintro e w6 ⟨u1, rfl, lp6, hb6⟩
    have lv6 := lv5.later hb6
    have ly6 := ly5.later hb6
    have lz6 := lz5.later hb6
    have B6 := B5.trans (hb6.mono B5.size)
    clear B5 hb6 lv5 ly5 lz5
    go_wp2_with fail
    refine (HT2.out _ vy w6 ly6).mono ?_
    rintro e w7 ⟨u2, rfl, lq7, hb7⟩
    have lv7 := lv6.later hb7
    have lz7 := lz6.later hb7
    have lp7 := lp6.later hb7
    have B7 := B6.trans (hb7.mono B6.size)
    clear B6 hb7 lv6 lz6 lp6
    go_wp2_with fail
    refine (HSS.out _ _ u1 u2 w7 lp7 lq7).mono ?_
    rintro e w8 ⟨s, rfl, ls8, hb8⟩
    have lv8 := lv7.later hb8
    have lz8 := lz7.later hb8
    have B8 := B7.trans (hb8.mono B7.size)
    clear B7 hb8 lv7 lz7
    go_wp2_with fail
    refine (HT3.out _ v w8 lv8).mono ?_
    rintro e w9 ⟨t, rfl, lt9, hb9⟩
    have lv9 := lv8.later hb9
    have lz9 := lz8.later hb9
    have ls9 := ls8.later hb9
    have B9 := B8.trans (hb9.mono B8.size)
    clear B8 hb9 lv8 lz8 ls8
    go_wp2_with fail
    refine (sameInts_any _ _ _ _ Z Z _ lz9 lv9 hzl hzl).mono ?_
    rintro e w10 ⟨rfl, hb10⟩
    have ls10 := ls9.later hb10
    have lt10 := lt9.later hb10
    have B10 := B9.trans (hb10.mono B9.size)
    clear B9 hb10 ls9 lt9
    have hxx : decide (Z = Z) = true := by simp
    rw [hxx]
    clear hxx
    go_wp2_with fail
    refine (sameInts_any _ _ _ _ RZ RZ _ ls10 lt10 hrl hrl).mono ?_
    rintro e w11 ⟨rfl, hb11⟩
    have B11 := B10.trans (hb11.mono B10.size)
    clear B10 hb11
    have hxx : decide (RZ = RZ) = true := by simp
    rw [hxx]
    clear hxx
    go_wp2_with fail
    go_ret
    exact ⟨rfl, B11⟩

end Go.Proofs.Ytoiofkijinlllab
