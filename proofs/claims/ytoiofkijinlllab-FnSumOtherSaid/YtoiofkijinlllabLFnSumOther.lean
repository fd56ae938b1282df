/-
  The law FnSumOther's walk.
-/
import Derived.Test.YtoiofkijinlllabDrawU
import Derived.Test.YtoiofkijinlllabSumB
import Derived.Test.YtoiofkijinlllabGRow
import Derived.Test.YtoiofkijinlllabTotI
namespace Go.Proofs.Ytoiofkijinlllab
open Go.RowKit

set_option maxRecDepth 100000 in
set_option maxHeartbeats 4000000 in
theorem lawSumOther_any (H : ImSumOther) (HR : ImSumRound) (a : Option Addr) (len cap : Nat) (zs : List Int) (w : World) (r : IsRow .u8 w a len cap zs) :
    Calls Try.prog 6 #[.slice a len cap] w fun e w' => e = .returned (.bool true) ∧ Below w.heap.size w w' := by
  have hB := byt_of_row r
  clear r
  by_cases hl : 1048576 < len
  · have hl' : (1048576 : Int) < (len : Int) := by omega
    go_enter Try.func6, Try.ntmps6
    go_wp2
    go_ret
    exact ⟨rfl, Below.refl _ _⟩
  have hl' : decide ((1048576 : Int) < (len : Int)) = false := by simp; omega
  go_enter Try.func6, Try.ntmps6
  go_wp2_with fail
  refine (drawSumOther_any a len cap _ hB).mono ?_
  rintro e w1 ⟨b, vx, x, d1, d2, hx, rfl, lx1, B1⟩
  clear hl hB
  have hxl : x.length ≤ 1048576 := by omega
  cases h : rngB b x with
  | false =>
    have HI := Lib.hid (H.1 b x hxl h); have HS := Lib.hid (specSumOther_no b x hxl h)
    clear h
    go_wp2_with fail
    refine (HI.out _ vx w1 lx1).mono ?_
    rintro e w2 ⟨v, rfl, lv2, hb2⟩
    have lx2 := lx1.later hb2
    have B2 := B1.trans (hb2.mono B1.size)
    clear B1 hb2 lx1
    go_wp2_with fail
    refine (HS.out _ vx w2 lx2).mono ?_
    rintro e w3 ⟨u, rfl, lu3, hb3⟩
    have lv3 := lv2.later hb3
    have B3 := B2.trans (hb3.mono B2.size)
    clear B2 hb3 lv2
    go_wp2_with fail
    refine (sameInts_any _ _ _ _ ([] : List Int) ([] : List Int) _ lv3 lu3 (by simp) (by simp)).mono ?_
    rintro e w4 ⟨rfl, hb4⟩
    have lv4 := lv3.later hb4
    have lu4 := lu3.later hb4
    have B4 := B3.trans (hb4.mono B3.size)
    clear B3 hb4 lv3 lu3
    have hxx : decide (([] : List Int) = ([] : List Int)) = true := by simp
    rw [hxx]
    clear hxx
    go_wp2_with fail
    refine (sameInts_any _ _ _ _ ([] : List Int) ([] : List Int) _ lv4 lu4 (by simp) (by simp)).mono ?_
    rintro e w5 ⟨rfl, hb5⟩
    have B5 := B4.trans (hb5.mono B4.size)
    clear B4 hb5
    have hxx : decide (([] : List Int) = ([] : List Int)) = true := by simp
    rw [hxx]
    clear hxx
    go_wp2_with fail
    go_ret
    exact ⟨rfl, B5⟩
  | true =>
    obtain ⟨b', e1, r1⟩ := rng_nat h
    obtain rfl : b = b' := by omega
    clear e1 h
    have HI := Lib.hid (H.2 b x r1); have HS := Lib.hid (specSumOther_yes b x r1)
    have hc := H.2 b (othL b x) r1.oth
    rw [othL_othL] at hc
    have hlo := othL_len b x
    have hs := HR.2 b x (othL b x) r1 r1.oth hlo.symm
    have hlx0 := r1.l1
    have hlx2 := r1.l2
    rw [add_oth r1.b2 hlx0] at hs
    have hzl : (othL b x).length ≤ 1048576 := by omega
    have HC := Lib.hid hc; have HSS := Lib.hid hs
    have TT : Hid (∀ (n₀ : Nat) (v : Value) (wx : World), Slc n₀ wx v (List.replicate x.length 0) → Calls Try.prog 22 #[v] wx fun e w' => e = .returned (.int .i64 0) ∧ wx = w') := fun n₀ v wx hv => by
      have := totalI_any n₀ v (List.replicate x.length 0) wx hv (by rw [List.length_replicate]; omega) (fun y hy => by rw [(List.mem_replicate.1 hy).2]; omega)
      rwa [sumI_zeros] at this
    clear hc hs r1 hlo hlx0 hlx2
    generalize othL b x = Z at *
    generalize List.replicate x.length (0 : Int) = ZZ at *
    go_wp2_with fail
    refine (HI.out _ vx w1 lx1).mono ?_
    rintro e w2 ⟨v, rfl, lv2, hb2⟩
    have lx2 := lx1.later hb2
    have B2 := B1.trans (hb2.mono B1.size)
    clear B1 hb2 lx1
    go_wp2_with fail
    refine (HS.out _ vx w2 lx2).mono ?_
    rintro e w3 ⟨u, rfl, lu3, hb3⟩
    have lv3 := lv2.later hb3
    have lx3 := lx2.later hb3
    have B3 := B2.trans (hb3.mono B2.size)
    clear B2 hb3 lv2 lx2
    go_wp2_with fail
    refine (sameInts_any _ _ _ _ Z Z _ lv3 lu3 hzl hzl).mono ?_
    rintro e w4 ⟨rfl, hb4⟩
    have lv4 := lv3.later hb4
    have lx4 := lx3.later hb4
    have B4 := B3.trans (hb4.mono B3.size)
    clear B3 hb4 lv3 lx3
    have hxx : decide (Z = Z) = true := by simp
    rw [hxx]
    clear hxx
    clear lu3
    go_wp2_with fail
    refine (HC.out _ v w4 lv4).mono ?_
    rintro e w5 ⟨z, rfl, lz5, hb5⟩
    have lv5 := lv4.later hb5
    have lx5 := lx4.later hb5
    have B5 := B4.trans (hb5.mono B4.size)
    clear B4 hb5 lv4 lx4
    go_wp2_with fail
    refine (HSS.out _ _ vx v w5 lx5 lv5).mono ?_
    rintro e w6 ⟨s, rfl, ls6, hb6⟩
    have lz6 := lz5.later hb6
    have lx6 := lx5.later hb6
    have B6 := B5.trans (hb6.mono B5.size)
    clear B5 hb6 lz5 lx5
    go_wp2_with fail
    refine (sameInts_any _ _ _ _ x x _ lz6 lx6 hxl hxl).mono ?_
    rintro e w7 ⟨rfl, hb7⟩
    have ls7 := ls6.later hb7
    have B7 := B6.trans (hb7.mono B6.size)
    clear B6 hb7 ls6
    have hxx : decide (x = x) = true := by simp
    rw [hxx]
    clear hxx
    go_wp2_with fail
    refine (TT.out _ s w7 ls7).mono ?_
    rintro e w8 ⟨rfl, rfl⟩
    go_wp2_with fail
    go_ret
    exact ⟨rfl, B7⟩

end Go.Proofs.Ytoiofkijinlllab
