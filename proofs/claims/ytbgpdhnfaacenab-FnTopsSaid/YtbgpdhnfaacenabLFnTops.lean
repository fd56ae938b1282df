/-
  The law FnTops's walk.
-/
import Derived.Test.YtbgpdhnfaacenabDrawV
import Derived.Test.YtbgpdhnfaacenabRgtB
import Derived.Test.YtbgpdhnfaacenabEq
import Derived.Test.YtbgpdhnfaacenabGRow
namespace Go.Proofs.Ytbgpdhnfaacenab
open Go.RowKit

set_option maxRecDepth 100000 in
set_option maxHeartbeats 4000000 in
theorem lawTops_any (H : ImRightTops) (a : Option Addr) (len cap : Nat) (zs : List Int) (w : World) (r : IsRow .u8 w a len cap zs) :
    Calls Try.prog 6 #[.slice a len cap] w fun e w' => e = .returned (.bool true) ∧ Below w.heap.size w w' := by
  have hB := byt_of_row r
  clear r
  by_cases hl : 1048576 < len
  · have hl' : (1048576 : Int) < (len : Int) := by omega
    go_enter Try.func6, Try.ntmps6
    go_wp2
    go_ret
    exact ⟨rfl, Below.refl _ _⟩
  have hl' : decide ((1048576 : Int) < (len : Int)) = false := by simp; omega
  go_enter Try.func6, Try.ntmps6
  go_wp2_with fail
  refine (drawRightTops_any a len cap _ hB).mono ?_
  rintro e w1 ⟨b, t, n, k, rfl, B1⟩
  clear hl hB
  cases h : (vlB b t n && decide (0 ≤ k ∧ k ≤ 200)) with
  | false =>
    have HI := Lib.hid (H.1 b t n k h); have HS := Lib.hid (specRightTops_no b t n k h)
    clear h
    go_wp2_with fail
    refine (HI.out _).mono ?_
    rintro e w2 ⟨v, rfl, lv2, hb2⟩
    have B2 := B1.trans (hb2.mono B1.size)
    clear B1 hb2
    go_wp2_with fail
    refine (HS.out _).mono ?_
    rintro e w3 ⟨u, rfl, lu3, hb3⟩
    have lv3 := lv2.later hb3
    have B3 := B2.trans (hb3.mono B2.size)
    clear B2 hb3 lv2
    go_wp2_with fail
    refine (sameInts_any _ _ _ _ ([] : List Int) ([] : List Int) _ lv3 lu3 (by simp) (by simp)).mono ?_
    rintro e w4 ⟨rfl, hb4⟩
    have lv4 := lv3.later hb4
    have lu4 := lu3.later hb4
    have B4 := B3.trans (hb4.mono B3.size)
    clear B3 hb4 lv3 lu3
    have hxx : decide (([] : List Int) = ([] : List Int)) = true := by simp
    rw [hxx]
    clear hxx
    go_wp2_with fail
    refine (sameInts_any _ _ _ _ ([] : List Int) ([] : List Int) _ lv4 lu4 (by simp) (by simp)).mono ?_
    rintro e w5 ⟨rfl, hb5⟩
    have B5 := B4.trans (hb5.mono B4.size)
    clear B4 hb5
    have hxx : decide (([] : List Int) = ([] : List Int)) = true := by simp
    rw [hxx]
    clear hxx
    go_wp2_with fail
    go_ret
    exact ⟨rfl, B5⟩
  | true =>
    obtain ⟨b, B, k, rfl, rfl, rfl, hk, hv⟩ := vlk_some (K := 200) h
    clear h
    have hb2' := hv.r.b2; have hb16 := hv.r.b16; have hB1 := hv.r.B1; have hB2 := hv.r.B2; have ht1 := hv.lo; have ht2 := hv.hi
    have HI := Lib.hid (H.2 b B k t hv hk); have HS := Lib.hid (specRightTops_yes b B k t hv hk)
    have HIN : Hid (∀ i, 20 ≤ i → -(B : Int) ≤ rgT b B t i ∧ rgT b B t i ≤ 0) := fun i hi => by
      have := rgT_in hv.r (rgT_14 hv.r hv.lo hv.hi) (i - 14)
      rwa [show 14 + (i - 14) = i by omega] at this
    have hlT := tpL_len b B t k
    have HLT := Lib.hid hlT
    clear hv
    go_wp2_with fail
    refine (HI.out _).mono ?_
    rintro e w2 ⟨v, rfl, lv2, hb2⟩
    have B2 := B1.trans (hb2.mono B1.size)
    clear B1 hb2
    go_wp2_with fail
    refine (HS.out _).mono ?_
    rintro e w3 ⟨u, rfl, lu3, hb3⟩
    have lv3 := lv2.later hb3
    have B3 := B2.trans (hb3.mono B2.size)
    clear B2 hb3 lv2
    go_wp2_with fail
    refine (sameInts_any _ _ _ _ (tpL b B t k) (tpL b B t k) _ lv3 lu3 (by omega) (by omega)).mono ?_
    rintro e w4 ⟨rfl, hb4⟩
    have lv4 := lv3.later hb4
    have B4 := B3.trans (hb4.mono B3.size)
    clear B3 hb4 lv3
    have hxx : decide ((tpL b B t k) = (tpL b B t k)) = true := by simp
    rw [hxx]
    clear hxx
    obtain ⟨av, cv, rfl⟩ := slc_form lv4
    rw [HLT.out] at lv4 ⊢
    have HLV := Lib.hid lv4
    clear hlT lv4
    go_wp2_with fail
    go_loop [11] (fun i' => ∃ i : Nat, i' = .int .i64 i ∧ 20 ≤ i ∧ (i = 20 ∨ i ≤ k)) (fun i' => k - (intOf i').toNat)
    case atStart => exact ⟨20, rfl, Nat.le_refl _, .inl rfl⟩
    case round =>
      obtain ⟨i, rfl, hi1, hi2⟩ := hrel
      by_cases hlt : i < k
      · have j1 : (i : Int) < (k : Int) := by omega
        have j2 : (0 : Int) ≤ (i : Int) := by omega
        obtain ⟨gv, ov, ev⟩ := slc_addr HLV.out (by omega)
        subst ev
        have kv := Slc.cell HLT.out HLV.out i hlt
        rw [tpL_get hlt] at kv
        obtain ⟨x1, x2⟩ := HIN.out i hi1
        revert kv x1 x2
        generalize rgT b B t i = x
        intro kv x1 x2
        have j3 : decide (x < -(B : Int)) = false := by simp; omega
        have j3' : ¬ x < 0 - (B : Int) := by omega
        have j3'' : ¬ x < -(B : Int) := by omega
        have j4 : ¬ x ≥ (B : Int) := by omega
        have j5 : x < (B : Int) := by omega
        go_wp2_with fail
        go_round
        case rel => exact ⟨i + 1, by go_num, by omega, .inr hlt⟩
        case measure => simp [intOf]; omega
      · have j1 : ¬ (i : Int) < (k : Int) := by omega
        by_cases hk0 : k = 0
        · subst hk0
          go_wp2_with fail
          go_ret
          exact ⟨rfl, B4⟩
        · obtain ⟨gv, ov, ev⟩ := slc_addr HLV.out (by omega)
          subst ev
          have kv := Slc.cell HLT.out HLV.out 0 (by omega)
          rw [tpL_get (by omega), Nat.add_zero] at kv
          have hT0 : rgT b B t 0 = t := rfl
          rw [hT0] at kv
          have j6 : ((k : Int) == 0) = false := by simp; omega
          have j7 : (0 : Int) < (k : Int) := by omega
          go_wp2_with fail
          go_ret
          exact ⟨rfl, B4⟩

end Go.Proofs.Ytbgpdhnfaacenab
