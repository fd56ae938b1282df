/-
  The law FnRight's walk.
-/
import Derived.Test.YtbgpdhnfaacenabDrawV
import Derived.Test.YtbgpdhnfaacenabRgtB
import Derived.Test.YtbgpdhnfaacenabEq
import Derived.Test.YtbgpdhnfaacenabGRow
namespace Go.Proofs.Ytbgpdhnfaacenab
open Go.RowKit

set_option maxRecDepth 100000 in
set_option maxHeartbeats 4000000 in
theorem lawRight_any (H : ImRightDigits) (HT : ImRightTops) (a : Option Addr) (len cap : Nat) (zs : List Int) (w : World) (r : IsRow .u8 w a len cap zs) :
    Calls Try.prog 5 #[.slice a len cap] w fun e w' => e = .returned (.bool true) ∧ Below w.heap.size w w' := by
  have hB := byt_of_row r
  clear r
  by_cases hl : 1048576 < len
  · have hl' : (1048576 : Int) < (len : Int) := by omega
    go_enter Try.func5, Try.ntmps5
    go_wp2
    go_ret
    exact ⟨rfl, Below.refl _ _⟩
  have hl' : decide ((1048576 : Int) < (len : Int)) = false := by simp; omega
  go_enter Try.func5, Try.ntmps5
  go_wp2_with fail
  refine (drawRightDigits_any a len cap _ hB).mono ?_
  rintro e w1 ⟨b, t, n, k, rfl, B1⟩
  clear hl hB
  cases h : (vlB b t n && decide (0 ≤ k ∧ k ≤ 200)) with
  | false =>
    have HI := Lib.hid (H.1 b t n k h); have HS := Lib.hid (specRightDigits_no b t n k h)
    clear h
    go_wp2_with fail
    refine (HI.out _).mono ?_
    rintro e w2 ⟨v, rfl, lv2, hb2⟩
    have B2 := B1.trans (hb2.mono B1.size)
    clear B1 hb2
    go_wp2_with fail
    refine (HS.out _).mono ?_
    rintro e w3 ⟨u, rfl, lu3, hb3⟩
    have lv3 := lv2.later hb3
    have B3 := B2.trans (hb3.mono B2.size)
    clear B2 hb3 lv2
    go_wp2_with fail
    refine (sameInts_any _ _ _ _ ([] : List Int) ([] : List Int) _ lv3 lu3 (by simp) (by simp)).mono ?_
    rintro e w4 ⟨rfl, hb4⟩
    have lv4 := lv3.later hb4
    have lu4 := lu3.later hb4
    have B4 := B3.trans (hb4.mono B3.size)
    clear B3 hb4 lv3 lu3
    have hxx : decide (([] : List Int) = ([] : List Int)) = true := by simp
    rw [hxx]
    clear hxx
    go_wp2_with fail
    refine (sameInts_any _ _ _ _ ([] : List Int) ([] : List Int) _ lv4 lu4 (by simp) (by simp)).mono ?_
    rintro e w5 ⟨rfl, hb5⟩
    have B5 := B4.trans (hb5.mono B4.size)
    clear B4 hb5
    have hxx : decide (([] : List Int) = ([] : List Int)) = true := by simp
    rw [hxx]
    clear hxx
    go_wp2_with fail
    go_ret
    exact ⟨rfl, B5⟩
  | true =>
    obtain ⟨b, B, k, rfl, rfl, rfl, hk, hv⟩ := vlk_some (K := 200) h
    clear h
    have hb2' := hv.r.b2; have hb16 := hv.r.b16; have hB1 := hv.r.B1; have hB2 := hv.r.B2; have ht1 := hv.lo; have ht2 := hv.hi
    have HI := Lib.hid (H.2 b B k t hv hk); have HS := Lib.hid (specRightDigits_yes b B k t hv hk); have HC := Lib.hid (HT.2 b B k t hv hk)
    have HDG := Lib.hid (fun x => hv.dig x); have HBG := Lib.hid (fun i => hv.big i); have HEQ := Lib.hid (fun i => rgT_eq hv.r t i)
    have hlR := rgL_len b B t k; have hlT := tpL_len b B t k
    have HLR := Lib.hid hlR; have HLT := Lib.hid hlT
    clear hv
    go_wp2_with fail
    refine (HI.out _).mono ?_
    rintro e w2 ⟨v, rfl, lv2, hb2⟩
    have B2 := B1.trans (hb2.mono B1.size)
    clear B1 hb2
    go_wp2_with fail
    refine (HS.out _).mono ?_
    rintro e w3 ⟨u, rfl, lu3, hb3⟩
    have lv3 := lv2.later hb3
    have B3 := B2.trans (hb3.mono B2.size)
    clear B2 hb3 lv2
    go_wp2_with fail
    refine (sameInts_any _ _ _ _ (rgL b B t k) (rgL b B t k) _ lv3 lu3 (by omega) (by omega)).mono ?_
    rintro e w4 ⟨rfl, hb4⟩
    have lv4 := lv3.later hb4
    have B4 := B3.trans (hb4.mono B3.size)
    clear B3 hb4 lv3
    have hxx : decide ((rgL b B t k) = (rgL b B t k)) = true := by simp
    rw [hxx]
    clear hxx
    go_wp2_with fail
    refine (HC.out _).mono ?_
    rintro e w5 ⟨x, rfl, lx5, hb5⟩
    have lv5 := lv4.later hb5
    have B5 := B4.trans (hb5.mono B4.size)
    clear B4 hb5 lv4
    obtain ⟨av, cv, rfl⟩ := slc_form lv5
    obtain ⟨ax, cx, rfl⟩ := slc_form lx5
    rw [HLR.out] at lv5 ⊢
    rw [HLT.out] at lx5 ⊢
    clear hlR hlT
    go_wp2_with fail
    go_loopw [13] (fun i' wr => ∃ i : Nat, i' = .int .i64 i ∧ (i = 0 ∨ i < k) ∧ Slc w1.heap.size wr (.slice av k cv) (rgL b B t k) ∧ Slc w4.heap.size wr (.slice ax k cx) (tpL b B t k) ∧ Below w.heap.size w wr) (fun i' _ => k - (intOf i').toNat)
    case atStart => exact ⟨0, rfl, .inl rfl, lv5, lx5, B5⟩
    case round =>
      clear lv5 lx5 B5
      obtain ⟨i, rfl, hi0, lv, lx, hb⟩ := hrel
      by_cases hlt : i + 1 < k
      · have j1 : (i : Int) + 1 < (k : Int) := by omega
        have j2 : (i : Int) < (k : Int) := by omega
        obtain ⟨gv, ov, ev⟩ := slc_addr lv (by omega)
        obtain ⟨gx, ox, ex⟩ := slc_addr lx (by omega)
        subst ev; subst ex
        have kv := Slc.cell HLR.out lv i (by omega)
        have kx := Slc.cell HLT.out lx i (by omega)
        have ky := Slc.cell HLT.out lx (i + 1) hlt
        rw [rgL_get (by omega)] at kv
        rw [tpL_get (by omega)] at kx ky
        have hd := HDG.out (rgT b B t i)
        obtain ⟨x1, x2⟩ := HBG.out i
        obtain ⟨y1, y2⟩ := HBG.out (i + 1)
        have heq := HEQ.out i
        have HLV := Lib.hid lv; have HLX := Lib.hid lx
        clear lv lx
        revert kv kx ky hd x1 x2 y1 y2 heq
        generalize rgD b B (rgT b B t i) = a
        generalize rgT b B t (i + 1) = y
        generalize rgT b B t i = x
        intro kv kx ky hd x1 x2 y1 y2 heq
        obtain ⟨p, hp⟩ : ∃ p : Int, (a : Int) * (B : Int) = p := ⟨_, rfl⟩
        obtain ⟨q, hq⟩ : ∃ q : Int, (b : Int) * y = q := ⟨_, rfl⟩
        have p1 : 0 ≤ p := by rw [← hp]; exact Int.mul_nonneg (by omega) (by omega)
        have p2 : p ≤ 16000 := by
          have : (a : Int) * (B : Int) ≤ 16 * 1000 := Int.mul_le_mul (by omega) (by omega) (by omega) (by omega)
          omega
        rw [hp, hq] at heq
        have q1 : -30000 ≤ q := by omega
        have q2 : q ≤ 30000 := by omega
        have w1' : IntKind.i64.wrap p = p := IntWalk.i64_in _ (by omega)
        have w2' : IntKind.i64.wrap q = q := IntWalk.i64_in _ (by omega)
        have e1 : x - q = p := by omega
        have e2 : IntKind.i64.wrap (x - q) = p := by rw [e1]; exact w1'
        have w3' : IntKind.i64.wrap ((i : Int) + 1) = (i : Int) + 1 := IntWalk.i64_in _ (by omega)
        have e3 : ((i : Int) + 1).toNat = i + 1 := by omega
        have j0 : (0 : Int) ≤ (i : Int) := by omega
        have j5 : (0 : Int) ≤ (i : Int) + 1 := by omega
        clear heq
        go_wp2_with fail
        go_quiet (fail)
        have hbk := fun n => below_drewN hb n
        clear hb
        go_wp2_with fail
        go_roundw
        case rel => exact ⟨i + 1, by go_num, .inr hlt, HLV.out, HLX.out, hbk _⟩
        case measure => simp [intOf]; omega
      · have j1 : ¬ (i : Int) + 1 < (k : Int) := by omega
        have j3 : (i : Int) < 1000 := by omega
        clear lv lx
        go_wp2_with fail
        go_ret
        exact ⟨rfl, hb⟩

end Go.Proofs.Ytbgpdhnfaacenab
