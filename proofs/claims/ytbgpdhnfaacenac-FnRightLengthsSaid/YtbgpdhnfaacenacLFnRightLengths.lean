/-
  The law FnRightLengths's walk.
-/
import Derived.Test.YtbgpdhnfaacenacDrawV
import Derived.Test.YtbgpdhnfaacenacRgtB
import Derived.Test.YtbgpdhnfaacenacEq
namespace Go.Proofs.Ytbgpdhnfaacenac
open Go.RowKit

set_option maxRecDepth 100000 in
set_option maxHeartbeats 4000000 in
theorem lawRightLengths_any (H : ImRightLengths) (HD : ImRightDigits) (a : Option Addr) (len cap : Nat) (zs : List Int) (w : World) (r : IsRow .u8 w a len cap zs) :
    Calls Try.prog 3 #[.slice a len cap] w fun e w' => e = .returned (.bool true) ∧ Below w.heap.size w w' := by
  have hB := byt_of_row r
  clear r
  by_cases hl : 1048576 < len
  · have hl' : (1048576 : Int) < (len : Int) := by omega
    go_enter Try.func3, Try.ntmps3
    go_wp2
    go_ret
    exact ⟨rfl, Below.refl _ _⟩
  have hl' : decide ((1048576 : Int) < (len : Int)) = false := by simp; omega
  go_enter Try.func3, Try.ntmps3
  go_wp2_with fail
  refine (drawRightLengths_any a len cap _ hB).mono ?_
  rintro e w1 ⟨b, t, n, rfl, B1⟩
  clear hl hB
  cases h : vlB b t n with
  | false =>
    have HI := Lib.hid (H.1 b t n h); have HS := Lib.hid (specRightLengths_no b t n h)
    clear h
    go_wp2_with fail
    refine (HI.out _).mono ?_
    rintro e w2 ⟨rfl, hb2⟩
    have B2 := B1.trans (hb2.mono B1.size)
    clear B1 hb2
    go_wp2_with fail
    refine (HS.out _).mono ?_
    rintro e w3 ⟨rfl, hb3⟩
    have B3 := B2.trans (hb3.mono B2.size)
    clear B2 hb3
    go_wp2_with fail
    go_ret
    exact ⟨rfl, B3⟩
  | true =>
    obtain ⟨b, B, rfl, rfl, hv⟩ := vl_some h
    clear h
    have hb2' := hv.r.b2; have hb16 := hv.r.b16; have hB1 := hv.r.B1; have hB2 := hv.r.B2; have ht1 := hv.lo; have ht2 := hv.hi
    obtain ⟨i0, m, hm⟩ := hv.some
    obtain ⟨hin, _, hn14, hmB⟩ := rg_facts hv.r hv.lo hv.hi hm
    have hm1 := hm.pos
    have HI := Lib.hid (H.2 b B i0 m t hv hm); have HS := Lib.hid (specRightLengths_yes b B i0 m t hv hm)
    have HC := Lib.hid (fun hk => HD.2 b B (i0 + 2 * m) t hv hk)
    have HPER := Lib.hid (fun i hi => hm.per i hi)
    have HDG := Lib.hid (fun x => hv.dig x)
    clear hv hm hin
    go_wp2_with fail
    refine (HI.out _).mono ?_
    rintro e w2 ⟨rfl, hb2⟩
    have B2 := B1.trans (hb2.mono B1.size)
    clear B1 hb2
    go_wp2_with fail
    refine (HS.out _).mono ?_
    rintro e w3 ⟨rfl, hb3⟩
    have B3 := B2.trans (hb3.mono B2.size)
    clear B2 hb3
    have j0 : (m : Int) > 0 := by omega
    by_cases hk : i0 + 2 * m ≤ 200
    · have j1 : ¬ (i0 : Int) + 2 * (m : Int) > 200 := by omega
      have HC1 := Lib.hid (HC.out hk)
      have HLL := Lib.hid (rgL_len b B t (i0 + 2 * m))
      have hc : (i0 : Int) + 2 * (m : Int) = ((i0 + 2 * m : Nat) : Int) := by omega
      have HCC := Lib.hid hc
      clear hc
      go_wp2_with fail
      rw [HCC.out]
      refine (HC1.out _).mono ?_
      rintro e w4 ⟨v, rfl, lv4, hb4⟩
      have B4 := B3.trans (hb4.mono B3.size)
      clear B3 hb4
      obtain ⟨av, cv, rfl⟩ := slc_form lv4
      rw [HLL.out] at lv4 ⊢
      obtain ⟨K, hK⟩ : ∃ K, i0 + 2 * m = K := ⟨_, rfl⟩
      rw [hK] at lv4 HLL hk ⊢
      have HK := Lib.hid hK
      clear hK j1
      go_wp2_with fail
      go_loopw [14] (fun i' wr => ∃ i : Nat, i' = .int .i64 i ∧ i0 ≤ i ∧ i + m ≤ K ∧ Slc w3.heap.size wr (.slice av K cv) (rgL b B t K) ∧ Below w.heap.size w wr) (fun i' _ => K - (intOf i').toNat)
      case atStart => exact ⟨i0, rfl, Nat.le_refl _, by have := HK.out; omega, lv4, B4⟩
      case round =>
        clear lv4 B4
        obtain ⟨i, rfl, hi1, hi2, lv, hb⟩ := hrel
        by_cases hlt : i + m < K
        · have j1 : (i : Int) + (m : Int) < (K : Int) := by omega
          have j2 : (i : Int) < (K : Int) := by omega
          obtain ⟨gv, ov, ev⟩ := slc_addr lv (by omega)
          subst ev
          have kv := Slc.cell HLL.out lv i (by omega)
          have ky := Slc.cell HLL.out lv (i + m) hlt
          rw [rgL_get (by omega)] at kv
          rw [rgL_get hlt, HPER.out i hi1] at ky
          have HLV := Lib.hid lv
          clear lv
          revert kv ky
          generalize rgD b B (rgT b B t i) = x
          intro kv ky
          have e3 : ((i : Int) + (m : Int)).toNat = i + m := by omega
          have j3 : (0 : Int) ≤ (i : Int) := by omega
          have j4 : (0 : Int) ≤ (i : Int) + (m : Int) := by omega
          have w3' : IntKind.i64.wrap ((i : Int) + (m : Int)) = (i : Int) + (m : Int) := IntWalk.i64_in _ (by omega)
          go_wp2_with fail
          go_quiet (fail)
          have hbk := fun n => below_drewN hb n
          clear hb
          go_wp2_with fail
          go_roundw
          case rel => exact ⟨i + 1, by go_num, by omega, by omega, HLV.out, hbk _⟩
          case measure => simp [intOf]; omega
        · have j1 : ¬ (i : Int) + (m : Int) < (K : Int) := by omega
          clear lv
          go_wp2_with fail
          go_ret
          exact ⟨rfl, hb⟩
    · have j1 : (i0 : Int) + 2 * (m : Int) > 200 := by omega
      go_wp2_with fail
      go_ret
      exact ⟨rfl, B3⟩

end Go.Proofs.Ytbgpdhnfaacenac
