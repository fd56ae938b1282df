/-
  The law FnRightOrder's walk.
-/
import Derived.Test.YtbgpdhnfaacenacDrawV
import Derived.Test.YtbgpdhnfaacenacRgtB
import Derived.Test.YtbgpdhnfaacenacGOrx
namespace Go.Proofs.Ytbgpdhnfaacenac
open Go.RowKit

set_option maxRecDepth 100000 in
set_option maxHeartbeats 4000000 in
theorem lawRightOrder_any (H : ImRightLengths) (HO : ImOf) (a : Option Addr) (len cap : Nat) (zs : List Int) (w : World) (r : IsRow .u8 w a len cap zs) :
    Calls Try.prog 4 #[.slice a len cap] w fun e w' => e = .returned (.bool true) ∧ Below w.heap.size w w' := by
  have hB := byt_of_row r
  clear r
  by_cases hl : 1048576 < len
  · have hl' : (1048576 : Int) < (len : Int) := by omega
    go_enter Try.func4, Try.ntmps4
    go_wp2
    go_ret
    exact ⟨rfl, Below.refl _ _⟩
  have hl' : decide ((1048576 : Int) < (len : Int)) = false := by simp; omega
  go_enter Try.func4, Try.ntmps4
  go_wp2_with fail
  refine (drawRightLengths_any a len cap _ hB).mono ?_
  rintro e w1 ⟨b, t, n, rfl, B1⟩
  clear hl hB
  cases h : vlB b t n with
  | false =>
    have HI := Lib.hid (H.1 b t n h); have HS := Lib.hid (specRightLengths_no b t n h)
    clear h
    go_wp2_with fail
    refine (HI.out _).mono ?_
    rintro e w2 ⟨rfl, hb2⟩
    have B2 := B1.trans (hb2.mono B1.size)
    clear B1 hb2
    go_wp2_with fail
    refine (HS.out _).mono ?_
    rintro e w3 ⟨rfl, hb3⟩
    have B3 := B2.trans (hb3.mono B2.size)
    clear B2 hb3
    go_wp2_with fail
    go_ret
    exact ⟨rfl, B3⟩
  | true =>
    obtain ⟨b, B, rfl, rfl, hv⟩ := vl_some h
    clear h
    have hb2' := hv.r.b2; have hb16 := hv.r.b16; have hB1 := hv.r.B1; have hB2 := hv.r.B2; have ht1 := hv.lo; have ht2 := hv.hi
    obtain ⟨i0, m, hm⟩ := hv.some
    obtain ⟨hin, _, hn14, hmB⟩ := rg_facts hv.r hv.lo hv.hi hm
    have hm1 := hm.pos
    have HI := Lib.hid (H.2 b B i0 m t hv hm); have HS := Lib.hid (specRightLengths_yes b B i0 m t hv hm)
    by_cases h1 : B = 1
    · subst h1
      have hone := rg_one hv.r hm hin
      subst hone
      have HC := Lib.hid (HO.1 (b : Int) ((1 : Nat) : Int) (by unfold prmB; rw [decide_eq_false (show ¬ (2 ≤ ((1 : Nat) : Int) ∧ ((1 : Nat) : Int) ≤ 1000) by omega), Bool.false_and, Bool.and_false]))
      clear hv hm hin
      go_wp2_with fail
      refine (HI.out _).mono ?_
      rintro e w2 ⟨rfl, hb2⟩
      have B2 := B1.trans (hb2.mono B1.size)
      clear B1 hb2
      go_wp2_with fail
      refine (HS.out _).mono ?_
      rintro e w3 ⟨rfl, hb3⟩
      have B3 := B2.trans (hb3.mono B2.size)
      clear B2 hb3
      go_wp2_with fail
      refine (HC.out _).mono ?_
      rintro e w4 ⟨rfl, hb4⟩
      have B4 := B3.trans (hb4.mono B3.size)
      clear B3 hb4
      go_wp2_with fail
      go_ret
      exact ⟨rfl, B4⟩
    · obtain ⟨m', ho⟩ := ord_some hv.r.cop (by omega : 2 ≤ B)
      have HC := Lib.hid (HO.2 b B m' (prm_mk hv.r.b2 hv.r.b16 (by omega) hv.r.B2 hv.r.cop) hv.r.b16 (by omega) hv.r.B2 ho)
      obtain ⟨c, hc⟩ := rg_order hv.r (by omega) hm hin ho
      have hmod : (m' : Int) % (m : Int) = 0 := by rw [hc, Int.natCast_mul]; exact Int.mul_emod_right _ _
      have hml := ho.le (by omega)
      have j1 : ((B : Int) == 1) = false := by simp; omega
      have j2 : ¬ m = 0 := by omega
      have j3 : ¬ (m : Int) = 0 := by omega
      have j4 : ((m : Int) == 0) = false := by simp; omega
      have HC2 := Lib.hid hc
      clear hv hm hin ho hc
      go_wp2_with fail
      refine (HI.out _).mono ?_
      rintro e w2 ⟨rfl, hb2⟩
      have B2 := B1.trans (hb2.mono B1.size)
      clear B1 hb2
      go_wp2_with fail
      refine (HS.out _).mono ?_
      rintro e w3 ⟨rfl, hb3⟩
      have B3 := B2.trans (hb3.mono B2.size)
      clear B2 hb3
      go_wp2_with fail
      refine (HC.out _).mono ?_
      rintro e w4 ⟨rfl, hb4⟩
      have B4 := B3.trans (hb4.mono B3.size)
      clear B3 hb4
      go_wp2_with fail
      go_ret
      exact ⟨rfl, B4⟩

end Go.Proofs.Ytbgpdhnfaacenac
