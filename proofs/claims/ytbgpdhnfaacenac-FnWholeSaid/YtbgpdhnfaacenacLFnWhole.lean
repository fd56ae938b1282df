/-
  The law FnWhole's walk.
-/
import Derived.Test.YtbgpdhnfaacenacDrawV
import Derived.Test.YtbgpdhnfaacenacRgtB
import Derived.Deep.RegionHeld3
namespace Go.Proofs.Ytbgpdhnfaacenac
open Go.RowKit

set_option maxRecDepth 100000 in
set_option maxHeartbeats 4000000 in
theorem lawWhole_any (H : ImRightLengths) (HW : ImRightWhole) (a : Option Addr) (len cap : Nat) (zs : List Int) (w : World) (r : IsRow .u8 w a len cap zs) :
    Calls Try.prog 6 #[.slice a len cap] w fun e w' => e = .returned (.bool true) ∧ Below w.heap.size w w' := by
  have hB := byt_of_row r
  clear r
  by_cases hl : 1048576 < len
  · have hl' : (1048576 : Int) < (len : Int) := by omega
    go_enter Try.func6, Try.ntmps6
    go_wp2
    go_ret
    exact ⟨rfl, Below.refl _ _⟩
  have hl' : decide ((1048576 : Int) < (len : Int)) = false := by simp; omega
  go_enter Try.func6, Try.ntmps6
  go_wp2_with fail
  refine (drawRightLengths_any a len cap _ hB).mono ?_
  rintro e w1 ⟨b, t, n, rfl, B1⟩
  clear hl hB
  cases h : vlB b t n with
  | false =>
    have HI := Lib.hid (H.1 b t n h); have HS := Lib.hid (specRightLengths_no b t n h)
    clear h
    go_wp2_with fail
    refine (HI.out _).mono ?_
    rintro e w2 ⟨rfl, hb2⟩
    have B2 := B1.trans (hb2.mono B1.size)
    clear B1 hb2
    go_wp2_with fail
    refine (HS.out _).mono ?_
    rintro e w3 ⟨rfl, hb3⟩
    have B3 := B2.trans (hb3.mono B2.size)
    clear B2 hb3
    go_wp2_with fail
    go_ret
    exact ⟨rfl, B3⟩
  | true =>
    obtain ⟨b, B, rfl, rfl, hv⟩ := vl_some h
    clear h
    have hb2' := hv.r.b2; have hb16 := hv.r.b16; have hB1 := hv.r.B1; have hB2 := hv.r.B2; have ht1 := hv.lo; have ht2 := hv.hi
    obtain ⟨i0, m, hm⟩ := hv.some
    obtain ⟨hin, _, hn14, hmB⟩ := rg_facts hv.r hv.lo hv.hi hm
    have hm1 := hm.pos
    have HI := Lib.hid (H.2 b B i0 m t hv hm); have HS := Lib.hid (specRightLengths_yes b B i0 m t hv hm)
    have HC : Hid (∀ q : Bool, decide (t % (B : Int) = 0) = q → GivesB 15 #[.int .i64 b, .int .i64 t, .int .i64 B] q) := fun q e => by
      have := HW.2 b B t hv
      rwa [e] at this
    clear hv hm hin
    go_wp2_with fail
    refine (HI.out _).mono ?_
    rintro e w2 ⟨rfl, hb2⟩
    have B2 := B1.trans (hb2.mono B1.size)
    clear B1 hb2
    go_wp2_with fail
    refine (HS.out _).mono ?_
    rintro e w3 ⟨rfl, hb3⟩
    have B3 := B2.trans (hb3.mono B2.size)
    clear B2 hb3
    have j1 : ¬ (B : Int) = 0 := by omega
    have j2 : ¬ B = 0 := by omega
    have j3 : ((B : Int) == 0) = false := by simp; omega
    obtain ⟨r, hr⟩ : ∃ r : Int, t.tmod (B : Int) = r := ⟨_, rfl⟩
    have hr1 : -1000 ≤ r ∧ r ≤ 1000 := by
      have h1 := Int.tmod_lt_of_pos t (show (0 : Int) < B by omega)
      have h2 := Int.lt_tmod_of_pos t (show (0 : Int) < B by omega)
      omega
    have w1' : IntKind.i64.wrap r = r := IntWalk.i64_in _ (by omega)
    have hz : r = 0 ↔ t % (B : Int) = 0 := by rw [← hr]; exact tmod_zero
    cases hq : decide (t % (B : Int) = 0) with
    | false =>
      have HC1 : Hid (∀ wx, Calls Try.prog 15 #[.int .i64 b, .int .i64 t, .int .i64 B] wx fun e w' => e = .returned (.bool false) ∧ Below wx.heap.size wx w') := HC.out false hq
      have hne : (r == 0) = false := by
        have : ¬ r = 0 := fun e => of_decide_eq_false hq (hz.1 e)
        simpa using this
      clear hq hz HC
      go_wp2_with fail
      go_region_held3 (fun _ => True) (exact trivial) (first | (go_at_call 15; (with_reducible refine Calls.mono (HC1.out _) ?_); rintro e w4 ⟨rfl, hb4⟩))
      all_goals (
        have B4 := B3.drew.trans (hb4.mono B3.drew.size)
        go_wp2_with fail
        go_ret
        exact ⟨rfl, B4⟩)
    | true =>
      have HC1 : Hid (∀ wx, Calls Try.prog 15 #[.int .i64 b, .int .i64 t, .int .i64 B] wx fun e w' => e = .returned (.bool true) ∧ Below wx.heap.size wx w') := HC.out true hq
      have hr0 : r = 0 := hz.2 (of_decide_eq_true hq)
      subst hr0
      clear hq hz HC
      go_wp2_with fail
      go_region_held3 (fun _ => True) (exact trivial) (first | (go_at_call 15; (with_reducible refine Calls.mono (HC1.out _) ?_); rintro e w4 ⟨rfl, hb4⟩))
      all_goals (
        have B4 := B3.drew.trans (hb4.mono B3.drew.size)
        go_wp2_with fail
        go_ret
        exact ⟨rfl, B4⟩)

end Go.Proofs.Ytbgpdhnfaacenac
