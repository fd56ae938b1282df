/-
  The law FnTurnAll's walk.
-/
import Derived.Test.YtagkbpdfpeadbadDrawT
import Derived.Test.YtagkbpdfpeadbadTurnB
import Derived.Test.YtagkbpdfpeadbadGRow
import Derived.Test.YtagkbpdfpeadbadTotI
import Derived.Test.YtagkbpdfpeadbadPMath
import Derived.Deep.QuietTactic
import Derived.BigQuiet
namespace Go.Proofs.Ytagkbpdfpeadbad
open Go.RowKit

set_option maxRecDepth 100000 in
set_option maxHeartbeats 4000000 in
theorem lawTurnAll_any (H : ImTurnAll) (HT : ImTurnTimes) (a : Option Addr) (len cap : Nat) (zs : List Int) (w : World) (r : IsRow .u8 w a len cap zs) :
    Calls Try.prog 4 #[.slice a len cap] w fun e w' => e = .returned (.bool true) ∧ Below w.heap.size w w' := by
  have hB := byt_of_row r
  clear r
  by_cases hl : 1048576 < len
  · have hl' : (1048576 : Int) < (len : Int) := by omega
    go_enter Try.func4, Try.ntmps4
    go_wp2
    go_ret
    exact ⟨rfl, Below.refl _ _⟩
  have hl' : decide ((1048576 : Int) < (len : Int)) = false := by simp; omega
  go_enter Try.func4, Try.ntmps4
  go_wp2_with fail
  refine (drawTurnAll_any a len cap _ hB).mono ?_
  rintro e w1 ⟨b, y, d, d1, d2, hd, rfl, ly1, B1⟩
  clear hl hB
  have hdl : d.length ≤ 1048576 := by omega
  cases h : rngB b d with
  | false =>
    have HI := Lib.hid (H.1 b d hdl h); have HS := Lib.hid (specTurnAll_no b d hdl h)
    clear h
    go_wp2_with fail
    refine (HI.out _ y w1 ly1).mono ?_
    rintro e w2 ⟨v, rfl, lv2, hb2⟩
    have B2 := B1.trans (hb2.mono B1.size)
    have ly2 := ly1.later hb2
    clear B1 hb2 ly1
    go_wp2_with fail
    refine (HS.out _ y w2 ly2).mono ?_
    rintro e w3 ⟨u, rfl, lu3, hb3⟩
    have B3 := B2.trans (hb3.mono B2.size)
    have lv3 := lv2.later hb3
    clear B2 hb3 lv2
    go_wp2_with fail
    refine (sameInts_any _ _ _ _ ([] : List Int) ([] : List Int) _ lv3 lu3 (by simp) (by simp)).mono ?_
    rintro e w4 ⟨rfl, hb4⟩
    have B4 := B3.trans (hb4.mono B3.size)
    have lv4 := lv3.later hb4
    have lu4 := lu3.later hb4
    clear B3 hb4 lv3 lu3
    have hxx : decide (([] : List Int) = ([] : List Int)) = true := by simp
    rw [hxx]
    clear hxx
    go_wp2_with fail
    refine (sameInts_any _ _ _ _ ([] : List Int) ([] : List Int) _ lv4 lu4 (by simp) (by simp)).mono ?_
    rintro e w5 ⟨rfl, hb5⟩
    have B5 := B4.trans (hb5.mono B4.size)
    clear B4 hb5
    have hxx : decide (([] : List Int) = ([] : List Int)) = true := by simp
    rw [hxx]
    clear hxx
    go_wp2_with fail
    go_ret
    exact ⟨rfl, B5⟩
  | true =>
    obtain ⟨b', e1, hr⟩ := rng_nat h
    obtain rfl : b = b' := by omega
    clear e1 h
    have HI := Lib.hid (H.2 b d hr); have HS := Lib.hid (specTurnAll_yes b d hr)
    have hb02 := hr.b2; have hb16 := hr.b16; have hd1 := hr.l1; have hd2 := hr.l2
    have hf := turA_first (c := 101) (show 0 < b by omega) hr.l1 hr.dg (by omega)
    have HG := Lib.hid (fun i hi => turA_get (b := b) (d := d) (c := 101) i hi)
    have HTT := Lib.hid (fun (k : Nat) (hk : k ≤ 100) (h0 : (tim b k d).1 = 0) => HT.2.2 b k d hr hk h0)
    have hx1 : ∀ x ∈ d, 0 ≤ x ∧ x ≤ 1000 := fun x hx => by have := hr.dg x hx; omega
    have hx2 : ∀ k : Nat, ∀ x ∈ (tim b k d).2, 0 ≤ x ∧ x ≤ 1000 := fun k x hx => by have := tim_dgt (show 0 < b by omega) k d x hx; omega
    have T1 : Hid (∀ (n₀ : Nat) (v : Value) (wx : World), Slc n₀ wx v d → Calls Try.prog 13 #[v] wx fun e w' => e = .returned (.int .i64 (sumI d)) ∧ w' = wx) := fun n₀ v wx hv => (totalI_any n₀ v d wx hv (by omega) hx1).mono fun e w' h => ⟨h.1, h.2.symm⟩
    have T2 : Hid (∀ (k : Nat), inB b d k = true → ∀ (n₀ : Nat) (v : Value) (wx : World), Slc n₀ wx v (tim b k d).2 → Calls Try.prog 13 #[v] wx fun e w' => e = .returned (.int .i64 (sumI d)) ∧ w' = wx) := fun k hk n₀ v wx hv => by
      have := totalI_any n₀ v _ wx hv (by rw [tim_len]; omega) (hx2 k)
      rw [(inB_sum hk).2] at this
      exact this.mono fun e w' h => ⟨h.1, h.2.symm⟩
    have hlen := turA_len b d 101
    have hle : (turA b d 101).length ≤ 1048576 := by omega
    obtain ⟨l, hl⟩ : ∃ l, (turA b d 101).length = l := ⟨_, rfl⟩
    have HL := Lib.hid hl
    have HF := Lib.hid hf.2
    have hl0 : 0 < l := by rw [← hl]; exact hf.1
    rw [hl] at hlen
    clear hr hx1 hx2 hf hl
    go_wp2_with fail
    refine (HI.out _ y w1 ly1).mono ?_
    rintro e w2 ⟨v, rfl, lv2, hb2⟩
    have B2 := B1.trans (hb2.mono B1.size)
    have ly2 := ly1.later hb2
    clear B1 hb2 ly1
    go_wp2_with fail
    refine (HS.out _ y w2 ly2).mono ?_
    rintro e w3 ⟨u, rfl, lu3, hb3⟩
    have B3 := B2.trans (hb3.mono B2.size)
    have lv3 := lv2.later hb3
    have ly3 := ly2.later hb3
    clear B2 hb3 lv2 ly2
    go_wp2_with fail
    refine (sameInts_any _ _ _ _ (turA b d 101) (turA b d 101) _ lv3 lu3 hle hle).mono ?_
    rintro e w4 ⟨rfl, hb4⟩
    have B4 := B3.trans (hb4.mono B3.size)
    have lv4 := lv3.later hb4
    have ly4 := ly3.later hb4
    clear B3 hb4 lv3 ly3
    have hxx : decide ((turA b d 101) = (turA b d 101)) = true := by simp
    rw [hxx]
    clear hxx
    obtain ⟨g, o, c, rfl, _, _, _, _⟩ := slc_some lv4 (by rw [HL.out]; exact hl0)
    rw [HL.out] at lv4 ⊢
    clear HI HS hle lu3
    have hsz := B4.size
    go_wp2_with fail
    go_loopw [9] (fun x wr => ∃ i : Nat, i ≤ l ∧ x = .int .i64 i ∧ Slc w1.heap.size wr (.slice (some ⟨g, o, none⟩) l c) (turA b d 101) ∧ Slc w.heap.size wr y d ∧ Below w.heap.size w wr) (fun x _ => l - (intOf x).toNat)
    case atStart => exact ⟨0, Nat.zero_le _, rfl, lv4, ly4, B4⟩
    case round =>
      clear lv4 ly4 B4 hsz
      obtain ⟨i, hil, rfl, lv, ly, hb⟩ := hrel
      by_cases hlt : i < l
      · have j1 : (i : Int) < (l : Int) := by omega
        obtain ⟨k, hk1, hk2, hk3, hk4⟩ := HG.out i (by rw [HL.out]; exact hlt)
        have kc := Slc.cell HL.out lv i hlt
        rw [hk1] at kc
        have h0 := (inB_sum hk3).1
        have HK4 := Lib.hid hk4; have HK3 := Lib.hid hk3; have HK1 := Lib.hid hk1
        have HTK := Lib.hid (HTT.out k (by omega) h0)
        clear hk4 hk3 hk1 h0
        go_wp2_with fail
        refine (HTK.out _ y wr ly).mono ?_
        rintro e w5 ⟨v5, rfl, lx5, hb5⟩
        have B5 := hb.trans (hb5.mono hb.size)
        have lv5 := lv.later hb5
        have ly5 := ly.later hb5
        clear lv ly hb hb5 kc HTK
        have TX : Hid (∀ nn, Calls Try.prog 13 #[v5] (w5.drewN nn) fun e w' => e = .returned (.int .i64 (sumI d)) ∧ w' = w5.drewN nn) := fun nn => T2.out k HK3.out _ v5 (w5.drewN nn) (lx5.later (below_drewN (Below.refl _ _) nn))
        have TD : Hid (∀ nn, Calls Try.prog 13 #[y] (w5.drewN nn) fun e w' => e = .returned (.int .i64 (sumI d)) ∧ w' = w5.drewN nn) := fun nn => T1.out _ y (w5.drewN nn) (ly5.later (below_drewN (Below.refl _ _) nn))
        have DV : Hid (∀ nn, Slc w1.heap.size (w5.drewN nn) (.slice (some ⟨g, o, none⟩) l c) (turA b d 101)) := fun nn => lv5.later (below_drewN (Below.refl _ _) nn)
        have DY : Hid (∀ nn, Slc w.heap.size (w5.drewN nn) y d) := fun nn => ly5.later (below_drewN (Below.refl _ _) nn)
        have DB : Hid (∀ nn, Below w.heap.size w (w5.drewN nn)) := fun nn => below_drewN B5 nn
        have kc := Slc.cell HL.out lv5 i hlt
        rw [HK1.out] at kc
        by_cases hi0 : 0 < i
        · have j2 : decide ((0 : Int) < (i : Int)) = true := by simp; omega
          obtain ⟨i1, hi1⟩ : ∃ i1, i = i1 + 1 := ⟨i - 1, by omega⟩
          have kc1 := Slc.cell HL.out lv5 i1 (by omega)
          have hlt1 := HK4.out hi0
          rw [show i - 1 = i1 by omega] at hlt1
          obtain ⟨x1, hx1⟩ : ∃ x1, (turA b d 101)[i1]?.getD 0 = x1 := ⟨_, rfl⟩
          rw [hx1] at kc1 hlt1
          have j3 : (i : Int) - 1 = (i1 : Int) := by omega
          have j4 : IntKind.i64.wrap ((i : Int) - 1) = (i1 : Int) := by rw [j3]; exact IntWalk.i64_in _ (by omega)
          have j5 : decide ((k : Int) ≤ x1) = false := by simp; omega
          have j6 : (i1 : Int) < (l : Int) := by omega
          have j7 : (0 : Int) ≤ (i1 : Int) := by omega
          have HJ := Lib.hid hi1
          clear hx1 hi1 lv5 ly5 B5 lx5
          go_wp2_with fail
          go_quiet (first | with_reducible exact Calls.quiet_of_same (TX.out _) | with_reducible exact Calls.quiet_of_same (TD.out _))
          go_wp2
          go_roundw
          case rel => exact ⟨i + 1, hlt, by go_num, by with_reducible exact DV.out _, by with_reducible exact DY.out _, by with_reducible exact DB.out _⟩
          case measure => simp [intOf]; omega
        · have j2 : decide ((0 : Int) < (i : Int)) = false := by simp; omega
          clear lv5 ly5 B5 lx5
          go_wp2_with fail
          go_quiet (first | with_reducible exact Calls.quiet_of_same (TX.out _) | with_reducible exact Calls.quiet_of_same (TD.out _))
          go_wp2
          go_roundw
          case rel => exact ⟨i + 1, hlt, by go_num, by with_reducible exact DV.out _, by with_reducible exact DY.out _, by with_reducible exact DB.out _⟩
          case measure => simp [intOf]; omega
      · obtain rfl : i = l := by omega
        have j1 : ¬ (i : Int) < (i : Int) := by omega
        have j0 : (0 : Int) < (i : Int) := by omega
        have kc : wr.cell? ⟨g, o + 0, none⟩ = some (.int .i64 ((turA b d 101)[0]?.getD 0)) := Slc.cell HL.out lv 0 hl0
        rw [HF.out, Nat.add_zero] at kc
        go_wp2_with fail
        go_ret
        exact ⟨rfl, hb⟩

end Go.Proofs.Ytagkbpdfpeadbad
