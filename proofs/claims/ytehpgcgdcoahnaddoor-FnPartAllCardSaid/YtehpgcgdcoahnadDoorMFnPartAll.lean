/-
  The law FnPartAll's walk.
-/
import Derived.Test.YtehpgcgdcoahnadDoorDrawP
import Derived.Test.YtehpgcgdcoahnadDoorPartB
import Derived.Test.YtehpgcgdcoahnadDoorGMul
import Derived.Test.YtehpgcgdcoahnadDoorGRow
import Derived.Test.YtehpgcgdcoahnadDoorGOrx
namespace Go.Proofs.YtehpgcgdcoahnadDoor
open Go.RowKit

set_option maxRecDepth 100000 in
set_option maxHeartbeats 4000000 in
theorem lawPartAll_any (H : ImPartAllL) (HF : ImOf) (a : Option Addr) (len cap : Nat) (zs : List Int) (w : World) (r : IsRow .u8 w a len cap zs) (hLd : Laid w) :
    Calls Tryd.prog 4 #[.slice a len cap] w fun e w' => e = .returned (.bool true) ∧ Below w.heap.size w w' := by
  have hB := byt_of_row r
  clear r
  by_cases hl : 1048576 < len
  · have hl' : (1048576 : Int) < (len : Int) := by omega
    go_enter Tryd.func4, Tryd.ntmps4
    go_wp2
    go_ret
    exact ⟨rfl, Below.refl _ _⟩
  have hl' : decide ((1048576 : Int) < (len : Int)) = false := by simp; omega
  go_enter Tryd.func4, Tryd.ntmps4
  go_wp2_with fail
  refine (drawPartAll_any a len cap _ hB).mono ?_
  rintro e w1 ⟨b, n, hn4, rfl, B1⟩
  clear hl hB
  cases h : prmB b n && decide (n ≤ 300) with
  | false =>
    have HI := Lib.hid (H.1 b n h); have HS := Lib.hid (specPartAll_no b n h)
    clear h
    go_wp2_with fail
    refine (HI.out _ (hLd.later B1)).mono ?_
    rintro e w2 ⟨v, rfl, lv2, hb2⟩
    have B2 := B1.trans (hb2.mono B1.size)
    clear B1 hb2
    go_wp2_with fail
    refine (HS.out _).mono ?_
    rintro e w3 ⟨u, rfl, lu3, hb3⟩
    have B3 := B2.trans (hb3.mono B2.size)
    have lv3 := lv2.later hb3
    clear B2 hb3 lv2
    go_wp2_with fail
    refine (sameInts_any _ _ _ _ ([] : List Int) ([] : List Int) _ lv3 lu3 (by simp) (by simp)).mono ?_
    rintro e w4 ⟨rfl, hb4⟩
    have B4 := B3.trans (hb4.mono B3.size)
    have lv4 := lv3.later hb4
    have lu4 := lu3.later hb4
    clear B3 hb4 lv3 lu3
    have hxx : decide (([] : List Int) = ([] : List Int)) = true := by simp
    rw [hxx]
    clear hxx
    go_wp2_with fail
    refine (sameInts_any _ _ _ _ ([] : List Int) ([] : List Int) _ lv4 lu4 (by simp) (by simp)).mono ?_
    rintro e w5 ⟨rfl, hb5⟩
    have B5 := B4.trans (hb5.mono B4.size)
    clear B4 hb5
    have hxx : decide (([] : List Int) = ([] : List Int)) = true := by simp
    rw [hxx]
    clear hxx
    go_wp2_with fail
    go_ret
    exact ⟨rfl, B5⟩
  | true =>
    rw [Bool.and_eq_true, decide_eq_true_eq] at h
    obtain ⟨hp, hn3⟩ := h
    obtain ⟨b, n, rfl, rfl, h3, h4, hn, hn2, hbn⟩ := prm_nat hp
    obtain ⟨m, hm⟩ := ord_some hbn hn
    have hn5 : n ≤ 300 := by omega
    have HI := Lib.hid (H.2 b n m hp h3 h4 hn hn5 hm); have HS := Lib.hid (specPartAll_yes b n m hp h3 h4 hn hn5 hm); have HO := Lib.hid (HF.2 b n m hp h4 hn hn2 hm)
    have hml := hm.le (show 1 < n by omega)
    have hmp := hm.pos
    have HPR := Lib.hid (fun hpr : primeB n = true => (all_prime h3 h4 hn hn2 hbn hm hpr (n + 1)).trans (show dvC m (n + 1) = dvC m (m + 1) by have := dvC_past hmp (n - m); rwa [show m + 1 + (n - m) = n + 1 by omega] at this))
    have HG := Lib.hid (fun i hi => allL_get (b := b) (n := n) (m := m) (c := n + 1) i hi)
    obtain ⟨l, hl⟩ : ∃ l, (allL b n m (n + 1)).length = l := ⟨_, rfl⟩
    have hll : l ≤ 301 := by rw [← hl]; exact Nat.le_trans (allL_len b n m (n + 1)) (by omega)
    have hle : (allL b n m (n + 1)).length ≤ 1048576 := by omega
    have HL := Lib.hid hl
    clear hm hp hbn hl
    go_wp2_with fail
    refine (HI.out _ (hLd.later B1)).mono ?_
    rintro e w2 ⟨v, rfl, lv2, hb2⟩
    have B2 := B1.trans (hb2.mono B1.size)
    clear B1 hb2
    go_wp2_with fail
    refine (HS.out _).mono ?_
    rintro e w3 ⟨u, rfl, lu3, hb3⟩
    have B3 := B2.trans (hb3.mono B2.size)
    have lv3 := lv2.later hb3
    clear B2 hb3 lv2
    go_wp2_with fail
    refine (sameInts_any _ _ _ _ (allL b n m (n + 1)) (allL b n m (n + 1)) _ lv3 lu3 hle hle).mono ?_
    rintro e w4 ⟨rfl, hb4⟩
    have B4 := B3.trans (hb4.mono B3.size)
    have lv4 := lv3.later hb4
    clear B3 hb4 lv3
    have hxx : decide ((allL b n m (n + 1)) = (allL b n m (n + 1))) = true := by simp
    rw [hxx]
    clear hxx
    go_wp2_with fail
    refine (HO.out _).mono ?_
    rintro e w5 ⟨rfl, hb5⟩
    have B5 := B4.trans (hb5.mono B4.size)
    have lv5 := lv4.later hb5
    clear B4 hb5 lv4
    clear lu3 HI HS HO hle
    obtain ⟨av, cv, rfl⟩ := slc_form lv5
    revert lv5
    rw [HL.out]
    intro lv5
    go_wp2_with fail
    go_loop [11, 12] (fun q x => ∃ c : Nat, 2 ≤ c ∧ (c = 2 ∨ c ≤ m + 1) ∧ x = .int .i64 c ∧ q = .int .i64 (dvC m c)) (fun _ x => m + 2 - (intOf x).toNat)
    case atStart => exact ⟨2, Nat.le_refl _, .inl rfl, rfl, by simp [dvC]⟩
    case round =>
      obtain ⟨c, hc2, hc3, rfl, rfl⟩ := hrel
      have hdc := dvC_le m c
      by_cases hcm : c ≤ m
      · have i1 : (c : Int) ≤ (m : Int) := by omega
        have hc0 : ¬ c = 0 := by omega
        have hds : dvC m (c + 1) = dvC m c + (if 2 ≤ c ∧ m % c = 0 then 1 else 0) := rfl
        by_cases hmc : m % c = 0
        · rw [if_pos ⟨hc2, hmc⟩] at hds
          have hmc' : (m : Int) % c = 0 := by omega
          have HDS := Lib.hid hds
          clear hds
          go_wp2_with fail
          exact ⟨⟨c + 1, by omega, by omega, rfl, by rw [HDS.out]; rfl⟩, by simp [intOf]; omega⟩
        · rw [if_neg (by omega)] at hds
          have hmc' : ((m : Int) % c == 0) = false := by simp; omega
          have HDS := Lib.hid hds
          clear hds
          go_wp2_with fail
          exact ⟨⟨c + 1, by omega, by omega, rfl, by rw [HDS.out]; rfl⟩, by simp [intOf]; omega⟩
      · have i1 : ¬ (c : Int) ≤ (m : Int) := by omega
        have hce : dvC m c = dvC m (m + 1) := by
          have := dvC_past hmp (c - (m + 1))
          rwa [show m + 1 + (c - (m + 1)) = c by omega] at this
        have HCE := Lib.hid hce
        rw [hce] at hdc ⊢
        clear hce
        go_wp2_with fail
        go_loop [13] (fun x => ∃ i : Nat, i ≤ l ∧ x = .int .i64 i) (fun x => l - (intOf x).toNat)
        case atStart => exact ⟨0, Nat.zero_le _, rfl⟩
        case round =>
          obtain ⟨i, hil, rfl⟩ := hrel
          by_cases hlt : i < l
          · have j1 : (i : Int) < (l : Int) := by omega
            obtain ⟨k, hk1, hk2, hk3, hk4⟩ := HG.out i (by rw [HL.out]; exact hlt)
            obtain ⟨g, o, c1, e1, _, _, _, _⟩ := slc_some (by rw [← HL.out] at lv5; exact lv5) (by rw [HL.out]; omega)
            rw [HL.out] at e1
            cases e1
            have kc := Slc.cell HL.out lv5 i hlt
            rw [hk1] at kc
            have hk0 : ¬ k = 0 := by omega
            have hmk : (m : Int) % k = 0 := by omega
            go_wp2_with fail
            exact ⟨⟨i + 1, hlt, rfl⟩, by simp [intOf]; omega⟩
          · obtain rfl : i = l := by omega
            have j1 : ¬ (i : Int) < (i : Int) := by omega
            go_wp2_with fail
            refine (prime_any n _ hn2).mono ?_
            rintro e w6 ⟨rfl, rfl⟩
            cases hpr : primeB n with
            | false =>
              go_wp2_with fail
              go_ret
              exact ⟨rfl, B5⟩
            | true =>
              have he : dvC m (m + 1) = i := by rw [← HL.out]; exact (HPR.out hpr).symm
              rw [he]
              go_wp2_with fail
              go_ret
              exact ⟨rfl, B5⟩

end Go.Proofs.YtehpgcgdcoahnadDoor
