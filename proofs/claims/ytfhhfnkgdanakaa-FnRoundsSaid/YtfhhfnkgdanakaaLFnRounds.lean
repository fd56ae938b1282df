/-
  The law FnRounds's walk.
-/
import Derived.Test.YtfhhfnkgdanakaaDrawO
import Derived.Test.YtfhhfnkgdanakaaOrdI
import Derived.Test.YtfhhfnkgdanakaaRndsL
import Derived.Test.YtfhhfnkgdanakaaRndsU
import Derived.Test.YtfhhfnkgdanakaaRowsT
import Derived.Deep.OwnRows
namespace Go.Proofs.Ytfhhfnkgdanakaa
open Go.RowKit

set_option maxRecDepth 100000 in
set_option maxHeartbeats 4000000 in
theorem lawRounds_any (HF : ImOf) (HU : ImUnits) (a : Option Addr) (len cap : Nat) (zs : List Int) (w : World) (r : IsRow .u8 w a len cap zs) :
    Calls Try.prog 3 #[.slice a len cap] w fun e w' => e = .returned (.bool true) ∧ Below w.heap.size w w' := by
  have hB := byt_of_row r
  clear r
  by_cases hl : 1048576 < len
  · have hl' : (1048576 : Int) < (len : Int) := by omega
    go_enter Try.func3, Try.ntmps3
    go_wp2
    go_ret
    exact ⟨rfl, Below.refl _ _⟩
  have hl' : decide ((1048576 : Int) < (len : Int)) = false := by simp; omega
  go_enter Try.func3, Try.ntmps3
  go_wp2_with fail
  refine (drawRestRounds_any a len cap _ hB).mono ?_
  rintro e w1 ⟨b, n, rfl, B1⟩
  clear hl hB
  cases h : prmB b n with
  | false =>
    obtain ⟨HS, HI⟩ := rounds_no b n h
    go_wp2_with fail
    refine (HI _).mono ?_
    rintro e w2 ⟨v, rfl, hv2, hb2⟩
    have B2 := B1.trans (hb2.mono B1.size)
    go_wp2_with fail
    refine (HS _).mono ?_
    rintro e w3 ⟨u, rfl, hu3, hb3⟩
    have B3 := B2.trans (hb3.mono B2.size)
    have hv3 := hv2.later hb3
    go_wp2_with fail
    refine (sameRows_any _ _ _ _ [] _ hv3 hu3 (by simp) (by simp)).mono ?_
    rintro e w4 ⟨rfl, hb4⟩
    have B4 := B3.trans (hb4.mono B3.size)
    have hv4 := hv3.later hb4
    have hu4 := hu3.later hb4
    go_wp2_with fail
    refine (sameRows_any _ _ _ _ [] _ hv4 hu4 (by simp) (by simp)).mono ?_
    rintro e w5 ⟨rfl, hb5⟩
    have B5 := B4.trans (hb5.mono B4.size)
    go_wp2_with fail
    go_ret
    exact ⟨rfl, B5⟩
  | true =>
    obtain ⟨b, n, rfl, rfl, h3, h4, hn, hn2, hbn⟩ := prm_nat h
    obtain ⟨m, hm⟩ := ord_some hbn hn
    obtain ⟨L, hL⟩ := rnds_some hbn n (Nat.le_refl _)
    have hbd := hL.bound (Nat.le_refl _)
    have hun := rnds_units hbn hn hm hL
    obtain ⟨HS, HI⟩ := rounds_at b n L h h3 h4 hn hn2 hbn hL
    have F := HF.2 b n m h h4 hn hn2 hm
    have U := HU.2 n hn hn2
    have hml := hm.le (show 1 < n by omega)
    have hmp := hm.pos
    have hmem := rnds_mem hbn (Nat.le_refl _) hL
    have hinj := rnds_inj hbn (Nat.le_refl _) hL
    have hL1 : ∀ xs ∈ L, xs.length ≤ 1000 := fun xs hx => by have := (hbd.2 xs hx).2; omega
    have hlm : ∀ r, r < L.length → lenL L r = m := fun r hr => by
      unfold lenL
      rw [List.getElem?_eq_getElem hr]
      exact hun.2 _ (List.getElem_mem hr)
    obtain ⟨l, hl⟩ : ∃ l, L.length = l := ⟨_, rfl⟩
    rw [hl] at hun hmem hinj hlm
    have hul : (l : Int) * m = (unC n n : Nat) := by rw [← hun.1]; simp
    have hule := unC_le n n
    have hln : l ≤ 1000 := by have := hbd.1; omega
    have HL := Lib.hid hl; have HL1 := Lib.hid hL1; have HME := Lib.hid hmem; have HIN := Lib.hid hinj; have HLM := Lib.hid hlm
    generalize unC n n = u at hul hule U
    clear hL hbd hun hm hl hL1 hmem hinj hlm
    go_wp2_with fail
    refine (HI _).mono ?_
    rintro e w2 ⟨v, rfl, hv2, hb2⟩
    have B2 := B1.trans (hb2.mono B1.size)
    go_wp2_with fail
    refine (HS _).mono ?_
    rintro e w3 ⟨z, rfl, hu3, hb3⟩
    have B3 := B2.trans (hb3.mono B2.size)
    have hv3 := hv2.later hb3
    go_wp2_with fail
    refine (sameRows_any _ _ _ _ L _ hv3 hu3 (by rw [HL.out]; omega) HL1.out).mono ?_
    rintro e w4 ⟨rfl, hb4⟩
    have B4 := B3.trans (hb4.mono B3.size)
    have hv4 := hv3.later hb4
    clear B1 B2 B3 hb2 hb3 hb4 hv2 hv3 hu3
    go_wp2_with fail
    refine (F _).mono ?_
    rintro e w5 ⟨rfl, hb5⟩
    have B5 := B4.trans (hb5.mono B4.size)
    have hv5 := hv4.later hb5
    go_wp2_with fail
    refine (U _).mono ?_
    rintro e w6 ⟨rfl, hb6⟩
    have B6 := B5.trans (hb6.mono B5.size)
    obtain ⟨vs, hvl, hV, _⟩ := hv5.later hb6
    obtain ⟨av, cv, rfl⟩ := row_form hV.1
    clear B4 B5 hb5 hb6 hv4 hv5 F U HI HS
    have hmk := run_make_row' (P := Try.prog) 32 4 (.bool false) 1 Try.underlying32 infoBool rfl .i64 .i64 n (by omega) (by omega)
    rw [HL.out] at hvl ⊢
    have HVL := Lib.hid hvl
    clear hvl
    rw [HL.out] at hV
    have hV7 : RowVs w1.heap.size (w6.alloc (.cells (madeCells #[.bool false] n) 4)) (.slice av l cv) L vs := hV.later ((Below.refl _ _).alloc (Nat.le_refl _) _)
    have hS7 := World.rowIs_made w6 (.bool false) n 4
    have B7 := B6.alloc B6.size (.cells (madeCells #[.bool false] n) 4)
    have hS06 : w.heap.size ≤ w6.heap.size := B6.size
    go_wp2_with fail
    clear hmk hV B6
    revert hV7 hS7 B7 hS06
    generalize w6.alloc (.cells (madeCells #[.bool false] n) 4) = w7
    generalize w6.heap.size = S0
    intro hV7 hS7 B7 hS06
    go_loopw [14, 15] (fun q i wr => ∃ (r : Nat) (G : Nat → Bool), r ≤ l ∧ i = .int .i64 r ∧ q = .int .i64 ((r * m : Nat) : Int) ∧ wr.rowIs S0 4 n (fun x => .bool (G x)) ∧
      (∀ x : Nat, G x = true ↔ ∃ r' c', r' < r ∧ c' < m ∧ atL L r' c' = x) ∧ RowVs w1.heap.size wr (.slice av l cv) L vs ∧ Below w.heap.size w wr) (fun _ i _ => l - (intOf i).toNat)
    case atStart =>
      refine ⟨0, fun _ => false, Nat.zero_le _, rfl, by simp, hS7, fun x => ?_, hV7, B7⟩
      simp
    case round =>
      clear hV7 hS7 B7
      obtain ⟨r, G, hr, rfl, rfl, hS, hG, hV, hb⟩ := hrel
      by_cases hrl : r < l
      · have hV1 := hV.1
        rw [HL.out] at hV1
        obtain ⟨g, c1, u0, e1, hc1, hu1⟩ := row_cell hV1 HVL.out r hrl
        cases e1
        have su := hV.2 r u0 hu1
        have hlr : (L[r]?.getD []).length = m := HLM.out r hrl
        obtain ⟨gu, ou, cu, rfl, _, _, _, _⟩ := slc_some su (by omega)
        rw [hlr] at su hc1 hu1
        have i1 : (r : Int) < l := by omega
        have HG := Lib.hid hG
        have hrm : r * m ≤ u := by
          have h1 : (r : Int) * m ≤ (l : Int) * m := Int.mul_le_mul_of_nonneg_right (by omega) (by omega)
          have h2 : ((r * m : Nat) : Int) ≤ u := by rw [← hul]; simpa using h1
          omega
        have hrm2 : r * m + m ≤ u := by
          have h1 : ((r : Int) + 1) * m ≤ (l : Int) * m := Int.mul_le_mul_of_nonneg_right (by omega) (by omega)
          rw [Int.add_mul, Int.one_mul, hul] at h1
          have h2 : ((r * m : Nat) : Int) = (r : Int) * m := by simp
          omega
        obtain ⟨Q, hQ⟩ : ∃ Q, r * m = Q := ⟨_, rfl⟩
        rw [hQ] at hrm hrm2 ⊢
        have HQ := Lib.hid hQ
        clear hG hV1 su hQ
        go_wp2_with fail
        clear hc1
        go_loopw [14, 16] (fun q j wk => ∃ (c : Nat) (H : Nat → Bool), c ≤ m ∧ j = .int .i64 c ∧ q = .int .i64 ((Q + c : Nat) : Int) ∧ wk.rowIs S0 4 n (fun x => .bool (H x)) ∧
          (∀ x : Nat, H x = true ↔ (∃ r' c', r' < r ∧ c' < m ∧ atL L r' c' = x) ∨ ∃ c', c' < c ∧ atL L r c' = x) ∧ RowVs w1.heap.size wk (.slice (some ⟨g, 0, .none⟩) l cv) L vs ∧ Below w.heap.size w wk) (fun _ j _ => m - (intOf j).toNat)
        case atStart =>
          refine ⟨0, G, Nat.zero_le _, rfl, rfl, hS, fun x => ?_, hV, hb⟩
          rw [HG.out]
          constructor
          · exact .inl
          · rintro (h | ⟨c', h, _⟩)
            · exact h
            · omega
        case round =>
          clear hS hV hb
          obtain ⟨c, H, hc, rfl, rfl, hSk, hH, hVk, hbk⟩ := hrel
          have hV2 := hVk.1
          rw [HL.out] at hV2
          obtain ⟨g', c2, u', e2, hc2, hu2⟩ := row_cell hV2 HVL.out r hrl
          cases e2
          rw [hu1] at hu2
          cases hu2
          have sk := hVk.2 r _ hu1
          by_cases hcm : c < m
          · have hcell := sk.cell hlr c hcm
            obtain ⟨x, hxn, hx, _⟩ := HME.out r hrl c (by rw [HLM.out r hrl]; exact hcm)
            have hx' : (L[r]?.getD [])[c]?.getD 0 = (x : Int) := hx
            rw [hx'] at hcell
            have hcs := hSk.cell hxn
            have hfz := hSk.frozen x
            have hHx : H x = false := by
              cases hq : H x with
              | false => rfl
              | true =>
                exfalso
                rcases (hH x).1 hq with ⟨r', c', h5, h6, h7⟩ | ⟨c', h5, h7⟩
                · exact HIN.out r' c' r c hrl (by rw [HLM.out r hrl]; exact hcm) (.inl ⟨h5, by rw [HLM.out r' (by omega)]; exact h6⟩) (h7.trans hx.symm)
                · exact HIN.out r c' r c hrl (by rw [HLM.out r hrl]; exact hcm) (.inr ⟨rfl, h5⟩) (h7.trans hx.symm)
            rw [hHx] at hcs
            have i2 : (c : Int) < m := by omega
            have i3 : (x : Int) < n := by omega
            have hg1 := grown_setc wr ⟨S0, x, .none⟩ (.bool true)
            have hVn := hVk.off hg1 (rowIs_bool hSk)
            have hSn := (hSk.set x (.bool true)).congr (g := fun y => .bool (if y = x then true else H y)) (fun y _ => by
              show (if y = x then Value.bool true else _) = _
              split <;> rfl)
            have hbn2 := hbk.grown hg1 hbk.size (fun q e => by cases e; exact hS06)
            have HH := Lib.hid hH
            clear hH hV2 sk hVk hSk hbk hg1
            go_wp2_with fail
            refine ⟨⟨c + 1, _, hcm, rfl, by simp; omega, hSn, fun y => ?_, hVn, hbn2⟩, by simp [intOf]; omega⟩
            show (if y = x then true else H y) = true ↔ _
            split
            · rename_i e
              subst e
              exact ⟨fun _ => .inr ⟨c, by omega, hx⟩, fun _ => rfl⟩
            · rename_i hyx
              rw [HH.out]
              constructor
              · rintro (h | ⟨c', h5, h6⟩)
                · exact .inl h
                · exact .inr ⟨c', by omega, h6⟩
              · rintro (h | ⟨c', h5, h6⟩)
                · exact .inl h
                · rcases Nat.lt_or_ge c' c with h7 | h7
                  · exact .inr ⟨c', h7, h6⟩
                  · obtain rfl : c' = c := by omega
                    have : (x : Int) = y := hx.symm.trans h6
                    exact absurd (by omega) hyx
          · obtain rfl : c = m := by omega
            have i2 : ¬ (c : Int) < c := by omega
            have HH := Lib.hid hH
            clear hH hV2 sk
            go_wp2_with fail
            refine ⟨⟨r + 1, H, hrl, rfl, by rw [Nat.add_mul, Nat.one_mul, HQ.out], hSk, fun x => ?_, hVk, hbk⟩, by simp [intOf]; omega⟩
            rw [HH.out]
            constructor
            · rintro (⟨r', c', h5, h6, h7⟩ | ⟨c', h5, h6⟩)
              · exact ⟨r', c', by omega, h6, h7⟩
              · exact ⟨r, c', by omega, h5, h6⟩
            · rintro ⟨r', c', h5, h6, h7⟩
              rcases Nat.lt_or_ge r' r with h8 | h8
              · exact .inl ⟨r', c', h8, h6, h7⟩
              · obtain rfl : r' = r := by omega
                exact .inr ⟨c', h6, h7⟩
      · obtain rfl : r = l := by omega
        have i1 : ¬ (r : Int) < r := by omega
        have hsum : ((r * m : Nat) : Int) = u := by rw [← hul]; simp
        rw [hsum]
        clear hul hsum
        go_wp2_with fail
        go_ret
        exact ⟨rfl, hb⟩

end Go.Proofs.Ytfhhfnkgdanakaa
