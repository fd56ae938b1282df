/-
  The law FnParts's walk.
-/
import Derived.Test.YtehpgcgdcoahnabDrawP
import Derived.Test.YtehpgcgdcoahnabPartB
import Derived.Test.YtehpgcgdcoahnabGRow
import Derived.Test.YtehpgcgdcoahnabLists
import Derived.Test.YtehpgcgdcoahnabPartC
namespace Go.Proofs.Ytehpgcgdcoahnab
open Go.RowKit

set_option maxRecDepth 100000 in
set_option maxHeartbeats 4000000 in
theorem lawParts_any (H : ImPartList) (a : Option Addr) (len cap : Nat) (zs : List Int) (w : World) (r : IsRow .u8 w a len cap zs) :
    Calls Try.prog 3 #[.slice a len cap] w fun e w' => e = .returned (.bool true) ∧ Below w.heap.size w w' := by
  have hB := byt_of_row r
  clear r
  by_cases hl : 1048576 < len
  · have hl' : (1048576 : Int) < (len : Int) := by omega
    go_enter Try.func3, Try.ntmps3
    go_wp2
    go_ret
    exact ⟨rfl, Below.refl _ _⟩
  have hl' : decide ((1048576 : Int) < (len : Int)) = false := by simp; omega
  go_enter Try.func3, Try.ntmps3
  go_wp2_with fail
  refine (drawPartList_any a len cap _ hB).mono ?_
  rintro e w1 ⟨b, t, n, k, hd, hk1, hk2, rfl, hb1⟩
  clear hl hB hd
  have Q1 := Box2.new w1 24 (.int .i64 t) (.int .i64 n)
  have B1 := hb1.alloc hb1.size (.cells #[.int .i64 t, .int .i64 n] 24)
  clear hb1
  rcases prt_or b t n k with h | ⟨b, T, B, k, m, rfl, rfl, rfl, rfl, h⟩
  · have HI := Lib.hid (H.1 b t n k h); have HS := Lib.hid (specPartList_no b t n k h)
    clear h
    have c0 := Q1.cell0
    have c1 := Q1.cell1
    go_wp2_with fail
    refine (HI.out _).mono ?_
    rintro e w2 ⟨v, rfl, rv2, hb2⟩
    have Q2 := Q1.later hb2
    have B2 := B1.trans (hb2.mono B1.size)
    clear c0 c1 Q1 B1 hb2
    have lv2 := rv2.s0
    clear rv2
    have c0 := Q2.cell0
    have c1 := Q2.cell1
    go_wp2_with fail
    refine (HS.out _).mono ?_
    rintro e w3 ⟨u, rfl, ru3, hb3⟩
    have Q3 := Q2.later hb3
    have B3 := B2.trans (hb3.mono B2.size)
    have lv3 := lv2.later hb3
    clear c0 c1 Q2 B2 hb3 lv2
    have lu3 := ru3.s0
    clear ru3
    have c0 := Q3.cell0
    have c1 := Q3.cell1
    go_wp2_with fail
    refine (sameRows_all _ _ _ _ [] _ lv3 lu3 (by simp) (by simp)).mono ?_
    rintro e w4 ⟨rfl, hb4⟩
    have Q4 := Q3.later hb4
    have B4 := B3.trans (hb4.mono B3.size)
    have lv4 := lv3.later hb4
    have lu4 := lu3.later hb4
    clear c0 c1 Q3 B3 hb4 lv3 lu3
    have c0 := Q4.cell0
    have c1 := Q4.cell1
    go_wp2_with fail
    refine (sameRows_all _ _ _ _ [] _ lv4 lu4 (by simp) (by simp)).mono ?_
    rintro e w5 ⟨rfl, hb5⟩
    have Q5 := Q4.later hb5
    have B5 := B4.trans (hb5.mono B4.size)
    clear c0 c1 Q4 B4 hb5
    go_wp2_with fail
    go_ret
    exact ⟨rfl, B5⟩
  · have HI := Lib.hid (H.2 b T B k m h); have HS := Lib.hid (specPartList_yes b T B k m h)
    obtain ⟨hd1, hd2, hd3, hd4, hd5⟩ := h.div
    have HX := Lib.hid (implFracRound_yes b T B 0 m h.told h.lt h.gT h.bot h.b2 h.b16 h.len)
    rw [rndL_zero] at HX
    have hk1' := h.k1
    have hjm : m / k ≤ m := Nat.div_le_self _ _
    have hl1 : (ptsL b T B k (m / k)).length ≤ 1000 := by rw [ptsL_len]; omega
    have hl2 : ∀ xs ∈ ptsL b T B k (m / k), xs.length ≤ 1000 := fun xs hx => by rw [ptsL_lens hx]; omega
    obtain ⟨i0, hi, hz0, hz1, hz2⟩ := info_parts infoInt
    obtain ⟨j, hj⟩ : ∃ j, m / k = j := ⟨_, rfl⟩
    rw [hj] at HI HS hd1 hd2 hjm hl1 hl2
    have hjk : (j : Int) * k = m := by rw [← hd1, Nat.mul_comm]; simp
    have HD := Lib.hid hd1
    clear hj h hd1
    have c0 := Q1.cell0
    have c1 := Q1.cell1
    go_wp2_with fail
    refine (HI.out _).mono ?_
    rintro e w2 ⟨v, rfl, rv2, hb2⟩
    have Q2 := Q1.later hb2
    have B2 := B1.trans (hb2.mono B1.size)
    clear c0 c1 Q1 B1 hb2
    have lv2 := rv2.s0
    clear rv2
    have c0 := Q2.cell0
    have c1 := Q2.cell1
    go_wp2_with fail
    refine (HS.out _).mono ?_
    rintro e w3 ⟨u, rfl, ru3, hb3⟩
    have Q3 := Q2.later hb3
    have B3 := B2.trans (hb3.mono B2.size)
    have lv3 := lv2.later hb3
    clear c0 c1 Q2 B2 hb3 lv2
    have lu3 := ru3.s0
    clear ru3
    have c0 := Q3.cell0
    have c1 := Q3.cell1
    go_wp2_with fail
    refine (sameRows_all _ _ _ _ (ptsL b T B k j) _ lv3 lu3 hl1 hl2).mono ?_
    rintro e w4 ⟨rfl, hb4⟩
    have Q4 := Q3.later hb4
    have B4 := B3.trans (hb4.mono B3.size)
    have lv4 := lv3.later hb4
    clear c0 c1 Q3 B3 hb4 lv3
    have c0 := Q4.cell0
    have c1 := Q4.cell1
    go_wp2_with fail
    refine (HX.out _).mono ?_
    rintro e w5 ⟨x, rfl, lx5, hb5⟩
    have Q5 := Q4.later hb5
    have B5 := B4.trans (hb5.mono B4.size)
    have lv5 := lv4.later hb5
    clear c0 c1 Q4 B4 hb5 lv4
    obtain ⟨gp, cp, rfl, hP⟩ := pcells_of lv5 (by omega) hd2
    have hlx := digL_len b T B m
    obtain ⟨ax, cx, rfl⟩ := slc_form lx5
    revert lx5
    rw [hlx]
    intro lx5
    have HLX := Lib.hid hlx
    clear hlx lv5 HI HS HX hl1 hl2
    have hAA : Below w5.heap.size w5 (w5.alloc (.cells #[] 3)) := (Below.refl _ _).alloc (Nat.le_refl _) _
    have hBA := B5.alloc B5.size (.cells #[] 3)
    have hOA : (w5.alloc (.cells #[] 3)).ownsRow w5.heap.size 3 1 (.slice (some ⟨w5.heap.size, 0, none⟩) 0 0) 0 [] := World.ownsRow_made (base := w5.heap.size) (e := 3) (size := 1) w5 #[] 0 (Nat.le_refl _) (by simp) (by simp)
    have hNw := B5.size
    go_wp2_with fail
    clear B5 lu3
    go_loopw [12, 13] (fun u i wr => ∃ p : Nat, p ≤ k ∧ i = .int .i64 p ∧ wr.ownsRow w5.heap.size 3 1 u (p * j) ((digL b T B (p * j)).map (Value.int .i64)) ∧ Below w5.heap.size w5 wr ∧ Below w.heap.size w wr) (fun _ i _ => k - (intOf i).toNat)
    case atStart =>
      refine ⟨0, Nat.zero_le _, rfl, ?_, hAA, hBA⟩
      rw [Nat.zero_mul]
      exact hOA
    case round =>
      clear hAA hBA hOA
      obtain ⟨p, hp, rfl, hown, hA, hb⟩ := hrel
      by_cases hlt : p < k
      · obtain ⟨g', o', c', kc, hcell⟩ := (hP.later hA) p hlt
        have HNW := Lib.hid (cellsR_news hcell)
        have hpt := ptL_len b T B j p
        have i1 : (p : Int) < (k : Int) := by omega
        have i2 : ((j : Int) * k != (m : Int)) = false := by rw [hjk]; simp
        have hdp := digL_pt b T B j p
        have hsm : (p + 1) * j = p * j + j := Nat.succ_mul _ _
        have hpm : p * j + j ≤ 1000 := by
          have h1 : (p + 1) * j ≤ k * j := Nat.mul_le_mul_right j hlt
          have h2 := HD.out
          rw [hsm] at h1
          omega
        have HDP := Lib.hid hdp; have HSM := Lib.hid hsm; have HPT := Lib.hid hpt; have HOW := Lib.hid hown
        have hNr := hA.size
        clear hdp hsm hpt hcell hown
        generalize p * j = pj at hpm HSM HDP HOW
        go_wp2_with (at_builtin; refine wpList_append_own_at _ rfl _ _ 31 rfl w5.heap.size 3 i0 (.int .i64 0) 1 8 Try.underlying31 hi hz0 hz1 hz2 rfl (by decide) _ _ _ rfl HOW.out ⟨g', o', none⟩ j c' ((ptL b T B j p).map (Value.int .i64)) rfl (by rw [List.length_map, HPT.out, Nat.mul_one]) HNW.out (ints_one _) ?c3 ?c4 ?c5 ?_)
        case c3 => unfold maxLen; omega
        case c4 => omega
        case c5 => exact hNr
        intro v' w7 hown' hgrow _ _
        have hA7 := hA.grown hgrow hA.size (fun q e => (row_ge3 HOW.out e).1)
        have hB7 := hb.grown hgrow hb.size (fun q e => Nat.le_trans hNw (row_ge3 HOW.out e).1)
        rw [← List.map_append, ← HDP.out, ← HSM.out] at hown'
        clear HOW HNW hgrow hA hb
        go_wp2_with fail
        exact ⟨⟨p + 1, by omega, rfl, hown', hA7, hB7⟩, by simp [intOf]; omega⟩
      · obtain rfl : p = k := by omega
        have i1 : ¬ (p : Int) < p := by omega
        have hlx6 := lx5.later hA
        have hpj : p * j = m := by have := HD.out; omega
        rw [hpj] at hown
        have hs := Slc.of_owns (by rw [HLX.out]; exact hown)
        go_wp2_with fail
        refine (sameInts_any _ _ _ _ (digL b T B m) (digL b T B m) _ hs hlx6 (by rw [HLX.out]; omega) (by rw [HLX.out]; omega)).mono ?_
        rintro e w8 ⟨rfl, hb8⟩
        have hxx : decide (digL b T B m = digL b T B m) = true := by simp
        rw [hxx]
        clear hxx
        go_wp2_with fail
        go_ret
        exact ⟨rfl, hb.trans (hb8.mono hb.size)⟩

end Go.Proofs.Ytehpgcgdcoahnab
