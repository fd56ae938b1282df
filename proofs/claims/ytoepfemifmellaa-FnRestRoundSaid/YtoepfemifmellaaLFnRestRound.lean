/-
  The law FnRestRound's walk.
-/
import Derived.Test.YtoepfemifmellaaDrawS
import Derived.Test.YtoepfemifmellaaLists
import Derived.Test.YtoepfemifmellaaSame
import Derived.Test.YtoepfemifmellaaRestL
import Derived.Test.YtoepfemifmellaaPMath
namespace Go.Proofs.Ytoepfemifmellaa
open Go.RowKit

set_option maxHeartbeats 4000000 in
theorem lawRestRound_any (a : Option Addr) (len cap : Nat) (zs : List Int) (w : World) (r : IsRow .u8 w a len cap zs) :
    Calls Try.prog 6 #[.slice a len cap] w fun e w' => e = .returned (.bool true) ∧ Below w.heap.size w w' := by
  have hB := byt_of_row r
  clear r
  by_cases hl : 1048576 < len
  · have hl' : (1048576 : Int) < (len : Int) := by omega
    go_enter Try.func6, Try.ntmps6
    go_wp2
    go_ret
    exact ⟨rfl, Below.refl _ _⟩
  have hl' : decide ((1048576 : Int) < (len : Int)) = false := by simp; omega
  go_enter Try.func6, Try.ntmps6
  go_wp2_with fail
  refine (drawRestRound_any a len cap _ hB).mono ?_
  rintro e w1 ⟨b, t, n, hd, rfl, hb1⟩
  obtain ⟨b, T, B, rfl, rfl, rfl, d1, d2, d3, d4⟩ := hd.nat
  clear hd hl hB
  have Q1 := Box2.new w1 27 (.int .i64 T) (.int .i64 B)
  have B1 := hb1.alloc hb1.size (.cells #[.int .i64 T, .int .i64 B] 27)
  clear hb1
  have c0 := Q1.cell0
  have c1 := Q1.cell1
  cases h : tldB b T B with
  | false =>
    go_wp2_with fail
    refine (implRestRound_no _ _ _ h _).mono ?_
    rintro e w2 ⟨v, rfl, v2, hb2⟩
    have Q2 := Q1.later hb2
    have B2 := B1.trans (hb2.mono B1.size)
    clear c0 c1 Q1 B1 hb2
    have c0 := Q2.cell0
    have c1 := Q2.cell1
    go_wp2_with fail
    refine (specRestRound_no _ _ _ h _).mono ?_
    rintro e w3 ⟨u, rfl, u3, hb3⟩
    have Q3 := Q2.later hb3
    have B3 := B2.trans (hb3.mono B2.size)
    have v3 := v2.later hb3
    clear c0 c1 Q2 B2 hb3 v2
    have c0 := Q3.cell0
    have c1 := Q3.cell1
    go_wp2_with fail
    refine (sameInts_any _ _ _ _ [] [] _ v3 u3 (by simp) (by simp)).mono ?_
    rintro e w4 ⟨rfl, hb4⟩
    have Q4 := Q3.later hb4
    have B4 := B3.trans (hb4.mono B3.size)
    have v4 := v3.later hb4
    have u4 := u3.later hb4
    clear c0 c1 Q3 B3 hb4 v3 u3
    have c0 := Q4.cell0
    have c1 := Q4.cell1
    go_wp2_with fail
    refine (sameInts_any _ _ _ _ [] [] _ v4 u4 (by simp) (by simp)).mono ?_
    rintro e w5 ⟨rfl, hb5⟩
    have Q5 := Q4.later hb5
    have B5 := B4.trans (hb5.mono B4.size)
    clear c0 c1 Q4 B4 hb5
    have c0 := Q5.cell0
    have c1 := Q5.cell1
    go_wp2_with fail
    go_ret
    exact ⟨rfl, B5⟩
  | true =>
    obtain ⟨h3, h4, hT, hB, hg⟩ := tld_facts h
    obtain ⟨n, m, hnm⟩ := len_some (b := b) hT hg
    have hle := hnm.le hT
    have hpos := hnm.pos
    have hly := rrnL_len b T B n m
    have hll := rstL_len b T B (n + m)
    have HG := Lib.hid hg; clear hg
    go_wp2_with fail
    refine (implRestRound_yes b T B n m h hT HG.out hB h3 h4 hnm _).mono ?_
    rintro e w2 ⟨v, rfl, v2, hb2⟩
    have Q2 := Q1.later hb2
    have B2 := B1.trans (hb2.mono B1.size)
    clear c0 c1 Q1 B1 hb2
    have c0 := Q2.cell0
    have c1 := Q2.cell1
    go_wp2_with fail
    refine (specRestRound_yes b T B n m h hT hB h3 h4 hnm _).mono ?_
    rintro e w3 ⟨u, rfl, u3, hb3⟩
    have Q3 := Q2.later hb3
    have B3 := B2.trans (hb3.mono B2.size)
    have v3 := v2.later hb3
    clear c0 c1 Q2 B2 hb3 v2
    have c0 := Q3.cell0
    have c1 := Q3.cell1
    go_wp2_with fail
    refine (sameInts_any _ _ _ _ (rrnL b T B n m) (rrnL b T B n m) _ v3 u3 (by omega) (by omega)).mono ?_
    rintro e w4 ⟨rfl, hb4⟩
    have Q4 := Q3.later hb4
    have B4 := B3.trans (hb4.mono B3.size)
    have v4 := v3.later hb4
    clear c0 c1 Q3 B3 hb4 v3
    have c0 := Q4.cell0
    have c1 := Q4.cell1
    have hxx : decide (rrnL b T B n m = rrnL b T B n m) = true := by simp
    rw [hxx]
    clear hxx
    go_wp2_with fail
    refine (implFracRound_yes b T B n m h hT HG.out hB h3 h4 hnm _).mono ?_
    rintro e w5 ⟨x, rfl, x5, hb5⟩
    have Q5 := Q4.later hb5
    have B5 := B4.trans (hb5.mono B4.size)
    have v5 := v4.later hb5
    clear c0 c1 Q4 B4 hb5 v4
    have c0 := Q5.cell0
    have c1 := Q5.cell1
    have hlx := rndL_len b T B n m
    obtain ⟨ax, cx, hx⟩ := slc_form x5
    rw [hlx] at hx
    subst hx
    go_wp2_with fail
    refine (implRestList_yes b T B n m h hT HG.out hB h3 h4 hnm _).mono ?_
    rintro e w6 ⟨y, rfl, y6, hb6⟩
    have Q6 := Q5.later hb6
    have B6 := B5.trans (hb6.mono B5.size)
    have v6 := v5.later hb6
    clear c0 c1 Q5 B5 hb6 v5
    have c0 := Q6.cell0
    have c1 := Q6.cell1
    obtain ⟨gy, oy, cy, rfl, _, _, hc1, hc2⟩ := slc_some y6 (by omega)
    obtain ⟨gv, ov, cv, rfl, _, _, _, _⟩ := slc_some v6 (by omega)
    rw [hll] at y6 hc1 ⊢
    rw [hly] at v6 ⊢
    have hd := Slc.drop (n := n) (rstL_len b T B (n + m)) y6 (by omega)
    rw [show n + m - n = m by omega] at hd
    have hcy : cy ≤ 9223372036854775807 := by unfold maxLen at hc2; exact hc2
    have hnc : n < cy := by omega
    have SM : Hid (Calls Try.prog 19 #[.slice (some ⟨gy, oy + n, none⟩) m (cy - n), .slice (some ⟨gv, ov, none⟩) m cv] w6 fun e w' => e = .returned (.bool true) ∧ Below w6.heap.size w6 w') := by
      have := sameInts_any _ _ _ _ (rrnL b T B n m) (rrnL b T B n m) w6 hd v6 (by omega) (by omega)
      unfold Hid; simpa using this
    have i1 : IntKind.i64.wrap ((n : Int) + m - m) = n := by rw [wrap_in _ (by omega) (by omega)]; omega
    go_wp2_with fail
    refine SM.out.mono ?_
    rintro e w7 ⟨rfl, hb7⟩
    have B7 := B6.trans (hb7.mono B6.size)
    go_wp2_with fail
    go_ret
    exact ⟨rfl, B7⟩

end Go.Proofs.Ytoepfemifmellaa
