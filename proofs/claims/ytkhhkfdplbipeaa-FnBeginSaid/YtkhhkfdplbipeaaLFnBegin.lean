/-
  The law FnBegin's walk.
-/
import Derived.Test.YtkhhkfdplbipeaaDrawS
import Derived.Test.YtkhhkfdplbipeaaLists
import Derived.Test.YtkhhkfdplbipeaaSame
import Derived.Test.YtkhhkfdplbipeaaPMath2
import Derived.Deep.QuietTactic
import Derived.BigQuiet
namespace Go.Proofs.Ytkhhkfdplbipeaa
open Go.RowKit

set_option maxHeartbeats 4000000 in
theorem lawBegin_any (a : Option Addr) (len cap : Nat) (zs : List Int) (w : World) (r : IsRow .u8 w a len cap zs) :
    Calls Try.prog 4 #[.slice a len cap] w fun e w' => e = .returned (.bool true) ∧ Below w.heap.size w w' := by
  have hB := byt_of_row r
  clear r
  by_cases hl : 1048576 < len
  · have hl' : (1048576 : Int) < (len : Int) := by omega
    go_enter Try.func4, Try.ntmps4
    go_wp2
    go_ret
    exact ⟨rfl, Below.refl _ _⟩
  have hl' : decide ((1048576 : Int) < (len : Int)) = false := by simp; omega
  go_enter Try.func4, Try.ntmps4
  go_wp2_with fail
  refine (drawFracBegin_any a len cap _ hB).mono ?_
  rintro e w1 ⟨b, t, n, hd, rfl, hb1⟩
  obtain ⟨b, T, B, rfl, rfl, rfl, d1, d2, d3, d4⟩ := hd.nat
  clear hd hl hB
  have Q1 := Box2.new w1 24 (.int .i64 T) (.int .i64 B)
  have B1 := hb1.alloc hb1.size (.cells #[.int .i64 T, .int .i64 B] 24)
  clear hb1
  have c0 := Q1.cell0
  have c1 := Q1.cell1
  cases h : tldB b T B with
  | false =>
    go_wp2_with fail
    refine (implFracBegin_no _ _ _ h _).mono ?_
    rintro e w2 ⟨v, rfl, v2, hb2⟩
    have Q2 := Q1.later hb2
    have B2 := B1.trans (hb2.mono B1.size)
    clear c0 c1 Q1 B1 hb2
    have c0 := Q2.cell0
    have c1 := Q2.cell1
    go_wp2_with fail
    refine (specFracBegin_no _ _ _ h _).mono ?_
    rintro e w3 ⟨u, rfl, u3, hb3⟩
    have Q3 := Q2.later hb3
    have B3 := B2.trans (hb3.mono B2.size)
    have v3 := v2.later hb3
    clear c0 c1 Q2 B2 hb3 v2
    have c0 := Q3.cell0
    have c1 := Q3.cell1
    go_wp2_with fail
    refine (sameInts_any _ _ _ _ [] [] _ v3 u3 (by simp) (by simp)).mono ?_
    rintro e w4 ⟨rfl, hb4⟩
    have Q4 := Q3.later hb4
    have B4 := B3.trans (hb4.mono B3.size)
    have v4 := v3.later hb4
    have u4 := u3.later hb4
    clear c0 c1 Q3 B3 hb4 v3 u3
    have c0 := Q4.cell0
    have c1 := Q4.cell1
    go_wp2_with fail
    refine (sameInts_any _ _ _ _ [] [] _ v4 u4 (by simp) (by simp)).mono ?_
    rintro e w5 ⟨rfl, hb5⟩
    have Q5 := Q4.later hb5
    have B5 := B4.trans (hb5.mono B4.size)
    clear c0 c1 Q4 B4 hb5
    have c0 := Q5.cell0
    have c1 := Q5.cell1
    go_wp2_with fail
    go_ret
    exact ⟨rfl, B5⟩
  | true =>
    obtain ⟨h3, h4, hT, hB, hg⟩ := tld_facts h
    obtain ⟨n, m, hnm⟩ := len_some (b := b) hT hg
    have hle := hnm.le hT
    have hpos := hnm.pos
    have hlx := digL_len b T B n
    have hly := rndL_len b T B n m
    have HG := Lib.hid hg; clear hg
    go_wp2_with fail
    refine (implFracBegin_yes b T B n m h hT HG.out hB h3 h4 hnm _).mono ?_
    rintro e w2 ⟨v, rfl, v2, hb2⟩
    have Q2 := Q1.later hb2
    have B2 := B1.trans (hb2.mono B1.size)
    clear c0 c1 Q1 B1 hb2
    have c0 := Q2.cell0
    have c1 := Q2.cell1
    go_wp2_with fail
    refine (specFracBegin_yes b T B n m h hT hB h3 h4 hnm _).mono ?_
    rintro e w3 ⟨u, rfl, u3, hb3⟩
    have Q3 := Q2.later hb3
    have B3 := B2.trans (hb3.mono B2.size)
    have v3 := v2.later hb3
    clear c0 c1 Q2 B2 hb3 v2
    have c0 := Q3.cell0
    have c1 := Q3.cell1
    go_wp2_with fail
    refine (sameInts_any _ _ _ _ (digL b T B n) (digL b T B n) _ v3 u3 (by omega) (by omega)).mono ?_
    rintro e w4 ⟨rfl, hb4⟩
    have Q4 := Q3.later hb4
    have B4 := B3.trans (hb4.mono B3.size)
    have v4 := v3.later hb4
    clear c0 c1 Q3 B3 hb4 v3
    have c0 := Q4.cell0
    have c1 := Q4.cell1
    have hxx : decide (digL b T B n = digL b T B n) = true := by simp
    rw [hxx]
    clear hxx
    go_wp2_with fail
    refine (implFracRound_yes b T B n m h hT HG.out hB h3 h4 hnm _).mono ?_
    rintro e w5 ⟨y, rfl, y5, hb5⟩
    have Q5 := Q4.later hb5
    have B5 := B4.trans (hb5.mono B4.size)
    have v5 := v4.later hb5
    clear c0 c1 Q4 B4 hb5 v4
    have c0 := Q5.cell0
    have c1 := Q5.cell1
    obtain ⟨m, rfl⟩ : ∃ m', m = m' + 1 := ⟨m - 1, by omega⟩
    obtain ⟨gy, oy, cy, rfl, _, _, _, _⟩ := slc_some y5 (by omega)
    have ky := Slc.cell rfl y5 m (by omega)
    rw [rndL_get _ _ _ _ _ _ (by omega)] at ky
    rw [hly]
    rcases Nat.eq_zero_or_pos n with hn0 | hn0
    · subst hn0
      obtain ⟨av, cv, rfl⟩ := slc_form v5
      rw [hlx]
      have w1' : IntKind.i64.wrap ((m : Int) + 1 - 1) = m := by rw [wrap_in _ (by omega) (by omega)]; omega
      have w2' : (0 : Int) ≤ m := by omega
      have w3' : (m : Int) < (m : Int) + 1 := by omega
      go_wp2_with fail
      go_quiet (fail)
      go_wp2
      go_ret
      exact ⟨rfl, below_drewN B5 _⟩
    · obtain ⟨n, rfl⟩ : ∃ n', n = n' + 1 := ⟨n - 1, by omega⟩
      obtain ⟨gv, ov, cv, rfl, _, _, _, _⟩ := slc_some v5 (by omega)
      have kv := Slc.cell rfl v5 n (by omega)
      rw [digL_get _ _ _ _ _ (by omega)] at kv
      rw [hlx]
      have hne := last_ne hT hnm (show 0 < b by omega)
      have hne' : ((dig b T B n : Int) == (dig b T B (n + 1 + m) : Int)) = false := by simp; omega
      have hn1 : ((n : Int) + 1 == 0) = false := by simp; omega
      have w1' : IntKind.i64.wrap ((m : Int) + 1 - 1) = m := by rw [wrap_in _ (by omega) (by omega)]; omega
      have w2' : (0 : Int) ≤ m := by omega
      have w3' : (m : Int) < (m : Int) + 1 := by omega
      have v1' : IntKind.i64.wrap ((n : Int) + 1 - 1) = n := by rw [wrap_in _ (by omega) (by omega)]; omega
      have v2' : (0 : Int) ≤ n := by omega
      have v3' : (n : Int) < (n : Int) + 1 := by omega
      go_wp2_with fail
      go_quiet (fail)
      go_wp2
      go_ret
      exact ⟨ret_bool (a := ((dig b T B n : Int) != (dig b T B (n + 1 + m) : Int))) (b := true) (by simp; omega), below_drewN B5 _⟩

end Go.Proofs.Ytkhhkfdplbipeaa
