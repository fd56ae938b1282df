/-
  The law FnLengths's walk.
-/
import Derived.Test.YtomfofkhcjcijaaDrawS
import Derived.Test.YtomfofkhcjcijaaLenLaw
import Derived.Test.YtomfofkhcjcijaaPMath
namespace Go.Proofs.Ytomfofkhcjcijaa
open Go.RowKit

set_option maxHeartbeats 4000000 in
theorem lawLengths_any (a : Option Addr) (len cap : Nat) (zs : List Int) (w : World) (r : IsRow .u8 w a len cap zs) :
    Calls Try.prog 5 #[.slice a len cap] w fun e w' => e = .returned (.bool true) ∧ Below w.heap.size w w' := by
  have hB := byt_of_row r
  clear r
  by_cases hl : 1048576 < len
  · have hl' : (1048576 : Int) < (len : Int) := by omega
    go_enter Try.func5, Try.ntmps5
    go_wp2
    go_ret
    exact ⟨rfl, Below.refl _ _⟩
  have hl' : decide ((1048576 : Int) < (len : Int)) = false := by simp; omega
  go_enter Try.func5, Try.ntmps5
  go_wp2_with fail
  refine (drawFracLengths_any a len cap _ hB).mono ?_
  rintro e w1 ⟨b, t, n, hd, rfl, hb1⟩
  obtain ⟨b, T, B, rfl, rfl, rfl, d1, d2, d3, d4⟩ := hd.nat
  clear hd hl hB
  have Q1 := Box2.new w1 24 (.int .i64 T) (.int .i64 B)
  have B1 := hb1.alloc hb1.size (.cells #[.int .i64 T, .int .i64 B] 24)
  clear hb1
  have c0 := Q1.cell0
  have c1 := Q1.cell1
  cases h : tldB b T B with
  | false =>
    go_wp2_with fail
    refine (implFracLengths_no _ _ _ _ h).mono ?_
    rintro e w2 ⟨rfl, hb2⟩
    have Q2 := Q1.later hb2
    have B2 := B1.trans (hb2.mono B1.size)
    clear c0 c1 Q1 B1 hb2
    have c0 := Q2.cell0
    have c1 := Q2.cell1
    go_wp2_with fail
    refine (specFracLengths_no _ _ _ _ h).mono ?_
    rintro e w3 ⟨rfl, hb3⟩
    have Q3 := Q2.later hb3
    have B3 := B2.trans (hb3.mono B2.size)
    clear c0 c1 Q2 B2 hb3
    have c0 := Q3.cell0
    have c1 := Q3.cell1
    go_wp2_with fail
    go_ret
    exact ⟨rfl, B3⟩
  | true =>
    obtain ⟨h3, h4, hT, hB, hg⟩ := tld_facts h
    obtain ⟨n, m, hnm⟩ := len_some (b := b) hT hg
    have hle := hnm.le hT
    have HG := Lib.hid hg; clear hg
    have hlx := digL_len b T B n
    have hly := rndL_len b T B n m
    go_wp2_with fail
    refine (implFracLengths_yes _ _ _ n m _ h hT HG.out hB h3 h4 hnm).mono ?_
    rintro e w2 ⟨rfl, hb2⟩
    have Q2 := Q1.later hb2
    have B2 := B1.trans (hb2.mono B1.size)
    clear c0 c1 Q1 B1 hb2
    have c0 := Q2.cell0
    have c1 := Q2.cell1
    go_wp2_with fail
    refine (specFracLengths_yes _ _ _ n m _ h hT hB h3 h4 hnm).mono ?_
    rintro e w3 ⟨rfl, hb3⟩
    have Q3 := Q2.later hb3
    have B3 := B2.trans (hb3.mono B2.size)
    clear c0 c1 Q2 B2 hb3
    have c0 := Q3.cell0
    have c1 := Q3.cell1
    go_wp2_with fail
    refine (implFracBegin_yes b T B n m h hT HG.out hB h3 h4 hnm _).mono ?_
    rintro e w4 ⟨v, rfl, v4, hb4⟩
    have Q4 := Q3.later hb4
    have B4 := B3.trans (hb4.mono B3.size)
    clear c0 c1 Q3 B3 hb4
    have c0 := Q4.cell0
    have c1 := Q4.cell1
    obtain ⟨a4, c4, hv4⟩ := slc_form v4
    rw [hlx] at hv4
    subst hv4
    go_wp2_with fail
    refine (implFracRound_yes b T B n m h hT HG.out hB h3 h4 hnm _).mono ?_
    rintro e w5 ⟨u, rfl, u5, hb5⟩
    have Q5 := Q4.later hb5
    have B5 := B4.trans (hb5.mono B4.size)
    clear c0 c1 Q4 B4 hb5
    have c0 := Q5.cell0
    have c1 := Q5.cell1
    obtain ⟨a5, c5, hu5⟩ := slc_form u5
    rw [hly] at hu5
    subst hu5
    go_wp2_with fail
    go_ret
    exact ⟨rfl, B5⟩

end Go.Proofs.Ytomfofkhcjcijaa
