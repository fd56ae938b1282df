/-
  The law FnEnds's walk.
-/
import Derived.Test.YtomfofkhcjcijaaDrawS
import Derived.Test.YtomfofkhcjcijaaLenLaw
import Derived.Test.YtomfofkhcjcijaaEndsLaw
import Derived.Test.YtomfofkhcjcijaaPMath
namespace Go.Proofs.Ytomfofkhcjcijaa
open Go.RowKit

set_option maxHeartbeats 4000000 in
theorem lawEnds_any (a : Option Addr) (len cap : Nat) (zs : List Int) (w : World) (r : IsRow .u8 w a len cap zs) :
    Calls Try.prog 4 #[.slice a len cap] w fun e w' => e = .returned (.bool true) ∧ Below w.heap.size w w' := by
  have hB := byt_of_row r
  clear r
  by_cases hl : 1048576 < len
  · have hl' : (1048576 : Int) < (len : Int) := by omega
    go_enter Try.func4, Try.ntmps4
    go_wp2
    go_ret
    exact ⟨rfl, Below.refl _ _⟩
  have hl' : decide ((1048576 : Int) < (len : Int)) = false := by simp; omega
  go_enter Try.func4, Try.ntmps4
  go_wp2_with fail
  refine (drawFracEnds_any a len cap _ hB).mono ?_
  rintro e w1 ⟨b, t, n, hd, rfl, hb1⟩
  obtain ⟨b, T, B, rfl, rfl, rfl, d1, d2, d3, d4⟩ := hd.nat
  clear hd hl hB
  have Q1 := Box2.new w1 24 (.int .i64 T) (.int .i64 B)
  have B1 := hb1.alloc hb1.size (.cells #[.int .i64 T, .int .i64 B] 24)
  clear hb1
  have c0 := Q1.cell0
  have c1 := Q1.cell1
  cases h : tldB b T B with
  | false =>
    go_wp2_with fail
    refine (implFracEnds_no _ _ _ _ h).mono ?_
    rintro e w2 ⟨rfl, hb2⟩
    have Q2 := Q1.later hb2
    have B2 := B1.trans (hb2.mono B1.size)
    clear c0 c1 Q1 B1 hb2
    have c0 := Q2.cell0
    have c1 := Q2.cell1
    go_wp2_with fail
    refine (specFracEnds_no _ _ _ _ h).mono ?_
    rintro e w3 ⟨rfl, hb3⟩
    have Q3 := Q2.later hb3
    have B3 := B2.trans (hb3.mono B2.size)
    clear c0 c1 Q2 B2 hb3
    have c0 := Q3.cell0
    have c1 := Q3.cell1
    go_wp2_with fail
    go_ret
    exact ⟨rfl, B3⟩
  | true =>
    obtain ⟨h3, h4, hT, hB, hg⟩ := tld_facts h
    obtain ⟨n, m, hnm⟩ := len_some (b := b) hT hg
    have hle := hnm.le hT
    have HG := Lib.hid hg; clear hg
    cases hq : endB b T B n m with
    | false =>
      go_wp2_with fail
      refine (implFracEnds_is b T B n m _ h hT HG.out hB h3 h4 hnm hq).mono ?_
      rintro e w2 ⟨rfl, hb2⟩
      have Q2 := Q1.later hb2
      have B2 := B1.trans (hb2.mono B1.size)
      clear c0 c1 Q1 B1 hb2
      have c0 := Q2.cell0
      have c1 := Q2.cell1
      go_wp2_with fail
      refine (specFracEnds_is b T B n m _ h hT hB h3 h4 hnm hq).mono ?_
      rintro e w3 ⟨rfl, hb3⟩
      have Q3 := Q2.later hb3
      have B3 := B2.trans (hb3.mono B2.size)
      clear c0 c1 Q2 B2 hb3
      have c0 := Q3.cell0
      have c1 := Q3.cell1
      go_wp2_with fail
      go_ret
      exact ⟨rfl, B3⟩
    | true =>
      go_wp2_with fail
      refine (implFracEnds_is b T B n m _ h hT HG.out hB h3 h4 hnm hq).mono ?_
      rintro e w2 ⟨rfl, hb2⟩
      have Q2 := Q1.later hb2
      have B2 := B1.trans (hb2.mono B1.size)
      clear c0 c1 Q1 B1 hb2
      have c0 := Q2.cell0
      have c1 := Q2.cell1
      go_wp2_with fail
      refine (specFracEnds_is b T B n m _ h hT hB h3 h4 hnm hq).mono ?_
      rintro e w3 ⟨rfl, hb3⟩
      have Q3 := Q2.later hb3
      have B3 := B2.trans (hb3.mono B2.size)
      clear c0 c1 Q2 B2 hb3
      have c0 := Q3.cell0
      have c1 := Q3.cell1
      go_wp2_with fail
      refine (implFracLengths_yes _ _ _ n m _ h hT HG.out hB h3 h4 hnm).mono ?_
      rintro e w4 ⟨rfl, hb4⟩
      have Q4 := Q3.later hb4
      have B4 := B3.trans (hb4.mono B3.size)
      clear c0 c1 Q3 B3 hb4
      have c0 := Q4.cell0
      have c1 := Q4.cell1
      have i5 : ¬ B = 0 := by omega
      obtain ⟨e1, e2⟩ := end_pow hT HG.out h3 hnm hq
      have HE := Lib.hid e2; clear e2
      subst e1
      go_wp2_with fail
      go_loop [10, 11] (fun r' i' => ∃ i : Nat, i ≤ n ∧ i' = .int .i64 i ∧ r' = .int .i64 (pwr b i B)) (fun _ i' => n - (intOf i').toNat)
      case atStart => exact ⟨0, Nat.zero_le _, rfl, by unfold pwr; simp⟩
      case round =>
        obtain ⟨i, hi, rfl, rfl⟩ := hrel
        have p1 : pwr b i B < B := Nat.mod_lt _ (by omega)
        by_cases hlt : i < n
        · obtain ⟨m1, m2⟩ := mul_bd (pwr b i B) b B (by omega) (by omega) (by omega) (by omega) (by omega)
          go_wp2
          go_round
          case rel =>
            refine ⟨i + 1, by omega, by go_num, ?_⟩
            rw [pwr_succ]; simp
          case measure => simp [intOf]; omega
        · obtain rfl : i = n := by omega
          rw [HE.out]
          go_wp2
          go_ret
          exact ⟨rfl, B4⟩

end Go.Proofs.Ytomfofkhcjcijaa
