/-
  The law FnDigit's walk.
-/
import Derived.Test.YtomfofkhcjcijaaDrawS
import Derived.Test.YtomfofkhcjcijaaLenLaw
import Derived.Test.YtomfofkhcjcijaaDigit
import Derived.Test.YtomfofkhcjcijaaPMath
namespace Go.Proofs.Ytomfofkhcjcijaa
open Go.RowKit

set_option maxHeartbeats 4000000 in
theorem lawDigit_any (a : Option Addr) (len cap : Nat) (zs : List Int) (w : World) (r : IsRow .u8 w a len cap zs) :
    Calls Try.prog 6 #[.slice a len cap] w fun e w' => e = .returned (.bool true) ∧ Below w.heap.size w w' := by
  have hB := byt_of_row r
  clear r
  by_cases hl : 1048576 < len
  · have hl' : (1048576 : Int) < (len : Int) := by omega
    go_enter Try.func6, Try.ntmps6
    go_wp2
    go_ret
    exact ⟨rfl, Below.refl _ _⟩
  have hl' : decide ((1048576 : Int) < (len : Int)) = false := by simp; omega
  go_enter Try.func6, Try.ntmps6
  go_wp2_with fail
  refine (drawFracDigit_any a len cap _ hB).mono ?_
  rintro e w1 ⟨b, t, n, k, hd, dk1, dk2, rfl, hb1⟩
  obtain ⟨b, T, B, rfl, rfl, rfl, d1, d2, d3, d4⟩ := hd.nat
  clear hd hl hB
  have Q1 := Box2.new w1 24 (.int .i64 T) (.int .i64 B)
  have B1 := hb1.alloc hb1.size (.cells #[.int .i64 T, .int .i64 B] 24)
  clear hb1
  have c0 := Q1.cell0
  have c1 := Q1.cell1
  cases h : tldB b T B with
  | false =>
    go_wp2_with fail
    refine (implFracDigit_no _ _ _ _ _ h).mono ?_
    rintro e w2 ⟨rfl, hb2⟩
    have Q2 := Q1.later hb2
    have B2 := B1.trans (hb2.mono B1.size)
    clear c0 c1 Q1 B1 hb2
    have c0 := Q2.cell0
    have c1 := Q2.cell1
    go_wp2_with fail
    refine (specFracDigit_no _ _ _ _ _ h).mono ?_
    rintro e w3 ⟨rfl, hb3⟩
    have Q3 := Q2.later hb3
    have B3 := B2.trans (hb3.mono B2.size)
    clear c0 c1 Q2 B2 hb3
    have c0 := Q3.cell0
    have c1 := Q3.cell1
    go_wp2_with fail
    go_ret
    exact ⟨rfl, B3⟩
  | true =>
    obtain ⟨h3, h4, hT, hB, hg⟩ := tld_facts h
    by_cases hk : 0 ≤ k ∧ k ≤ 1000000
    case neg =>
      go_wp2_with fail
      refine (implFracDigit_off _ _ _ _ _ h (by omega)).mono ?_
      rintro e w2 ⟨rfl, hb2⟩
      have Q2 := Q1.later hb2
      have B2 := B1.trans (hb2.mono B1.size)
      clear c0 c1 Q1 B1 hb2
      have c0 := Q2.cell0
      have c1 := Q2.cell1
      go_wp2_with fail
      refine (specFracDigit_off _ _ _ _ _ h (by simpa using hk)).mono ?_
      rintro e w3 ⟨rfl, hb3⟩
      have Q3 := Q2.later hb3
      have B3 := B2.trans (hb3.mono B2.size)
      clear c0 c1 Q2 B2 hb3
      have c0 := Q3.cell0
      have c1 := Q3.cell1
      go_wp2_with fail
      go_ret
      exact ⟨rfl, B3⟩
    case pos =>
      obtain ⟨k, rfl⟩ := Int.eq_ofNat_of_zero_le hk.1
      obtain ⟨n, m, hnm⟩ := len_some (b := b) hT hg
      have hle := hnm.le hT
      have hk2 : k ≤ 1000000 := by omega
      have hdl := dig_lt hT k (show 0 < b by omega)
      have HG := Lib.hid hg; clear hg hk dk1 dk2
      go_wp2_with fail
      refine (implFracDigit_yes b T B k _ h hT HG.out hB h3 h4 hk2).mono ?_
      rintro e w2 ⟨rfl, hb2⟩
      have Q2 := Q1.later hb2
      have B2 := B1.trans (hb2.mono B1.size)
      clear c0 c1 Q1 B1 hb2
      have c0 := Q2.cell0
      have c1 := Q2.cell1
      go_wp2_with fail
      refine (specFracDigit_yes b T B k _ h hT hB h3 h4 hk2).mono ?_
      rintro e w3 ⟨rfl, hb3⟩
      have Q3 := Q2.later hb3
      have B3 := B2.trans (hb3.mono B2.size)
      clear c0 c1 Q2 B2 hb3
      have c0 := Q3.cell0
      have c1 := Q3.cell1
      go_wp2_with fail
      refine (implFracLengths_yes _ _ _ n m _ h hT HG.out hB h3 h4 hnm).mono ?_
      rintro e w4 ⟨rfl, hb4⟩
      have Q4 := Q3.later hb4
      have B4 := B3.trans (hb4.mono B3.size)
      clear c0 c1 Q3 B3 hb4
      have c0 := Q4.cell0
      have c1 := Q4.cell1
      by_cases hp : k + m ≤ 1000000
      · have ek : (k : Int) + m = ((k + m : Nat) : Int) := by omega
        have Y : ∀ w : World, Calls Try.prog 19 #[.int .i64 b, .agg #[.int .i64 T, .int .i64 B], .int .i64 ((k : Int) + m)] w fun e w' => e = .returned (.tuple #[.int .i64 (dig b T B (k + m)), .bool true]) ∧ Below w.heap.size w w' := fun w => by rw [ek]; exact implFracDigit_yes b T B (k + m) w h hT HG.out hB h3 h4 hp
        have HY := Lib.hid Y; clear Y ek
        by_cases hn : k < n
        · have hn' : (k : Int) < n := by omega
          go_wp2_with fail
          refine (HY.out _).mono ?_
          rintro e w5 ⟨rfl, hb5⟩
          have Q5 := Q4.later hb5
          have B5 := B4.trans (hb5.mono B4.size)
          clear c0 c1 Q4 B4 hb5
          have c0 := Q5.cell0
          have c1 := Q5.cell1
          have hdl' : (dig b T B k : Int) < b := by omega
          go_wp2_with fail
          go_ret
          exact ⟨rfl, B5⟩
        · have hn' : ¬ (k : Int) < n := by omega
          have hn'' : decide ((k : Int) < n) = false := by simpa using hn'
          have hpd : dig b T B (k + m) = dig b T B k := by unfold dig; rw [hnm.per k (by omega)]
          rw [hpd] at HY
          have hdl' : (dig b T B k : Int) < b := by omega
          go_wp2_with fail
          refine (HY.out _).mono ?_
          rintro e w5 ⟨rfl, hb5⟩
          have Q5 := Q4.later hb5
          have B5 := B4.trans (hb5.mono B4.size)
          clear c0 c1 Q4 B4 hb5
          have c0 := Q5.cell0
          have c1 := Q5.cell1
          go_wp2_with fail
          go_ret
          exact ⟨rfl, B5⟩
      · have Y : ∀ w : World, Calls Try.prog 19 #[.int .i64 b, .agg #[.int .i64 T, .int .i64 B], .int .i64 ((k : Int) + m)] w fun e w' => e = .returned (.tuple #[.int .i64 0, .bool false]) ∧ Below w.heap.size w w' := fun w => implFracDigit_off _ _ _ _ w h (by omega)
        have HY := Lib.hid Y; clear Y
        have hdl' : (dig b T B k : Int) < b := by omega
        by_cases hn : k < n
        · have hn' : (k : Int) < n := by omega
          go_wp2_with fail
          refine (HY.out _).mono ?_
          rintro e w5 ⟨rfl, hb5⟩
          have Q5 := Q4.later hb5
          have B5 := B4.trans (hb5.mono B4.size)
          clear c0 c1 Q4 B4 hb5
          have c0 := Q5.cell0
          have c1 := Q5.cell1
          go_wp2_with fail
          go_ret
          exact ⟨rfl, B5⟩
        · have hn'' : decide ((k : Int) < n) = false := by simp; omega
          go_wp2_with fail
          refine (HY.out _).mono ?_
          rintro e w5 ⟨rfl, hb5⟩
          have Q5 := Q4.later hb5
          have B5 := B4.trans (hb5.mono B4.size)
          clear c0 c1 Q4 B4 hb5
          have c0 := Q5.cell0
          have c1 := Q5.cell1
          go_wp2_with fail
          go_ret
          exact ⟨rfl, B5⟩

end Go.Proofs.Ytomfofkhcjcijaa
