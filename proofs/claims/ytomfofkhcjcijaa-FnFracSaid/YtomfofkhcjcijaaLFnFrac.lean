/-
  The law FnFrac's walk.
-/
import Derived.Test.YtomfofkhcjcijaaDrawS
import Derived.Test.YtomfofkhcjcijaaLenLaw
import Derived.Test.YtomfofkhcjcijaaPMath
namespace Go.Proofs.Ytomfofkhcjcijaa
open Go.RowKit

set_option maxHeartbeats 4000000 in
theorem lawFrac_any (a : Option Addr) (len cap : Nat) (zs : List Int) (w : World) (r : IsRow .u8 w a len cap zs) :
    Calls Try.prog 3 #[.slice a len cap] w fun e w' => e = .returned (.bool true) ∧ Below w.heap.size w w' := by
  have hB := byt_of_row r
  clear r
  by_cases hl : 1048576 < len
  · have hl' : (1048576 : Int) < (len : Int) := by omega
    go_enter Try.func3, Try.ntmps3
    go_wp2
    go_ret
    exact ⟨rfl, Below.refl _ _⟩
  have hl' : decide ((1048576 : Int) < (len : Int)) = false := by simp; omega
  go_enter Try.func3, Try.ntmps3
  go_wp2_with fail
  refine (drawFracIn_any a len cap _ hB).mono ?_
  rintro e w1 ⟨t, n, d0, d1, d2, rfl, hb1⟩
  obtain ⟨T, rfl⟩ := Int.eq_ofNat_of_zero_le d0
  obtain ⟨B, rfl⟩ := Int.eq_ofNat_of_zero_le (show 0 ≤ n by omega)
  clear hl hB d0
  have Q1 := Box2.new w1 24 (.int .i64 T) (.int .i64 B)
  have B1 := hb1.alloc hb1.size (.cells #[.int .i64 T, .int .i64 B] 24)
  clear hb1
  have c0 := Q1.cell0
  have c1 := Q1.cell1
  cases h : finB T B with
  | false =>
    go_wp2_with fail
    refine (implFracIn_any _ _ _).mono ?_
    rintro e w2 ⟨rfl, hb2⟩
    have Q2 := Q1.later hb2
    have B2 := B1.trans (hb2.mono B1.size)
    clear c0 c1 Q1 B1 hb2
    have c0 := Q2.cell0
    have c1 := Q2.cell1
    rw [h]
    go_wp2_with fail
    refine (specFracIn_any _ _ _).mono ?_
    rintro e w3 ⟨rfl, hb3⟩
    have Q3 := Q2.later hb3
    have B3 := B2.trans (hb3.mono B2.size)
    clear c0 c1 Q2 B2 hb3
    have c0 := Q3.cell0
    have c1 := Q3.cell1
    rw [h]
    go_wp2_with fail
    go_ret
    exact ⟨rfl, B3⟩
  | true =>
    obtain ⟨t2, u2⟩ := tld_of_fin h 2 (by omega) (by omega)
    obtain ⟨t16, u16⟩ := tld_of_fin h 16 (by omega) (by omega)
    obtain ⟨h3, h4, hT, hB, hg⟩ := tld_facts t2
    obtain ⟨n, m, hnm⟩ := len_some (b := 2) hT hg
    obtain ⟨j, k, hjk⟩ := len_some (b := 16) hT hg
    have hle := hnm.le hT
    have hle' := hjk.le hT
    have L2 : ∀ w : World, Calls Try.prog 10 #[.int .i64 2, .agg #[.int .i64 T, .int .i64 B]] w fun e w' => e = .returned (.tuple #[.int .i64 n, .int .i64 m, .bool true]) ∧ Below w.heap.size w w' :=
      fun w => implFracLengths_yes 2 T B n m w t2 hT hg hB (by omega) (by omega) hnm
    have L16 : ∀ w : World, Calls Try.prog 10 #[.int .i64 16, .agg #[.int .i64 T, .int .i64 B]] w fun e w' => e = .returned (.tuple #[.int .i64 j, .int .i64 k, .bool true]) ∧ Below w.heap.size w w' :=
      fun w => implFracLengths_yes 16 T B j k w t16 hT hg hB (by omega) (by omega) hjk
    have H2 := Lib.hid L2; have H16 := Lib.hid L16
    clear L2 L16 hg hnm hjk t2 t16 u2 u16 h3 h4
    go_wp2_with fail
    refine (implFracIn_any _ _ _).mono ?_
    rintro e w2 ⟨rfl, hb2⟩
    have Q2 := Q1.later hb2
    have B2 := B1.trans (hb2.mono B1.size)
    clear c0 c1 Q1 B1 hb2
    have c0 := Q2.cell0
    have c1 := Q2.cell1
    rw [h]
    go_wp2_with fail
    refine (specFracIn_any _ _ _).mono ?_
    rintro e w3 ⟨rfl, hb3⟩
    have Q3 := Q2.later hb3
    have B3 := B2.trans (hb3.mono B2.size)
    clear c0 c1 Q2 B2 hb3
    have c0 := Q3.cell0
    have c1 := Q3.cell1
    rw [h]
    go_wp2_with fail
    refine (H2.out _).mono ?_
    rintro e w4 ⟨rfl, hb4⟩
    have Q4 := Q3.later hb4
    have B4 := B3.trans (hb4.mono B3.size)
    clear c0 c1 Q3 B3 hb4
    have c0 := Q4.cell0
    have c1 := Q4.cell1
    go_wp2_with fail
    refine (H16.out _).mono ?_
    rintro e w5 ⟨rfl, hb5⟩
    have Q5 := Q4.later hb5
    have B5 := B4.trans (hb5.mono B4.size)
    clear c0 c1 Q4 B4 hb5
    have c0 := Q5.cell0
    have c1 := Q5.cell1
    have i1 : (n : Int) + m ≤ B := by omega
    have i2 : (j : Int) + k ≤ B := by omega
    go_wp2_with fail
    go_ret
    exact ⟨rfl, B5⟩

end Go.Proofs.Ytomfofkhcjcijaa
