/-
  The law FnSumDigits's walk.
-/
import Derived.Test.YtoiofkijinllladDrawU
import Derived.Test.YtoiofkijinllladSumB
import Derived.Test.YtoiofkijinllladLenLaw
import Derived.Test.YtoiofkijinllladLists
import Derived.Test.YtoiofkijinllladGRow
namespace Go.Proofs.Ytoiofkijinlllad
open Go.RowKit

set_option maxRecDepth 100000 in
set_option maxHeartbeats 4000000 in
theorem lawSumDigits_any (H : ImSumLengths) (HO : ImSumOf) (HR : ImSumRound) (a : Option Addr) (len cap : Nat) (zs : List Int) (w : World) (r : IsRow .u8 w a len cap zs) :
    Calls Try.prog 3 #[.slice a len cap] w fun e w' => e = .returned (.bool true) ∧ Below w.heap.size w w' := by
  have hB := byt_of_row r
  clear r
  by_cases hl : 1048576 < len
  · have hl' : (1048576 : Int) < (len : Int) := by omega
    go_enter Try.func3, Try.ntmps3
    go_wp2
    go_ret
    exact ⟨rfl, Below.refl _ _⟩
  have hl' : decide ((1048576 : Int) < (len : Int)) = false := by simp; omega
  go_enter Try.func3, Try.ntmps3
  go_wp2_with fail
  refine (drawSumLengths_any a len cap _ hB).mono ?_
  rintro e w1 ⟨b, t, n, u, m, rfl, hb1⟩
  clear hl hB
  have Q1 := (Box2.new w1 24 (.int .i64 t) (.int .i64 n)).alloc (.cells #[.int .i64 u, .int .i64 m] 24)
  have R1 : Box2 _ (w1.heap.size + 1) 24 (.int .i64 u) (.int .i64 m) := Box2.newAt (W := w1.alloc (.cells #[.int .i64 t, .int .i64 n] 24)) (by simp)
  have B1 := (hb1.alloc hb1.size (.cells #[.int .i64 t, .int .i64 n] 24)).alloc (hb1.alloc hb1.size _).size (.cells #[.int .i64 u, .int .i64 m] 24)
  clear hb1
  have cQ0 := Q1.cell0
  have cQ1 := Q1.cell1
  have cR0 := R1.cell0
  have cR1 := R1.cell1
  cases h : tldB b t n && tldB b u m with
  | false =>
    have HI := Lib.hid (H.1 b t n u m h); have HS := Lib.hid (specSumLengths_no b t n u m h)
    clear h
    go_wp2_with fail
    refine (HI.out _).mono ?_
    rintro e w2 ⟨rfl, hb2⟩
    have Q2 := Q1.later hb2
    have R2 := R1.later hb2
    have B2 := B1.trans (hb2.mono B1.size)
    clear B1 hb2 Q1 R1
    have cQ0 := Q2.cell0
    have cQ1 := Q2.cell1
    have cR0 := R2.cell0
    have cR1 := R2.cell1
    go_wp2_with fail
    refine (HS.out _).mono ?_
    rintro e w3 ⟨rfl, hb3⟩
    have Q3 := Q2.later hb3
    have R3 := R2.later hb3
    have B3 := B2.trans (hb3.mono B2.size)
    clear B2 hb3 Q2 R2
    have cQ0 := Q3.cell0
    have cQ1 := Q3.cell1
    have cR0 := R3.cell0
    have cR1 := R3.cell1
    go_wp2_with fail
    go_ret
    exact ⟨rfl, B3⟩
  | true =>
    obtain ⟨b, T, B, U, C, rfl, rfl, rfl, rfl, rfl, h3, h4, f1, f2⟩ := tld_and h
    clear h
    obtain ⟨n1, m1, l1⟩ := len_some (b := b) f1.lt f1.cop
    obtain ⟨n2, m2, l2⟩ := len_some (b := b) f2.lt f2.cop
    have HI := Lib.hid (H.2 b T B U C n1 m1 n2 m2 h3 h4 f1 f2 l1 l2); have HS := Lib.hid (specSumLengths_yes b T B U C n1 m1 n2 m2 h3 h4 f1 f2 l1 l2)
    obtain ⟨_, _, hL0⟩ := lcm_dvd l1.pos l2.pos
    have hsl := red_ok (sm_lt (T := T) (U := U) (show 0 < B by have := f1.lt; omega) (show 0 < C by have := f2.lt; omega))
    have hso : ∃ (x y : Nat) (p : Bool), (∀ wx : World, Calls Try.prog 7 #[.agg #[.int .i64 T, .int .i64 B], .agg #[.int .i64 U, .int .i64 C]] wx fun e w' => e = .returned (.tuple #[.agg #[.int .i64 x, .int .i64 y], .bool p]) ∧ Below wx.heap.size wx w') ∧ (p = true → x = sumT T B U C ∧ y = sumN' T B U C ∧ FOk x y) ∧ (p = false → x = 0 ∧ y = 0) := by
      by_cases hle : sumN' T B U C ≤ 1000
      · exact ⟨_, _, true, HO.2.2 T B U C f1 f2 hle, fun _ => ⟨rfl, rfl, hsl.1, hle, hsl.2.1⟩, fun h => by cases h⟩
      · exact ⟨0, 0, false, HO.2.1 T B U C f1 f2 (by omega), fun h => (by cases h), fun _ => ⟨rfl, rfl⟩⟩
    obtain ⟨x, y, p, ho1, ho2, ho3⟩ := hso
    have HF1 := Lib.hid (fun wx => implFracLengths_yes b T B n1 m1 wx (f1.told h3 h4) f1.lt f1.cop f1.bot h3 h4 l1)
    have HF2 := Lib.hid (fun wx => implFracLengths_yes b U C n2 m2 wx (f2.told h3 h4) f2.lt f2.cop f2.bot h3 h4 l2)
    obtain ⟨L, hL⟩ : ∃ L, lcmL m1 m2 = L := ⟨_, rfl⟩
    rw [hL] at HI HS hL0
    have HG : Hid (p = true → n1 = 0 → n2 = 0 → L ≤ 200 → Gives 9 #[.int .i64 b, .agg #[.int .i64 T, .int .i64 B], .int .i64 L] (digL b T B L) true ∧ Gives 9 #[.int .i64 b, .agg #[.int .i64 U, .int .i64 C], .int .i64 L] (digL b U C L) true ∧ Gives 9 #[.int .i64 b, .agg #[.int .i64 x, .int .i64 y], .int .i64 L] (digL b x y L) true ∧ GivesDD 10 (fun v u => #[.int .i64 b, v, u]) (digL b T B L) (digL b U C L) (digL b x y L) true) := by
      rintro rfl rfl rfl hL2
      obtain ⟨rfl, rfl, f3⟩ := ho2 rfl
      refine ⟨implFracDigits_yesG b T B L (f1.told h3 h4) f1.lt f1.cop f1.bot h3 h4 hL2, implFracDigits_yesG b U C L (f2.told h3 h4) f2.lt f2.cop f2.bot h3 h4 hL2, implFracDigits_yesG b _ _ L (f3.told h3 h4) f3.lt f3.cop f3.bot h3 h4 hL2, ?_⟩
      obtain ⟨⟨c1, e1⟩, ⟨c2, e2⟩, _⟩ := lcm_dvd l1.pos l2.pos
      rw [hL] at e1 e2
      have p1 : rst b T B L = T := by
        have := l1.per_mul 0 c1 (Nat.zero_le _)
        rwa [Nat.zero_add, Nat.mul_comm, ← e1] at this
      have p2 : rst b U C L = U := by
        have := l2.per_mul 0 c2 (Nat.zero_le _)
        rwa [Nat.zero_add, Nat.mul_comm, ← e2] at this
      have := HR.2 b (digL b T B L) (digL b U C L) ⟨h3, h4, by rw [digL_len]; omega, by rw [digL_len]; omega, digL_dgt f1.lt (by omega) L⟩ ⟨h3, h4, by rw [digL_len]; omega, by rw [digL_len]; omega, digL_dgt f2.lt (by omega) L⟩ (by rw [digL_len, digL_len])
      rwa [sum_digits h3 (by omega) f1.lt f2.lt p1 p2] at this
    have hwl := digL_len b x y L
    have HO1 := Lib.hid ho1
    clear f1 f2 l1 l2 hsl ho1 ho2 ho3 hL
    generalize digL b T B L = dX at *
    generalize digL b U C L = dY at *
    generalize digL b x y L = dZ at *
    go_wp2_with fail
    refine (HI.out _).mono ?_
    rintro e w2 ⟨rfl, hb2⟩
    have Q2 := Q1.later hb2
    have R2 := R1.later hb2
    have B2 := B1.trans (hb2.mono B1.size)
    clear B1 hb2 Q1 R1
    have cQ0 := Q2.cell0
    have cQ1 := Q2.cell1
    have cR0 := R2.cell0
    have cR1 := R2.cell1
    go_wp2_with fail
    refine (HS.out _).mono ?_
    rintro e w3 ⟨rfl, hb3⟩
    have Q3 := Q2.later hb3
    have R3 := R2.later hb3
    have B3 := B2.trans (hb3.mono B2.size)
    clear B2 hb3 Q2 R2
    have cQ0 := Q3.cell0
    have cQ1 := Q3.cell1
    have cR0 := R3.cell0
    have cR1 := R3.cell1
    go_wp2_with fail
    refine (HO1.out _).mono ?_
    rintro e w4 ⟨rfl, hb4⟩
    have Q4 := (Q3.later hb4).alloc (.cells #[.int .i64 x, .int .i64 y] 24)
    have R4 := (R3.later hb4).alloc (.cells #[.int .i64 x, .int .i64 y] 24)
    have G4 := Box2.new w4 24 (.int .i64 x) (.int .i64 y)
    have B4 := (B3.trans (hb4.mono B3.size)).alloc (B3.trans (hb4.mono B3.size)).size (.cells #[.int .i64 x, .int .i64 y] 24)
    clear B3 hb4 Q3 R3
    have cQ0 := Q4.cell0
    have cQ1 := Q4.cell1
    have cR0 := R4.cell0
    have cR1 := R4.cell1
    have cG0 := G4.cell0
    have cG1 := G4.cell1
    go_wp2_with fail
    refine (HF1.out _).mono ?_
    rintro e w5 ⟨rfl, hb5⟩
    have Q5 := Q4.later hb5
    have R5 := R4.later hb5
    have G5 := G4.later hb5
    have B5 := B4.trans (hb5.mono B4.size)
    clear B4 hb5 Q4 R4 G4
    have cQ0 := Q5.cell0
    have cQ1 := Q5.cell1
    have cR0 := R5.cell0
    have cR1 := R5.cell1
    have cG0 := G5.cell0
    have cG1 := G5.cell1
    go_wp2_with fail
    refine (HF2.out _).mono ?_
    rintro e w6 ⟨rfl, hb6⟩
    have Q6 := Q5.later hb6
    have R6 := R5.later hb6
    have G6 := G5.later hb6
    have B6 := B5.trans (hb6.mono B5.size)
    clear B5 hb6 Q5 R5 G5
    have cQ0 := Q6.cell0
    have cQ1 := Q6.cell1
    have cR0 := R6.cell0
    have cR1 := R6.cell1
    have cG0 := G6.cell0
    have cG1 := G6.cell1
    cases p with
    | false =>
      go_wp2_with fail
      go_ret
      exact ⟨rfl, B6⟩
    | true =>
      by_cases k1 : 0 < n1
      · have k1' : (0 : Int) < (n1 : Int) := by omega
        go_wp2_with fail
        go_ret
        exact ⟨rfl, B6⟩
      obtain rfl : n1 = 0 := by omega
      by_cases k2 : 0 < n2
      · have k2' : (0 : Int) < (n2 : Int) := by omega
        go_wp2_with fail
        go_ret
        exact ⟨rfl, B6⟩
      obtain rfl : n2 = 0 := by omega
      by_cases k3 : 200 < L
      · have k3' : (200 : Int) < (L : Int) := by omega
        go_wp2_with fail
        go_ret
        exact ⟨rfl, B6⟩
      have k3' : ¬ (200 : Int) < (L : Int) := by omega
      obtain ⟨d1, d2, d3, d4⟩ := HG.out rfl rfl rfl (by omega)
      have HD1 := Lib.hid d1; have HD2 := Lib.hid d2; have HD3 := Lib.hid d3; have HD4 := Lib.hid d4
      have hle : dZ.length ≤ 1048576 := by omega
      clear d1 d2 d3 d4 HG k1 k2
      go_wp2_with fail
      refine (HD1.out _).mono ?_
      rintro e w7 ⟨vx, rfl, lx7, hb7⟩
      have Q7 := Q6.later hb7
      have R7 := R6.later hb7
      have G7 := G6.later hb7
      have B7 := B6.trans (hb7.mono B6.size)
      clear B6 hb7 Q6 R6 G6
      have cQ0 := Q7.cell0
      have cQ1 := Q7.cell1
      have cR0 := R7.cell0
      have cR1 := R7.cell1
      have cG0 := G7.cell0
      have cG1 := G7.cell1
      go_wp2_with fail
      refine (HD2.out _).mono ?_
      rintro e w8 ⟨vy, rfl, ly8, hb8⟩
      have Q8 := Q7.later hb8
      have R8 := R7.later hb8
      have G8 := G7.later hb8
      have lx8 := lx7.later hb8
      have B8 := B7.trans (hb8.mono B7.size)
      clear B7 hb8 Q7 R7 G7 lx7
      have cQ0 := Q8.cell0
      have cQ1 := Q8.cell1
      have cR0 := R8.cell0
      have cR1 := R8.cell1
      have cG0 := G8.cell0
      have cG1 := G8.cell1
      go_wp2_with fail
      refine (HD4.out _ _ vx vy w8 lx8 ly8).mono ?_
      rintro e w9 ⟨z, rfl, lz9, hb9⟩
      have Q9 := Q8.later hb9
      have R9 := R8.later hb9
      have G9 := G8.later hb9
      have B9 := B8.trans (hb9.mono B8.size)
      clear B8 hb9 Q8 R8 G8
      have cQ0 := Q9.cell0
      have cQ1 := Q9.cell1
      have cR0 := R9.cell0
      have cR1 := R9.cell1
      have cG0 := G9.cell0
      have cG1 := G9.cell1
      go_wp2_with fail
      refine (HD3.out _).mono ?_
      rintro e w10 ⟨vw, rfl, lw10, hb10⟩
      have Q10 := Q9.later hb10
      have R10 := R9.later hb10
      have G10 := G9.later hb10
      have lz10 := lz9.later hb10
      have B10 := B9.trans (hb10.mono B9.size)
      clear B9 hb10 Q9 R9 G9 lz9
      have cQ0 := Q10.cell0
      have cQ1 := Q10.cell1
      have cR0 := R10.cell0
      have cR1 := R10.cell1
      have cG0 := G10.cell0
      have cG1 := G10.cell1
      go_wp2_with fail
      refine (sameInts_any _ _ _ _ dZ dZ _ lz10 lw10 hle hle).mono ?_
      rintro e w11 ⟨rfl, hb11⟩
      have B11 := B10.trans (hb11.mono B10.size)
      clear B10 hb11
      have hxx : decide (dZ = dZ) = true := by simp
      rw [hxx]
      clear hxx
      go_wp2_with fail
      go_ret
      exact ⟨rfl, B11⟩

end Go.Proofs.Ytoiofkijinlllad
