/-
  The law FnSum's walk.
-/
import Derived.Test.YtoiofkijinlllacDrawU
import Derived.Test.YtoiofkijinlllacSumB
import Derived.Test.YtoiofkijinlllacOther
namespace Go.Proofs.Ytoiofkijinlllac
open Go.RowKit

set_option maxRecDepth 100000 in
set_option maxHeartbeats 4000000 in
theorem lawSum_any (H : ImSumOf) (a : Option Addr) (len cap : Nat) (zs : List Int) (w : World) (r : IsRow .u8 w a len cap zs) :
    Calls Try.prog 3 #[.slice a len cap] w fun e w' => e = .returned (.bool true) ∧ Below w.heap.size w w' := by
  have hB := byt_of_row r
  clear r
  by_cases hl : 1048576 < len
  · have hl' : (1048576 : Int) < (len : Int) := by omega
    go_enter Try.func3, Try.ntmps3
    go_wp2
    go_ret
    exact ⟨rfl, Below.refl _ _⟩
  have hl' : decide ((1048576 : Int) < (len : Int)) = false := by simp; omega
  go_enter Try.func3, Try.ntmps3
  go_wp2_with fail
  refine (drawSumOf_any a len cap _ hB).mono ?_
  rintro e w1 ⟨t, n, u, m, rfl, hb1⟩
  clear hl hB
  have Q1 := (Box2.new w1 24 (.int .i64 t) (.int .i64 n)).alloc (.cells #[.int .i64 u, .int .i64 m] 24)
  have R1 : Box2 _ (w1.heap.size + 1) 24 (.int .i64 u) (.int .i64 m) := Box2.newAt (W := w1.alloc (.cells #[.int .i64 t, .int .i64 n] 24)) (by simp)
  have B1 := (hb1.alloc hb1.size (.cells #[.int .i64 t, .int .i64 n] 24)).alloc (hb1.alloc hb1.size _).size (.cells #[.int .i64 u, .int .i64 m] 24)
  clear hb1
  have cQ0 := Q1.cell0
  have cQ1 := Q1.cell1
  have cR0 := R1.cell0
  have cR1 := R1.cell1
  cases h : finB t n && finB u m with
  | false =>
    have HI := Lib.hid (H.1 t n u m h); have HS := Lib.hid (specSumOf_no t n u m h)
    clear h
    go_wp2_with fail
    refine (HI.out _).mono ?_
    rintro e w2 ⟨rfl, hb2⟩
    have Q2 := (Q1.later hb2).alloc (.cells #[.int .i64 0, .int .i64 0] 24)
    have R2 := (R1.later hb2).alloc (.cells #[.int .i64 0, .int .i64 0] 24)
    have O2 := Box2.new w2 24 (.int .i64 0) (.int .i64 0)
    have B2 := (B1.trans (hb2.mono B1.size)).alloc (B1.trans (hb2.mono B1.size)).size (.cells #[.int .i64 0, .int .i64 0] 24)
    clear B1 hb2 Q1 R1
    have cQ0 := Q2.cell0
    have cQ1 := Q2.cell1
    have cR0 := R2.cell0
    have cR1 := R2.cell1
    have cO0 := O2.cell0
    have cO1 := O2.cell1
    go_wp2_with fail
    refine (HS.out _).mono ?_
    rintro e w3 ⟨rfl, hb3⟩
    have Q3 := (Q2.later hb3).alloc (.cells #[.int .i64 0, .int .i64 0] 24)
    have R3 := (R2.later hb3).alloc (.cells #[.int .i64 0, .int .i64 0] 24)
    have O3 := (O2.later hb3).alloc (.cells #[.int .i64 0, .int .i64 0] 24)
    have W3 := Box2.new w3 24 (.int .i64 0) (.int .i64 0)
    have B3 := (B2.trans (hb3.mono B2.size)).alloc (B2.trans (hb3.mono B2.size)).size (.cells #[.int .i64 0, .int .i64 0] 24)
    clear B2 hb3 Q2 R2 O2
    have cQ0 := Q3.cell0
    have cQ1 := Q3.cell1
    have cR0 := R3.cell0
    have cR1 := R3.cell1
    have cO0 := O3.cell0
    have cO1 := O3.cell1
    have cW0 := W3.cell0
    have cW1 := W3.cell1
    go_wp2_with fail
    go_ret
    exact ⟨rfl, B3⟩
  | true =>
    obtain ⟨T, B, U, C, rfl, rfl, rfl, rfl, f1, f2⟩ := fin_and h
    clear h
    by_cases hle : sumN' T B U C ≤ 1000
    case neg =>
      have HI := Lib.hid (H.2.1 T B U C f1 f2 (by omega)); have HS := Lib.hid (specSumOf_off T B U C f1 f2 (by omega))
      clear f1 f2 hle
      go_wp2_with fail
      refine (HI.out _).mono ?_
      rintro e w2 ⟨rfl, hb2⟩
      have Q2 := (Q1.later hb2).alloc (.cells #[.int .i64 0, .int .i64 0] 24)
      have R2 := (R1.later hb2).alloc (.cells #[.int .i64 0, .int .i64 0] 24)
      have O2 := Box2.new w2 24 (.int .i64 0) (.int .i64 0)
      have B2 := (B1.trans (hb2.mono B1.size)).alloc (B1.trans (hb2.mono B1.size)).size (.cells #[.int .i64 0, .int .i64 0] 24)
      clear B1 hb2 Q1 R1
      have cQ0 := Q2.cell0
      have cQ1 := Q2.cell1
      have cR0 := R2.cell0
      have cR1 := R2.cell1
      have cO0 := O2.cell0
      have cO1 := O2.cell1
      go_wp2_with fail
      refine (HS.out _).mono ?_
      rintro e w3 ⟨rfl, hb3⟩
      have Q3 := (Q2.later hb3).alloc (.cells #[.int .i64 0, .int .i64 0] 24)
      have R3 := (R2.later hb3).alloc (.cells #[.int .i64 0, .int .i64 0] 24)
      have O3 := (O2.later hb3).alloc (.cells #[.int .i64 0, .int .i64 0] 24)
      have W3 := Box2.new w3 24 (.int .i64 0) (.int .i64 0)
      have B3 := (B2.trans (hb3.mono B2.size)).alloc (B2.trans (hb3.mono B2.size)).size (.cells #[.int .i64 0, .int .i64 0] 24)
      clear B2 hb3 Q2 R2 O2
      have cQ0 := Q3.cell0
      have cQ1 := Q3.cell1
      have cR0 := R3.cell0
      have cR1 := R3.cell1
      have cO0 := O3.cell0
      have cO1 := O3.cell1
      have cW0 := W3.cell0
      have cW1 := W3.cell1
      go_wp2_with fail
      go_ret
      exact ⟨rfl, B3⟩
    case pos =>
      have HI := Lib.hid (H.2.2 T B U C f1 f2 hle); have HS := Lib.hid (specSumOf_yes T B U C f1 f2 hle)
      obtain ⟨k1, k2⟩ := sum_comm T B U C
      have hc := H.2.2 U C T B f2 f1 (by rw [← k2]; exact hle)
      rw [← k1, ← k2] at hc
      have HC := Lib.hid hc
      have hfin := f1.fin
      have hT := f1.lt
      have HO : Hid (∃ (x : Nat) (y : Nat) (p : Bool), (∀ wx : World, Calls Try.prog 10 #[.agg #[.int .i64 T, .int .i64 B]] wx fun e w' => e = .returned (.tuple #[.agg #[.int .i64 x, .int .i64 y], .bool p]) ∧ Below wx.heap.size wx w') ∧ ∃ (x' y' : Int) (p' : Bool), (∀ wx : World, Calls Try.prog 8 #[.agg #[.int .i64 T, .int .i64 B], .agg #[.int .i64 x, .int .i64 y]] wx fun e w' => e = .returned (.tuple #[.agg #[.int .i64 x', .int .i64 y'], .bool p']) ∧ Below wx.heap.size wx w') ∧ (p = true → p' = true ∧ x' = 0 ∧ y' = 1)) := by
        rcases Nat.eq_zero_or_pos T with h0 | h0
        · subst h0
          exact ⟨0, 0, false, implRestOther_top _ hfin, 0, 0, false, H.1 _ _ _ _ (by rw [Bool.and_eq_false_iff]; exact .inr (by decide)), fun h => by cases h⟩
        · have h0' : ((T : Int) == 0) = false := by simp; omega
          have ho := implRestOther_yes T B hfin h0'
          have eBT : (B : Int) - T = ((B - T : Nat) : Int) := by omega
          rw [eBT] at ho
          have f3 : FOk (B - T) B := ⟨by omega, f1.bot, by rw [Nat.gcd_self_sub_left (Nat.le_of_lt hT)]; exact f1.cop⟩
          obtain ⟨g1, g2⟩ := sum_other hT
          have hq := H.2.2 T B (B - T) B f1 f3 (by omega)
          rw [g1, g2] at hq
          exact ⟨B - T, B, true, ho, 0, 1, true, hq, fun _ => ⟨rfl, rfl, rfl⟩⟩
      obtain ⟨ox, oy, op, ho1, sx, sy, sp, hs1, hs2⟩ := HO.out
      have HO1 := Lib.hid ho1; have HS1 := Lib.hid hs1; have HS2 := Lib.hid hs2
      obtain ⟨X, hX⟩ : ∃ X, sumT T B U C = X := ⟨_, rfl⟩
      obtain ⟨Y, hY⟩ : ∃ Y, sumN' T B U C = Y := ⟨_, rfl⟩
      rw [hX, hY] at HI HS HC
      clear f1 f2 hle k1 k2 hc hfin hT HO ho1 hs1 hs2 hX hY
      go_wp2_with fail
      refine (HI.out _).mono ?_
      rintro e w2 ⟨rfl, hb2⟩
      have Q2 := (Q1.later hb2).alloc (.cells #[.int .i64 X, .int .i64 Y] 24)
      have R2 := (R1.later hb2).alloc (.cells #[.int .i64 X, .int .i64 Y] 24)
      have O2 := Box2.new w2 24 (.int .i64 X) (.int .i64 Y)
      have B2 := (B1.trans (hb2.mono B1.size)).alloc (B1.trans (hb2.mono B1.size)).size (.cells #[.int .i64 X, .int .i64 Y] 24)
      clear B1 hb2 Q1 R1
      have cQ0 := Q2.cell0
      have cQ1 := Q2.cell1
      have cR0 := R2.cell0
      have cR1 := R2.cell1
      have cO0 := O2.cell0
      have cO1 := O2.cell1
      go_wp2_with fail
      refine (HS.out _).mono ?_
      rintro e w3 ⟨rfl, hb3⟩
      have Q3 := (Q2.later hb3).alloc (.cells #[.int .i64 X, .int .i64 Y] 24)
      have R3 := (R2.later hb3).alloc (.cells #[.int .i64 X, .int .i64 Y] 24)
      have O3 := (O2.later hb3).alloc (.cells #[.int .i64 X, .int .i64 Y] 24)
      have W3 := Box2.new w3 24 (.int .i64 X) (.int .i64 Y)
      have B3 := (B2.trans (hb3.mono B2.size)).alloc (B2.trans (hb3.mono B2.size)).size (.cells #[.int .i64 X, .int .i64 Y] 24)
      clear B2 hb3 Q2 R2 O2
      have cQ0 := Q3.cell0
      have cQ1 := Q3.cell1
      have cR0 := R3.cell0
      have cR1 := R3.cell1
      have cO0 := O3.cell0
      have cO1 := O3.cell1
      have cW0 := W3.cell0
      have cW1 := W3.cell1
      clear W3
      go_wp2_with fail
      refine (HC.out _).mono ?_
      rintro e w4 ⟨rfl, hb4⟩
      have Q4 := (Q3.later hb4).alloc (.cells #[.int .i64 X, .int .i64 Y] 24)
      have R4 := (R3.later hb4).alloc (.cells #[.int .i64 X, .int .i64 Y] 24)
      have O4 := (O3.later hb4).alloc (.cells #[.int .i64 X, .int .i64 Y] 24)
      have G4 := Box2.new w4 24 (.int .i64 X) (.int .i64 Y)
      have B4 := (B3.trans (hb4.mono B3.size)).alloc (B3.trans (hb4.mono B3.size)).size (.cells #[.int .i64 X, .int .i64 Y] 24)
      clear B3 hb4 Q3 R3 O3
      have cQ0 := Q4.cell0
      have cQ1 := Q4.cell1
      have cR0 := R4.cell0
      have cR1 := R4.cell1
      have cO0 := O4.cell0
      have cO1 := O4.cell1
      have cG0 := G4.cell0
      have cG1 := G4.cell1
      go_wp2_with fail
      refine (HO1.out _).mono ?_
      rintro e w5 ⟨rfl, hb5⟩
      have Q5 := (Q4.later hb5).alloc (.cells #[.int .i64 ox, .int .i64 oy] 24)
      have R5 := (R4.later hb5).alloc (.cells #[.int .i64 ox, .int .i64 oy] 24)
      have O5 := (O4.later hb5).alloc (.cells #[.int .i64 ox, .int .i64 oy] 24)
      have G5 := (G4.later hb5).alloc (.cells #[.int .i64 ox, .int .i64 oy] 24)
      have V5 := Box2.new w5 24 (.int .i64 ox) (.int .i64 oy)
      have B5 := (B4.trans (hb5.mono B4.size)).alloc (B4.trans (hb5.mono B4.size)).size (.cells #[.int .i64 ox, .int .i64 oy] 24)
      clear B4 hb5 Q4 R4 O4 G4
      have cQ0 := Q5.cell0
      have cQ1 := Q5.cell1
      have cR0 := R5.cell0
      have cR1 := R5.cell1
      have cO0 := O5.cell0
      have cO1 := O5.cell1
      have cG0 := G5.cell0
      have cG1 := G5.cell1
      have cV0 := V5.cell0
      have cV1 := V5.cell1
      go_wp2_with fail
      refine (HS1.out _).mono ?_
      rintro e w6 ⟨rfl, hb6⟩
      have Q6 := (Q5.later hb6).alloc (.cells #[.int .i64 sx, .int .i64 sy] 24)
      have R6 := (R5.later hb6).alloc (.cells #[.int .i64 sx, .int .i64 sy] 24)
      have O6 := (O5.later hb6).alloc (.cells #[.int .i64 sx, .int .i64 sy] 24)
      have G6 := (G5.later hb6).alloc (.cells #[.int .i64 sx, .int .i64 sy] 24)
      have V6 := (V5.later hb6).alloc (.cells #[.int .i64 sx, .int .i64 sy] 24)
      have Z6 := Box2.new w6 24 (.int .i64 sx) (.int .i64 sy)
      have B6 := (B5.trans (hb6.mono B5.size)).alloc (B5.trans (hb6.mono B5.size)).size (.cells #[.int .i64 sx, .int .i64 sy] 24)
      clear B5 hb6 Q5 R5 O5 G5 V5
      have cQ0 := Q6.cell0
      have cQ1 := Q6.cell1
      have cR0 := R6.cell0
      have cR1 := R6.cell1
      have cO0 := O6.cell0
      have cO1 := O6.cell1
      have cG0 := G6.cell0
      have cG1 := G6.cell1
      have cV0 := V6.cell0
      have cV1 := V6.cell1
      have cZ0 := Z6.cell0
      have cZ1 := Z6.cell1
      cases op with
      | false =>
        go_wp2_with fail
        go_ret
        exact ⟨rfl, B6⟩
      | true =>
        obtain ⟨rfl, rfl, rfl⟩ := HS2.out rfl
        go_wp2_with fail
        go_ret
        exact ⟨rfl, B6⟩

end Go.Proofs.Ytoiofkijinlllac
