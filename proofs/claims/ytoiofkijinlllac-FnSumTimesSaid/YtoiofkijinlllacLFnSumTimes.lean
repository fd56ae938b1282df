/-
  The law FnSumTimes's walk.
-/
import Derived.Test.YtoiofkijinlllacDrawU
import Derived.Test.YtoiofkijinlllacSumB
import Derived.Test.YtoiofkijinlllacOther
namespace Go.Proofs.Ytoiofkijinlllac
open Go.RowKit

set_option maxRecDepth 100000 in
set_option maxHeartbeats 4000000 in
theorem lawSumTimes_any (H : ImSumTimes) (HO : ImSumOf) (a : Option Addr) (len cap : Nat) (zs : List Int) (w : World) (r : IsRow .u8 w a len cap zs) :
    Calls Try.prog 4 #[.slice a len cap] w fun e w' => e = .returned (.bool true) ∧ Below w.heap.size w w' := by
  have hB := byt_of_row r
  clear r
  by_cases hl : 1048576 < len
  · have hl' : (1048576 : Int) < (len : Int) := by omega
    go_enter Try.func4, Try.ntmps4
    go_wp2
    go_ret
    exact ⟨rfl, Below.refl _ _⟩
  have hl' : decide ((1048576 : Int) < (len : Int)) = false := by simp; omega
  go_enter Try.func4, Try.ntmps4
  go_wp2_with fail
  refine (drawSumTimes_any a len cap _ hB).mono ?_
  rintro e w1 ⟨t, n, k, hk1, hk2, rfl, hb1⟩
  clear hl hB
  have Q1 := Box2.new w1 24 (.int .i64 t) (.int .i64 n)
  have B1 := hb1.alloc hb1.size (.cells #[.int .i64 t, .int .i64 n] 24)
  clear hb1
  have cQ0 := Q1.cell0
  have cQ1 := Q1.cell1
  cases h : finB t n && decide (0 ≤ k ∧ k ≤ 1000) with
  | false =>
    have HI := Lib.hid (H.1 t n k h); have HS := Lib.hid (specSumTimes_no t n k h)
    clear h
    go_wp2_with fail
    refine (HI.out _).mono ?_
    rintro e w2 ⟨rfl, hb2⟩
    have Q2 := (Q1.later hb2).alloc (.cells #[.int .i64 0, .int .i64 0] 24)
    have O2 := Box2.new w2 24 (.int .i64 0) (.int .i64 0)
    have B2 := (B1.trans (hb2.mono B1.size)).alloc (B1.trans (hb2.mono B1.size)).size (.cells #[.int .i64 0, .int .i64 0] 24)
    clear B1 hb2 Q1
    have cQ0 := Q2.cell0
    have cQ1 := Q2.cell1
    have cO0 := O2.cell0
    have cO1 := O2.cell1
    go_wp2_with fail
    refine (HS.out _).mono ?_
    rintro e w3 ⟨rfl, hb3⟩
    have Q3 := (Q2.later hb3).alloc (.cells #[.int .i64 0, .int .i64 0] 24)
    have O3 := (O2.later hb3).alloc (.cells #[.int .i64 0, .int .i64 0] 24)
    have W3 := Box2.new w3 24 (.int .i64 0) (.int .i64 0)
    have B3 := (B2.trans (hb3.mono B2.size)).alloc (B2.trans (hb3.mono B2.size)).size (.cells #[.int .i64 0, .int .i64 0] 24)
    clear B2 hb3 Q2 O2
    have cQ0 := Q3.cell0
    have cQ1 := Q3.cell1
    have cO0 := O3.cell0
    have cO1 := O3.cell1
    have cW0 := W3.cell0
    have cW1 := W3.cell1
    go_wp2_with fail
    go_ret
    exact ⟨rfl, B3⟩
  | true =>
    obtain ⟨T, B, k, rfl, rfl, rfl, f1, hk⟩ := fin_tms h
    clear h
    have HI := Lib.hid (H.2 T B k f1 hk); have HS := Lib.hid (specSumTimes_yes T B k f1 hk)
    have hB0 : 0 < B := by have := f1.lt; omega
    have hB1 := f1.bot
    have f2 := tms_ok (T := T) (k := k) hB0 hB1
    have f3 := tms_ok (T := T) (k := k + 1) hB0 hB1
    obtain ⟨g1, g2⟩ := tms_next (T := T) k hB0
    have ha := H.2 T B B f1 hB1
    rw [(tms_all hB0).1, (tms_all hB0).2] at ha
    have ho := HO.2.2 _ _ T B f2 f1 (by rw [g2]; exact f3.bot)
    rw [g1, g2] at ho
    have hn : ∃ (x y : Nat) (p : Bool), (∀ wx : World, Calls Try.prog 12 #[.agg #[.int .i64 T, .int .i64 B], .int .i64 ((k : Int) + 1)] wx fun e w' => e = .returned (.tuple #[.agg #[.int .i64 x, .int .i64 y], .bool p]) ∧ Below wx.heap.size wx w') ∧ (k < 1000 → p = true ∧ x = tmsT T B (k + 1) ∧ y = tmsN T B (k + 1)) := by
      by_cases h1 : k < 1000
      · exact ⟨_, _, true, H.2 T B (k + 1) f1 (by omega), fun _ => ⟨rfl, rfl, rfl⟩⟩
      · exact ⟨0, 0, false, H.1 _ _ _ (by rw [Bool.and_eq_false_iff]; exact .inr (by simp; omega)), fun h => absurd h h1⟩
    obtain ⟨nx, ny, np, hn1, hn2⟩ := hn
    have HA := Lib.hid ha; have HOO := Lib.hid ho; have HN1 := Lib.hid hn1; have HN2 := Lib.hid hn2
    obtain ⟨X, hX⟩ : ∃ X, tmsT T B k = X := ⟨_, rfl⟩
    obtain ⟨Y, hY⟩ : ∃ Y, tmsN T B k = Y := ⟨_, rfl⟩
    obtain ⟨U, hU⟩ : ∃ U, tmsT T B (k + 1) = U := ⟨_, rfl⟩
    obtain ⟨V, hV⟩ : ∃ V, tmsN T B (k + 1) = V := ⟨_, rfl⟩
    rw [hX, hY] at HI HS HOO
    rw [hU, hV] at HOO HN2
    clear f1 f2 f3 g1 g2 ha ho hn1 hn2 hX hY hU hV
    go_wp2_with fail
    refine (HI.out _).mono ?_
    rintro e w2 ⟨rfl, hb2⟩
    have Q2 := (Q1.later hb2).alloc (.cells #[.int .i64 X, .int .i64 Y] 24)
    have O2 := Box2.new w2 24 (.int .i64 X) (.int .i64 Y)
    have B2 := (B1.trans (hb2.mono B1.size)).alloc (B1.trans (hb2.mono B1.size)).size (.cells #[.int .i64 X, .int .i64 Y] 24)
    clear B1 hb2 Q1
    have cQ0 := Q2.cell0
    have cQ1 := Q2.cell1
    have cO0 := O2.cell0
    have cO1 := O2.cell1
    go_wp2_with fail
    refine (HS.out _).mono ?_
    rintro e w3 ⟨rfl, hb3⟩
    have Q3 := (Q2.later hb3).alloc (.cells #[.int .i64 X, .int .i64 Y] 24)
    have O3 := (O2.later hb3).alloc (.cells #[.int .i64 X, .int .i64 Y] 24)
    have W3 := Box2.new w3 24 (.int .i64 X) (.int .i64 Y)
    have B3 := (B2.trans (hb3.mono B2.size)).alloc (B2.trans (hb3.mono B2.size)).size (.cells #[.int .i64 X, .int .i64 Y] 24)
    clear B2 hb3 Q2 O2
    have cQ0 := Q3.cell0
    have cQ1 := Q3.cell1
    have cO0 := O3.cell0
    have cO1 := O3.cell1
    have cW0 := W3.cell0
    have cW1 := W3.cell1
    clear W3
    go_wp2_with fail
    refine (HN1.out _).mono ?_
    rintro e w4 ⟨rfl, hb4⟩
    have Q4 := (Q3.later hb4).alloc (.cells #[.int .i64 nx, .int .i64 ny] 24)
    have O4 := (O3.later hb4).alloc (.cells #[.int .i64 nx, .int .i64 ny] 24)
    have G4 := Box2.new w4 24 (.int .i64 nx) (.int .i64 ny)
    have B4 := (B3.trans (hb4.mono B3.size)).alloc (B3.trans (hb4.mono B3.size)).size (.cells #[.int .i64 nx, .int .i64 ny] 24)
    clear B3 hb4 Q3 O3
    have cQ0 := Q4.cell0
    have cQ1 := Q4.cell1
    have cO0 := O4.cell0
    have cO1 := O4.cell1
    have cG0 := G4.cell0
    have cG1 := G4.cell1
    go_wp2_with fail
    refine (HOO.out _).mono ?_
    rintro e w5 ⟨rfl, hb5⟩
    have Q5 := (Q4.later hb5).alloc (.cells #[.int .i64 U, .int .i64 V] 24)
    have O5 := (O4.later hb5).alloc (.cells #[.int .i64 U, .int .i64 V] 24)
    have G5 := (G4.later hb5).alloc (.cells #[.int .i64 U, .int .i64 V] 24)
    have P5 := Box2.new w5 24 (.int .i64 U) (.int .i64 V)
    have B5 := (B4.trans (hb5.mono B4.size)).alloc (B4.trans (hb5.mono B4.size)).size (.cells #[.int .i64 U, .int .i64 V] 24)
    clear B4 hb5 Q4 O4 G4
    have cQ0 := Q5.cell0
    have cQ1 := Q5.cell1
    have cO0 := O5.cell0
    have cO1 := O5.cell1
    have cG0 := G5.cell0
    have cG1 := G5.cell1
    have cP0 := P5.cell0
    have cP1 := P5.cell1
    go_wp2_with fail
    refine (HA.out _).mono ?_
    rintro e w6 ⟨rfl, hb6⟩
    have Q6 := (Q5.later hb6).alloc (.cells #[.int .i64 0, .int .i64 1] 24)
    have O6 := (O5.later hb6).alloc (.cells #[.int .i64 0, .int .i64 1] 24)
    have G6 := (G5.later hb6).alloc (.cells #[.int .i64 0, .int .i64 1] 24)
    have P6 := (P5.later hb6).alloc (.cells #[.int .i64 0, .int .i64 1] 24)
    have Z6 := Box2.new w6 24 (.int .i64 0) (.int .i64 1)
    have B6 := (B5.trans (hb6.mono B5.size)).alloc (B5.trans (hb6.mono B5.size)).size (.cells #[.int .i64 0, .int .i64 1] 24)
    clear B5 hb6 Q5 O5 G5 P5
    have cQ0 := Q6.cell0
    have cQ1 := Q6.cell1
    have cO0 := O6.cell0
    have cO1 := O6.cell1
    have cG0 := G6.cell0
    have cG1 := G6.cell1
    have cP0 := P6.cell0
    have cP1 := P6.cell1
    have cZ0 := Z6.cell0
    have cZ1 := Z6.cell1
    by_cases hk9 : k = 1000
    · have hk9' : ((k : Int) == 1000) = true := by simp; omega
      clear hk9
      go_wp2_with fail
      go_ret
      exact ⟨rfl, B6⟩
    · have hk9' : ((k : Int) == 1000) = false := by simp; omega
      obtain ⟨rfl, rfl, rfl⟩ := HN2.out (by omega)
      clear hk9
      go_wp2_with fail
      go_ret
      exact ⟨rfl, B6⟩

end Go.Proofs.Ytoiofkijinlllac
