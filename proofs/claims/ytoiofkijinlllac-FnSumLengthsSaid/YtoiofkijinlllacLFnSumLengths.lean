/-
  The law FnSumLengths's walk.
-/
import Derived.Test.YtoiofkijinlllacDrawU
import Derived.Test.YtoiofkijinlllacSumB
import Derived.Test.YtoiofkijinlllacLenLaw
namespace Go.Proofs.Ytoiofkijinlllac
open Go.RowKit

set_option maxRecDepth 100000 in
set_option maxHeartbeats 4000000 in
theorem lawSumLengths_any (H : ImSumLengths) (HO : ImSumOf) (a : Option Addr) (len cap : Nat) (zs : List Int) (w : World) (r : IsRow .u8 w a len cap zs) :
    Calls Try.prog 6 #[.slice a len cap] w fun e w' => e = .returned (.bool true) ∧ Below w.heap.size w w' := by
  have hB := byt_of_row r
  clear r
  by_cases hl : 1048576 < len
  · have hl' : (1048576 : Int) < (len : Int) := by omega
    go_enter Try.func6, Try.ntmps6
    go_wp2
    go_ret
    exact ⟨rfl, Below.refl _ _⟩
  have hl' : decide ((1048576 : Int) < (len : Int)) = false := by simp; omega
  go_enter Try.func6, Try.ntmps6
  go_wp2_with fail
  refine (drawSumLengths_any a len cap _ hB).mono ?_
  rintro e w1 ⟨b, t, n, u, m, rfl, hb1⟩
  clear hl hB
  have Q1 := (Box2.new w1 24 (.int .i64 t) (.int .i64 n)).alloc (.cells #[.int .i64 u, .int .i64 m] 24)
  have R1 : Box2 _ (w1.heap.size + 1) 24 (.int .i64 u) (.int .i64 m) := Box2.newAt (W := w1.alloc (.cells #[.int .i64 t, .int .i64 n] 24)) (by simp)
  have B1 := (hb1.alloc hb1.size (.cells #[.int .i64 t, .int .i64 n] 24)).alloc (hb1.alloc hb1.size _).size (.cells #[.int .i64 u, .int .i64 m] 24)
  clear hb1
  have cQ0 := Q1.cell0
  have cQ1 := Q1.cell1
  have cR0 := R1.cell0
  have cR1 := R1.cell1
  cases h : tldB b t n && tldB b u m with
  | false =>
    have HI := Lib.hid (H.1 b t n u m h); have HS := Lib.hid (specSumLengths_no b t n u m h)
    clear h
    go_wp2_with fail
    refine (HI.out _).mono ?_
    rintro e w2 ⟨rfl, hb2⟩
    have Q2 := Q1.later hb2
    have R2 := R1.later hb2
    have B2 := B1.trans (hb2.mono B1.size)
    clear B1 hb2 Q1 R1
    have cQ0 := Q2.cell0
    have cQ1 := Q2.cell1
    have cR0 := R2.cell0
    have cR1 := R2.cell1
    go_wp2_with fail
    refine (HS.out _).mono ?_
    rintro e w3 ⟨rfl, hb3⟩
    have Q3 := Q2.later hb3
    have R3 := R2.later hb3
    have B3 := B2.trans (hb3.mono B2.size)
    clear B2 hb3 Q2 R2
    have cQ0 := Q3.cell0
    have cQ1 := Q3.cell1
    have cR0 := R3.cell0
    have cR1 := R3.cell1
    go_wp2_with fail
    go_ret
    exact ⟨rfl, B3⟩
  | true =>
    obtain ⟨b, T, B, U, C, rfl, rfl, rfl, rfl, rfl, h3, h4, f1, f2⟩ := tld_and h
    clear h
    obtain ⟨n1, m1, l1⟩ := len_some (b := b) f1.lt f1.cop
    obtain ⟨n2, m2, l2⟩ := len_some (b := b) f2.lt f2.cop
    have HI := Lib.hid (H.2 b T B U C n1 m1 n2 m2 h3 h4 f1 f2 l1 l2); have HS := Lib.hid (specSumLengths_yes b T B U C n1 m1 n2 m2 h3 h4 f1 f2 l1 l2)
    obtain ⟨_, _, hL0⟩ := lcm_dvd l1.pos l2.pos
    have hsl := red_ok (sm_lt (T := T) (U := U) (show 0 < B by have := f1.lt; omega) (show 0 < C by have := f2.lt; omega))
    have hso : ∃ (x y : Nat) (p : Bool), (∀ wx : World, Calls Try.prog 8 #[.agg #[.int .i64 T, .int .i64 B], .agg #[.int .i64 U, .int .i64 C]] wx fun e w' => e = .returned (.tuple #[.agg #[.int .i64 x, .int .i64 y], .bool p]) ∧ Below wx.heap.size wx w') ∧ (p = true → x = sumT T B U C ∧ y = sumN' T B U C ∧ FOk x y) ∧ (p = false → x = 0 ∧ y = 0) := by
      by_cases hle : sumN' T B U C ≤ 1000
      · exact ⟨_, _, true, HO.2.2 T B U C f1 f2 hle, fun _ => ⟨rfl, rfl, hsl.1, hle, hsl.2.1⟩, fun h => by cases h⟩
      · exact ⟨0, 0, false, HO.2.1 T B U C f1 f2 (by omega), fun h => (by cases h), fun _ => ⟨rfl, rfl⟩⟩
    obtain ⟨x, y, p, ho1, ho2, ho3⟩ := hso
    have hfl : ∃ (i l : Nat) (q : Bool), (∀ wx : World, Calls Try.prog 21 #[.int .i64 b, .agg #[.int .i64 x, .int .i64 y]] wx fun e w' => e = .returned (.tuple #[.int .i64 i, .int .i64 l, .bool q]) ∧ Below wx.heap.size wx w') ∧ (p = true → q = true ∧ 1 ≤ l ∧ l ∣ lcmL m1 m2) := by
      cases p with
      | false =>
        obtain ⟨rfl, rfl⟩ := ho3 rfl
        exact ⟨0, 0, false, fun wx => implFracLengths_no _ _ _ wx (by unfold tldB; rw [show finB ((0 : Nat) : Int) ((0 : Nat) : Int) = false from by decide]; simp), fun h => by cases h⟩
      | true =>
        obtain ⟨rfl, rfl, f3⟩ := ho2 rfl
        obtain ⟨i, l, hl⟩ := len_some (b := b) f3.lt f3.cop
        exact ⟨i, l, true, fun wx => implFracLengths_yes b _ _ i l wx (f3.told h3 h4) f3.lt f3.cop f3.bot h3 h4 hl, fun _ => ⟨rfl, hl.pos, sum_len f1.lt f2.lt l1 l2 hl⟩⟩
    obtain ⟨i, l, q, hl1, hl2⟩ := hfl
    have HO1 := Lib.hid ho1; have HL1 := Lib.hid hl1; have HL2 := Lib.hid hl2
    obtain ⟨L, hL⟩ : ∃ L, lcmL m1 m2 = L := ⟨_, rfl⟩
    rw [hL] at HI HS HL2
    clear f1 f2 l1 l2 hL0 hsl ho1 ho2 ho3 hl1 hl2 hL
    go_wp2_with fail
    refine (HI.out _).mono ?_
    rintro e w2 ⟨rfl, hb2⟩
    have Q2 := Q1.later hb2
    have R2 := R1.later hb2
    have B2 := B1.trans (hb2.mono B1.size)
    clear B1 hb2 Q1 R1
    have cQ0 := Q2.cell0
    have cQ1 := Q2.cell1
    have cR0 := R2.cell0
    have cR1 := R2.cell1
    go_wp2_with fail
    refine (HS.out _).mono ?_
    rintro e w3 ⟨rfl, hb3⟩
    have Q3 := Q2.later hb3
    have R3 := R2.later hb3
    have B3 := B2.trans (hb3.mono B2.size)
    clear B2 hb3 Q2 R2
    have cQ0 := Q3.cell0
    have cQ1 := Q3.cell1
    have cR0 := R3.cell0
    have cR1 := R3.cell1
    go_wp2_with fail
    refine (HO1.out _).mono ?_
    rintro e w4 ⟨rfl, hb4⟩
    have Q4 := (Q3.later hb4).alloc (.cells #[.int .i64 x, .int .i64 y] 24)
    have R4 := (R3.later hb4).alloc (.cells #[.int .i64 x, .int .i64 y] 24)
    have G4 := Box2.new w4 24 (.int .i64 x) (.int .i64 y)
    have B4 := (B3.trans (hb4.mono B3.size)).alloc (B3.trans (hb4.mono B3.size)).size (.cells #[.int .i64 x, .int .i64 y] 24)
    clear B3 hb4 Q3 R3
    have cQ0 := Q4.cell0
    have cQ1 := Q4.cell1
    have cR0 := R4.cell0
    have cR1 := R4.cell1
    have cG0 := G4.cell0
    have cG1 := G4.cell1
    go_wp2_with fail
    refine (HL1.out _).mono ?_
    rintro e w5 ⟨rfl, hb5⟩
    have Q5 := Q4.later hb5
    have R5 := R4.later hb5
    have G5 := G4.later hb5
    have B5 := B4.trans (hb5.mono B4.size)
    clear B4 hb5 Q4 R4 G4
    have cQ0 := Q5.cell0
    have cQ1 := Q5.cell1
    have cR0 := R5.cell0
    have cR1 := R5.cell1
    have cG0 := G5.cell0
    have cG1 := G5.cell1
    cases p with
    | false =>
      go_wp2_with fail
      go_ret
      exact ⟨rfl, B5⟩
    | true =>
      obtain ⟨rfl, q1, q2⟩ := HL2.out rfl
      have q3 : L % l = 0 := Nat.mod_eq_zero_of_dvd q2
      have q4 : ¬ l = 0 := by omega
      have q5 : (L : Int) % (l : Int) = 0 := by omega
      clear q2 q3
      go_wp2_with fail
      go_ret
      exact ⟨rfl, B5⟩

end Go.Proofs.Ytoiofkijinlllac
