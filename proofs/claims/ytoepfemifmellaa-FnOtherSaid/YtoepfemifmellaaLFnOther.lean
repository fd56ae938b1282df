/-
  The law FnOther's walk.
-/
import Derived.Test.YtoepfemifmellaaDrawS
import Derived.Test.YtoepfemifmellaaLists
import Derived.Test.YtoepfemifmellaaOther
import Derived.Test.YtoepfemifmellaaEndsLaw
import Derived.Test.YtoepfemifmellaaPMath4
import Derived.Deep.QuietTactic
import Derived.BigQuiet
namespace Go.Proofs.Ytoepfemifmellaa
open Go.RowKit

set_option maxRecDepth 100000 in
set_option maxHeartbeats 4000000 in
theorem lawOther_any (a : Option Addr) (len cap : Nat) (zs : List Int) (w : World) (r : IsRow .u8 w a len cap zs) :
    Calls Try.prog 4 #[.slice a len cap] w fun e w' => e = .returned (.bool true) ∧ Below w.heap.size w w' := by
  have hB := byt_of_row r
  clear r
  by_cases hl : 1048576 < len
  · have hl' : (1048576 : Int) < (len : Int) := by omega
    go_enter Try.func4, Try.ntmps4
    go_wp2
    go_ret
    exact ⟨rfl, Below.refl _ _⟩
  have hl' : decide ((1048576 : Int) < (len : Int)) = false := by simp; omega
  go_enter Try.func4, Try.ntmps4
  go_wp2_with fail
  refine (drawRestOther_any a len cap _ hB).mono ?_
  rintro e w1 ⟨t, n, d0, d1, d2, rfl, hb1⟩
  obtain ⟨T, rfl⟩ := Int.eq_ofNat_of_zero_le d0
  obtain ⟨B, rfl⟩ := Int.eq_ofNat_of_zero_le (show 0 ≤ n by omega)
  clear hl hB d0
  have Q1 := Box2.new w1 27 (.int .i64 T) (.int .i64 B)
  have B1 := hb1.alloc hb1.size (.cells #[.int .i64 T, .int .i64 B] 27)
  clear hb1
  have cQ0 := Q1.cell0
  have cQ1 := Q1.cell1
  cases h : finB T B with
  | false =>
    go_wp2_with fail
    refine (implRestOther_no _ _ h _).mono ?_
    rintro e w2 ⟨rfl, hb2⟩
    have Q2 := (Q1.later hb2).alloc (.cells #[.int .i64 0, .int .i64 0] 27)
    have O2 := Box2.new w2 27 (.int .i64 0) (.int .i64 0)
    have B2 := (B1.trans (hb2.mono B1.size)).alloc (B1.trans (hb2.mono B1.size)).size (.cells #[.int .i64 0, .int .i64 0] 27)
    clear B1 hb2 Q1
    have cQ0 := Q2.cell0
    have cQ1 := Q2.cell1
    have cO0 := O2.cell0
    have cO1 := O2.cell1
    go_wp2_with fail
    refine (specRestOther_no _ _ h _).mono ?_
    rintro e w3 ⟨rfl, hb3⟩
    have Q3 := (Q2.later hb3).alloc (.cells #[.int .i64 0, .int .i64 0] 27)
    have O3 := (O2.later hb3).alloc (.cells #[.int .i64 0, .int .i64 0] 27)
    have W3 := Box2.new w3 27 (.int .i64 0) (.int .i64 0)
    have B3 := (B2.trans (hb3.mono B2.size)).alloc (B2.trans (hb3.mono B2.size)).size (.cells #[.int .i64 0, .int .i64 0] 27)
    clear B2 hb3 Q2 O2
    have cQ0 := Q3.cell0
    have cQ1 := Q3.cell1
    have cO0 := O3.cell0
    have cO1 := O3.cell1
    have cW0 := W3.cell0
    have cW1 := W3.cell1
    go_wp2_with fail
    go_ret
    exact ⟨rfl, B3⟩
  | true =>
    rcases Nat.eq_zero_or_pos T with h0 | h0
    · subst h0
      go_wp2_with fail
      refine (implRestOther_top _ h _).mono ?_
      rintro e w2 ⟨rfl, hb2⟩
      have Q2 := (Q1.later hb2).alloc (.cells #[.int .i64 0, .int .i64 0] 27)
      have O2 := Box2.new w2 27 (.int .i64 0) (.int .i64 0)
      have B2 := (B1.trans (hb2.mono B1.size)).alloc (B1.trans (hb2.mono B1.size)).size (.cells #[.int .i64 0, .int .i64 0] 27)
      clear B1 hb2 Q1
      have cQ0 := Q2.cell0
      have cQ1 := Q2.cell1
      have cO0 := O2.cell0
      have cO1 := O2.cell1
      go_wp2_with fail
      refine (specRestOther_top _ h _).mono ?_
      rintro e w3 ⟨rfl, hb3⟩
      have Q3 := (Q2.later hb3).alloc (.cells #[.int .i64 0, .int .i64 0] 27)
      have O3 := (O2.later hb3).alloc (.cells #[.int .i64 0, .int .i64 0] 27)
      have W3 := Box2.new w3 27 (.int .i64 0) (.int .i64 0)
      have B3 := (B2.trans (hb3.mono B2.size)).alloc (B2.trans (hb3.mono B2.size)).size (.cells #[.int .i64 0, .int .i64 0] 27)
      clear B2 hb3 Q2 O2
      have cQ0 := Q3.cell0
      have cQ1 := Q3.cell1
      have cO0 := O3.cell0
      have cO1 := O3.cell1
      have cW0 := W3.cell0
      have cW1 := W3.cell1
      go_wp2_with fail
      go_ret
      exact ⟨rfl, B3⟩
    · have h0' : ((T : Int) == 0) = false := by simp; omega
      obtain ⟨f1, f2, f3, f4, f5⟩ := (finB_iff T B).1 h
      rw [gcdI_nat] at f5
      have hg : Nat.gcd T B = 1 := by omega
      have hT : T < B := by omega
      have hB : B ≤ 1000 := by omega
      obtain ⟨hf', hg', hT'⟩ := fin_other h h0
      obtain ⟨tl, _⟩ := tld_of_fin h 10 (by omega) (by omega)
      obtain ⟨tl', _⟩ := tld_of_fin hf' 10 (by omega) (by omega)
      obtain ⟨n, m, hnm⟩ := len_some (b := 10) hT hg
      have h1' : (((B - T : Nat) : Int) == 0) = false := by simp; omega
      have eBT : (B : Int) - T = ((B - T : Nat) : Int) := by omega
      have eTB : (B : Int) - ((B - T : Nat) : Int) = (T : Int) := by omega
      have O1 : ∀ w : World, Calls Try.prog 13 #[.agg #[.int .i64 T, .int .i64 B]] w fun e w' => e = .returned (.tuple #[.agg #[.int .i64 ((B - T : Nat) : Int), .int .i64 B], .bool true]) ∧ Below w.heap.size w w' := fun w => by
        have := implRestOther_yes T B h h0' w
        rwa [eBT] at this
      have O2 : ∀ w : World, Calls Try.prog 14 #[.agg #[.int .i64 T, .int .i64 B]] w fun e w' => e = .returned (.tuple #[.agg #[.int .i64 ((B - T : Nat) : Int), .int .i64 B], .bool true]) ∧ Below w.heap.size w w' := fun w => by
        have := specRestOther_yes T B h h0' w
        rwa [eBT] at this
      have O3 : ∀ w : World, Calls Try.prog 13 #[.agg #[.int .i64 ((B - T : Nat) : Int), .int .i64 B]] w fun e w' => e = .returned (.tuple #[.agg #[.int .i64 T, .int .i64 B], .bool true]) ∧ Below w.heap.size w w' := fun w => by
        have := implRestOther_yes _ B hf' h1' w
        rwa [eTB] at this
      have D1 : Gives 10 #[.int .i64 10, .agg #[.int .i64 T, .int .i64 B], .int .i64 30] (digL 10 T B 30) true := fun w => implFracDigits_yesG 10 T B 30 tl hT hg hB (by omega) (by omega) (by omega) w
      have D2 : Gives 10 #[.int .i64 10, .agg #[.int .i64 ((B - T : Nat) : Int), .int .i64 B], .int .i64 30] (digL 10 (B - T) B 30) true := fun w => implFracDigits_yesG 10 (B - T) B 30 tl' hT' hg' hB (by omega) (by omega) (by omega) w
      have EN : ∀ q, decide (m = 1 ∧ dig 10 T B n = 0) = q → ∀ w : World, Calls Try.prog 15 #[.int .i64 10, .agg #[.int .i64 T, .int .i64 B]] w fun e w' => e = .returned (.bool q) ∧ Below w.heap.size w w' := fun q hq w => implFracEnds_is 10 T B n m w tl hT hg hB (by omega) (by omega) hnm hq
      have HO1 := Lib.hid O1; have HO2 := Lib.hid O2; have HO3 := Lib.hid O3; have HD1 := Lib.hid D1; have HD2 := Lib.hid D2; have HEN := Lib.hid EN
      have hlx := digL_len 10 T B 30
      have hly := digL_len 10 (B - T) B 30
      clear O1 O2 O3 D1 D2 EN eBT eTB f5 hg hg' hf' h1' h0' tl tl' f1 f2 f3 f4
      obtain ⟨U, hU⟩ : ∃ U, B - T = U := ⟨_, rfl⟩
      rw [hU] at HO1 HO2 HO3 HD2 hly
      have HU := Lib.hid hU; clear hU
      go_wp2_with fail
      refine (HO1.out _).mono ?_
      rintro e w2 ⟨rfl, hb2⟩
      have Q2 := (Q1.later hb2).alloc (.cells #[.int .i64 U, .int .i64 B] 27)
      have O2 := Box2.new w2 27 (.int .i64 U) (.int .i64 B)
      have B2 := (B1.trans (hb2.mono B1.size)).alloc (B1.trans (hb2.mono B1.size)).size (.cells #[.int .i64 U, .int .i64 B] 27)
      clear B1 hb2 Q1
      have cQ0 := Q2.cell0
      have cQ1 := Q2.cell1
      have cO0 := O2.cell0
      have cO1 := O2.cell1
      go_wp2_with fail
      refine (HO2.out _).mono ?_
      rintro e w3 ⟨rfl, hb3⟩
      have Q3 := (Q2.later hb3).alloc (.cells #[.int .i64 U, .int .i64 B] 27)
      have O3 := (O2.later hb3).alloc (.cells #[.int .i64 U, .int .i64 B] 27)
      have W3 := Box2.new w3 27 (.int .i64 U) (.int .i64 B)
      have B3 := (B2.trans (hb3.mono B2.size)).alloc (B2.trans (hb3.mono B2.size)).size (.cells #[.int .i64 U, .int .i64 B] 27)
      clear B2 hb3 Q2 O2
      have cQ0 := Q3.cell0
      have cQ1 := Q3.cell1
      have cO0 := O3.cell0
      have cO1 := O3.cell1
      have cW0 := W3.cell0
      have cW1 := W3.cell1
      clear W3
      go_wp2_with fail
      refine (HO3.out _).mono ?_
      rintro e w4 ⟨rfl, hb4⟩
      have Q4 := (Q3.later hb4).alloc (.cells #[.int .i64 T, .int .i64 B] 27)
      have O4 := (O3.later hb4).alloc (.cells #[.int .i64 T, .int .i64 B] 27)
      have G4 := Box2.new w4 27 (.int .i64 T) (.int .i64 B)
      have B4 := (B3.trans (hb4.mono B3.size)).alloc (B3.trans (hb4.mono B3.size)).size (.cells #[.int .i64 T, .int .i64 B] 27)
      clear B3 hb4 Q3 O3
      have cQ0 := Q4.cell0
      have cQ1 := Q4.cell1
      have cO0 := O4.cell0
      have cO1 := O4.cell1
      have cG0 := G4.cell0
      have cG1 := G4.cell1
      go_wp2_with fail
      refine (HD1.out _).mono ?_
      rintro e w5 ⟨x, rfl, x5, hb5⟩
      have Q5 := (Q4.later hb5)
      have O5 := (O4.later hb5)
      have G5 := (G4.later hb5)
      have B5 := B4.trans (hb5.mono B4.size)
      clear B4 hb5 Q4 O4 G4
      have cQ0 := Q5.cell0
      have cQ1 := Q5.cell1
      have cO0 := O5.cell0
      have cO1 := O5.cell1
      have cG0 := G5.cell0
      have cG1 := G5.cell1
      go_wp2_with fail
      refine (HD2.out _).mono ?_
      rintro e w6 ⟨y, rfl, y6, hb6⟩
      have Q6 := (Q5.later hb6)
      have O6 := (O5.later hb6)
      have G6 := (G5.later hb6)
      have B6 := B5.trans (hb6.mono B5.size)
      have x6 := x5.later hb6
      clear B5 hb6 Q5 O5 G5 x5
      have cQ0 := Q6.cell0
      have cQ1 := Q6.cell1
      have cO0 := O6.cell0
      have cO1 := O6.cell1
      have cG0 := G6.cell0
      have cG1 := G6.cell1
      obtain ⟨gx, ox, cx, rfl, _, _, _, _⟩ := slc_some x6 (by omega)
      obtain ⟨gy, oy, cy, rfl, _, _, _, _⟩ := slc_some y6 (by omega)
      rw [hlx] at x6 ⊢
      rw [hly] at y6 ⊢
      have X6 : CellsR w6 gx ox 30 (fun k => dig 10 T B k) := fun k hk => by
        have := Slc.cell hlx x6 k hk
        rwa [digL_get _ _ _ _ _ hk] at this
      have Y6 : CellsR w6 gy oy 30 (fun k => dig 10 U B k) := fun k hk => by
        have := Slc.cell hly y6 k hk
        rwa [digL_get _ _ _ _ _ hk] at this
      clear cQ0 cQ1 cO0 cO1 cG0 cG1 O6 x6 y6
      go_wp2_with fail
      go_loopw [14] (fun i' wr => ∃ i : Nat, i ≤ 30 ∧ i' = .int .i64 i ∧ CellsR wr gx ox 30 (fun k => dig 10 T B k) ∧ CellsR wr gy oy 30 (fun k => dig 10 U B k) ∧ Box2 wr w1.heap.size 27 (.int .i64 T) (.int .i64 B) ∧ Box2 wr w4.heap.size 27 (.int .i64 T) (.int .i64 B) ∧ Below w.heap.size w wr) (fun i' _ => 30 - (intOf i').toNat)
      case atStart => exact ⟨0, by omega, rfl, X6, Y6, Q6, G6, B6⟩
      case round =>
        obtain ⟨i, hi, rfl, hx, hy, hq, hgb, hbel⟩ := hrel
        have cQ0 := hq.cell0
        have cQ1 := hq.cell1
        by_cases hlt : i < 30
        · have j0 : (i : Int) < 30 := by omega
          have j1 : (0 : Int) ≤ i := by omega
          cases he : decide (m = 1 ∧ dig 10 T B n = 0) with
          | true =>
            go_wp2_with fail
            refine (HEN.out true he _).mono ?_
            rintro e w7 ⟨rfl, hb7⟩
            have q7 := hq.later hb7
            have g7 := hgb.later hb7
            have B7 := hbel.trans (hb7.mono hbel.size)
            clear cQ0 cQ1
            have cQ0 := q7.cell0
            have cQ1 := q7.cell1
            have cG0 := g7.cell0
            have cG1 := g7.cell1
            go_wp2_with fail
            go_ret
            exact ⟨rfl, B7⟩
          | false =>
            have hz : ∀ i, rst 10 T B i ≠ 0 := fun i h0 => by
              rw [end_of_zero hnm h0] at he
              cases he
            have hsum := other_dig (b := 10) hT (by omega) hz i
            rw [HU.out] at hsum
            have v1 : IntKind.i64.wrap ((dig 10 T B i : Int) + (dig 10 U B i : Int)) = 9 := by rw [wrap_in _ (by omega) (by omega)]; omega
            have v2 : (dig 10 T B i : Int) + (dig 10 U B i : Int) = 9 := by omega
            clear hz hsum
            go_wp2_with fail
            refine (HEN.out false he _).mono ?_
            rintro e w7 ⟨rfl, hb7⟩
            have x7 := hx.later hb7
            have y7 := hy.later hb7
            have q7 := hq.later hb7
            have g7 := hgb.later hb7
            have B7 := hbel.trans (hb7.mono hbel.size)
            have kx := x7 i hlt
            have ky := y7 i hlt
            clear cQ0 cQ1
            go_wp2_with fail
            go_quiet (fail)
            go_wp2
            go_roundw
            case rel => exact ⟨i + 1, by omega, by go_num, x7, y7, q7, g7, below_drewN B7 _⟩
            case measure => simp [intOf]; omega
        · have j0 : decide ((i : Int) < 30) = false := by simp; omega
          have cG0 := hgb.cell0
          have cG1 := hgb.cell1
          go_wp2_with fail
          go_ret
          exact ⟨rfl, hbel⟩

end Go.Proofs.Ytoepfemifmellaa
