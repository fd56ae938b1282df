/-
  The law FnLess's walk.
-/
import Derived.Test.YtoiofkijinlllacDrawU
import Derived.Test.YtoiofkijinlllacSumB
import Derived.Test.YtoiofkijinlllacSumL
import Derived.Test.YtoiofkijinlllacLists
import Derived.Test.YtoiofkijinlllacPMath
import Derived.Deep.QuietTactic
import Derived.BigQuiet
import Derived.Deep.RegionHeld3
namespace Go.Proofs.Ytoiofkijinlllac
open Go.RowKit

set_option maxRecDepth 100000 in
set_option maxHeartbeats 4000000 in
theorem lawLess_any (H : ImSumLess) (a : Option Addr) (len cap : Nat) (zs : List Int) (w : World) (r : IsRow .u8 w a len cap zs) :
    Calls Try.prog 5 #[.slice a len cap] w fun e w' => e = .returned (.bool true) ∧ Below w.heap.size w w' := by
  have hB := byt_of_row r
  clear r
  by_cases hl : 1048576 < len
  · have hl' : (1048576 : Int) < (len : Int) := by omega
    go_enter Try.func5, Try.ntmps5
    go_wp2
    go_ret
    exact ⟨rfl, Below.refl _ _⟩
  have hl' : decide ((1048576 : Int) < (len : Int)) = false := by simp; omega
  go_enter Try.func5, Try.ntmps5
  go_wp2_with fail
  refine (drawSumLess_any a len cap _ hB).mono ?_
  rintro e w1 ⟨b, t, n, u, m, rfl, hb1⟩
  clear hl hB
  have Q1 := (Box2.new w1 24 (.int .i64 t) (.int .i64 n)).alloc (.cells #[.int .i64 u, .int .i64 m] 24)
  have R1 : Box2 _ (w1.heap.size + 1) 24 (.int .i64 u) (.int .i64 m) := Box2.newAt (W := w1.alloc (.cells #[.int .i64 t, .int .i64 n] 24)) (by simp)
  have B1 := (hb1.alloc hb1.size (.cells #[.int .i64 t, .int .i64 n] 24)).alloc (hb1.alloc hb1.size _).size (.cells #[.int .i64 u, .int .i64 m] 24)
  clear hb1
  have cQ0 := Q1.cell0
  have cQ1 := Q1.cell1
  have cR0 := R1.cell0
  have cR1 := R1.cell1
  cases h : tldB b t n && tldB b u m with
  | false =>
    have HI := Lib.hid (H.1 b t n u m h); have HS := Lib.hid (specSumLess_no b t n u m h)
    clear h
    go_wp2_with fail
    refine (HI.out _).mono ?_
    rintro e w2 ⟨rfl, hb2⟩
    have Q2 := Q1.later hb2
    have R2 := R1.later hb2
    have B2 := B1.trans (hb2.mono B1.size)
    clear B1 hb2 Q1 R1
    have cQ0 := Q2.cell0
    have cQ1 := Q2.cell1
    have cR0 := R2.cell0
    have cR1 := R2.cell1
    go_wp2_with fail
    refine (HS.out _).mono ?_
    rintro e w3 ⟨rfl, hb3⟩
    have Q3 := Q2.later hb3
    have R3 := R2.later hb3
    have B3 := B2.trans (hb3.mono B2.size)
    clear B2 hb3 Q2 R2
    have cQ0 := Q3.cell0
    have cQ1 := Q3.cell1
    have cR0 := R3.cell0
    have cR1 := R3.cell1
    go_wp2_with fail
    go_ret
    exact ⟨rfl, B3⟩
  | true =>
    obtain ⟨b, T, B, U, C, rfl, rfl, rfl, rfl, rfl, h3, h4, f1, f2⟩ := tld_and h
    clear h
    have hi := H.2 b T B U C h3 h4 f1 f2
    have hs := specSumLess_yes b T B U C h3 h4 f1 f2
    have hc := H.2 b U C T B h3 h4 f2 f1
    obtain ⟨p, hp⟩ : ∃ p, decide (T * C < U * B) = p := ⟨_, rfl⟩
    rw [hp] at hi hs
    cases p with
    | false =>
      have HI := Lib.hid hi; have HS := Lib.hid hs
      clear f1 f2 hi hs hc hp
      go_wp2_with fail
      refine (HI.out _).mono ?_
      rintro e w2 ⟨rfl, hb2⟩
      have Q2 := Q1.later hb2
      have R2 := R1.later hb2
      have B2 := B1.trans (hb2.mono B1.size)
      clear B1 hb2 Q1 R1
      have cQ0 := Q2.cell0
      have cQ1 := Q2.cell1
      have cR0 := R2.cell0
      have cR1 := R2.cell1
      go_wp2_with fail
      refine (HS.out _).mono ?_
      rintro e w3 ⟨rfl, hb3⟩
      have Q3 := Q2.later hb3
      have R3 := R2.later hb3
      have B3 := B2.trans (hb3.mono B2.size)
      clear B2 hb3 Q2 R2
      have cQ0 := Q3.cell0
      have cQ1 := Q3.cell1
      have cR0 := R3.cell0
      have cR1 := R3.cell1
      go_wp2_with fail
      go_ret
      exact ⟨rfl, B3⟩
    | true =>
      have hlt := of_decide_eq_true hp
      rw [decide_eq_false (show ¬ U * B < T * C by omega)] at hc
      have HI := Lib.hid hi; have HS := Lib.hid hs; have HC : Hid (∀ wx : World, Calls Try.prog 15 #[.int .i64 b, .agg #[.int .i64 U, .int .i64 C], .agg #[.int .i64 T, .int .i64 B]] wx fun e w' => e = .returned (.bool false) ∧ Below wx.heap.size wx w') := hc
      have HD1 : Hid (Gives 17 #[.int .i64 b, .agg #[.int .i64 T, .int .i64 B], .int .i64 200] (digL b T B 200) true) := implFracDigits_yesG b T B 200 (f1.told h3 h4) f1.lt f1.cop f1.bot h3 h4 (by omega)
      have HD2 : Hid (Gives 17 #[.int .i64 b, .agg #[.int .i64 U, .int .i64 C], .int .i64 200] (digL b U C 200) true) := implFracDigits_yesG b U C 200 (f2.told h3 h4) f2.lt f2.cop f2.bot h3 h4 (by omega)
      obtain ⟨N, hN20, hN1, hN2⟩ := less_place h3 f1 f2 hlt
      have HN1 := Lib.hid hN1; have HN2 := Lib.hid hN2
      have hlx := digL_len b T B 200
      have hly := digL_len b U C 200
      clear f1 f2 hi hs hc hp hlt hN1 hN2
      go_wp2_with fail
      refine (HI.out _).mono ?_
      rintro e w2 ⟨rfl, hb2⟩
      have Q2 := Q1.later hb2
      have R2 := R1.later hb2
      have B2 := B1.trans (hb2.mono B1.size)
      clear B1 hb2 Q1 R1
      have cQ0 := Q2.cell0
      have cQ1 := Q2.cell1
      have cR0 := R2.cell0
      have cR1 := R2.cell1
      go_wp2_with fail
      refine (HS.out _).mono ?_
      rintro e w3 ⟨rfl, hb3⟩
      have Q3 := Q2.later hb3
      have R3 := R2.later hb3
      have B3 := B2.trans (hb3.mono B2.size)
      clear B2 hb3 Q2 R2
      have cQ0 := Q3.cell0
      have cQ1 := Q3.cell1
      have cR0 := R3.cell0
      have cR1 := R3.cell1
      go_wp2_with fail
      refine (HD1.out _).mono ?_
      rintro e w4 ⟨x, rfl, lx4, hb4⟩
      have Q4 := Q3.later hb4
      have R4 := R3.later hb4
      have B4 := B3.trans (hb4.mono B3.size)
      clear B3 hb4 Q3 R3
      have cQ0 := Q4.cell0
      have cQ1 := Q4.cell1
      have cR0 := R4.cell0
      have cR1 := R4.cell1
      go_wp2_with fail
      refine (HD2.out _).mono ?_
      rintro e w5 ⟨y, rfl, ly5, hb5⟩
      have Q5 := Q4.later hb5
      have R5 := R4.later hb5
      have lx5 := lx4.later hb5
      have B5 := B4.trans (hb5.mono B4.size)
      clear B4 hb5 Q4 R4 lx4
      have cQ0 := Q5.cell0
      have cQ1 := Q5.cell1
      have cR0 := R5.cell0
      have cR1 := R5.cell1
      obtain ⟨gx, ox, cx, rfl, _, _, _, _⟩ := slc_some lx5 (by omega)
      obtain ⟨gy, oy, cy, rfl, _, _, _, _⟩ := slc_some ly5 (by omega)
      rw [hlx] at lx5 ⊢
      rw [hly] at ly5 ⊢
      have X5 : CellsR w5 gx ox 200 (fun k => dig b T B k) := fun k hk => by
        have := Slc.cell hlx lx5 k hk
        rwa [digL_get _ _ _ _ _ hk] at this
      have Y5 : CellsR w5 gy oy 200 (fun k => dig b U C k) := fun k hk => by
        have := Slc.cell hly ly5 k hk
        rwa [digL_get _ _ _ _ _ hk] at this
      clear lx5 ly5 hlx hly cQ0 cQ1 cR0 cR1 HI HS HD1 HD2
      go_wp2_with fail
      go_loopw [12] (fun i' wr => ∃ i : Nat, i ≤ N ∧ i' = .int .i64 i ∧ CellsR wr gx ox 200 (fun k => dig b T B k) ∧ CellsR wr gy oy 200 (fun k => dig b U C k) ∧ Box2 wr w1.heap.size 24 (.int .i64 T) (.int .i64 B) ∧ Box2 wr (w1.heap.size + 1) 24 (.int .i64 U) (.int .i64 C) ∧ Below w.heap.size w wr) (fun i' _ => 200 - (intOf i').toNat)
      case atStart => exact ⟨0, by omega, rfl, X5, Y5, Q5, R5, B5⟩
      case round =>
        clear X5 Y5 Q5 R5 B5
        obtain ⟨i, hi, rfl, X, Y, Q, R, hb⟩ := hrel
        have j0 : (i : Int) < 200 := by omega
        have j1 : (0 : Int) ≤ (i : Int) := by omega
        have kx : wr.cell? ⟨gx, ox + i, none⟩ = some (.int .i64 (dig b T B i)) := X i (by omega)
        have ky : wr.cell? ⟨gy, oy + i, none⟩ = some (.int .i64 (dig b U C i)) := Y i (by omega)
        by_cases hiN : i < N
        · have hd := HN2.out i hiN
          rw [← hd] at ky
          have HX := Lib.hid X; have HY := Lib.hid Y
          clear hd X Y
          revert kx ky
          generalize dig b T B i = dv
          intro kx ky
          go_wp2_with fail
          go_quiet (fail)
          go_wp2
          go_roundw
          case rel => exact ⟨i + 1, by omega, by go_num, HX.out, HY.out, Q, R, below_drewN hb _⟩
          case measure => simp [intOf]; omega
        · obtain rfl : i = N := by omega
          have hd := HN1.out
          have hd' : ((dig b T B i : Int) == (dig b U C i : Int)) = false := by simp; omega
          have hdl : (dig b T B i : Int) < (dig b U C i : Int) := by omega
          have i200 : ((i : Int) == 200) = false := by simp; omega
          clear hd X Y HN1 HN2
          revert kx ky hd' hdl
          generalize dig b T B i = dx
          generalize dig b U C i = dy
          intro kx ky hd' hdl
          go_wp2_with fail
          go_quiet (fail)
          go_wp2
          go_region_held3 (fun w' => (w'.cell? ⟨w1.heap.size, 0, none⟩ = some (.int .i64 T) ∧ w'.cell? ⟨w1.heap.size, 1, none⟩ = some (.int .i64 B) ∧ w'.cell? ⟨w1.heap.size + 1, 0, none⟩ = some (.int .i64 U) ∧ w'.cell? ⟨w1.heap.size + 1, 1, none⟩ = some (.int .i64 C) ∧ w'.cell? ⟨gx, ox + i, none⟩ = some (.int .i64 dx) ∧ w'.cell? ⟨gy, oy + i, none⟩ = some (.int .i64 dy)) ∧ Below w.heap.size w w' ∧ Box2 w' w1.heap.size 24 (.int .i64 T) (.int .i64 B) ∧ Box2 w' (w1.heap.size + 1) 24 (.int .i64 U) (.int .i64 C)) (first | exact ⟨⟨by assumption, by assumption, by assumption, by assumption, by assumption, by assumption⟩, by assumption, by assumption, by assumption⟩ | exact ⟨⟨Box2.cell0 Q, Box2.cell1 Q, Box2.cell0 R, Box2.cell1 R, kx, ky⟩, (below_drewN hb _).drew, Q, R⟩)
            (first | (go_at_call 15; (with_reducible refine Calls.mono (HC.out _) ?_); rintro e w7 ⟨rfl, hb7⟩; have Q7 : Box2 w7 w1.heap.size 24 (.int .i64 T) (.int .i64 B) := Box2.later (by first | assumption | exact Q) hb7; have R7 : Box2 w7 (w1.heap.size + 1) 24 (.int .i64 U) (.int .i64 C) := Box2.later (by first | assumption | exact R) hb7; have e0 := Q7.cell0; have e1 := Q7.cell1; have e2 := R7.cell0; have e3 := R7.cell1; have hbw : Below w.heap.size w w7 := Below.trans (by first | assumption | exact (below_drewN hb _).drew) (Below.mono hb7 hb.size); have kx7 : w7.cell? ⟨gx, ox + i, none⟩ = some (.int .i64 dx) := (Below.cell (p := ⟨gx, ox + i, none⟩) hb7 (cell_lt kx)).trans kx; have ky7 : w7.cell? ⟨gy, oy + i, none⟩ = some (.int .i64 dy) := (Below.cell (p := ⟨gy, oy + i, none⟩) hb7 (cell_lt ky)).trans ky))
          all_goals (
            go_wp2
            go_ret
            exact ⟨rfl, hbw⟩)

end Go.Proofs.Ytoiofkijinlllac
