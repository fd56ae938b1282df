/-
  The law FnRound's walk.
-/
import Derived.Test.YtkhhkfdplbipeaaDrawS
import Derived.Test.YtkhhkfdplbipeaaLists
import Derived.Test.YtkhhkfdplbipeaaSame
import Derived.Test.YtkhhkfdplbipeaaPMath3
import Derived.Deep.QuietTactic
import Derived.BigQuiet
namespace Go.Proofs.Ytkhhkfdplbipeaa
open Go.RowKit

set_option maxHeartbeats 4000000 in
theorem lawRound_any (a : Option Addr) (len cap : Nat) (zs : List Int) (w : World) (r : IsRow .u8 w a len cap zs) :
    Calls Try.prog 5 #[.slice a len cap] w fun e w' => e = .returned (.bool true) ∧ Below w.heap.size w w' := by
  have hB := byt_of_row r
  clear r
  by_cases hl : 1048576 < len
  · have hl' : (1048576 : Int) < (len : Int) := by omega
    go_enter Try.func5, Try.ntmps5
    go_wp2
    go_ret
    exact ⟨rfl, Below.refl _ _⟩
  have hl' : decide ((1048576 : Int) < (len : Int)) = false := by simp; omega
  go_enter Try.func5, Try.ntmps5
  go_wp2_with fail
  refine (drawFracRound_any a len cap _ hB).mono ?_
  rintro e w1 ⟨b, t, n, hd, rfl, hb1⟩
  obtain ⟨b, T, B, rfl, rfl, rfl, d1, d2, d3, d4⟩ := hd.nat
  clear hd hl hB
  have Q1 := Box2.new w1 24 (.int .i64 T) (.int .i64 B)
  have B1 := hb1.alloc hb1.size (.cells #[.int .i64 T, .int .i64 B] 24)
  clear hb1
  have c0 := Q1.cell0
  have c1 := Q1.cell1
  cases h : tldB b T B with
  | false =>
    go_wp2_with fail
    refine (implFracRound_no _ _ _ h _).mono ?_
    rintro e w2 ⟨v, rfl, v2, hb2⟩
    have Q2 := Q1.later hb2
    have B2 := B1.trans (hb2.mono B1.size)
    clear c0 c1 Q1 B1 hb2
    have c0 := Q2.cell0
    have c1 := Q2.cell1
    go_wp2_with fail
    refine (specFracRound_no _ _ _ h _).mono ?_
    rintro e w3 ⟨u, rfl, u3, hb3⟩
    have Q3 := Q2.later hb3
    have B3 := B2.trans (hb3.mono B2.size)
    have v3 := v2.later hb3
    clear c0 c1 Q2 B2 hb3 v2
    have c0 := Q3.cell0
    have c1 := Q3.cell1
    go_wp2_with fail
    refine (sameInts_any _ _ _ _ [] [] _ v3 u3 (by simp) (by simp)).mono ?_
    rintro e w4 ⟨rfl, hb4⟩
    have Q4 := Q3.later hb4
    have B4 := B3.trans (hb4.mono B3.size)
    have v4 := v3.later hb4
    have u4 := u3.later hb4
    clear c0 c1 Q3 B3 hb4 v3 u3
    have c0 := Q4.cell0
    have c1 := Q4.cell1
    go_wp2_with fail
    refine (sameInts_any _ _ _ _ [] [] _ v4 u4 (by simp) (by simp)).mono ?_
    rintro e w5 ⟨rfl, hb5⟩
    have Q5 := Q4.later hb5
    have B5 := B4.trans (hb5.mono B4.size)
    clear c0 c1 Q4 B4 hb5
    have c0 := Q5.cell0
    have c1 := Q5.cell1
    go_wp2_with fail
    go_ret
    exact ⟨rfl, B5⟩
  | true =>
    obtain ⟨h3, h4, hT, hB, hg⟩ := tld_facts h
    obtain ⟨n, m, hnm⟩ := len_some (b := b) hT hg
    have hle := hnm.le hT
    have hpos := hnm.pos
    have hly := rndL_len b T B n m
    have HG := Lib.hid hg; clear hg
    go_wp2_with fail
    refine (implFracRound_yes b T B n m h hT HG.out hB h3 h4 hnm _).mono ?_
    rintro e w2 ⟨v, rfl, v2, hb2⟩
    have Q2 := Q1.later hb2
    have B2 := B1.trans (hb2.mono B1.size)
    clear c0 c1 Q1 B1 hb2
    have c0 := Q2.cell0
    have c1 := Q2.cell1
    go_wp2_with fail
    refine (specFracRound_yes b T B n m h hT hB h3 h4 hnm _).mono ?_
    rintro e w3 ⟨u, rfl, u3, hb3⟩
    have Q3 := Q2.later hb3
    have B3 := B2.trans (hb3.mono B2.size)
    have v3 := v2.later hb3
    clear c0 c1 Q2 B2 hb3 v2
    have c0 := Q3.cell0
    have c1 := Q3.cell1
    go_wp2_with fail
    refine (sameInts_any _ _ _ _ (rndL b T B n m) (rndL b T B n m) _ v3 u3 (by omega) (by omega)).mono ?_
    rintro e w4 ⟨rfl, hb4⟩
    have Q4 := Q3.later hb4
    have B4 := B3.trans (hb4.mono B3.size)
    have v4 := v3.later hb4
    clear c0 c1 Q3 B3 hb4 v3
    have c0 := Q4.cell0
    have c1 := Q4.cell1
    have hxx : decide (rndL b T B n m = rndL b T B n m) = true := by simp
    rw [hxx]
    clear hxx
    obtain ⟨gv, ov, cv, rfl, _, _, _, _⟩ := slc_some v4 (by omega)
    rw [hly] at v4 ⊢
    have kc : ∀ k, k < m → w4.cell? ⟨gv, ov + k, none⟩ = some (.int .i64 (dig b T B (n + k))) := fun k hk => by
      have := Slc.cell hly v4 k hk
      rwa [rndL_get _ _ _ _ _ _ hk] at this
    have KC := Lib.hid kc; clear kc v4
    have ib : IntKind.i64.wrap ((b : Int) - 1) = (b : Int) - 1 := wrap_in _ (by omega) (by omega)
    obtain ⟨q0, hq0, hq1⟩ := not_most hT h3 hnm
    have HM : Hid (mostB b T B n m = false) := mostB_false hq0 hq1
    clear hq0 hq1
    go_wp2_with fail
    go_loop [10, 11] (fun most' i' => ∃ i : Nat, i ≤ m ∧ i' = .int .i64 i ∧ most' = .bool (mostB b T B n i)) (fun _ i' => m - (intOf i').toNat)
    case atStart => exact ⟨0, Nat.zero_le _, rfl, by simp [mostB]⟩
    case round =>
      obtain ⟨i, hi, rfl, rfl⟩ := hrel
      by_cases hlt : i < m
      · have kc := KC.out i hlt
        have j1 : (0 : Int) ≤ i := by omega
        have j2 : (i : Int) < m := by omega
        have HS := Lib.hid (mostB_succ b T B n i (by omega))
        cases hm : mostB b T B n i with
        | false =>
          go_wp2
          go_round
          case rel => exact ⟨i + 1, by omega, by go_num, by rw [HS.out, hm]; rfl⟩
          case measure => simp [intOf]; omega
        | true =>
          go_wp2
          go_round
          case rel => exact ⟨i + 1, by omega, by go_num, by rw [HS.out, hm]; rfl⟩
          case measure => simp [intOf]; omega
      · obtain rfl : m = i := by omega
        rw [HM.out]
        clear hlt hi
        go_wp2_with fail
        go_loopw [12] (fun j' wr => ∃ j : Nat, 1 ≤ j ∧ j ≤ m ∧ j' = .int .i64 j ∧ CellsR wr gv ov m (fun k => dig b T B (n + k)) ∧ Box2 wr w1.heap.size 24 (.int .i64 T) (.int .i64 B) ∧ Below w.heap.size w wr) (fun j' _ => m - (intOf j').toNat)
        case atStart => exact ⟨1, Nat.le_refl _, hpos, rfl, KC.out, Q4, B4⟩
        case round =>
          obtain ⟨j, hj1, hj2, rfl, hkc, hq, hbel⟩ := hrel
          have c0 := hq.cell0
          have c1 := hq.cell1
          by_cases hlt : j < m
          · have j0 : ¬ j = 0 := by omega
            have j3 : (j : Int) < m := by omega
            go_wp2_with fail
            go_loopw [13, 14] (fun again' i' wx => ∃ k : Nat, j ≤ k ∧ k ≤ m ∧ i' = .int .i64 k ∧ again' = .bool (agB b T B n m j k) ∧ CellsR wx gv ov m (fun k => dig b T B (n + k)) ∧ Box2 wx w1.heap.size 24 (.int .i64 T) (.int .i64 B) ∧ Below w.heap.size w wx) (fun _ i' _ => m - (intOf i').toNat)
            case atStart => exact ⟨j, Nat.le_refl _, hj2, rfl, by rw [agB_start _ _ _ _ _ _ (by omega)], hkc, hq, hbel⟩
            case round =>
              rename_i wx hrel
              obtain ⟨k, hk1, hk2, rfl, rfl, hkc', hq', hbel'⟩ := hrel
              cases ha : agB b T B n m j k with
              | false =>
                go_wp2
                go_roundw
                case rel => exact ⟨j + 1, by omega, by omega, by go_num, hkc', hq', hbel'⟩
                case measure => simp [intOf]; omega
              | true =>
                have hlk : k < m := by
                  rcases Nat.lt_or_ge k m with h0 | h0
                  · exact h0
                  · obtain rfl : k = m := by omega
                    rw [agB_end hT h3 hnm (by omega) hlt] at ha
                    cases ha
                have HA := Lib.hid (agB_succ hk1 ha)
                obtain ⟨d, rfl⟩ : ∃ d, k = j + d := ⟨k - j, by omega⟩
                have kc1 := hkc' (j + d) hlk
                have kc2 := hkc' d (by omega)
                have i5 : IntKind.i64.wrap ((j : Int) + d - j) = d := by rw [wrap_in _ (by omega) (by omega)]; omega
                have i6 : IntKind.i64.wrap (d : Int) = d := wrap_in _ (by omega) (by omega)
                have i7 : (0 : Int) ≤ (j : Int) + d := by omega
                have i8 : (j : Int) + d < m := by omega
                have i9 : (0 : Int) ≤ d := by omega
                have i10 : (d : Int) < m := by omega
                go_wp2_with fail
                go_quiet (fail)
                go_wp2
                go_roundw
                case rel => exact ⟨j + d + 1, by omega, by omega, by go_num, by rw [HA.out, show j + d - j = d by omega], hkc', hq', below_drewN hbel' _⟩
                case measure => simp [intOf]; omega
          · obtain rfl : m = j := by omega
            rcases Nat.lt_or_ge 1 m with hm1 | hm1
            · have i5 : ((m : Int) == 1) = false := by simp; omega
              have i6 : (m : Int) < B := by rcases round_short hT hnm with h0 | h0 <;> omega
              go_wp2
              go_ret
              exact ⟨rfl, hbel⟩
            · obtain rfl : m = 1 := by omega
              go_wp2
              go_ret
              exact ⟨rfl, hbel⟩

end Go.Proofs.Ytkhhkfdplbipeaa
