/-
  The law FnRests's walk.
-/
import Derived.Test.YtoepfemifmellaaDrawS
import Derived.Test.YtoepfemifmellaaLists
import Derived.Test.YtoepfemifmellaaSame
import Derived.Test.YtoepfemifmellaaRestL
import Derived.Test.YtoepfemifmellaaPMath
import Derived.Deep.QuietTactic
import Derived.BigQuiet
namespace Go.Proofs.Ytoepfemifmellaa
open Go.RowKit

set_option maxRecDepth 100000 in
set_option maxHeartbeats 4000000 in
theorem lawRests_any (a : Option Addr) (len cap : Nat) (zs : List Int) (w : World) (r : IsRow .u8 w a len cap zs) :
    Calls Try.prog 5 #[.slice a len cap] w fun e w' => e = .returned (.bool true) ∧ Below w.heap.size w w' := by
  have hB := byt_of_row r
  clear r
  by_cases hl : 1048576 < len
  · have hl' : (1048576 : Int) < (len : Int) := by omega
    go_enter Try.func5, Try.ntmps5
    go_wp2
    go_ret
    exact ⟨rfl, Below.refl _ _⟩
  have hl' : decide ((1048576 : Int) < (len : Int)) = false := by simp; omega
  go_enter Try.func5, Try.ntmps5
  go_wp2_with fail
  refine (drawRestList_any a len cap _ hB).mono ?_
  rintro e w1 ⟨b, t, n, hd, rfl, hb1⟩
  obtain ⟨b, T, B, rfl, rfl, rfl, d1, d2, d3, d4⟩ := hd.nat
  clear hd hl hB
  have Q1 := Box2.new w1 27 (.int .i64 T) (.int .i64 B)
  have B1 := hb1.alloc hb1.size (.cells #[.int .i64 T, .int .i64 B] 27)
  clear hb1
  have c0 := Q1.cell0
  have c1 := Q1.cell1
  cases h : tldB b T B with
  | false =>
    go_wp2_with fail
    refine (implRestList_no _ _ _ h _).mono ?_
    rintro e w2 ⟨v, rfl, v2, hb2⟩
    have Q2 := Q1.later hb2
    have B2 := B1.trans (hb2.mono B1.size)
    clear c0 c1 Q1 B1 hb2
    have c0 := Q2.cell0
    have c1 := Q2.cell1
    go_wp2_with fail
    refine (specRestList_no _ _ _ h _).mono ?_
    rintro e w3 ⟨u, rfl, u3, hb3⟩
    have Q3 := Q2.later hb3
    have B3 := B2.trans (hb3.mono B2.size)
    have v3 := v2.later hb3
    clear c0 c1 Q2 B2 hb3 v2
    have c0 := Q3.cell0
    have c1 := Q3.cell1
    go_wp2_with fail
    refine (sameInts_any _ _ _ _ [] [] _ v3 u3 (by simp) (by simp)).mono ?_
    rintro e w4 ⟨rfl, hb4⟩
    have Q4 := Q3.later hb4
    have B4 := B3.trans (hb4.mono B3.size)
    have v4 := v3.later hb4
    have u4 := u3.later hb4
    clear c0 c1 Q3 B3 hb4 v3 u3
    have c0 := Q4.cell0
    have c1 := Q4.cell1
    go_wp2_with fail
    refine (sameInts_any _ _ _ _ [] [] _ v4 u4 (by simp) (by simp)).mono ?_
    rintro e w5 ⟨rfl, hb5⟩
    have Q5 := Q4.later hb5
    have B5 := B4.trans (hb5.mono B4.size)
    clear c0 c1 Q4 B4 hb5
    have c0 := Q5.cell0
    have c1 := Q5.cell1
    go_wp2_with fail
    go_ret
    exact ⟨rfl, B5⟩
  | true =>
    obtain ⟨h3, h4, hT, hB, hg⟩ := tld_facts h
    obtain ⟨n, m, hnm⟩ := len_some (b := b) hT hg
    have hle := hnm.le hT
    have hpos := hnm.pos
    have hly := rrnL_len b T B n m
    have hll := rstL_len b T B (n + m)
    have HG := Lib.hid hg; clear hg
    go_wp2_with fail
    refine (implRestList_yes b T B n m h hT HG.out hB h3 h4 hnm _).mono ?_
    rintro e w2 ⟨v, rfl, v2, hb2⟩
    have Q2 := Q1.later hb2
    have B2 := B1.trans (hb2.mono B1.size)
    clear c0 c1 Q1 B1 hb2
    have c0 := Q2.cell0
    have c1 := Q2.cell1
    go_wp2_with fail
    refine (specRestList_yes b T B n m h hT hB h3 h4 hnm _).mono ?_
    rintro e w3 ⟨u, rfl, u3, hb3⟩
    have Q3 := Q2.later hb3
    have B3 := B2.trans (hb3.mono B2.size)
    have v3 := v2.later hb3
    clear c0 c1 Q2 B2 hb3 v2
    have c0 := Q3.cell0
    have c1 := Q3.cell1
    go_wp2_with fail
    refine (sameInts_any _ _ _ _ (rstL b T B (n + m)) (rstL b T B (n + m)) _ v3 u3 (by omega) (by omega)).mono ?_
    rintro e w4 ⟨rfl, hb4⟩
    have Q4 := Q3.later hb4
    have B4 := B3.trans (hb4.mono B3.size)
    have v4 := v3.later hb4
    clear c0 c1 Q3 B3 hb4 v3
    have c0 := Q4.cell0
    have c1 := Q4.cell1
    have hxx : decide (rstL b T B (n + m) = rstL b T B (n + m)) = true := by simp
    rw [hxx]
    clear hxx
    obtain ⟨gv, ov, cv, rfl, _, _, _, _⟩ := slc_some v4 (by omega)
    rw [hll] at v4 ⊢
    obtain ⟨L, hL⟩ : ∃ L, n + m = L := ⟨_, rfl⟩
    rw [hL] at v4 hll hle ⊢
    have HN := Lib.hid hnm; clear hnm
    have HLL := Lib.hid hL; clear hL
    have kc : ∀ k, k < L → w4.cell? ⟨gv, ov + k, none⟩ = some (.int .i64 (rst b T B k)) := fun k hk => by
      have := Slc.cell hll v4 k hk
      rwa [rstL_get _ _ _ _ _ hk] at this
    have KC : CellsR w4 gv ov L (fun k => rst b T B k) := kc
    clear kc v4
    by_cases hm : L < 200
    · have hm1 : (L : Int) < 200 := by omega
      have C : ∀ w : World, Calls Try.prog 10 #[.int .i64 b, .agg #[.int .i64 T, .int .i64 B], .int .i64 L] w fun e w' => ∃ v, e = .returned (.tuple #[v, .bool true]) ∧ Slc w.heap.size w' v (digL b T B L) ∧ Below w.heap.size w w' := fun w => implFracDigits_yesG b T B L h hT HG.out hB h3 h4 (by omega) w
      have HC := Lib.hid C; clear C
      have hlk := digL_len b T B L
      go_wp2_with fail
      refine (HC.out _).mono ?_
      rintro e w5 ⟨d, rfl, d5, hb5⟩
      have Q5 := Q4.later hb5
      have B5 := B4.trans (hb5.mono B4.size)
      have K5 : CellsR w5 gv ov L (fun k => rst b T B k) := KC.later hb5
      clear Q4 B4 KC hb5 c0 c1
      obtain ⟨ad, cd, rfl⟩ := slc_form d5
      rw [hlk] at d5 ⊢
      go_wp2_with fail
      go_loopw [11] (fun i' wr => ∃ i : Nat, i ≤ L ∧ i' = .int .i64 i ∧ CellsR wr gv ov L (fun k => rst b T B k) ∧ (∃ n₀, Slc n₀ wr (.slice ad (L) cd) (digL b T B (L))) ∧ Box2 wr w1.heap.size 27 (.int .i64 T) (.int .i64 B) ∧ Below w.heap.size w wr) (fun i' _ => L - (intOf i').toNat)
      case atStart => exact ⟨0, Nat.zero_le _, rfl, K5, ⟨_, d5⟩, Q5, B5⟩
      case round =>
        obtain ⟨i, hi, rfl, hkc, ⟨n1, hd⟩, hq, hbel⟩ := hrel
        have c0 := hq.cell0
        have c1 := hq.cell1
        by_cases hlt : i < L
        · have j0 : (i : Int) < L := by omega
          have j1 : (0 : Int) ≤ i := by omega
          go_wp2_with fail
          go_loopw [12] (fun k' wx => ∃ k : Nat, k ≤ i ∧ k' = .int .i64 k ∧ CellsR wx gv ov L (fun k => rst b T B k) ∧ (∃ n₀, Slc n₀ wx (.slice ad (L) cd) (digL b T B (L))) ∧ Box2 wx w1.heap.size 27 (.int .i64 T) (.int .i64 B) ∧ Below w.heap.size w wx) (fun k' _ => i - (intOf k').toNat)
          case atStart => exact ⟨0, Nat.zero_le _, rfl, hkc, ⟨_, hd⟩, hq, hbel⟩
          case round =>
            rename_i wx hrel
            obtain ⟨k, hk, rfl, hkc', ⟨n2, hd'⟩, hq', hbel'⟩ := hrel
            have kc1 := hkc' i hlt
            by_cases hki : k < i
            · have kc2 := hkc' k (by omega)
              have hne := HN.out.ne k i hki (by have := HLL.out; omega)
              have hne' : ((rst b T B i : Int) == (rst b T B k : Int)) = false := by simp; omega
              have j2 : (0 : Int) ≤ k := by omega
              have j3 : (k : Int) < i := by omega
              have j4 : (k : Int) < L := by omega
              clear hne
              go_wp2_with fail
              go_quiet (fail)
              go_wp2
              go_roundw
              case rel => exact ⟨k + 1, by omega, by go_num, hkc', ⟨_, hd'.later (below_drewN (Below.refl _ _) _)⟩, hq', below_drewN hbel' _⟩
              case measure => simp [intOf]; omega
            · have j3 : decide ((k : Int) < i) = false := by simp; omega
              have e0 := hq'.cell0
              have e1 := hq'.cell1
              have i5 : ¬ B = 0 := by omega
              obtain ⟨m1, m2⟩ := mul_bd (rst b T B i) b B (by omega) (by have := rst_lt (b := b) hT i; omega) (by omega) (by omega) (by omega)
              have hdg : (rst b T B i : Int) * b / B = (dig b T B i : Int) := by unfold dig; simp
              have hdl := dig_lt hT i (show 0 < b by omega)
              have v1 : IntKind.i64.wrap ((rst b T B i : Int) * b) = (rst b T B i : Int) * b := wrap_in _ (by omega) (by omega)
              have v2 : Int.tdiv ((rst b T B i : Int) * b) B = (dig b T B i : Int) := by rw [Int.tdiv_eq_ediv_of_nonneg m1]; exact hdg
              have v3 : IntKind.i64.wrap (dig b T B i : Int) = (dig b T B i : Int) := wrap_in _ (by omega) (by omega)
              have v4 : ((B : Int) == 0) = false := by simp; omega
              clear hdg
              by_cases hik : i < L
              · obtain ⟨gd, od, had⟩ := slc_addr hd' (by omega)
                subst had
                have kd := Slc.cell hlk hd' i hik
                rw [digL_get _ _ _ _ _ hik] at kd
                have j5 : (i : Int) < L := by omega
                go_wp2_with fail
                go_quiet (fail)
                go_wp2
                go_roundw
                case rel => exact ⟨i + 1, by omega, by go_num, hkc', ⟨_, hd'.later (below_drewN (Below.refl _ _) _)⟩, hq', below_drewN hbel' _⟩
                case measure => simp [intOf]; omega
              · exact absurd hlt hik
        · obtain rfl : L = i := by omega
          go_wp2
          go_ret
          exact ⟨rfl, hbel⟩
    · have hm1 : decide ((L : Int) < 200) = false := by simp; omega
      have C : ∀ w : World, Calls Try.prog 10 #[.int .i64 b, .agg #[.int .i64 T, .int .i64 B], .int .i64 200] w fun e w' => ∃ v, e = .returned (.tuple #[v, .bool true]) ∧ Slc w.heap.size w' v (digL b T B 200) ∧ Below w.heap.size w w' := fun w => implFracDigits_yesG b T B 200 h hT HG.out hB h3 h4 (by omega) w
      have HC := Lib.hid C; clear C
      have hlk := digL_len b T B 200
      go_wp2_with fail
      refine (HC.out _).mono ?_
      rintro e w5 ⟨d, rfl, d5, hb5⟩
      have Q5 := Q4.later hb5
      have B5 := B4.trans (hb5.mono B4.size)
      have K5 : CellsR w5 gv ov L (fun k => rst b T B k) := KC.later hb5
      clear Q4 B4 KC hb5 c0 c1
      obtain ⟨ad, cd, rfl⟩ := slc_form d5
      rw [hlk] at d5 ⊢
      go_wp2_with fail
      go_loopw [11] (fun i' wr => ∃ i : Nat, i ≤ L ∧ i' = .int .i64 i ∧ CellsR wr gv ov L (fun k => rst b T B k) ∧ (∃ n₀, Slc n₀ wr (.slice ad (200) cd) (digL b T B (200))) ∧ Box2 wr w1.heap.size 27 (.int .i64 T) (.int .i64 B) ∧ Below w.heap.size w wr) (fun i' _ => L - (intOf i').toNat)
      case atStart => exact ⟨0, Nat.zero_le _, rfl, K5, ⟨_, d5⟩, Q5, B5⟩
      case round =>
        obtain ⟨i, hi, rfl, hkc, ⟨n1, hd⟩, hq, hbel⟩ := hrel
        have c0 := hq.cell0
        have c1 := hq.cell1
        by_cases hlt : i < L
        · have j0 : (i : Int) < L := by omega
          have j1 : (0 : Int) ≤ i := by omega
          go_wp2_with fail
          go_loopw [12] (fun k' wx => ∃ k : Nat, k ≤ i ∧ k' = .int .i64 k ∧ CellsR wx gv ov L (fun k => rst b T B k) ∧ (∃ n₀, Slc n₀ wx (.slice ad (200) cd) (digL b T B (200))) ∧ Box2 wx w1.heap.size 27 (.int .i64 T) (.int .i64 B) ∧ Below w.heap.size w wx) (fun k' _ => i - (intOf k').toNat)
          case atStart => exact ⟨0, Nat.zero_le _, rfl, hkc, ⟨_, hd⟩, hq, hbel⟩
          case round =>
            rename_i wx hrel
            obtain ⟨k, hk, rfl, hkc', ⟨n2, hd'⟩, hq', hbel'⟩ := hrel
            have kc1 := hkc' i hlt
            by_cases hki : k < i
            · have kc2 := hkc' k (by omega)
              have hne := HN.out.ne k i hki (by have := HLL.out; omega)
              have hne' : ((rst b T B i : Int) == (rst b T B k : Int)) = false := by simp; omega
              have j2 : (0 : Int) ≤ k := by omega
              have j3 : (k : Int) < i := by omega
              have j4 : (k : Int) < L := by omega
              clear hne
              go_wp2_with fail
              go_quiet (fail)
              go_wp2
              go_roundw
              case rel => exact ⟨k + 1, by omega, by go_num, hkc', ⟨_, hd'.later (below_drewN (Below.refl _ _) _)⟩, hq', below_drewN hbel' _⟩
              case measure => simp [intOf]; omega
            · have j3 : decide ((k : Int) < i) = false := by simp; omega
              have e0 := hq'.cell0
              have e1 := hq'.cell1
              have i5 : ¬ B = 0 := by omega
              obtain ⟨m1, m2⟩ := mul_bd (rst b T B i) b B (by omega) (by have := rst_lt (b := b) hT i; omega) (by omega) (by omega) (by omega)
              have hdg : (rst b T B i : Int) * b / B = (dig b T B i : Int) := by unfold dig; simp
              have hdl := dig_lt hT i (show 0 < b by omega)
              have v1 : IntKind.i64.wrap ((rst b T B i : Int) * b) = (rst b T B i : Int) * b := wrap_in _ (by omega) (by omega)
              have v2 : Int.tdiv ((rst b T B i : Int) * b) B = (dig b T B i : Int) := by rw [Int.tdiv_eq_ediv_of_nonneg m1]; exact hdg
              have v3 : IntKind.i64.wrap (dig b T B i : Int) = (dig b T B i : Int) := wrap_in _ (by omega) (by omega)
              have v4 : ((B : Int) == 0) = false := by simp; omega
              clear hdg
              by_cases hik : i < 200
              · obtain ⟨gd, od, had⟩ := slc_addr hd' (by omega)
                subst had
                have kd := Slc.cell hlk hd' i hik
                rw [digL_get _ _ _ _ _ hik] at kd
                have j5 : (i : Int) < 200 := by omega
                go_wp2_with fail
                go_quiet (fail)
                go_wp2
                go_roundw
                case rel => exact ⟨i + 1, by omega, by go_num, hkc', ⟨_, hd'.later (below_drewN (Below.refl _ _) _)⟩, hq', below_drewN hbel' _⟩
                case measure => simp [intOf]; omega
              · have j5 : decide ((i : Int) < 200) = false := by simp; omega
                go_wp2_with fail
                go_quiet (fail)
                go_wp2
                go_roundw
                case rel => exact ⟨i + 1, by omega, by go_num, hkc', ⟨_, hd'.later (below_drewN (Below.refl _ _) _)⟩, hq', below_drewN hbel' _⟩
                case measure => simp [intOf]; omega
        · obtain rfl : L = i := by omega
          go_wp2
          go_ret
          exact ⟨rfl, hbel⟩

end Go.Proofs.Ytoepfemifmellaa
