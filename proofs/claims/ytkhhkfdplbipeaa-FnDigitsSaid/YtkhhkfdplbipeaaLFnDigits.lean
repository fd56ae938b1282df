/-
  The law FnDigits's walk.
-/
import Derived.Test.YtkhhkfdplbipeaaDrawS
import Derived.Test.YtkhhkfdplbipeaaLists
import Derived.Test.YtkhhkfdplbipeaaSame
import Derived.Test.YtkhhkfdplbipeaaPMath2
import Derived.Deep.QuietTactic
import Derived.BigQuiet
namespace Go.Proofs.Ytkhhkfdplbipeaa
open Go.RowKit

set_option maxHeartbeats 4000000 in
theorem lawDigits_any (a : Option Addr) (len cap : Nat) (zs : List Int) (w : World) (r : IsRow .u8 w a len cap zs) :
    Calls Try.prog 3 #[.slice a len cap] w fun e w' => e = .returned (.bool true) ∧ Below w.heap.size w w' := by
  have hB := byt_of_row r
  clear r
  by_cases hl : 1048576 < len
  · have hl' : (1048576 : Int) < (len : Int) := by omega
    go_enter Try.func3, Try.ntmps3
    go_wp2
    go_ret
    exact ⟨rfl, Below.refl _ _⟩
  have hl' : decide ((1048576 : Int) < (len : Int)) = false := by simp; omega
  go_enter Try.func3, Try.ntmps3
  go_wp2_with fail
  refine (drawFracDigits_any a len cap _ hB).mono ?_
  rintro e w1 ⟨b, t, n, k, hd, dk1, dk2, rfl, hb1⟩
  obtain ⟨b, T, B, rfl, rfl, rfl, d1, d2, d3, d4⟩ := hd.nat
  clear hd hl hB
  have Q1 := Box2.new w1 24 (.int .i64 T) (.int .i64 B)
  have B1 := hb1.alloc hb1.size (.cells #[.int .i64 T, .int .i64 B] 24)
  clear hb1
  have c0 := Q1.cell0
  have c1 := Q1.cell1
  cases h : tldB b T B with
  | false =>
    go_wp2_with fail
    refine (implFracDigits_noG _ _ _ k h _).mono ?_
    rintro e w2 ⟨v, rfl, v2, hb2⟩
    have Q2 := Q1.later hb2
    have B2 := B1.trans (hb2.mono B1.size)
    clear c0 c1 Q1 B1 hb2
    have c0 := Q2.cell0
    have c1 := Q2.cell1
    go_wp2_with fail
    refine (specFracDigits_no _ _ _ k h _).mono ?_
    rintro e w3 ⟨u, rfl, u3, hb3⟩
    have Q3 := Q2.later hb3
    have B3 := B2.trans (hb3.mono B2.size)
    have v3 := v2.later hb3
    clear c0 c1 Q2 B2 hb3 v2
    have c0 := Q3.cell0
    have c1 := Q3.cell1
    go_wp2_with fail
    refine (sameInts_any _ _ _ _ [] [] _ v3 u3 (by simp) (by simp)).mono ?_
    rintro e w4 ⟨rfl, hb4⟩
    have Q4 := Q3.later hb4
    have B4 := B3.trans (hb4.mono B3.size)
    have v4 := v3.later hb4
    have u4 := u3.later hb4
    clear c0 c1 Q3 B3 hb4 v3 u3
    have c0 := Q4.cell0
    have c1 := Q4.cell1
    go_wp2_with fail
    refine (sameInts_any _ _ _ _ [] [] _ v4 u4 (by simp) (by simp)).mono ?_
    rintro e w5 ⟨rfl, hb5⟩
    have Q5 := Q4.later hb5
    have B5 := B4.trans (hb5.mono B4.size)
    clear c0 c1 Q4 B4 hb5
    have c0 := Q5.cell0
    have c1 := Q5.cell1
    go_wp2_with fail
    go_ret
    exact ⟨rfl, B5⟩
  | true =>
    obtain ⟨h3, h4, hT, hB, hg⟩ := tld_facts h
    by_cases hk : 0 ≤ k ∧ k ≤ 200
    case neg =>
      have hk1 : k < 0 ∨ 200 < k := by omega
      have hk2 : decide (0 ≤ k ∧ k ≤ 200) = false := by simpa using hk
      clear hk
      go_wp2_with fail
      refine (implFracDigits_offG _ _ _ k h hk1 _).mono ?_
      rintro e w2 ⟨v, rfl, v2, hb2⟩
      have Q2 := Q1.later hb2
      have B2 := B1.trans (hb2.mono B1.size)
      clear c0 c1 Q1 B1 hb2
      have c0 := Q2.cell0
      have c1 := Q2.cell1
      go_wp2_with fail
      refine (specFracDigits_off _ _ _ k h hk2 _).mono ?_
      rintro e w3 ⟨u, rfl, u3, hb3⟩
      have Q3 := Q2.later hb3
      have B3 := B2.trans (hb3.mono B2.size)
      have v3 := v2.later hb3
      clear c0 c1 Q2 B2 hb3 v2
      have c0 := Q3.cell0
      have c1 := Q3.cell1
      go_wp2_with fail
      refine (sameInts_any _ _ _ _ [] [] _ v3 u3 (by simp) (by simp)).mono ?_
      rintro e w4 ⟨rfl, hb4⟩
      have Q4 := Q3.later hb4
      have B4 := B3.trans (hb4.mono B3.size)
      have v4 := v3.later hb4
      have u4 := u3.later hb4
      clear c0 c1 Q3 B3 hb4 v3 u3
      have c0 := Q4.cell0
      have c1 := Q4.cell1
      go_wp2_with fail
      refine (sameInts_any _ _ _ _ [] [] _ v4 u4 (by simp) (by simp)).mono ?_
      rintro e w5 ⟨rfl, hb5⟩
      have Q5 := Q4.later hb5
      have B5 := B4.trans (hb5.mono B4.size)
      clear c0 c1 Q4 B4 hb5
      have c0 := Q5.cell0
      have c1 := Q5.cell1
      go_wp2_with fail
      go_ret
      exact ⟨rfl, B5⟩
    case pos =>
      obtain ⟨K, rfl⟩ := Int.eq_ofNat_of_zero_le hk.1
      obtain ⟨n, m, hnm⟩ := len_some (b := b) hT hg
      have hle := hnm.le hT
      have hK : K ≤ 200 := by omega
      have hlx := digL_len b T B n
      have hlk := digL_len b T B K
      have HG := Lib.hid hg; clear hg hk dk1 dk2
      go_wp2_with fail
      refine (implFracDigits_yesG b T B K h hT HG.out hB h3 h4 hK _).mono ?_
      rintro e w2 ⟨v, rfl, v2, hb2⟩
      have Q2 := Q1.later hb2
      have B2 := B1.trans (hb2.mono B1.size)
      clear c0 c1 Q1 B1 hb2
      have c0 := Q2.cell0
      have c1 := Q2.cell1
      go_wp2_with fail
      refine (specFracDigits_yes b T B K h hT hB h3 h4 hK _).mono ?_
      rintro e w3 ⟨u, rfl, u3, hb3⟩
      have Q3 := Q2.later hb3
      have B3 := B2.trans (hb3.mono B2.size)
      have v3 := v2.later hb3
      clear c0 c1 Q2 B2 hb3 v2
      have c0 := Q3.cell0
      have c1 := Q3.cell1
      go_wp2_with fail
      refine (sameInts_any _ _ _ _ (digL b T B K) (digL b T B K) _ v3 u3 (by omega) (by omega)).mono ?_
      rintro e w4 ⟨rfl, hb4⟩
      have Q4 := Q3.later hb4
      have B4 := B3.trans (hb4.mono B3.size)
      have v4 := v3.later hb4
      clear c0 c1 Q3 B3 hb4 v3
      have c0 := Q4.cell0
      have c1 := Q4.cell1
      have hxx : decide (digL b T B K = digL b T B K) = true := by simp
      rw [hxx]
      clear hxx
      go_wp2_with fail
      refine (implFracBegin_yes b T B n m h hT HG.out hB h3 h4 hnm _).mono ?_
      rintro e w5 ⟨x, rfl, x5, hb5⟩
      have Q5 := Q4.later hb5
      have B5 := B4.trans (hb5.mono B4.size)
      have v5 := v4.later hb5
      clear c0 c1 Q4 B4 hb5 v4
      have c0 := Q5.cell0
      have c1 := Q5.cell1
      obtain ⟨av, cv, rfl⟩ := slc_form v5
      obtain ⟨ax, cx, rfl⟩ := slc_form x5
      rw [hlk] at v5 ⊢
      rw [hlx] at x5 ⊢
      clear c0 c1
      go_wp2_with fail
      go_loopw [12] (fun i' wr => ∃ i : Nat, i ≤ K ∧ i' = .int .i64 i ∧ (∃ n₀, Slc n₀ wr (.slice av K cv) (digL b T B K)) ∧ (∃ n₀, Slc n₀ wr (.slice ax n cx) (digL b T B n)) ∧ Box2 wr w1.heap.size 24 (.int .i64 T) (.int .i64 B) ∧ Below w.heap.size w wr) (fun i' _ => K - (intOf i').toNat)
      case atStart => exact ⟨0, Nat.zero_le _, rfl, ⟨_, v5⟩, ⟨_, x5⟩, Q5, B5⟩
      case round =>
        obtain ⟨i, hi, rfl, ⟨n1, hv⟩, ⟨n2, hx⟩, hq, hbel⟩ := hrel
        have c0 := hq.cell0
        have c1 := hq.cell1
        by_cases hlt : i < K
        · obtain ⟨gv, ov, hav⟩ := slc_addr hv (by omega)
          subst hav
          have hi6 : i ≤ 1000000 := by omega
          go_wp2_with fail
          refine (implFracDigit_yes b T B i _ h hT HG.out hB h3 h4 hi6).mono ?_
          rintro e w6 ⟨rfl, hb6⟩
          have hv6 := hv.later hb6
          have hx6 := hx.later hb6
          have hq6 := hq.later hb6
          have hbel6 := hbel.trans (hb6.mono hbel.size)
          have kv := Slc.cell hlk hv6 i hlt
          rw [digL_get _ _ _ _ _ hlt] at kv
          have j1 : (0 : Int) ≤ i := by omega
          have j2 : (i : Int) < K := by omega
          clear hb6 c0 c1
          by_cases hin : i < n
          · obtain ⟨gx, ox, hax⟩ := slc_addr hx6 (by omega)
            subst hax
            have kx := Slc.cell hlx hx6 i hin
            rw [digL_get _ _ _ _ _ hin] at kx
            have j3 : (i : Int) < n := by omega
            go_wp2_with fail
            go_roundw
            case rel => exact ⟨i + 1, by omega, by go_num, ⟨_, hv6⟩, ⟨_, hx6⟩, hq6, hbel6⟩
            case measure => simp [intOf]; omega
          · have j3 : decide ((i : Int) < n) = false := by simp; omega
            go_wp2_with fail
            go_roundw
            case rel => exact ⟨i + 1, by omega, by go_num, ⟨_, hv6⟩, ⟨_, hx6⟩, hq6, hbel6⟩
            case measure => simp [intOf]; omega
        · obtain rfl : i = K := by omega
          go_wp2
          go_ret
          exact ⟨rfl, hbel⟩

end Go.Proofs.Ytkhhkfdplbipeaa
