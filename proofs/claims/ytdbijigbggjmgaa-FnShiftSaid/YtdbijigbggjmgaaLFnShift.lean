/-
  The law FnShift's walk.
-/
import Derived.Test.YtdbijigbggjmgaaDrawS
import Derived.Test.YtdbijigbggjmgaaLists
import Derived.Test.YtdbijigbggjmgaaSame
import Derived.Test.YtdbijigbggjmgaaShiftS
import Derived.Test.YtdbijigbggjmgaaPMath
namespace Go.Proofs.Ytdbijigbggjmgaa
open Go.RowKit

set_option maxRecDepth 100000 in
set_option maxHeartbeats 4000000 in
theorem lawShift_any (a : Option Addr) (len cap : Nat) (zs : List Int) (w : World) (r : IsRow .u8 w a len cap zs) :
    Calls Try.prog 3 #[.slice a len cap] w fun e w' => e = .returned (.bool true) ∧ Below w.heap.size w w' := by
  have hB := byt_of_row r
  clear r
  by_cases hl : 1048576 < len
  · have hl' : (1048576 : Int) < (len : Int) := by omega
    go_enter Try.func3, Try.ntmps3
    go_wp2
    go_ret
    exact ⟨rfl, Below.refl _ _⟩
  have hl' : decide ((1048576 : Int) < (len : Int)) = false := by simp; omega
  go_enter Try.func3, Try.ntmps3
  go_wp2_with fail
  refine (drawRestShift_any a len cap _ hB).mono ?_
  rintro e w1 ⟨b, t, n, k, hd, dk1, dk2, rfl, hb1⟩
  obtain ⟨b, T, B, rfl, rfl, rfl, d1, d2, d3, d4⟩ := hd.nat
  clear hd hl hB
  have Q1 := Box2.new w1 24 (.int .i64 T) (.int .i64 B)
  have B1 := hb1.alloc hb1.size (.cells #[.int .i64 T, .int .i64 B] 24)
  clear hb1
  have cQ0 := Q1.cell0
  have cQ1 := Q1.cell1
  cases h : tldB b T B with
  | false =>
    go_wp2_with fail
    refine (implRestShift_no _ _ _ _ h _).mono ?_
    rintro e w2 ⟨rfl, hb2⟩
    have Q2 := (Q1.later hb2).alloc (.cells #[.int .i64 0, .int .i64 0] 24)
    have O2 := Box2.new w2 24 (.int .i64 0) (.int .i64 0)
    have B2 := (B1.trans (hb2.mono B1.size)).alloc (B1.trans (hb2.mono B1.size)).size (.cells #[.int .i64 0, .int .i64 0] 24)
    clear B1 hb2 Q1
    have cQ0 := Q2.cell0
    have cQ1 := Q2.cell1
    have cO0 := O2.cell0
    have cO1 := O2.cell1
    go_wp2_with fail
    refine (specRestShift_no _ _ _ _ h _).mono ?_
    rintro e w3 ⟨rfl, hb3⟩
    have Q3 := (Q2.later hb3).alloc (.cells #[.int .i64 0, .int .i64 0] 24)
    have O3 := (O2.later hb3).alloc (.cells #[.int .i64 0, .int .i64 0] 24)
    have W3 := Box2.new w3 24 (.int .i64 0) (.int .i64 0)
    have B3 := (B2.trans (hb3.mono B2.size)).alloc (B2.trans (hb3.mono B2.size)).size (.cells #[.int .i64 0, .int .i64 0] 24)
    clear B2 hb3 Q2 O2
    have cQ0 := Q3.cell0
    have cQ1 := Q3.cell1
    have cO0 := O3.cell0
    have cO1 := O3.cell1
    have cW0 := W3.cell0
    have cW1 := W3.cell1
    go_wp2_with fail
    go_ret
    exact ⟨rfl, B3⟩
  | true =>
    obtain ⟨h3, h4, hT, hB, hg⟩ := tld_facts h
    by_cases hk : 0 ≤ k ∧ k ≤ 200
    case neg =>
      have hk1 : k < 0 ∨ 200 < k := by omega
      have hk2 : decide (0 ≤ k ∧ k ≤ 200) = false := by simpa using hk
      clear hk
      go_wp2_with fail
      refine (implRestShift_off _ _ _ _ h hk1 _).mono ?_
      rintro e w2 ⟨rfl, hb2⟩
      have Q2 := (Q1.later hb2).alloc (.cells #[.int .i64 0, .int .i64 0] 24)
      have O2 := Box2.new w2 24 (.int .i64 0) (.int .i64 0)
      have B2 := (B1.trans (hb2.mono B1.size)).alloc (B1.trans (hb2.mono B1.size)).size (.cells #[.int .i64 0, .int .i64 0] 24)
      clear B1 hb2 Q1
      have cQ0 := Q2.cell0
      have cQ1 := Q2.cell1
      have cO0 := O2.cell0
      have cO1 := O2.cell1
      go_wp2_with fail
      refine (specRestShift_off _ _ _ _ h hk2 _).mono ?_
      rintro e w3 ⟨rfl, hb3⟩
      have Q3 := (Q2.later hb3).alloc (.cells #[.int .i64 0, .int .i64 0] 24)
      have O3 := (O2.later hb3).alloc (.cells #[.int .i64 0, .int .i64 0] 24)
      have W3 := Box2.new w3 24 (.int .i64 0) (.int .i64 0)
      have B3 := (B2.trans (hb3.mono B2.size)).alloc (B2.trans (hb3.mono B2.size)).size (.cells #[.int .i64 0, .int .i64 0] 24)
      clear B2 hb3 Q2 O2
      have cQ0 := Q3.cell0
      have cQ1 := Q3.cell1
      have cO0 := O3.cell0
      have cO1 := O3.cell1
      have cW0 := W3.cell0
      have cW1 := W3.cell1
      go_wp2_with fail
      go_ret
      exact ⟨rfl, B3⟩
    case pos =>
      obtain ⟨K, rfl⟩ := Int.eq_ofNat_of_zero_le hk.1
      have hK : K ≤ 200 := by omega
      obtain ⟨q1, q2, q3⟩ := fr_lt (b := b) hT hg K
      have hc1 := (fr_ok (b := b) hT hg K).cop
      have hdrop := digL_frT (b := b) hT hg K 20
      have I := implRestShift_yes b T B K h hT hg hB h4 hK
      have S := specRestShift_yes b T B K h hT hg hB h3 h4 hK
      obtain ⟨t', ht'⟩ : ∃ t', (frT b T B K).1 = t' := ⟨_, rfl⟩
      obtain ⟨n', hn'⟩ : ∃ n', (frT b T B K).2 = n' := ⟨_, rfl⟩
      rw [ht', hn'] at I S q1 hc1 hdrop
      rw [hn'] at q2 q3
      clear ht' hn'
      have tl' : tldB b t' n' = true := tld_mk h3 h4 q1 (by omega) hc1
      have D1 : Gives 8 #[.int .i64 b, .agg #[.int .i64 t', .int .i64 n'], .int .i64 20] (digL b t' n' 20) true := fun w => implFracDigits_yesG b t' n' 20 tl' q1 hc1 (by omega) h3 h4 (by omega) w
      have D2 : ∀ K2 : Nat, K2 ≤ 200 → Gives 8 #[.int .i64 b, .agg #[.int .i64 T, .int .i64 B], .int .i64 K2] (digL b T B K2) true := fun K2 h2 w => implFracDigits_yesG b T B K2 h hT hg hB h3 h4 h2 w
      have HI := Lib.hid I; have HS := Lib.hid S; have HD1 := Lib.hid D1; have HD2 := Lib.hid D2; have HDR := Lib.hid hdrop
      clear I S D1 D2 hdrop hc1 hg hk dk1 dk2
      have hlx := digL_len b t' n' 20
      go_wp2_with fail
      refine (HI.out _).mono ?_
      rintro e w2 ⟨rfl, hb2⟩
      have Q2 := (Q1.later hb2).alloc (.cells #[.int .i64 t', .int .i64 n'] 24)
      have O2 := Box2.new w2 24 (.int .i64 t') (.int .i64 n')
      have B2 := (B1.trans (hb2.mono B1.size)).alloc (B1.trans (hb2.mono B1.size)).size (.cells #[.int .i64 t', .int .i64 n'] 24)
      clear B1 hb2 Q1
      have cQ0 := Q2.cell0
      have cQ1 := Q2.cell1
      have cO0 := O2.cell0
      have cO1 := O2.cell1
      go_wp2_with fail
      refine (HS.out _).mono ?_
      rintro e w3 ⟨rfl, hb3⟩
      have Q3 := (Q2.later hb3).alloc (.cells #[.int .i64 t', .int .i64 n'] 24)
      have O3 := (O2.later hb3).alloc (.cells #[.int .i64 t', .int .i64 n'] 24)
      have W3 := Box2.new w3 24 (.int .i64 t') (.int .i64 n')
      have B3 := (B2.trans (hb3.mono B2.size)).alloc (B2.trans (hb3.mono B2.size)).size (.cells #[.int .i64 t', .int .i64 n'] 24)
      clear B2 hb3 Q2 O2
      have cQ0 := Q3.cell0
      have cQ1 := Q3.cell1
      have cO0 := O3.cell0
      have cO1 := O3.cell1
      have cW0 := W3.cell0
      have cW1 := W3.cell1
      clear W3
      go_wp2_with fail
      refine (HD1.out _).mono ?_
      rintro e w4 ⟨x, rfl, x4, hb4⟩
      have Q4 := (Q3.later hb4)
      have O4 := (O3.later hb4)
      have B4 := B3.trans (hb4.mono B3.size)
      clear B3 hb4 Q3 O3
      have cQ0 := Q4.cell0
      have cQ1 := Q4.cell1
      have cO0 := O4.cell0
      have cO1 := O4.cell1
      obtain ⟨gx, ox, cx, rfl, _, _, _, _⟩ := slc_some x4 (by omega)
      rw [hlx] at x4 ⊢
      by_cases h180 : 180 < K
      · have j1 : (180 : Int) < K := by omega
        have j3 : decide ((K : Int) + 20 < 200) = false := by simp; omega
        have E2 : Gives 8 #[.int .i64 b, .agg #[.int .i64 T, .int .i64 B], .int .i64 200] (digL b T B 200) true := by
          have e := HD2.out 200 (by omega)
          rwa [show ((200 : Nat) : Int) = 200 from rfl] at e
        have HE2 := Lib.hid E2; clear E2
        go_wp2_with fail
        refine (HE2.out _).mono ?_
        rintro e w5 ⟨y, rfl, y5, hb5⟩
        have B5 := B4.trans (hb5.mono B4.size)
        go_wp2_with fail
        go_ret
        exact ⟨rfl, B5⟩
      · have j1 : decide ((180 : Int) < K) = false := by simp; omega
        have hlt : K + 20 ≤ 200 := by omega
        by_cases h2 : K < 180
        case pos =>
          have j3 : (K : Int) + 20 < 200 := by omega
          have E2 : Gives 8 #[.int .i64 b, .agg #[.int .i64 T, .int .i64 B], .int .i64 ((K : Int) + 20)] (digL b T B (K + 20)) true := by
            have e := HD2.out (K + 20) hlt
            rwa [show ((K + 20 : Nat) : Int) = (K : Int) + 20 by omega] at e
          have HE2 := Lib.hid E2; clear E2
          have hly := digL_len b T B (K + 20)
          go_wp2_with fail
          refine (HE2.out _).mono ?_
          rintro e w5 ⟨y, rfl, y5, hb5⟩
          have B5 := B4.trans (hb5.mono B4.size)
          have x5 := x4.later hb5
          obtain ⟨gy, oy, cy, rfl, _, _, hc1, hc2⟩ := slc_some y5 (by omega)
          rw [hly] at y5 hc1 ⊢
          have hd := Slc.drop (n := K) hly y5 (by omega)
          have hcy : cy ≤ 9223372036854775807 := by unfold maxLen at hc2; exact hc2
          have hkc : K < cy := by omega
          have SM : Hid (Calls Try.prog 9 #[.slice (some ⟨gx, ox, none⟩) 20 cx, .slice (some ⟨gy, oy + K, none⟩) 20 (cy - K)] w5 fun e w' => e = .returned (.bool true) ∧ Below w5.heap.size w5 w') := by
            rw [← HDR.out, show K + 20 - K = 20 by omega] at hd
            have := sameInts_any _ _ _ _ (digL b t' n' 20) (digL b t' n' 20) w5 x5 hd (by omega) (by omega)
            unfold Hid; simpa using this
          go_wp2_with fail
          refine SM.out.mono ?_
          rintro e w6 ⟨rfl, hb6⟩
          have B6 := B5.trans (hb6.mono B5.size)
          go_wp2_with fail
          go_ret
          exact ⟨rfl, B6⟩
        case neg =>
          have j3 : decide ((K : Int) + 20 < 200) = false := by simp; omega
          have E2 : Gives 8 #[.int .i64 b, .agg #[.int .i64 T, .int .i64 B], .int .i64 200] (digL b T B (K + 20)) true := by
            have e := HD2.out (K + 20) hlt
            rwa [show ((K + 20 : Nat) : Int) = 200 by omega] at e
          have HE2 := Lib.hid E2; clear E2
          have hly := digL_len b T B (K + 20)
          go_wp2_with fail
          refine (HE2.out _).mono ?_
          rintro e w5 ⟨y, rfl, y5, hb5⟩
          have B5 := B4.trans (hb5.mono B4.size)
          have x5 := x4.later hb5
          obtain ⟨gy, oy, cy, rfl, _, _, hc1, hc2⟩ := slc_some y5 (by omega)
          rw [hly] at y5 hc1 ⊢
          have hd := Slc.drop (n := K) hly y5 (by omega)
          have hcy : cy ≤ 9223372036854775807 := by unfold maxLen at hc2; exact hc2
          have hkc : K < cy := by omega
          have SM : Hid (Calls Try.prog 9 #[.slice (some ⟨gx, ox, none⟩) 20 cx, .slice (some ⟨gy, oy + K, none⟩) 20 (cy - K)] w5 fun e w' => e = .returned (.bool true) ∧ Below w5.heap.size w5 w') := by
            rw [← HDR.out, show K + 20 - K = 20 by omega] at hd
            have := sameInts_any _ _ _ _ (digL b t' n' 20) (digL b t' n' 20) w5 x5 hd (by omega) (by omega)
            unfold Hid; simpa using this
          go_wp2_with fail
          refine SM.out.mono ?_
          rintro e w6 ⟨rfl, hb6⟩
          have B6 := B5.trans (hb6.mono B5.size)
          go_wp2_with fail
          go_ret
          exact ⟨rfl, B6⟩

end Go.Proofs.Ytdbijigbggjmgaa
