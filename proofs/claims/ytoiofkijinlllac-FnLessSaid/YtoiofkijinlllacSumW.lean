/-
  Chapter 6, the program's side: lengths, which fraction is less.
-/
import Derived.Test.YtoiofkijinlllacSumX
import Derived.Test.YtoiofkijinlllacSumL
import Derived.Test.YtoiofkijinlllacEq
import Derived.Test.YtoiofkijinlllacNext
import Derived.Test.YtoiofkijinlllacFirst
namespace Go.Proofs.Ytoiofkijinlllac
open Go.RowKit

theorem round_lenX (b T B n m : Nat) (w : World) (hT : T < B) (hg : Nat.gcd T B = 1) (hB : B ≤ 1000) (h3 : 2 ≤ b) (h4 : b ≤ 16) (hnm : IsLen b T B n m) :
    Calls Try.prog 37 #[.agg #[.int .i64 T, .int .i64 B], .int .i64 b] w fun e w' => ∃ a c, e = .returned (.slice a m c) ∧ Below w.heap.size w w' :=
  (round_any b T B w hT hg hB h3 h4).mono fun e w' ⟨v, n', m', h', he, hs, hb⟩ => by
    obtain ⟨rfl, rfl⟩ := hnm.unique h'
    obtain ⟨a, c, hv⟩ := slc_form hs
    rw [rndL_len] at hv
    exact ⟨a, c, by rw [he, hv], hb⟩

set_option maxHeartbeats 2000000 in
theorem implSumLengths_no (b t n u m : Int) (h : (tldB b t n && tldB b u m) = false) : GivesI 19 #[.int .i64 b, .agg #[.int .i64 t, .int .i64 n], .agg #[.int .i64 u, .int .i64 m]] 0 false := by
  intro w
  cases h1 : tldB b t n with
  | false =>
    clear h
    go_enter Try.func19, Try.ntmps19
    go_wp2_with fail
    refine (fracTold_any _ _ _ _).mono ?_
    rintro e w1 ⟨rfl, hb1⟩
    rw [h1]
    have hb := bel2' hb1
    go_wp2_with fail
    go_ret2
    exact ⟨rfl, hb⟩
  | true =>
    rw [h1, Bool.true_and] at h
    go_enter Try.func19, Try.ntmps19
    go_wp2_with fail
    refine (fracTold_any _ _ _ _).mono ?_
    rintro e w1 ⟨rfl, hb1⟩
    rw [h1]
    have y1 : Box2 w1 (w.heap.size + 1) 24 (.int .i64 u) (.int .i64 m) := (Box2.newAt (by simp)).later hb1
    have y0 := y1.cell0
    have y1' := y1.cell1
    have hb := bel2' hb1
    clear hb1
    go_wp2_with fail
    refine (fracTold_any _ _ _ _).mono ?_
    rintro e w2 ⟨rfl, hb2⟩
    rw [h]
    have hbb := hb.trans (hb2.mono hb.size)
    go_wp2_with fail
    go_ret2
    exact ⟨rfl, hbb⟩

theorem lcm_castX (m k : Nat) : (m : Int) / (Nat.gcd m k : Nat) * k = (lcmL m k : Nat) := by unfold lcmL; simp

set_option maxHeartbeats 4000000 in
theorem implSumLengths_yes (b T B U C n m i k : Nat) (h3 : 2 ≤ b) (h4 : b ≤ 16) (h : FOk T B) (h' : FOk U C) (hm : IsLen b T B n m) (hk : IsLen b U C i k) :
    GivesI 19 #[.int .i64 b, .agg #[.int .i64 T, .int .i64 B], .agg #[.int .i64 U, .int .i64 C]] (lcmL m k) true := by
  intro w
  have t1 := h.told h3 h4
  have t2 := h'.told h3 h4
  have hT := h.lt; have hB := h.bot; have hU := h'.lt; have hC := h'.bot
  have hml := hm.le hT
  have hkl := hk.le hU
  have hmp := hm.pos
  have hkp := hk.pos
  have hg1 : 0 < Nat.gcd m k := Nat.gcd_pos_of_pos_left _ hmp
  have hg2 : Nat.gcd m k ≤ m := Nat.gcd_le_left _ hmp
  have hdm : m / Nat.gcd m k ≤ m := Nat.div_le_self _ _
  have hlm : lcmL m k ≤ 1000 * 1000 := Nat.mul_le_mul (by omega) (by omega)
  have HC := Lib.hid (lcm_castX m k)
  have hg0 : ¬ Nat.gcd m k = 0 := by omega
  have q1 : (m : Int) / (Nat.gcd m k : Nat) ≤ 1000 := by
    have : ((m / Nat.gcd m k : Nat) : Int) ≤ 1000 := by omega
    exact this
  have q0 : (0 : Int) ≤ (m : Int) / (Nat.gcd m k : Nat) := Int.ediv_nonneg (by omega) (by omega)
  have q2 : (0 : Int) ≤ (m : Int) / (Nat.gcd m k : Nat) * k := by rw [HC.out]; omega
  have q3 : (m : Int) / (Nat.gcd m k : Nat) * k ≤ 1000000 := by rw [HC.out]; omega
  have R1 := Lib.hid (fun wx => round_lenX b T B n m wx hT h.cop hB h3 h4 hm)
  have R2 := Lib.hid (fun wx => round_lenX b U C i k wx hU h'.cop hC h3 h4 hk)
  clear h h' hm hk hdm hlm
  go_enter Try.func19, Try.ntmps19
  go_wp2_with fail
  refine (fracTold_any _ _ _ _).mono ?_
  rintro e w1 ⟨rfl, hb1⟩
  rw [t1]
  have x1 : Box2 w1 w.heap.size 24 (.int .i64 T) (.int .i64 B) := ((Box2.newAt rfl).alloc _).later hb1
  have y1 : Box2 w1 (w.heap.size + 1) 24 (.int .i64 U) (.int .i64 C) := (Box2.newAt (by simp)).later hb1
  have y0 := y1.cell0
  have y1' := y1.cell1
  have hb := bel2' hb1
  clear hb1
  go_wp2_with fail
  refine (fracTold_any _ _ _ _).mono ?_
  rintro e w2 ⟨rfl, hb2⟩
  rw [t2]
  have x2 := x1.later hb2
  have y2 := y1.later hb2
  have dx : Box2 w2.drew w.heap.size 24 (.int .i64 T) (.int .i64 B) := x2
  have dy : Box2 w2.drew (w.heap.size + 1) 24 (.int .i64 U) (.int .i64 C) := y2
  have d0 := dx.cell0
  have d1 := dx.cell1
  have d2 := dy.cell0
  have d3 := dy.cell1
  have hbb := (hb.trans (hb2.mono hb.size)).drew
  clear hb2 hb t1 t2 x1 y1 y0 y1'
  go_wp2_with fail
  go_region_held3 (fun w' => (w'.cell? ⟨w.heap.size, 0, none⟩ = some (.int .i64 T) ∧ w'.cell? ⟨w.heap.size, 1, none⟩ = some (.int .i64 B) ∧ w'.cell? ⟨w.heap.size + 1, 0, none⟩ = some (.int .i64 U) ∧ w'.cell? ⟨w.heap.size + 1, 1, none⟩ = some (.int .i64 C)) ∧ Below w.heap.size w w' ∧ Box2 w' w.heap.size 24 (.int .i64 T) (.int .i64 B) ∧ Box2 w' (w.heap.size + 1) 24 (.int .i64 U) (.int .i64 C)) (exact ⟨⟨by assumption, by assumption, by assumption, by assumption⟩, by assumption, by assumption, by assumption⟩)
    (first
      | (go_at_call 37; (with_reducible refine Calls.mono (R1.out _) ?_); rintro e w3 ⟨a3, c3, rfl, hb3⟩; have x3 : Box2 w3 w.heap.size 24 (.int .i64 T) (.int .i64 B) := Box2.later (by assumption) hb3; have y3 : Box2 w3 (w.heap.size + 1) 24 (.int .i64 U) (.int .i64 C) := Box2.later (by assumption) hb3; have e0 := x3.cell0; have e1 := x3.cell1; have e2 := y3.cell0; have e3 := y3.cell1; have hbw : Below w.heap.size w w3 := Below.trans (by assumption) (hb3.mono (Below.size (by assumption))))
      | (go_at_call 37; (with_reducible refine Calls.mono (R2.out _) ?_); rintro e w3 ⟨a3, c3, rfl, hb3⟩; have x3 : Box2 w3 w.heap.size 24 (.int .i64 T) (.int .i64 B) := Box2.later (by assumption) hb3; have y3 : Box2 w3 (w.heap.size + 1) 24 (.int .i64 U) (.int .i64 C) := Box2.later (by assumption) hb3; have e0 := x3.cell0; have e1 := x3.cell1; have e2 := y3.cell0; have e3 := y3.cell1; have hbw : Below w.heap.size w w3 := Below.trans (by assumption) (hb3.mono (Below.size (by assumption)))))
  all_goals (
    go_wp2_with fail
    refine (commonDivisor_any _ _ _ (by omega) (by omega) (by omega) (by omega)).mono ?_
    rintro e w7 ⟨rfl, rfl⟩
    rw [gcdI_nat]
    go_wp2_with fail
    go_ret2
    rw [← HC.out]
    exact ⟨rfl, hbw⟩)

theorem imSumLengths : ImSumLengths := ⟨implSumLengths_no, implSumLengths_yes⟩

set_option maxHeartbeats 2000000 in
theorem implSumLess_no (b t n u m : Int) (h : (tldB b t n && tldB b u m) = false) : GivesB 15 #[.int .i64 b, .agg #[.int .i64 t, .int .i64 n], .agg #[.int .i64 u, .int .i64 m]] false := by
  intro w
  cases h1 : tldB b t n with
  | false =>
    clear h
    go_enter Try.func15, Try.ntmps15
    go_wp2_with fail
    refine (fracTold_any _ _ _ _).mono ?_
    rintro e w1 ⟨rfl, hb1⟩
    rw [h1]
    have hb := bel2' hb1
    go_wp2_with fail
    go_ret
    exact ⟨rfl, hb⟩
  | true =>
    rw [h1, Bool.true_and] at h
    go_enter Try.func15, Try.ntmps15
    go_wp2_with fail
    refine (fracTold_any _ _ _ _).mono ?_
    rintro e w1 ⟨rfl, hb1⟩
    rw [h1]
    have y1 : Box2 w1 (w.heap.size + 1) 24 (.int .i64 u) (.int .i64 m) := (Box2.newAt (by simp)).later hb1
    have y0 := y1.cell0
    have y1' := y1.cell1
    have hb := bel2' hb1
    clear hb1
    go_wp2_with fail
    refine (fracTold_any _ _ _ _).mono ?_
    rintro e w2 ⟨rfl, hb2⟩
    rw [h]
    have hbb := hb.trans (hb2.mono hb.size)
    go_wp2_with fail
    go_ret
    exact ⟨rfl, hbb⟩

set_option maxHeartbeats 4000000 in
theorem implSumLess_same (b T B : Nat) (h3 : 2 ≤ b) (h4 : b ≤ 16) (h : FOk T B) :
    GivesB 15 #[.int .i64 b, .agg #[.int .i64 T, .int .i64 B], .agg #[.int .i64 T, .int .i64 B]] false := by
  intro w
  have t1 := h.told h3 h4
  clear h
  go_enter Try.func15, Try.ntmps15
  go_wp2_with fail
  refine (fracTold_any _ _ _ _).mono ?_
  rintro e w1 ⟨rfl, hb1⟩
  rw [t1]
  have x1 : Box2 w1 w.heap.size 24 (.int .i64 T) (.int .i64 B) := ((Box2.newAt rfl).alloc _).later hb1
  have y1 : Box2 w1 (w.heap.size + 1) 24 (.int .i64 T) (.int .i64 B) := (Box2.newAt (by simp)).later hb1
  have y0 := y1.cell0
  have y1' := y1.cell1
  have hb := bel2' hb1
  clear hb1
  go_wp2_with fail
  refine (fracTold_any _ _ _ _).mono ?_
  rintro e w2 ⟨rfl, hb2⟩
  rw [t1]
  have x2 := x1.later hb2
  have y2 := y1.later hb2
  have d0 := x2.cell0
  have d1 := x2.cell1
  have d2 := y2.cell0
  have d3 := y2.cell1
  have hbb := hb.trans (hb2.mono hb.size)
  clear hb2 hb t1 x1 y1 y0 y1'
  go_wp2_with fail
  go_loopg [6] 0 (fun k s wr => s = .bool false ∧ wr = w2)
  case atStart => exact ⟨rfl, rfl⟩
  case round =>
    obtain ⟨rfl, rfl⟩ := hrel
    go_wp2_with fail
    go_ret
    exact ⟨rfl, hbb⟩

set_option maxHeartbeats 4000000 in
theorem implSumLess_off (b T B U C N : Nat) (p : Bool) (h3 : 2 ≤ b) (h4 : b ≤ 16) (h : FOk T B) (h' : FOk U C) (hN : dig b T B N ≠ dig b U C N) (he : ∀ j, j < N → dig b T B j = dig b U C j) (hp : decide (dig b T B N < dig b U C N) = p) :
    GivesB 15 #[.int .i64 b, .agg #[.int .i64 T, .int .i64 B], .agg #[.int .i64 U, .int .i64 C]] p := by
  intro w
  have t1 := h.told h3 h4
  have t2 := h'.told h3 h4
  have hT := h.lt; have hB := h.bot; have hU := h'.lt; have hC := h'.bot
  have X1 := Lib.hid (fun i wx => next_fr b T B i wx hT h.cop hB h3 h4)
  have X2 := Lib.hid (fun i wx => next_fr b U C i wx hU h'.cop hC h3 h4)
  have HO := Lib.hid (fun i (hi : i ≤ N) => fr_off h h' hi hN)
  have HN := Lib.hid hN; have HE := Lib.hid he; have HP := Lib.hid hp
  clear h h' hN he hp
  go_enter Try.func15, Try.ntmps15
  go_wp2_with fail
  refine (fracTold_any _ _ _ _).mono ?_
  rintro e w1 ⟨rfl, hb1⟩
  rw [t1]
  have x1 : Box2 w1 w.heap.size 24 (.int .i64 T) (.int .i64 B) := ((Box2.newAt rfl).alloc _).later hb1
  have y1 : Box2 w1 (w.heap.size + 1) 24 (.int .i64 U) (.int .i64 C) := (Box2.newAt (by simp)).later hb1
  have y0 := y1.cell0
  have y1' := y1.cell1
  have hb := bel2' hb1
  clear hb1
  go_wp2_with fail
  refine (fracTold_any _ _ _ _).mono ?_
  rintro e w2 ⟨rfl, hb2⟩
  rw [t2]
  have x2 := x1.later hb2
  have y2 := y1.later hb2
  have hbb := hb.trans (hb2.mono hb.size)
  clear hb2 hb t1 t2 x1 y1 y0 y1'
  go_wp2_with fail
  go_loopg [6] N (fun k s wr => ∃ i, i + k = N ∧ s = .bool false ∧ Box2 wr w.heap.size 24 (.int .i64 (frT b T B i).1) (.int .i64 (frT b T B i).2) ∧ Box2 wr (w.heap.size + 1) 24 (.int .i64 (frT b U C i).1) (.int .i64 (frT b U C i).2) ∧ Below w.heap.size w wr)
  case atStart => exact ⟨0, by omega, rfl, x2, y2, hbb⟩
  case round =>
    clear x2 y2 hbb
    obtain ⟨i, hi, rfl, x, y, hb⟩ := hrel
    have hO := HO.out i (by omega)
    have NX := Lib.hid (X1.out i); have NY := Lib.hid (X2.out i)
    obtain ⟨t1, ht1⟩ : ∃ t1, (frT b T B i).1 = t1 := ⟨_, rfl⟩
    obtain ⟨n1, hn1⟩ : ∃ n1, (frT b T B i).2 = n1 := ⟨_, rfl⟩
    obtain ⟨t2, ht2⟩ : ∃ t2, (frT b U C i).1 = t2 := ⟨_, rfl⟩
    obtain ⟨n2, hn2⟩ : ∃ n2, (frT b U C i).2 = n2 := ⟨_, rfl⟩
    rw [ht1, hn1] at x NX
    rw [ht2, hn2] at y NY
    have hor : t1 = t2 → ¬ n1 = n2 := fun e1 e2 => hO (Prod.ext (by rw [ht1, ht2, e1]) (by rw [hn1, hn2, e2]))
    have x0 := x.cell0; have x1 := x.cell1; have y0 := y.cell0; have y1 := y.cell1
    obtain ⟨dx, hdx⟩ : ∃ dx, dig b T B i = dx := ⟨_, rfl⟩
    obtain ⟨dy, hdy⟩ : ∃ dy, dig b U C i = dy := ⟨_, rfl⟩
    have hst := HE.out i
    have hend : i = N → dx ≠ dy ∧ decide (dx < dy) = p := fun e => by
      have h1 := HN.out; have h2 := HP.out
      rw [← e, hdx, hdy] at h1 h2
      exact ⟨h1, h2⟩
    rw [hdx, hdy] at hst
    rw [hdx] at NX
    rw [hdy] at NY
    have HF1 := Lib.hid (show (frT b T B (i + 1)).1 = (frT b T B (i + 1)).1 from rfl)
    obtain ⟨t3, ht3⟩ : ∃ t3, (frT b T B (i + 1)).1 = t3 := ⟨_, rfl⟩
    obtain ⟨n3, hn3⟩ : ∃ n3, (frT b T B (i + 1)).2 = n3 := ⟨_, rfl⟩
    obtain ⟨t4, ht4⟩ : ∃ t4, (frT b U C (i + 1)).1 = t4 := ⟨_, rfl⟩
    obtain ⟨n4, hn4⟩ : ∃ n4, (frT b U C (i + 1)).2 = n4 := ⟨_, rfl⟩
    rw [ht3, hn3] at NX
    rw [ht4, hn4] at NY
    have K3 := Lib.hid ht3; have K4 := Lib.hid hn3; have K5 := Lib.hid ht4; have K6 := Lib.hid hn4
    clear hO ht1 hn1 ht2 hn2 hdx hdy ht3 hn3 ht4 hn4 HF1
    by_cases h1 : t1 = t2
    case' pos => have e1 : ((t1 : Int) == (t2 : Int)) = true := by simp; omega
    case' pos => have e2 : ((n1 : Int) == (n2 : Int)) = false := by have := hor h1; simp; omega
    case' neg => have e1 : ((t1 : Int) == (t2 : Int)) = false := by simp; omega
    all_goals (
      clear hor h1
      go_wp2_with fail
      refine (NX.out _).mono ?_
      rintro e w3 ⟨rfl, hb3⟩
      have xa := (x.later hb3).alloc (.cells #[.int .i64 t3, .int .i64 n3] 24)
      have ya := (y.later hb3).alloc (.cells #[.int .i64 t3, .int .i64 n3] 24)
      have fa := Box2.new w3 24 (.int .i64 t3) (.int .i64 n3)
      have hb4 := (hb.trans (hb3.mono hb.size)).alloc (hb.trans (hb3.mono hb.size)).size (.cells #[.int .i64 t3, .int .i64 n3] 24)
      have l3 := (y.later hb3).lt
      clear x0 x1 y0 y1 x y hb hb3 e1
      have y0 := ya.cell0; have y1 := ya.cell1
      go_wp2_with fail
      refine (NY.out _).mono ?_
      rintro e w5 ⟨rfl, hb5⟩
      have xb := (xa.later hb5).alloc (.cells #[.int .i64 t4, .int .i64 n4] 24)
      have yb := (ya.later hb5).alloc (.cells #[.int .i64 t4, .int .i64 n4] 24)
      have fb := (fa.later hb5).alloc (.cells #[.int .i64 t4, .int .i64 n4] 24)
      have gb := Box2.new w5 24 (.int .i64 t4) (.int .i64 n4)
      have hb6 := (hb4.trans (hb5.mono hb4.size)).alloc (hb4.trans (hb5.mono hb4.size)).size (.cells #[.int .i64 t4, .int .i64 n4] 24)
      have l5 := (fa.later hb5).lt
      clear y0 y1 xa ya fa hb4 hb5 NX NY
      by_cases hiN : i = N
      · obtain ⟨h5, h6⟩ := hend hiN
        have j1 : ((dx : Int) == (dy : Int)) = false := by simp; omega
        cases p with
        | true =>
          have j2 : (dx : Int) < (dy : Int) := by have := of_decide_eq_true h6; omega
          go_wp2_with fail
          go_ret
          exact ⟨rfl, hb6⟩
        | false =>
          have j2 : ¬ (dx : Int) < (dy : Int) := by have := of_decide_eq_false h6; omega
          go_wp2_with fail
          go_ret
          exact ⟨rfl, hb6⟩
      · have h5 := hst (by omega)
        subst h5
        clear hst hend
        go_wp2_with fail
        revert xb yb fb gb hb6
        generalize w5.alloc (.cells #[.int .i64 t4, .int .i64 n4] 24) = w6
        intro xb yb fb gb hb6
        have xD : Box2 w6.drew w.heap.size 24 _ _ := xb
        have yD : Box2 w6.drew (w.heap.size + 1) 24 _ _ := yb
        have fD : Box2 w6.drew w3.heap.size 24 _ _ := fb
        have gD : Box2 w6.drew w5.heap.size 24 _ _ := gb
        have k0 := xD.cell0; have k1 := xD.cell1; have k2 := yD.cell0; have k3 := yD.cell1; have k4 := fD.cell0; have k5 := fD.cell1; have k6 := gD.cell0; have k7 := gD.cell1
        have m0 := xD.frozen0; have m1 := xD.frozen1; have m2 := yD.frozen0; have m3 := yD.frozen1
        have r0 := xb.cell0; have r1 := xb.cell1; have r2 := yb.cell0; have r3 := yb.cell1; have r4 := fb.cell0; have r5 := fb.cell1; have r6 := gb.cell0; have r7 := gb.cell1
        have s0 := xb.frozen0; have s1 := xb.frozen1; have s2 := yb.frozen0; have s3 := yb.frozen1
        have v1 : ¬ w3.heap.size = w.heap.size := by omega
        have v2 : ¬ w3.heap.size = w.heap.size + 1 := by omega
        have v3 : ¬ w5.heap.size = w.heap.size := by omega
        have v4 : ¬ w5.heap.size = w.heap.size + 1 := by omega
        have v5 : ¬ w.heap.size = w3.heap.size := by omega
        have v6 : ¬ w.heap.size + 1 = w3.heap.size := by omega
        have v7 : ¬ w.heap.size = w5.heap.size := by omega
        have v8 : ¬ w.heap.size + 1 = w5.heap.size := by omega
        go_region
        all_goals (
          go_wp2
          go_roundg (N - (i + 1))
          case measure => omega
          case rel =>
            refine ⟨i + 1, by omega, rfl, ?_, ?_, ?_⟩
            · rw [K3.out, K4.out]
              exact ((xb.set (.int .i64 t3) (.int .i64 n3)).other (B' := w.heap.size + 1) (o := 0) (by omega) (.int .i64 t4)).other (B' := w.heap.size + 1) (o := 1) (by omega) (.int .i64 n4)
            · rw [K5.out, K6.out]
              exact ((yb.other (B' := w.heap.size) (o := 0) (by omega) (.int .i64 t3)).other (B' := w.heap.size) (o := 1) (by omega) (.int .i64 n3)).set (.int .i64 t4) (.int .i64 n4)
            · exact (((hb6.drew.setCell (p := ⟨w.heap.size, 0, none⟩) (Nat.le_refl _) _).setCell (p := ⟨w.heap.size, 1, none⟩) (Nat.le_refl _) _).setCell (p := ⟨w.heap.size + 1, 0, none⟩) (Nat.le_succ _) _).setCell (p := ⟨w.heap.size + 1, 1, none⟩) (Nat.le_succ _) _))

theorem imSumLess : ImSumLess := ⟨implSumLess_no, fun b T B U C h3 h4 h h' => by
  by_cases e : T * C = U * B
  · obtain ⟨rfl, rfl⟩ := frac_same h h' e
    rw [decide_eq_false (Nat.lt_irrefl _)]
    exact implSumLess_same b T B h3 h4 h
  · obtain ⟨N, h5, h6, h7⟩ := place_some h3 h h' e
    exact implSumLess_off b T B U C N _ h3 h4 h h' h5 h6 (by rw [decide_eq_decide]; exact h7.symm)⟩

end Go.Proofs.Ytoiofkijinlllac
