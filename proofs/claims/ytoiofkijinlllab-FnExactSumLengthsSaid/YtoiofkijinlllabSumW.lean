/-
  Chapter 6, the program's side: lengths, which fraction is less.
-/
import Derived.Test.YtoiofkijinlllabSumX
import Derived.Test.YtoiofkijinlllabSumL
import Derived.Test.YtoiofkijinlllabEq
import Derived.Test.YtoiofkijinlllabNext
import Derived.Test.YtoiofkijinlllabFirst
namespace Go.Proofs.Ytoiofkijinlllab
open Go.RowKit

theorem round_lenX (b T B n m : Nat) (w : World) (hT : T < B) (hg : Nat.gcd T B = 1) (hB : B ≤ 1000) (h3 : 2 ≤ b) (h4 : b ≤ 16) (hnm : IsLen b T B n m) :
    Calls Try.prog 29 #[.agg #[.int .i64 T, .int .i64 B], .int .i64 b] w fun e w' => ∃ a c, e = .returned (.slice a m c) ∧ Below w.heap.size w w' :=
  (round_any b T B w hT hg hB h3 h4).mono fun e w' ⟨v, n', m', h', he, hs, hb⟩ => by
    obtain ⟨rfl, rfl⟩ := hnm.unique h'
    obtain ⟨a, c, hv⟩ := slc_form hs
    rw [rndL_len] at hv
    exact ⟨a, c, by rw [he, hv], hb⟩

set_option maxHeartbeats 2000000 in
theorem implSumLengths_no (b t n u m : Int) (h : (tldB b t n && tldB b u m) = false) : GivesI 15 #[.int .i64 b, .agg #[.int .i64 t, .int .i64 n], .agg #[.int .i64 u, .int .i64 m]] 0 false := by
  intro w
  cases h1 : tldB b t n with
  | false =>
    clear h
    go_enter Try.func15, Try.ntmps15
    go_wp2_with fail
    refine (fracTold_any _ _ _ _).mono ?_
    rintro e w1 ⟨rfl, hb1⟩
    rw [h1]
    have hb := bel2' hb1
    go_wp2_with fail
    go_ret2
    exact ⟨rfl, hb⟩
  | true =>
    rw [h1, Bool.true_and] at h
    go_enter Try.func15, Try.ntmps15
    go_wp2_with fail
    refine (fracTold_any _ _ _ _).mono ?_
    rintro e w1 ⟨rfl, hb1⟩
    rw [h1]
    have y1 : Box2 w1 (w.heap.size + 1) 33 (.int .i64 u) (.int .i64 m) := (Box2.newAt (by simp)).later hb1
    have y0 := y1.cell0
    have y1' := y1.cell1
    have hb := bel2' hb1
    clear hb1
    go_wp2_with fail
    refine (fracTold_any _ _ _ _).mono ?_
    rintro e w2 ⟨rfl, hb2⟩
    rw [h]
    have hbb := hb.trans (hb2.mono hb.size)
    go_wp2_with fail
    go_ret2
    exact ⟨rfl, hbb⟩

theorem lcm_castX (m k : Nat) : (m : Int) / (Nat.gcd m k : Nat) * k = (lcmL m k : Nat) := by unfold lcmL; simp

set_option maxHeartbeats 4000000 in
theorem implSumLengths_yes (b T B U C n m i k : Nat) (h3 : 2 ≤ b) (h4 : b ≤ 16) (h : FOk T B) (h' : FOk U C) (hm : IsLen b T B n m) (hk : IsLen b U C i k) :
    GivesI 15 #[.int .i64 b, .agg #[.int .i64 T, .int .i64 B], .agg #[.int .i64 U, .int .i64 C]] (lcmL m k) true := by
  intro w
  have t1 := h.told h3 h4
  have t2 := h'.told h3 h4
  have hT := h.lt; have hB := h.bot; have hU := h'.lt; have hC := h'.bot
  have hml := hm.le hT
  have hkl := hk.le hU
  have hmp := hm.pos
  have hkp := hk.pos
  have hg1 : 0 < Nat.gcd m k := Nat.gcd_pos_of_pos_left _ hmp
  have hg2 : Nat.gcd m k ≤ m := Nat.gcd_le_left _ hmp
  have hdm : m / Nat.gcd m k ≤ m := Nat.div_le_self _ _
  have hlm : lcmL m k ≤ 1000 * 1000 := Nat.mul_le_mul (by omega) (by omega)
  have HC := Lib.hid (lcm_castX m k)
  have hg0 : ¬ Nat.gcd m k = 0 := by omega
  have q1 : (m : Int) / (Nat.gcd m k : Nat) ≤ 1000 := by
    have : ((m / Nat.gcd m k : Nat) : Int) ≤ 1000 := by omega
    exact this
  have q0 : (0 : Int) ≤ (m : Int) / (Nat.gcd m k : Nat) := Int.ediv_nonneg (by omega) (by omega)
  have q2 : (0 : Int) ≤ (m : Int) / (Nat.gcd m k : Nat) * k := by rw [HC.out]; omega
  have q3 : (m : Int) / (Nat.gcd m k : Nat) * k ≤ 1000000 := by rw [HC.out]; omega
  have R1 := Lib.hid (fun wx => round_lenX b T B n m wx hT h.cop hB h3 h4 hm)
  have R2 := Lib.hid (fun wx => round_lenX b U C i k wx hU h'.cop hC h3 h4 hk)
  clear h h' hm hk hdm hlm
  go_enter Try.func15, Try.ntmps15
  go_wp2_with fail
  refine (fracTold_any _ _ _ _).mono ?_
  rintro e w1 ⟨rfl, hb1⟩
  rw [t1]
  have x1 : Box2 w1 w.heap.size 33 (.int .i64 T) (.int .i64 B) := ((Box2.newAt rfl).alloc _).later hb1
  have y1 : Box2 w1 (w.heap.size + 1) 33 (.int .i64 U) (.int .i64 C) := (Box2.newAt (by simp)).later hb1
  have y0 := y1.cell0
  have y1' := y1.cell1
  have hb := bel2' hb1
  clear hb1
  go_wp2_with fail
  refine (fracTold_any _ _ _ _).mono ?_
  rintro e w2 ⟨rfl, hb2⟩
  rw [t2]
  have x2 := x1.later hb2
  have y2 := y1.later hb2
  have dx : Box2 w2.drew w.heap.size 33 (.int .i64 T) (.int .i64 B) := x2
  have dy : Box2 w2.drew (w.heap.size + 1) 33 (.int .i64 U) (.int .i64 C) := y2
  have d0 := dx.cell0
  have d1 := dx.cell1
  have d2 := dy.cell0
  have d3 := dy.cell1
  have hbb := (hb.trans (hb2.mono hb.size)).drew
  clear hb2 hb t1 t2 x1 y1 y0 y1'
  go_wp2_with fail
  go_region_held3 (fun w' => (w'.cell? ⟨w.heap.size, 0, none⟩ = some (.int .i64 T) ∧ w'.cell? ⟨w.heap.size, 1, none⟩ = some (.int .i64 B) ∧ w'.cell? ⟨w.heap.size + 1, 0, none⟩ = some (.int .i64 U) ∧ w'.cell? ⟨w.heap.size + 1, 1, none⟩ = some (.int .i64 C)) ∧ Below w.heap.size w w' ∧ Box2 w' w.heap.size 33 (.int .i64 T) (.int .i64 B) ∧ Box2 w' (w.heap.size + 1) 33 (.int .i64 U) (.int .i64 C)) (exact ⟨⟨by assumption, by assumption, by assumption, by assumption⟩, by assumption, by assumption, by assumption⟩)
    (first
      | (go_at_call 29; (with_reducible refine Calls.mono (R1.out _) ?_); rintro e w3 ⟨a3, c3, rfl, hb3⟩; have x3 : Box2 w3 w.heap.size 33 (.int .i64 T) (.int .i64 B) := Box2.later (by assumption) hb3; have y3 : Box2 w3 (w.heap.size + 1) 33 (.int .i64 U) (.int .i64 C) := Box2.later (by assumption) hb3; have e0 := x3.cell0; have e1 := x3.cell1; have e2 := y3.cell0; have e3 := y3.cell1; have hbw : Below w.heap.size w w3 := Below.trans (by assumption) (hb3.mono (Below.size (by assumption))))
      | (go_at_call 29; (with_reducible refine Calls.mono (R2.out _) ?_); rintro e w3 ⟨a3, c3, rfl, hb3⟩; have x3 : Box2 w3 w.heap.size 33 (.int .i64 T) (.int .i64 B) := Box2.later (by assumption) hb3; have y3 : Box2 w3 (w.heap.size + 1) 33 (.int .i64 U) (.int .i64 C) := Box2.later (by assumption) hb3; have e0 := x3.cell0; have e1 := x3.cell1; have e2 := y3.cell0; have e3 := y3.cell1; have hbw : Below w.heap.size w w3 := Below.trans (by assumption) (hb3.mono (Below.size (by assumption)))))
  all_goals (
    go_wp2_with fail
    refine (commonDivisor_any _ _ _ (by omega) (by omega) (by omega) (by omega)).mono ?_
    rintro e w7 ⟨rfl, rfl⟩
    rw [gcdI_nat]
    go_wp2_with fail
    go_ret2
    rw [← HC.out]
    exact ⟨rfl, hbw⟩)

theorem imSumLengths : ImSumLengths := ⟨implSumLengths_no, implSumLengths_yes⟩


end Go.Proofs.Ytoiofkijinlllab
