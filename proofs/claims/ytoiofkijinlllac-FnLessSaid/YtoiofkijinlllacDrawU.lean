/-
  The draws of chapter 6: two fractions; a fraction and a number; a base and two rings; a base and two fractions.
-/
import Derived.Test.YtoiofkijinlllacDrawS
namespace Go.Proofs.Ytoiofkijinlllac
open Go.RowKit

set_option maxHeartbeats 2000000 in
theorem l92Two_any (a : Option Addr) (len cap : Nat) (w : World) (h : Byt w a len cap) :
    Calls Try.prog 22 #[.slice a len cap] w fun e w' => ∃ t n u m : Int, e = .returned (.tuple #[.agg #[.int .i64 t, .int .i64 n], .agg #[.int .i64 u, .int .i64 m]]) ∧ Below w.heap.size w w' := by
  go_enter Try.func22, Try.ntmps22
  go_wp2_with fail
  have z0 := (Box2.new w 24 (.int .i64 0) (.int .i64 0)).alloc (.cells #[.int .i64 0, .int .i64 0] 24)
  have y0 : Box2 _ (w.heap.size + 1) 24 (.int .i64 0) (.int .i64 0) := Box2.newAt (W := w.alloc (.cells #[.int .i64 0, .int .i64 0] 24)) (by simp)
  have B0 : Below w.heap.size w _ := ((Below.refl w.heap.size w).alloc (Nat.le_refl _) (.cells #[.int .i64 0, .int .i64 0] 24)).alloc (by simp) (.cells #[.int .i64 0, .int .i64 0] 24)
  refine (l6Open_any a len cap _ (h.later B0)).mono ?_
  rintro e w1 ⟨g, rfl, hg, hR1, hb1⟩
  have z1 := z0.later hb1
  have y1 := y0.later hb1
  have B1 := B0.trans (hb1.mono B0.size)
  have hgw : w.heap.size + 1 < g := by simp at hg; omega
  have n1 : some w.heap.size ≠ some g := by simp; omega
  have n2 : some (w.heap.size + 1) ≠ some g := by simp; omega
  clear z0 y0 B0 hb1 hg
  go_wp2_with fail
  refine (l91Frac_any g 0 _ hR1 (by omega)).mono ?_
  rintro e w2 ⟨t, n, d3, d4, d5, rfl, ⟨p', hp', hR2⟩, hG2⟩
  have z2 := (z1.grown hG2 n1).alloc (.cells #[.int .i64 t, .int .i64 n] 24)
  have y2 := (y1.grown hG2 n2).alloc (.cells #[.int .i64 t, .int .i64 n] 24)
  have B2 := (B1.grown hG2 B1.size (fun k e => by cases e; omega)).alloc (B1.grown hG2 B1.size (fun k e => by cases e; omega)).size (.cells #[.int .i64 t, .int .i64 n] 24)
  have f2 := Box2.new w2 24 (.int .i64 t) (.int .i64 n)
  have n3 : some w2.heap.size ≠ some g := by have := hR2.lt; simp; omega
  have hsz : w.heap.size + 1 < w2.heap.size := (y1.grown hG2 n2).lt
  have hR3 := hR2.alloc (.cells #[.int .i64 t, .int .i64 n] 24)
  clear z1 y1 B1 hG2 hR1 hR2
  go_wp2_with fail
  revert z2 y2 B2 f2 hR3
  generalize w2.alloc (.cells #[.int .i64 t, .int .i64 n] 24) = w4
  intro z2 y2 B2 f2 hR3
  have hD : Rdr w4.drew g p' := hR3
  have zD : Box2 w4.drew w.heap.size 24 (.int .i64 0) (.int .i64 0) := z2
  have yD : Box2 w4.drew (w.heap.size + 1) 24 (.int .i64 0) (.int .i64 0) := y2
  have fD : Box2 w4.drew w2.heap.size 24 (.int .i64 t) (.int .i64 n) := f2
  have kf0 := fD.cell0
  have kf1 := fD.cell1
  go_region_with (go_at_call 28; with_reducible refine Calls.mono (l91Frac_any g p' _ ?_ ?_) ?_; (· with_reducible assumption); (· omega); rintro e w5 ⟨tt, nn, _, _, _, rfl, ⟨p'', hp'', hR5⟩, hG5⟩; have z5 := zD.grown hG5 n1; have y5 := yD.grown hG5 n2; have f5 := fD.grown hG5 n3; have kz0 := z5.frozen0; have kz1 := z5.frozen1; have ky0 := y5.frozen0; have ky1 := y5.frozen1; have kg0 := f5.cell0; have kg1 := f5.cell1; have kzc0 := z5.cell0; have kzc1 := z5.cell1; have kyc0 := y5.cell0; have kyc1 := y5.cell1)
  all_goals (
    go_wp2
    have B5 : Below w.heap.size w w5 := Below.grown (w := w4.drew) B2.drew hG5 B2.size (fun k e => by cases e; omega)
    have zz := (((z5.set (.int .i64 t) (.int .i64 n)).other (B' := w.heap.size + 1) (o := 0) (by omega) (.int .i64 tt)).other (B' := w.heap.size + 1) (o := 1) (by omega) (.int .i64 nn))
    have yy := ((y5.other (B' := w.heap.size) (o := 0) (by omega) (.int .i64 t)).other (B' := w.heap.size) (o := 1) (by omega) (.int .i64 n)).set (.int .i64 tt) (.int .i64 nn)
    refine bodyPost_ret (v := .tuple #[.agg #[.int .i64 t, .int .i64 n], .agg #[.int .i64 tt, .int .i64 nn]]) (by simp [results, Try.results22, go_sem, zz.cell0, zz.cell1, yy.cell0, yy.cell1]) rfl ?_
    exact ⟨t, n, tt, nn, rfl, (((B5.setCell (p := ⟨w.heap.size, 0, none⟩) (Nat.le_refl _) _).setCell (p := ⟨w.heap.size, 1, none⟩) (Nat.le_refl _) _).setCell (p := ⟨w.heap.size + 1, 0, none⟩) (Nat.le_succ _) _).setCell (p := ⟨w.heap.size + 1, 1, none⟩) (Nat.le_succ _) _⟩)

set_option maxHeartbeats 2000000 in
theorem drawSumOf_any (a : Option Addr) (len cap : Nat) (w : World) (h : Byt w a len cap) :
    Calls Try.prog 7 #[.slice a len cap] w fun e w' => ∃ t n u m : Int, e = .returned (.tuple #[.agg #[.int .i64 t, .int .i64 n], .agg #[.int .i64 u, .int .i64 m]]) ∧ Below w.heap.size w w' := by
  go_enter Try.func7, Try.ntmps7
  go_wp2_with fail
  have z0 := (Box2.new w 24 (.int .i64 0) (.int .i64 0)).alloc (.cells #[.int .i64 0, .int .i64 0] 24)
  have y0 : Box2 _ (w.heap.size + 1) 24 (.int .i64 0) (.int .i64 0) := Box2.newAt (W := w.alloc (.cells #[.int .i64 0, .int .i64 0] 24)) (by simp)
  have B0 : Below w.heap.size w _ := ((Below.refl w.heap.size w).alloc (Nat.le_refl _) (.cells #[.int .i64 0, .int .i64 0] 24)).alloc (by simp) (.cells #[.int .i64 0, .int .i64 0] 24)
  refine (l92Two_any a len cap _ (h.later B0)).mono ?_
  rintro e w1 ⟨t, n, u, m, rfl, hb1⟩
  have z1 := z0.later hb1
  have y1 := y0.later hb1
  have B1 := B0.trans (hb1.mono B0.size)
  clear z0 y0 B0 hb1
  have kz0 := z1.cell0
  have kz1 := z1.cell1
  have fz0 := z1.frozen0
  have fz1 := z1.frozen1
  have ky0 := y1.cell0
  have ky1 := y1.cell1
  have fy0 := y1.frozen0
  have fy1 := y1.frozen1
  go_wp2_with fail
  have zz := (((z1.set (.int .i64 t) (.int .i64 n)).other (B' := w.heap.size + 1) (o := 0) (by omega) (.int .i64 u)).other (B' := w.heap.size + 1) (o := 1) (by omega) (.int .i64 m))
  have yy := ((y1.other (B' := w.heap.size) (o := 0) (by omega) (.int .i64 t)).other (B' := w.heap.size) (o := 1) (by omega) (.int .i64 n)).set (.int .i64 u) (.int .i64 m)
  refine bodyPost_ret (v := .tuple #[.agg #[.int .i64 t, .int .i64 n], .agg #[.int .i64 u, .int .i64 m]]) (by simp [results, Try.results7, go_sem, zz.cell0, zz.cell1, yy.cell0, yy.cell1]) rfl ?_
  exact ⟨t, n, u, m, rfl, (((B1.setCell (p := ⟨w.heap.size, 0, none⟩) (Nat.le_refl _) _).setCell (p := ⟨w.heap.size, 1, none⟩) (Nat.le_refl _) _).setCell (p := ⟨w.heap.size + 1, 0, none⟩) (Nat.le_succ _) _).setCell (p := ⟨w.heap.size + 1, 1, none⟩) (Nat.le_succ _) _⟩

theorem stimes_val {r4 r5 r6 : Int} (h1 : 0 ≤ r4) (h2 : r4 < 30) (h4 : 0 ≤ r5) (h5 : r5 < 24) (h6 : 0 ≤ r6) (h7 : r6 < 24) :
    IntKind.i64.wrap (IntKind.i64.wrap (r4 + IntKind.i64.wrap (IntKind.i64.wrap (r5.tdiv 23) * 1000)) - IntKind.i64.wrap (r6.tdiv 23)) = r4 + r5 / 23 * 1000 - r6 / 23 := by
  have e1 : r5.tdiv 23 = r5 / 23 := Int.tdiv_eq_ediv_of_nonneg h4
  have e2 : r6.tdiv 23 = r6 / 23 := Int.tdiv_eq_ediv_of_nonneg h6
  rw [e1, e2, wrap_in (r5 / 23) (by omega) (by omega), wrap_in (r6 / 23) (by omega) (by omega), wrap_in (r5 / 23 * 1000) (by omega) (by omega), wrap_in (r4 + r5 / 23 * 1000) (by omega) (by omega), wrap_in _ (by omega) (by omega)]

set_option maxHeartbeats 2000000 in
theorem drawSumTimes_any (a : Option Addr) (len cap : Nat) (w : World) (h : Byt w a len cap) :
    Calls Try.prog 11 #[.slice a len cap] w fun e w' => ∃ t n k : Int, -1 ≤ k ∧ k ≤ 2000 ∧ e = .returned (.tuple #[.agg #[.int .i64 t, .int .i64 n], .int .i64 k]) ∧ Below w.heap.size w w' := by
  go_enter Try.func11, Try.ntmps11
  go_wp2_with fail
  have z0 := Box2.new w 24 (.int .i64 0) (.int .i64 0)
  have B0 : Below w.heap.size w (w.alloc (.cells #[.int .i64 0, .int .i64 0] 24)) := (Below.refl _ _).alloc (Nat.le_refl _) _
  refine (l6Open_any a len cap _ (h.later B0)).mono ?_
  rintro e w1 ⟨g, rfl, hg, hR1, hb1⟩
  have z1 := z0.later hb1
  have B1 := B0.trans (hb1.mono B0.size)
  have hgw : w.heap.size < g := by simp at hg; omega
  have hne : some w.heap.size ≠ some g := by simp; omega
  clear z0 B0 hb1 hg
  go_wp2_with fail
  refine (l91Frac_any g _ _ hR1 (by omega)).mono ?_
  rintro e w3 ⟨t, n, d3, d4, d5, rfl, ⟨p', hp', hR3⟩, hG3⟩
  have z3 := z1.grown hG3 hne
  have B3 := B1.grown hG3 B1.size (fun k e => by cases e; omega)
  clear z1 B1 hG3 hR1
  go_wp2_with fail
  have hD3 : Rdr (w3.alloc (.cells #[.int .i64 t, .int .i64 n] 24)).drew g p' := hR3.alloc _
  have zD : Box2 (w3.alloc (.cells #[.int .i64 t, .int .i64 n] 24)).drew w.heap.size 24 (.int .i64 0) (.int .i64 0) := z3.alloc _
  have qD : Box2 (w3.alloc (.cells #[.int .i64 t, .int .i64 n] 24)).drew w3.heap.size 24 (.int .i64 t) (.int .i64 n) := Box2.new w3 _ _ _
  have hne3 : some w3.heap.size ≠ some g := by have := hR3.lt; simp; omega
  have kq0 := qD.cell0
  have kq1 := qD.cell1
  go_region_with (go_at_call 29; first | (with_reducible refine Calls.mono (pick_any g p' 30 _ ?_ ?_ ?_) ?_; (· with_reducible assumption); (· omega); (· omega); rintro e w4 ⟨r4, h40, h41, rfl, hR4, hG4⟩; have q4 := qD.grown hG4 hne3; have q40 := q4.cell0; have q41 := q4.cell1) | (with_reducible refine Calls.mono (pick_any g (p' + 1) 24 _ ?_ ?_ ?_) ?_; (· with_reducible assumption); (· omega); (· omega); rintro e w5 ⟨r5, h50, h51, rfl, hR5, hG5⟩; have q5 := q4.grown hG5 hne3; have q50 := q5.cell0; have q51 := q5.cell1) | (with_reducible refine Calls.mono (pick_any g (p' + 1 + 1) 24 _ ?_ ?_ ?_) ?_; (· with_reducible assumption); (· omega); (· omega); rintro e w6 ⟨r6, h60, h61, rfl, hR6, hG6⟩; have q6 := q5.grown hG6 hne3; have q60 := q6.cell0; have q61 := q6.cell1; have z6 := ((zD.grown hG4 hne).grown hG5 hne).grown hG6 hne; have k60 := z6.cell0; have k61 := z6.cell1; have f60 := z6.frozen0; have f61 := z6.frozen1))
  all_goals (
    go_wp2
    have B4 : Below w.heap.size w w4 := Below.grown (w := (w3.alloc (.cells #[.int .i64 t, .int .i64 n] 24)).drew) (B3.alloc B3.size _).drew hG4 (B3.alloc B3.size _).size (fun k e => by cases e; omega)
    have B5 := B4.grown hG5 B4.size (fun k e => by cases e; omega)
    have B6 := B5.grown hG6 B5.size (fun k e => by cases e; omega)
    have ev := stimes_val h40 h41 h50 h51 h60 h61
    refine bodyPost_ret (v := .tuple #[.agg #[.int .i64 t, .int .i64 n], .int .i64 (IntKind.i64.wrap (IntKind.i64.wrap (r4 + IntKind.i64.wrap (IntKind.i64.wrap (r5.tdiv 23) * 1000)) - IntKind.i64.wrap (r6.tdiv 23)))]) (by simp [results, Try.results11, go_sem, (z6.set _ _).cell0, (z6.set _ _).cell1]) rfl ?_
    exact ⟨t, n, _, by rw [ev]; omega, by rw [ev]; omega, rfl, (B6.setCell (p := ⟨w.heap.size, 0, none⟩) (Nat.le_refl _) _).setCell (p := ⟨w.heap.size, 1, none⟩) (Nat.le_refl _) _⟩)

set_option maxHeartbeats 2000000 in
theorem l92Both_any (a : Option Addr) (len cap : Nat) (w : World) (h : Byt w a len cap) :
    Calls Try.prog 32 #[.slice a len cap] w fun e w' => ∃ b t n u m : Int, e = .returned (.tuple #[.int .i64 b, .agg #[.int .i64 t, .int .i64 n], .agg #[.int .i64 u, .int .i64 m]]) ∧ Below w.heap.size w w' := by
  go_enter Try.func32, Try.ntmps32
  go_wp2_with fail
  have z0 := (Box2.new w 24 (.int .i64 0) (.int .i64 0)).alloc (.cells #[.int .i64 0, .int .i64 0] 24)
  have y0 : Box2 _ (w.heap.size + 1) 24 (.int .i64 0) (.int .i64 0) := Box2.newAt (W := w.alloc (.cells #[.int .i64 0, .int .i64 0] 24)) (by simp)
  have B0 : Below w.heap.size w _ := ((Below.refl w.heap.size w).alloc (Nat.le_refl _) (.cells #[.int .i64 0, .int .i64 0] 24)).alloc (by simp) (.cells #[.int .i64 0, .int .i64 0] 24)
  refine (l92Two_any a len cap _ (h.later B0)).mono ?_
  rintro e w1 ⟨t, n, u, m, rfl, hb1⟩
  have hs0 : w.heap.size + 1 < w1.heap.size := (y0.later hb1).lt
  have z1 := ((z0.later hb1).alloc (.cells #[.int .i64 t, .int .i64 n] 24)).alloc (.cells #[.int .i64 u, .int .i64 m] 24)
  have y1 := ((y0.later hb1).alloc (.cells #[.int .i64 t, .int .i64 n] 24)).alloc (.cells #[.int .i64 u, .int .i64 m] 24)
  have f1 := (Box2.new w1 24 (.int .i64 t) (.int .i64 n)).alloc (.cells #[.int .i64 u, .int .i64 m] 24)
  have g1 : Box2 _ (w1.heap.size + 1) 24 (.int .i64 u) (.int .i64 m) := Box2.newAt (W := w1.alloc (.cells #[.int .i64 t, .int .i64 n] 24)) (by simp)
  have B1' := B0.trans (hb1.mono B0.size)
  have B1 := (B1'.alloc B1'.size (.cells #[.int .i64 t, .int .i64 n] 24)).alloc (B1'.alloc B1'.size _).size (.cells #[.int .i64 u, .int .i64 m] 24)
  clear z0 y0 B0 hb1 B1'
  go_wp2_with fail
  refine (l6Open_any a len cap _ (h.later B1)).mono ?_
  rintro e w3 ⟨g, rfl, hg, hR3, hb3⟩
  have z3 := z1.later hb3
  have y3 := y1.later hb3
  have f3 := f1.later hb3
  have g3 := g1.later hb3
  have B3 := B1.trans (hb3.mono B1.size)
  have hg' : w1.heap.size + 1 < g := by simp at hg; omega
  have n1 : some w.heap.size ≠ some g := by simp; omega
  have n2 : some (w.heap.size + 1) ≠ some g := by simp; omega
  have n3 : some w1.heap.size ≠ some g := by simp; omega
  have n4 : some (w1.heap.size + 1) ≠ some g := by simp; omega
  clear z1 y1 f1 g1 B1 hb3 hg h
  have hR4 : Rdr (w3.setCell ⟨g, 1, none⟩ (.int .i64 61)) g 61 := hR3.setp 61
  have hG4 : w3.grownBy (w3.setCell ⟨g, 1, none⟩ (.int .i64 61)) (some g) := grown_set1 w3 g (.int .i64 61)
  have z4 := z3.grown hG4 n1
  have y4 := y3.grown hG4 n2
  have f4 := f3.grown hG4 n3
  have g4 := g3.grown hG4 n4
  have B4 := B3.grown hG4 B3.size (fun k e => by cases e; omega)
  have p1 := hR3.cell1
  have p2 := hR3.frozen1
  clear hR3 hG4 z3 y3 f3 g3 B3
  go_wp2_with fail
  revert hR4 z4 y4 f4 g4 B4
  clear p1 p2
  generalize w3.setCell ⟨g, 1, none⟩ (.int .i64 61) = w4
  intro hR4 z4 y4 f4 g4 B4
  have hD : Rdr w4.drew g 61 := hR4
  have zD : Box2 w4.drew w.heap.size 24 (.int .i64 0) (.int .i64 0) := z4
  have yD : Box2 w4.drew (w.heap.size + 1) 24 (.int .i64 0) (.int .i64 0) := y4
  have fD : Box2 w4.drew w1.heap.size 24 (.int .i64 t) (.int .i64 n) := f4
  have gD : Box2 w4.drew (w1.heap.size + 1) 24 (.int .i64 u) (.int .i64 m) := g4
  have kf0 := fD.cell0
  have kf1 := fD.cell1
  have ke0 := gD.cell0
  have ke1 := gD.cell1
  have e1 : ¬ w1.heap.size = w.heap.size := by omega
  have e2 : ¬ w1.heap.size = w.heap.size + 1 := by omega
  have e3 : ¬ w1.heap.size + 1 = w.heap.size := by omega
  have e4 : ¬ w1.heap.size + 1 = w.heap.size + 1 := by omega
  have e5 : ¬ w.heap.size = w1.heap.size := by omega
  have e6 : ¬ w.heap.size + 1 = w1.heap.size := by omega
  have e7 : ¬ w.heap.size = w1.heap.size + 1 := by omega
  have e8 : ¬ w.heap.size + 1 = w1.heap.size + 1 := by omega
  go_region_with (go_at_call 44; with_reducible refine Calls.mono (l91Base_any g 61 _ ?_ ?_) ?_; (· with_reducible assumption); (· omega); rintro e w5 ⟨b, d1, d2, rfl, hR5, hG5⟩; have z5 := zD.grown hG5 n1; have y5 := yD.grown hG5 n2; have f5 := fD.grown hG5 n3; have g5 := gD.grown hG5 n4; have kz0 := z5.frozen0; have kz1 := z5.frozen1; have ky0 := y5.frozen0; have ky1 := y5.frozen1; have kg0 := f5.cell0; have kg1 := f5.cell1; have kh0 := g5.cell0; have kh1 := g5.cell1; have kzc0 := z5.cell0; have kzc1 := z5.cell1; have kyc0 := y5.cell0; have kyc1 := y5.cell1)
  all_goals (
    go_wp2
    have B5 : Below w.heap.size w w5 := Below.grown (w := w4.drew) B4.drew hG5 B4.size (fun k e => by cases e; omega)
    have zz := (((z5.set (.int .i64 t) (.int .i64 n)).other (B' := w.heap.size + 1) (o := 0) (by omega) (.int .i64 u)).other (B' := w.heap.size + 1) (o := 1) (by omega) (.int .i64 m))
    have yy := ((y5.other (B' := w.heap.size) (o := 0) (by omega) (.int .i64 t)).other (B' := w.heap.size) (o := 1) (by omega) (.int .i64 n)).set (.int .i64 u) (.int .i64 m)
    refine bodyPost_ret (v := .tuple #[.int .i64 b, .agg #[.int .i64 t, .int .i64 n], .agg #[.int .i64 u, .int .i64 m]]) (by simp [results, Try.results32, go_sem, zz.cell0, zz.cell1, yy.cell0, yy.cell1]) rfl ?_
    exact ⟨b, t, n, u, m, rfl, (((B5.setCell (p := ⟨w.heap.size, 0, none⟩) (Nat.le_refl _) _).setCell (p := ⟨w.heap.size, 1, none⟩) (Nat.le_refl _) _).setCell (p := ⟨w.heap.size + 1, 0, none⟩) (Nat.le_succ _) _).setCell (p := ⟨w.heap.size + 1, 1, none⟩) (Nat.le_succ _) _⟩)

set_option maxHeartbeats 2000000 in
theorem drawSumLengths_any (a : Option Addr) (len cap : Nat) (w : World) (h : Byt w a len cap) :
    Calls Try.prog 18 #[.slice a len cap] w fun e w' => ∃ b t n u m : Int, e = .returned (.tuple #[.int .i64 b, .agg #[.int .i64 t, .int .i64 n], .agg #[.int .i64 u, .int .i64 m]]) ∧ Below w.heap.size w w' := by
  go_enter Try.func18, Try.ntmps18
  go_wp2_with fail
  have z0 := (Box2.new w 24 (.int .i64 0) (.int .i64 0)).alloc (.cells #[.int .i64 0, .int .i64 0] 24)
  have y0 : Box2 _ (w.heap.size + 1) 24 (.int .i64 0) (.int .i64 0) := Box2.newAt (W := w.alloc (.cells #[.int .i64 0, .int .i64 0] 24)) (by simp)
  have B0 : Below w.heap.size w _ := ((Below.refl w.heap.size w).alloc (Nat.le_refl _) (.cells #[.int .i64 0, .int .i64 0] 24)).alloc (by simp) (.cells #[.int .i64 0, .int .i64 0] 24)
  refine (l92Both_any a len cap _ (h.later B0)).mono ?_
  rintro e w1 ⟨b, t, n, u, m, rfl, hb1⟩
  have z1 := z0.later hb1
  have y1 := y0.later hb1
  have B1 := B0.trans (hb1.mono B0.size)
  clear z0 y0 B0 hb1
  have kz0 := z1.cell0
  have kz1 := z1.cell1
  have fz0 := z1.frozen0
  have fz1 := z1.frozen1
  have ky0 := y1.cell0
  have ky1 := y1.cell1
  have fy0 := y1.frozen0
  have fy1 := y1.frozen1
  go_wp2_with fail
  have zz := (((z1.set (.int .i64 t) (.int .i64 n)).other (B' := w.heap.size + 1) (o := 0) (by omega) (.int .i64 u)).other (B' := w.heap.size + 1) (o := 1) (by omega) (.int .i64 m))
  have yy := ((y1.other (B' := w.heap.size) (o := 0) (by omega) (.int .i64 t)).other (B' := w.heap.size) (o := 1) (by omega) (.int .i64 n)).set (.int .i64 u) (.int .i64 m)
  refine bodyPost_ret (v := .tuple #[.int .i64 b, .agg #[.int .i64 t, .int .i64 n], .agg #[.int .i64 u, .int .i64 m]]) (by simp [results, Try.results18, go_sem, zz.cell0, zz.cell1, yy.cell0, yy.cell1]) rfl ?_
  exact ⟨b, t, n, u, m, rfl, (((B1.setCell (p := ⟨w.heap.size, 0, none⟩) (Nat.le_refl _) _).setCell (p := ⟨w.heap.size, 1, none⟩) (Nat.le_refl _) _).setCell (p := ⟨w.heap.size + 1, 0, none⟩) (Nat.le_succ _) _).setCell (p := ⟨w.heap.size + 1, 1, none⟩) (Nat.le_succ _) _⟩

set_option maxHeartbeats 2000000 in
theorem drawSumLess_any (a : Option Addr) (len cap : Nat) (w : World) (h : Byt w a len cap) :
    Calls Try.prog 14 #[.slice a len cap] w fun e w' => ∃ b t n u m : Int, e = .returned (.tuple #[.int .i64 b, .agg #[.int .i64 t, .int .i64 n], .agg #[.int .i64 u, .int .i64 m]]) ∧ Below w.heap.size w w' := by
  go_enter Try.func14, Try.ntmps14
  go_wp2_with fail
  have z0 := (Box2.new w 24 (.int .i64 0) (.int .i64 0)).alloc (.cells #[.int .i64 0, .int .i64 0] 24)
  have y0 : Box2 _ (w.heap.size + 1) 24 (.int .i64 0) (.int .i64 0) := Box2.newAt (W := w.alloc (.cells #[.int .i64 0, .int .i64 0] 24)) (by simp)
  have B0 : Below w.heap.size w _ := ((Below.refl w.heap.size w).alloc (Nat.le_refl _) (.cells #[.int .i64 0, .int .i64 0] 24)).alloc (by simp) (.cells #[.int .i64 0, .int .i64 0] 24)
  refine (l92Both_any a len cap _ (h.later B0)).mono ?_
  rintro e w1 ⟨b, t, n, u, m, rfl, hb1⟩
  have z1 := z0.later hb1
  have y1 := y0.later hb1
  have B1 := B0.trans (hb1.mono B0.size)
  clear z0 y0 B0 hb1
  have kz0 := z1.cell0
  have kz1 := z1.cell1
  have fz0 := z1.frozen0
  have fz1 := z1.frozen1
  have ky0 := y1.cell0
  have ky1 := y1.cell1
  have fy0 := y1.frozen0
  have fy1 := y1.frozen1
  go_wp2_with fail
  have zz := (((z1.set (.int .i64 t) (.int .i64 n)).other (B' := w.heap.size + 1) (o := 0) (by omega) (.int .i64 u)).other (B' := w.heap.size + 1) (o := 1) (by omega) (.int .i64 m))
  have yy := ((y1.other (B' := w.heap.size) (o := 0) (by omega) (.int .i64 t)).other (B' := w.heap.size) (o := 1) (by omega) (.int .i64 n)).set (.int .i64 u) (.int .i64 m)
  refine bodyPost_ret (v := .tuple #[.int .i64 b, .agg #[.int .i64 t, .int .i64 n], .agg #[.int .i64 u, .int .i64 m]]) (by simp [results, Try.results14, go_sem, zz.cell0, zz.cell1, yy.cell0, yy.cell1]) rfl ?_
  exact ⟨b, t, n, u, m, rfl, (((B1.setCell (p := ⟨w.heap.size, 0, none⟩) (Nat.le_refl _) _).setCell (p := ⟨w.heap.size, 1, none⟩) (Nat.le_refl _) _).setCell (p := ⟨w.heap.size + 1, 0, none⟩) (Nat.le_succ _) _).setCell (p := ⟨w.heap.size + 1, 1, none⟩) (Nat.le_succ _) _⟩



end Go.Proofs.Ytoiofkijinlllac
