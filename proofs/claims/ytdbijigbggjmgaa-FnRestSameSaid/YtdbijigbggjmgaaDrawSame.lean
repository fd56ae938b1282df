/-
  The draw of a base and two fractions whose rounds are often the same.
-/
import Derived.Test.YtdbijigbggjmgaaDrawS
import Derived.Test.YtdbijigbggjmgaaShiftS
namespace Go.Proofs.Ytdbijigbggjmgaa
open Go.RowKit

set_option maxHeartbeats 1000000 in
theorem drawRestSame_any (a : Option Addr) (len cap : Nat) (w : World) (h : Byt w a len cap) :
    Calls Try.prog 10 #[.slice a len cap] w fun e w' => ∃ b t n t2 n2 : Int, e = .returned (.tuple #[.int .i64 b, .agg #[.int .i64 t, .int .i64 n], .agg #[.int .i64 t2, .int .i64 n2]]) ∧ Below w.heap.size w w' := by
  go_enter Try.func10, Try.ntmps10
  go_wp2_with fail
  have z0 := (Box2.new w 24 (.int .i64 0) (.int .i64 0)).alloc (.cells #[.int .i64 0, .int .i64 0] 24)
  have y0 : Box2 _ (w.heap.size + 1) 24 (.int .i64 0) (.int .i64 0) := Box2.newAt (W := w.alloc (.cells #[.int .i64 0, .int .i64 0] 24)) (by simp)
  have B0 : Below w.heap.size w _ := ((Below.refl w.heap.size w).alloc (Nat.le_refl _) (.cells #[.int .i64 0, .int .i64 0] 24)).alloc (by simp) (.cells #[.int .i64 0, .int .i64 0] 24)
  refine (l91With_any a len cap 9 _ (h.later B0) (by omega) (by omega)).mono ?_
  rintro e w1 ⟨b, t, n, k, hd, hk1, hk2, rfl, hb1⟩
  have z1 := z0.later hb1
  have y1 := y0.later hb1
  have B1 := B0.trans (hb1.mono B0.size)
  clear z0 y0 B0 hb1 hk1 hk2 hd
  obtain ⟨x, y, p, hs, _, _⟩ := both_shift b t n k
  have HS := Lib.hid hs; clear hs
  have h1 := h.later B1
  have f1 := Box2.new w1 24 (.int .i64 t) (.int .i64 n)
  have z1' := z1.alloc (.cells #[.int .i64 t, .int .i64 n] 24)
  have y1' := y1.alloc (.cells #[.int .i64 t, .int .i64 n] 24)
  have B1' := B1.alloc B1.size (.cells #[.int .i64 t, .int .i64 n] 24)
  have hs1 : w.heap.size + 1 < w1.heap.size := y1.lt
  clear z1 y1 B1 h1
  go_wp2_with fail
  refine (HS.out _).mono ?_
  rintro e w2 ⟨rfl, hb2⟩
  have z2 := (z1'.later hb2).alloc (.cells #[.int .i64 x, .int .i64 y] 24)
  have y2 := (y1'.later hb2).alloc (.cells #[.int .i64 x, .int .i64 y] 24)
  have f2 := (f1.later hb2).alloc (.cells #[.int .i64 x, .int .i64 y] 24)
  have g2 := Box2.new w2 24 (.int .i64 x) (.int .i64 y)
  have B2 := (B1'.trans (hb2.mono B1'.size)).alloc (B1'.trans (hb2.mono B1'.size)).size (.cells #[.int .i64 x, .int .i64 y] 24)
  have hsz : w1.heap.size < w2.heap.size := by have := hb2.size; simp at this; omega
  clear z1' y1' f1 B1' hb2 HS
  go_wp2_with fail
  refine (l6Open_any a len cap _ (h.later B2)).mono ?_
  rintro e w3 ⟨g, rfl, hg, hR3, hb3⟩
  have z3 := z2.later hb3
  have y3 := y2.later hb3
  have f3 := f2.later hb3
  have g3 := g2.later hb3
  have B3 := B2.trans (hb3.mono B2.size)
  have hg' : w2.heap.size < g := by simp at hg; omega
  have l1 := y2.lt
  have hgw : w.heap.size < g := by have := z2.lt; simp at this hg; omega
  have n1 : some w.heap.size ≠ some g := by simp; omega
  have n2 : some (w.heap.size + 1) ≠ some g := by simp at l1 hg; simp; omega
  have n3 : some w1.heap.size ≠ some g := by simp; omega
  have n4 : some w2.heap.size ≠ some g := by simp; omega
  clear z2 y2 f2 g2 B2 hb3 hg l1 h
  have hR4 : Rdr (w3.setCell ⟨g, 1, none⟩ (.int .i64 61)) g 61 := hR3.setp 61
  have hG4 : w3.grownBy (w3.setCell ⟨g, 1, none⟩ (.int .i64 61)) (some g) := grown_set1 w3 g (.int .i64 61)
  have z4 := z3.grown hG4 n1
  have y4 := y3.grown hG4 n2
  have f4 := f3.grown hG4 n3
  have g4 := g3.grown hG4 n4
  have B4 := B3.grown hG4 B3.size (fun k e => by cases e; omega)
  have p1 := hR3.cell1
  have p2 := hR3.frozen1
  clear hR3 hG4 z3 y3 f3 g3 B3
  cases p
  · go_wp2_with fail
    revert hR4 z4 y4 f4 g4 B4
    clear p1 p2
    generalize w3.setCell ⟨g, 1, none⟩ (.int .i64 61) = w4
    intro hR4 z4 y4 f4 g4 B4
    have hD : Rdr w4.drew g 61 := hR4
    have zD : Box2 w4.drew w.heap.size 24 (.int .i64 0) (.int .i64 0) := z4
    have yD : Box2 w4.drew (w.heap.size + 1) 24 (.int .i64 0) (.int .i64 0) := y4
    have fD : Box2 w4.drew w1.heap.size 24 (.int .i64 t) (.int .i64 n) := f4
    have kf0 := fD.cell0
    have kf1 := fD.cell1
    go_region_with (go_at_call 24; with_reducible refine Calls.mono (l91Frac_any g 61 _ ?_ ?_) ?_; (· with_reducible assumption); (· omega); rintro e w5 ⟨tt, nn, _, _, _, rfl, ⟨p', hp', hR5⟩, hG5⟩; have z5 := zD.grown hG5 n1; have y5 := yD.grown hG5 n2; have f5 := fD.grown hG5 n3; have kz0 := z5.frozen0; have kz1 := z5.frozen1; have ky0 := y5.frozen0; have ky1 := y5.frozen1; have kg0 := f5.cell0; have kg1 := f5.cell1; have kzc0 := z5.cell0; have kzc1 := z5.cell1; have kyc0 := y5.cell0; have kyc1 := y5.cell1)
    all_goals (
      go_wp2
      have B5 : Below w.heap.size w w5 := Below.grown (w := w4.drew) B4.drew hG5 B4.size (fun k e => by cases e; omega)
      have zz := (((z5.set (.int .i64 t) (.int .i64 n)).other (B' := w.heap.size + 1) (o := 0) (by omega) (.int .i64 tt)).other (B' := w.heap.size + 1) (o := 1) (by omega) (.int .i64 nn))
      have yy := ((y5.other (B' := w.heap.size) (o := 0) (by omega) (.int .i64 t)).other (B' := w.heap.size) (o := 1) (by omega) (.int .i64 n)).set (.int .i64 tt) (.int .i64 nn)
      refine bodyPost_ret (v := .tuple #[.int .i64 b, .agg #[.int .i64 t, .int .i64 n], .agg #[.int .i64 tt, .int .i64 nn]]) (by simp [results, Try.results10, go_sem, zz.cell0, zz.cell1, yy.cell0, yy.cell1]) rfl ?_
      exact ⟨b, t, n, tt, nn, rfl, (((B5.setCell (p := ⟨w.heap.size, 0, none⟩) (Nat.le_refl _) _).setCell (p := ⟨w.heap.size, 1, none⟩) (Nat.le_refl _) _).setCell (p := ⟨w.heap.size + 1, 0, none⟩) (Nat.le_succ _) _).setCell (p := ⟨w.heap.size + 1, 1, none⟩) (Nat.le_succ _) _⟩)
  · go_wp2_with fail
    revert hR4 z4 y4 f4 g4 B4
    clear p1 p2
    generalize w3.setCell ⟨g, 1, none⟩ (.int .i64 61) = w4
    intro hR4 z4 y4 f4 g4 B4
    refine (pick_any g 61 3 w4 hR4 (by omega) (by omega)).mono ?_
    rintro e w5 ⟨r, hr0, hr3, rfl, hR5, hG5⟩
    have z5 := z4.grown hG5 n1
    have y5 := y4.grown hG5 n2
    have f5 := f4.grown hG5 n3
    have g5 := g4.grown hG5 n4
    have B5 := B4.grown hG5 B4.size (fun k e => by cases e; omega)
    clear hR4 z4 y4 f4 g4 B4 hG5
    by_cases hr : 0 < r
    · go_wp2_with fail
      have zD : Box2 w5.drew w.heap.size 24 (.int .i64 0) (.int .i64 0) := z5
      have yD : Box2 w5.drew (w.heap.size + 1) 24 (.int .i64 0) (.int .i64 0) := y5
      have fD : Box2 w5.drew w1.heap.size 24 (.int .i64 t) (.int .i64 n) := f5
      have gD : Box2 w5.drew w2.heap.size 24 (.int .i64 x) (.int .i64 y) := g5
      have kg0 := gD.cell0
      have kg1 := gD.cell1
      have kf0 := fD.cell0
      have kf1 := fD.cell1
      have kz0 := zD.frozen0; have kz1 := zD.frozen1; have ky0 := yD.frozen0; have ky1 := yD.frozen1
      have kzc0 := zD.cell0; have kzc1 := zD.cell1; have kyc0 := yD.cell0; have kyc1 := yD.cell1
      have lg0 := g5.cell0
      have lg1 := g5.cell1
      have lf0 := f5.cell0
      have lf1 := f5.cell1
      have lz0 := z5.frozen0; have lz1 := z5.frozen1; have ly0 := y5.frozen0; have ly1 := y5.frozen1
      have lzc0 := z5.cell0; have lzc1 := z5.cell1; have lyc0 := y5.cell0; have lyc1 := y5.cell1
      have e1 : ¬ w2.heap.size = w.heap.size := by omega
      have e2 : ¬ w2.heap.size = w.heap.size + 1 := by omega
      have e3 : ¬ w1.heap.size = w.heap.size := by omega
      have e4 : ¬ w1.heap.size = w.heap.size + 1 := by omega
      have e5 : ¬ w.heap.size = w2.heap.size := by omega
      have e6 : ¬ w.heap.size + 1 = w2.heap.size := by omega
      have e7 : ¬ w.heap.size = w1.heap.size := by omega
      have e8 : ¬ w.heap.size + 1 = w1.heap.size := by omega
      go_region
      all_goals (
        go_wp2
        have B6 := B5.drew
        have zz := (((z5.set (.int .i64 t) (.int .i64 n)).other (B' := w.heap.size + 1) (o := 0) (by omega) (.int .i64 x)).other (B' := w.heap.size + 1) (o := 1) (by omega) (.int .i64 y))
        have yy := ((y5.other (B' := w.heap.size) (o := 0) (by omega) (.int .i64 t)).other (B' := w.heap.size) (o := 1) (by omega) (.int .i64 n)).set (.int .i64 x) (.int .i64 y)
        refine bodyPost_ret (v := .tuple #[.int .i64 b, .agg #[.int .i64 t, .int .i64 n], .agg #[.int .i64 x, .int .i64 y]]) (by simp [results, Try.results10, go_sem, zz.cell0, zz.cell1, yy.cell0, yy.cell1]) rfl ?_
        exact ⟨b, t, n, x, y, rfl, (((B6.setCell (p := ⟨w.heap.size, 0, none⟩) (Nat.le_refl _) _).setCell (p := ⟨w.heap.size, 1, none⟩) (Nat.le_refl _) _).setCell (p := ⟨w.heap.size + 1, 0, none⟩) (Nat.le_succ _) _).setCell (p := ⟨w.heap.size + 1, 1, none⟩) (Nat.le_succ _) _⟩)
    · go_wp2_with fail
      have hD : Rdr w5.drew g (61 + 1) := hR5
      have zD : Box2 w5.drew w.heap.size 24 (.int .i64 0) (.int .i64 0) := z5
      have yD : Box2 w5.drew (w.heap.size + 1) 24 (.int .i64 0) (.int .i64 0) := y5
      have fD : Box2 w5.drew w1.heap.size 24 (.int .i64 t) (.int .i64 n) := f5
      have kf0 := fD.cell0
      have kf1 := fD.cell1
      go_region_with (go_at_call 24; with_reducible refine Calls.mono (l91Frac_any g (61 + 1) _ ?_ ?_) ?_; (· with_reducible assumption); (· omega); rintro e w6 ⟨tt, nn, _, _, _, rfl, ⟨p', hp', hR6⟩, hG6⟩; have z6 := zD.grown hG6 n1; have y6 := yD.grown hG6 n2; have f6 := fD.grown hG6 n3; have kz0 := z6.frozen0; have kz1 := z6.frozen1; have ky0 := y6.frozen0; have ky1 := y6.frozen1; have kg0 := f6.cell0; have kg1 := f6.cell1; have kzc0 := z6.cell0; have kzc1 := z6.cell1; have kyc0 := y6.cell0; have kyc1 := y6.cell1)
      all_goals (
        go_wp2
        have B6 : Below w.heap.size w w6 := Below.grown (w := w5.drew) B5.drew hG6 B5.size (fun k e => by cases e; omega)
        have zz := (((z6.set (.int .i64 t) (.int .i64 n)).other (B' := w.heap.size + 1) (o := 0) (by omega) (.int .i64 tt)).other (B' := w.heap.size + 1) (o := 1) (by omega) (.int .i64 nn))
        have yy := ((y6.other (B' := w.heap.size) (o := 0) (by omega) (.int .i64 t)).other (B' := w.heap.size) (o := 1) (by omega) (.int .i64 n)).set (.int .i64 tt) (.int .i64 nn)
        refine bodyPost_ret (v := .tuple #[.int .i64 b, .agg #[.int .i64 t, .int .i64 n], .agg #[.int .i64 tt, .int .i64 nn]]) (by simp [results, Try.results10, go_sem, zz.cell0, zz.cell1, yy.cell0, yy.cell1]) rfl ?_
        exact ⟨b, t, n, tt, nn, rfl, (((B6.setCell (p := ⟨w.heap.size, 0, none⟩) (Nat.le_refl _) _).setCell (p := ⟨w.heap.size, 1, none⟩) (Nat.le_refl _) _).setCell (p := ⟨w.heap.size + 1, 0, none⟩) (Nat.le_succ _) _).setCell (p := ⟨w.heap.size + 1, 1, none⟩) (Nat.le_succ _) _⟩)

end Go.Proofs.Ytdbijigbggjmgaa
