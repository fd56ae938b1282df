/-
  The model's draws, as the laws call them: a base and a fraction; a fraction.
-/
import Derived.Test.YtomfofkhcjcijaaDraw3
namespace Go.Proofs.Ytomfofkhcjcijaa
open Go.RowKit



set_option maxHeartbeats 1000000 in
theorem drawFracEnds_any (a : Option Addr) (len cap : Nat) (w : World) (h : Byt w a len cap) :
    Calls Try.prog 11 #[.slice a len cap] w fun e w' => ∃ b t n : Int, Drw b t n ∧ e = .returned (.tuple #[.int .i64 b, .agg #[.int .i64 t, .int .i64 n]]) ∧ Below w.heap.size w w' := by
  go_enter Try.func11, Try.ntmps11
  go_wp2_with fail
  have z0 := Box2.new w 24 (.int .i64 0) (.int .i64 0)
  have B0 : Below w.heap.size w (w.alloc (.cells #[.int .i64 0, .int .i64 0] 24)) := (Below.refl _ _).alloc (Nat.le_refl _) _
  refine (l91Some_any a len cap _ (h.later B0)).mono ?_
  rintro e w1 ⟨b, t, n, hd, rfl, hb1⟩
  have z1 := z0.later hb1
  have B1 := B0.trans (hb1.mono B0.size)
  clear z0 B0 hb1
  have k0 := z1.cell0
  have k1 := z1.cell1
  have f0 := z1.frozen0
  have f1 := z1.frozen1
  go_wp2_with fail
  refine bodyPost_ret (v := .tuple #[.int .i64 b, .agg #[.int .i64 t, .int .i64 n]]) (by simp [results, Try.results11, go_sem, (z1.set _ _).cell0, (z1.set _ _).cell1]) rfl ?_
  exact ⟨b, t, n, hd, rfl, (B1.setCell (p := ⟨w.heap.size, 0, none⟩) (Nat.le_refl _) _).setCell (p := ⟨w.heap.size, 1, none⟩) (Nat.le_refl _) _⟩

set_option maxHeartbeats 1000000 in
theorem drawFracLengths_any (a : Option Addr) (len cap : Nat) (w : World) (h : Byt w a len cap) :
    Calls Try.prog 14 #[.slice a len cap] w fun e w' => ∃ b t n : Int, Drw b t n ∧ e = .returned (.tuple #[.int .i64 b, .agg #[.int .i64 t, .int .i64 n]]) ∧ Below w.heap.size w w' := by
  go_enter Try.func14, Try.ntmps14
  go_wp2_with fail
  have z0 := Box2.new w 24 (.int .i64 0) (.int .i64 0)
  have B0 : Below w.heap.size w (w.alloc (.cells #[.int .i64 0, .int .i64 0] 24)) := (Below.refl _ _).alloc (Nat.le_refl _) _
  refine (l91Some_any a len cap _ (h.later B0)).mono ?_
  rintro e w1 ⟨b, t, n, hd, rfl, hb1⟩
  have z1 := z0.later hb1
  have B1 := B0.trans (hb1.mono B0.size)
  clear z0 B0 hb1
  have k0 := z1.cell0
  have k1 := z1.cell1
  have f0 := z1.frozen0
  have f1 := z1.frozen1
  go_wp2_with fail
  refine bodyPost_ret (v := .tuple #[.int .i64 b, .agg #[.int .i64 t, .int .i64 n]]) (by simp [results, Try.results14, go_sem, (z1.set _ _).cell0, (z1.set _ _).cell1]) rfl ?_
  exact ⟨b, t, n, hd, rfl, (B1.setCell (p := ⟨w.heap.size, 0, none⟩) (Nat.le_refl _) _).setCell (p := ⟨w.heap.size, 1, none⟩) (Nat.le_refl _) _⟩








set_option maxHeartbeats 1000000 in
theorem drawFracIn_any (a : Option Addr) (len cap : Nat) (w : World) (h : Byt w a len cap) :
    Calls Try.prog 7 #[.slice a len cap] w fun e w' => ∃ t n : Int, 0 ≤ t ∧ t < n ∧ n ≤ 202 ∧ e = .returned (.agg #[.int .i64 t, .int .i64 n]) ∧ Below w.heap.size w w' := by
  go_enter Try.func7, Try.ntmps7
  go_wp2_with fail
  have z0 := Box2.new w 24 (.int .i64 0) (.int .i64 0)
  have B0 : Below w.heap.size w (w.alloc (.cells #[.int .i64 0, .int .i64 0] 24)) := (Below.refl _ _).alloc (Nat.le_refl _) _
  refine (l6Open_any a len cap _ (h.later B0)).mono ?_
  rintro e w1 ⟨g, rfl, hg, hR1, hb1⟩
  have z1 := z0.later hb1
  have B1 := B0.trans (hb1.mono B0.size)
  have hgw : w.heap.size < g := by simp at hg; omega
  have hne : some w.heap.size ≠ some g := by simp; omega
  clear z0 B0 hb1 hg
  go_wp2_with fail
  refine (l91Frac_any g _ _ hR1 (by omega)).mono ?_
  rintro e w3 ⟨t, n, d3, d4, d5, rfl, ⟨p', hp', hR3⟩, hG3⟩
  have z3 := z1.grown hG3 hne
  have B3 := B1.grown hG3 B1.size (fun k e => by cases e; omega)
  clear z1 B1 hG3 hR1 hR3
  have k0 := z3.cell0
  have k1 := z3.cell1
  have f0 := z3.frozen0
  have f1 := z3.frozen1
  go_wp2_with fail
  refine bodyPost_ret (v := .agg #[.int .i64 t, .int .i64 n]) (by simp [results, Try.results7, go_sem, (z3.set _ _).cell0, (z3.set _ _).cell1]) rfl ?_
  exact ⟨t, n, d3, d4, d5, rfl, (B3.setCell (p := ⟨w.heap.size, 0, none⟩) (Nat.le_refl _) _).setCell (p := ⟨w.heap.size, 1, none⟩) (Nat.le_refl _) _⟩




theorem dig_val {k r : Int} (h1 : -1 ≤ k) (h2 : k ≤ 250 + 200) (h3 : 0 ≤ r) (h4 : r < 24) :
    -10000 ≤ IntKind.i64.wrap (k * IntKind.i64.wrap (1 + IntKind.i64.wrap (IntKind.i64.wrap (r.tdiv 23) * 4000))) ∧ IntKind.i64.wrap (k * IntKind.i64.wrap (1 + IntKind.i64.wrap (IntKind.i64.wrap (r.tdiv 23) * 4000))) ≤ 10000000 := by
  have e1 : r.tdiv 23 = r / 23 := Int.tdiv_eq_ediv_of_nonneg h3
  rw [e1, wrap_in (r / 23) (by omega) (by omega), wrap_in (r / 23 * 4000) (by omega) (by omega), wrap_in (1 + r / 23 * 4000) (by omega) (by omega)]
  have h5 : r / 23 = 0 ∨ r / 23 = 1 := by omega
  rcases h5 with h5 | h5
  · rw [h5, wrap_in _ (by omega) (by omega)]; omega
  · rw [h5, wrap_in _ (by omega) (by omega)]; omega

set_option maxHeartbeats 1000000 in
theorem drawFracDigit_any (a : Option Addr) (len cap : Nat) (w : World) (h : Byt w a len cap) :
    Calls Try.prog 18 #[.slice a len cap] w fun e w' => ∃ b t n k : Int, Drw b t n ∧ -10000 ≤ k ∧ k ≤ 10000000 ∧ e = .returned (.tuple #[.int .i64 b, .agg #[.int .i64 t, .int .i64 n], .int .i64 k]) ∧ Below w.heap.size w w' := by
  go_enter Try.func18, Try.ntmps18
  go_wp2_with fail
  have z0 := Box2.new w 24 (.int .i64 0) (.int .i64 0)
  have B0 : Below w.heap.size w (w.alloc (.cells #[.int .i64 0, .int .i64 0] 24)) := (Below.refl _ _).alloc (Nat.le_refl _) _
  refine (l91With_any a len cap 250 _ (h.later B0) (by omega) (by omega)).mono ?_
  rintro e w1 ⟨b, t, n, k, hd, hk1, hk2, rfl, hb1⟩
  have z1 := z0.later hb1
  have B1 := B0.trans (hb1.mono B0.size)
  have hB1 := (h.later B0).later hb1
  clear z0 B0 hb1
  go_wp2_with fail
  have q1 := Box2.new w1 24 (.int .i64 t) (.int .i64 n)
  refine (l6Open_any a len cap _ (hB1.later ((Below.refl _ _).alloc (Nat.le_refl _) _))).mono ?_
  rintro e w2 ⟨g, rfl, hg, hR2, hb2⟩
  have z2 := (z1.alloc (.cells #[.int .i64 t, .int .i64 n] 24)).later hb2
  have q2 := q1.later hb2
  have B2 := (B1.alloc B1.size (.cells #[.int .i64 t, .int .i64 n] 24)).trans (hb2.mono (B1.alloc B1.size _).size)
  simp at hg
  have hzl := z1.lt
  have hne : some w.heap.size ≠ some g := by simp; omega
  have hne1 : some w1.heap.size ≠ some g := by simp; omega
  have x1 := hR2.cell1
  have x2 := hR2.frozen1
  have zS := z2.grown (grown_set1 w2 g (.int .i64 61)) hne
  have qS := q2.grown (grown_set1 w2 g (.int .i64 61)) hne1
  have rS := hR2.setp 61
  have BS : Below w.heap.size w (w2.setCell ⟨g, 1, none⟩ (.int .i64 61)) := B2.setCell (p := ⟨g, 1, none⟩) (by show w.heap.size ≤ g; omega) _
  clear z1 q1 hb2 hB1 B1 hR2
  obtain ⟨W, hW⟩ : ∃ W, w2.setCell ⟨g, 1, none⟩ (.int .i64 61) = W := ⟨_, rfl⟩
  have rW : Rdr W.drew g 61 := by rw [← hW]; exact rS
  rw [hW] at zS qS BS
  have zD : Box2 W.drew w.heap.size 24 (.int .i64 0) (.int .i64 0) := zS
  have qD : Box2 W.drew w1.heap.size 24 (.int .i64 t) (.int .i64 n) := qS
  have BD : Below w.heap.size w W.drew := BS.drew
  have e0 := qS.cell0
  have e1 := qS.cell1
  clear rS zS z2 q2 B2 qS BS
  go_wp2_with fail
  clear hW x1 x2
  go_region_with (go_at_call 35; with_reducible refine Calls.mono (pick_any g 61 24 _ ?_ ?_ ?_) ?_; (· with_reducible assumption); (· omega); (· omega); rintro e w4 ⟨r4, h40, h41, rfl, hR4, hG4⟩; have q4 := qD.grown hG4 hne1; have q40 := q4.cell0; have q41 := q4.cell1; have z4 := zD.grown hG4 hne; have z40 := z4.cell0; have z41 := z4.cell1; have y40 := z4.frozen0; have y41 := z4.frozen1)
  all_goals (
    go_wp2
    have B4 := BD.grown hG4 BD.size (fun k e => by cases e; omega)
    have ev := dig_val hk1 hk2 h40 h41
    refine bodyPost_ret (v := .tuple #[.int .i64 b, .agg #[.int .i64 t, .int .i64 n], .int .i64 (IntKind.i64.wrap (k * IntKind.i64.wrap (1 + IntKind.i64.wrap (IntKind.i64.wrap (r4.tdiv 23) * 4000))))]) (by simp [results, Try.results18, go_sem, (z4.set _ _).cell0, (z4.set _ _).cell1]) rfl ?_
    exact ⟨b, t, n, _, hd, ev.1, ev.2, rfl, (B4.setCell (p := ⟨w.heap.size, 0, none⟩) (Nat.le_refl _) _).setCell (p := ⟨w.heap.size, 1, none⟩) (Nat.le_refl _) _⟩)

end Go.Proofs.Ytomfofkhcjcijaa
