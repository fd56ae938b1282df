/-
  The model's draws: a base and a fraction; with a number besides.
-/
import Derived.Test.YtdbijigbggjmgaaDraw2
import Derived.StillTailTactics
namespace Go.Proofs.Ytdbijigbggjmgaa
open Go.RowKit

/-- A base and a fraction that are drawn: whole numbers, not too great. -/
def Drw (b t n : Int) : Prop := 2 ≤ b ∧ b ≤ 31 ∧ 0 ≤ t ∧ t < n ∧ n ≤ 202


theorem with_val {r4 r5 r6 most : Int} (h1 : 0 ≤ r4) (h2 : r4 < most) (h3 : most ≤ 1000) (h4 : 0 ≤ r5) (h5 : r5 < 24) (h6 : 0 ≤ r6) (h7 : r6 < 24) :
    IntKind.i64.wrap (IntKind.i64.wrap (r4 - IntKind.i64.wrap (r5.tdiv 23)) + IntKind.i64.wrap (IntKind.i64.wrap (r6.tdiv 23) * 201)) = r4 - r5 / 23 + r6 / 23 * 201 := by
  have e1 : r5.tdiv 23 = r5 / 23 := Int.tdiv_eq_ediv_of_nonneg h4
  have e2 : r6.tdiv 23 = r6 / 23 := Int.tdiv_eq_ediv_of_nonneg h6
  rw [e1, e2, wrap_in (r5 / 23) (by omega) (by omega), wrap_in (r6 / 23) (by omega) (by omega), wrap_in (r4 - r5 / 23) (by omega) (by omega), wrap_in (r6 / 23 * 201) (by omega) (by omega), wrap_in _ (by omega) (by omega)]

set_option maxHeartbeats 1000000 in
theorem l91With_any (a : Option Addr) (len cap : Nat) (most : Int) (w : World) (h : Byt w a len cap) (hm : 1 ≤ most) (hm2 : most ≤ 1000) :
    Calls Try.prog 14 #[.slice a len cap, .int .i64 most] w fun e w' => ∃ b t n k : Int, Drw b t n ∧ -1 ≤ k ∧ k ≤ most + 200 ∧ e = .returned (.tuple #[.int .i64 b, .agg #[.int .i64 t, .int .i64 n], .int .i64 k]) ∧ Below w.heap.size w w' := by
  go_enter Try.func14, Try.ntmps14
  go_wp2_with fail
  have z0 := Box2.new w 24 (.int .i64 0) (.int .i64 0)
  have B0 : Below w.heap.size w (w.alloc (.cells #[.int .i64 0, .int .i64 0] 24)) := (Below.refl _ _).alloc (Nat.le_refl _) _
  refine (l6Open_any a len cap _ (h.later B0)).mono ?_
  rintro e w1 ⟨g, rfl, hg, hR1, hb1⟩
  have z1 := z0.later hb1
  have B1 := B0.trans (hb1.mono B0.size)
  have hgw : w.heap.size < g := by simp at hg; omega
  have hne : some w.heap.size ≠ some g := by simp; omega
  clear z0 B0 hb1 hg
  go_wp2_with fail
  refine (l91Base_any g 0 _ hR1 (by omega)).mono ?_
  rintro e w2 ⟨b, d1, d2, rfl, hR2, hG2⟩
  have z2 := z1.grown hG2 hne
  have B2 := B1.grown hG2 B1.size (fun k e => by cases e; omega)
  clear z1 B1 hG2 hR1
  go_wp2_with fail
  refine (l91Frac_any g _ _ hR2 (by omega)).mono ?_
  rintro e w3 ⟨t, n, d3, d4, d5, rfl, ⟨p', hp', hR3⟩, hG3⟩
  have z3 := z2.grown hG3 hne
  have B3 := B2.grown hG3 B2.size (fun k e => by cases e; omega)
  clear z2 B2 hG3 hR2
  have k0 := z3.cell0
  have k1 := z3.cell1
  have f0 := z3.frozen0
  have f1 := z3.frozen1
  go_wp2_with fail
  have hD3 : Rdr (w3.alloc (.cells #[.int .i64 t, .int .i64 n] 24)).drew g p' := hR3.alloc _
  have zD : Box2 (w3.alloc (.cells #[.int .i64 t, .int .i64 n] 24)).drew w.heap.size 24 (.int .i64 0) (.int .i64 0) := z3.alloc _
  have qD : Box2 (w3.alloc (.cells #[.int .i64 t, .int .i64 n] 24)).drew w3.heap.size 24 (.int .i64 t) (.int .i64 n) := Box2.new w3 _ _ _
  have hne3 : some w3.heap.size ≠ some g := by have := hR3.lt; simp; omega
  have i1 : IntKind.i64.wrap most = most := wrap_in _ (by omega) (by omega)
  go_region_with (go_at_call 23; first | (with_reducible refine Calls.mono (pick_any g p' most _ ?_ ?_ ?_) ?_; (· with_reducible assumption); (· omega); (· omega); rintro e w4 ⟨r4, h40, h41, rfl, hR4, hG4⟩; have q4 := qD.grown hG4 hne3; have q40 := q4.cell0; have q41 := q4.cell1) | (with_reducible refine Calls.mono (pick_any g (p' + 1) 24 _ ?_ ?_ ?_) ?_; (· with_reducible assumption); (· omega); (· omega); rintro e w5 ⟨r5, h50, h51, rfl, hR5, hG5⟩; have q5 := q4.grown hG5 hne3; have q50 := q5.cell0; have q51 := q5.cell1) | (with_reducible refine Calls.mono (pick_any g (p' + 1 + 1) 24 _ ?_ ?_ ?_) ?_; (· with_reducible assumption); (· omega); (· omega); rintro e w6 ⟨r6, h60, h61, rfl, hR6, hG6⟩; have q6 := q5.grown hG6 hne3; have q60 := q6.cell0; have q61 := q6.cell1; have z6 := ((zD.grown hG4 hne).grown hG5 hne).grown hG6 hne; have k60 := z6.cell0; have k61 := z6.cell1; have f60 := z6.frozen0; have f61 := z6.frozen1))
  all_goals (
    go_wp2
    have B4 : Below w.heap.size w w4 := Below.grown (w := (w3.alloc (.cells #[.int .i64 t, .int .i64 n] 24)).drew) (B3.alloc B3.size _).drew hG4 (B3.alloc B3.size _).size (fun k e => by cases e; omega)
    have B5 := B4.grown hG5 B4.size (fun k e => by cases e; omega)
    have B6 := B5.grown hG6 B5.size (fun k e => by cases e; omega)
    have ev := with_val h40 h41 hm2 h50 h51 h60 h61
    refine bodyPost_ret (v := .tuple #[.int .i64 b, .agg #[.int .i64 t, .int .i64 n], .int .i64 (IntKind.i64.wrap (IntKind.i64.wrap (r4 - IntKind.i64.wrap (r5.tdiv 23)) + IntKind.i64.wrap (IntKind.i64.wrap (r6.tdiv 23) * 201)))]) (by simp [results, Try.results14, go_sem, (z6.set _ _).cell0, (z6.set _ _).cell1]) rfl ?_
    exact ⟨b, t, n, _, ⟨d1, d2, d3, d4, d5⟩, by rw [ev]; omega, by rw [ev]; omega, rfl, (B6.setCell (p := ⟨w.heap.size, 0, none⟩) (Nat.le_refl _) _).setCell (p := ⟨w.heap.size, 1, none⟩) (Nat.le_refl _) _⟩)

end Go.Proofs.Ytdbijigbggjmgaa
