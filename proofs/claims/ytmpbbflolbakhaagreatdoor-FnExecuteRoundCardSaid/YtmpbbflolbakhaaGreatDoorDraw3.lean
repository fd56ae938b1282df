/-
  The model's draws: a base and a fraction; with a number besides.
-/
import Derived.Test.YtmpbbflolbakhaaGreatDoorDraw2
import Derived.StillTailTactics
namespace Go.Proofs.YtmpbbflolbakhaaGreatDoor
open Go.RowKit

set_option maxHeartbeats 1000000 in
theorem l91Some_any (a : Option Addr) (len cap : Nat) (w : World) (h : Byt w a len cap) :
    Calls Tryz.prog 15 #[.slice a len cap] w fun e w' => ∃ b t n : Int, Drw b t n ∧ e = .returned (.tuple #[.int .i64 b, .agg #[.int .i64 t, .int .i64 n]]) ∧ Below w.heap.size w w' := by
  go_enter Tryz.func15, Tryz.ntmps15
  go_wp2_with fail
  have z0 := Box2.new w 24 (.int .i64 0) (.int .i64 0)
  have B0 : Below w.heap.size w (w.alloc (.cells #[.int .i64 0, .int .i64 0] 24)) := (Below.refl _ _).alloc (Nat.le_refl _) _
  refine (l6Open_any a len cap _ (h.later B0)).mono ?_
  rintro e w1 ⟨g, rfl, hg, hR1, hb1⟩
  have z1 := z0.later hb1
  have B1 := B0.trans (hb1.mono B0.size)
  have hgw : w.heap.size < g := by simp at hg; omega
  have hne : some w.heap.size ≠ some g := by simp; omega
  clear z0 B0 hb1 hg
  go_wp2_with fail
  refine (l91Base_any g 0 _ hR1 (by omega)).mono ?_
  rintro e w2 ⟨b, d1, d2, rfl, hR2, hG2⟩
  have z2 := z1.grown hG2 hne
  have B2 := B1.grown hG2 B1.size (fun k e => by cases e; omega)
  clear z1 B1 hG2 hR1
  go_wp2_with fail
  refine (l91Frac_any g _ _ hR2 (by omega)).mono ?_
  rintro e w3 ⟨t, n, d3, d4, d5, rfl, ⟨p', hp', hR3⟩, hG3⟩
  have z3 := z2.grown hG3 hne
  have B3 := B2.grown hG3 B2.size (fun k e => by cases e; omega)
  clear z2 B2 hG3 hR2 hR3
  have k0 := z3.cell0
  have k1 := z3.cell1
  have f0 := z3.frozen0
  have f1 := z3.frozen1
  go_wp2_with fail
  refine bodyPost_ret (v := .tuple #[.int .i64 b, .agg #[.int .i64 t, .int .i64 n]]) (by simp [results, Tryz.results15, go_sem, (z3.set _ _).cell0, (z3.set _ _).cell1]) rfl ?_
  exact ⟨b, t, n, ⟨d1, d2, d3, d4, d5⟩, rfl, (B3.setCell (p := ⟨w.heap.size, 0, none⟩) (Nat.le_refl _) _).setCell (p := ⟨w.heap.size, 1, none⟩) (Nat.le_refl _) _⟩

theorem with_val {r4 r5 r6 most : Int} (h1 : 0 ≤ r4) (h2 : r4 < most) (h3 : most ≤ 1000) (h4 : 0 ≤ r5) (h5 : r5 < 24) (h6 : 0 ≤ r6) (h7 : r6 < 24) :
    IntKind.i64.wrap (IntKind.i64.wrap (r4 - IntKind.i64.wrap (r5.tdiv 23)) + IntKind.i64.wrap (IntKind.i64.wrap (r6.tdiv 23) * 201)) = r4 - r5 / 23 + r6 / 23 * 201 := by
  have e1 : r5.tdiv 23 = r5 / 23 := Int.tdiv_eq_ediv_of_nonneg h4
  have e2 : r6.tdiv 23 = r6 / 23 := Int.tdiv_eq_ediv_of_nonneg h6
  rw [e1, e2, wrap_in (r5 / 23) (by omega) (by omega), wrap_in (r6 / 23) (by omega) (by omega), wrap_in (r4 - r5 / 23) (by omega) (by omega), wrap_in (r6 / 23 * 201) (by omega) (by omega), wrap_in _ (by omega) (by omega)]


end Go.Proofs.YtmpbbflolbakhaaGreatDoor
