/-
  The model's draws, as the laws call them: a base and a fraction; a fraction.
-/
import Derived.Test.YtmpbbflolbakhaaGreatDoorDraw3
namespace Go.Proofs.YtmpbbflolbakhaaGreatDoor
open Go.RowKit


set_option maxHeartbeats 1000000 in
theorem drawFracRound_any (a : Option Addr) (len cap : Nat) (w : World) (h : Byt w a len cap) :
    Calls Tryz.prog 5 #[.slice a len cap] w fun e w' => ∃ b t n : Int, Drw b t n ∧ e = .returned (.tuple #[.int .i64 b, .agg #[.int .i64 t, .int .i64 n]]) ∧ Below w.heap.size w w' := by
  go_enter Tryz.func5, Tryz.ntmps5
  go_wp2_with fail
  have z0 := Box2.new w 24 (.int .i64 0) (.int .i64 0)
  have B0 : Below w.heap.size w (w.alloc (.cells #[.int .i64 0, .int .i64 0] 24)) := (Below.refl _ _).alloc (Nat.le_refl _) _
  refine (l91Some_any a len cap _ (h.later B0)).mono ?_
  rintro e w1 ⟨b, t, n, hd, rfl, hb1⟩
  have z1 := z0.later hb1
  have B1 := B0.trans (hb1.mono B0.size)
  clear z0 B0 hb1
  have k0 := z1.cell0
  have k1 := z1.cell1
  have f0 := z1.frozen0
  have f1 := z1.frozen1
  go_wp2_with fail
  refine bodyPost_ret (v := .tuple #[.int .i64 b, .agg #[.int .i64 t, .int .i64 n]]) (by simp [results, Tryz.results5, go_sem, (z1.set _ _).cell0, (z1.set _ _).cell1]) rfl ?_
  exact ⟨b, t, n, hd, rfl, (B1.setCell (p := ⟨w.heap.size, 0, none⟩) (Nat.le_refl _) _).setCell (p := ⟨w.heap.size, 1, none⟩) (Nat.le_refl _) _⟩














theorem dig_val {k r : Int} (h1 : -1 ≤ k) (h2 : k ≤ 250 + 200) (h3 : 0 ≤ r) (h4 : r < 24) :
    -10000 ≤ IntKind.i64.wrap (k * IntKind.i64.wrap (1 + IntKind.i64.wrap (IntKind.i64.wrap (r.tdiv 23) * 4000))) ∧ IntKind.i64.wrap (k * IntKind.i64.wrap (1 + IntKind.i64.wrap (IntKind.i64.wrap (r.tdiv 23) * 4000))) ≤ 10000000 := by
  have e1 : r.tdiv 23 = r / 23 := Int.tdiv_eq_ediv_of_nonneg h3
  rw [e1, wrap_in (r / 23) (by omega) (by omega), wrap_in (r / 23 * 4000) (by omega) (by omega), wrap_in (1 + r / 23 * 4000) (by omega) (by omega)]
  have h5 : r / 23 = 0 ∨ r / 23 = 1 := by omega
  rcases h5 with h5 | h5
  · rw [h5, wrap_in _ (by omega) (by omega)]; omega
  · rw [h5, wrap_in _ (by omega) (by omega)]; omega


end Go.Proofs.YtmpbbflolbakhaaGreatDoor
