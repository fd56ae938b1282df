/-
  The model's draws: a base; a fraction.
-/
import Derived.Test.YtmpbbflolbakhaaGreatDoorRdr
import Derived.Deep.RegionWith
import Derived.BigRegion
import Derived.RegionTactic
namespace Go.Proofs.YtmpbbflolbakhaaGreatDoor
open Go.RowKit

theorem pick_nat (g p m : Nat) (w : World) (h : Rdr w g p) (hp : p ≤ 100000) (hn : 1 ≤ m) :
    Calls Tryz.prog 49 #[.pointer (some ⟨g, 0, none⟩), .int .i64 m] w fun e w' => ∃ r : Nat, r < m ∧ e = .returned (.int .i64 r) ∧ Rdr w' g (p + 1) ∧ w.grownBy w' (some g) := by
  refine (pick_any g p m w h hp (by omega)).mono ?_
  rintro e w' ⟨r, h1, h2, rfl, h3, h4⟩
  obtain ⟨r, rfl⟩ := Int.eq_ofNat_of_zero_le h1
  exact ⟨r, by omega, rfl, h3, h4⟩

/-- The bases that are drawn. -/
def litB : Array Value := #[.int .i64 10, .int .i64 2, .int .i64 3, .int .i64 7, .int .i64 12, .int .i64 16, .int .i64 10, .int .i64 10, .int .i64 5, .int .i64 6]
theorem litB_get (i : Nat) (hi : i < 10) : ∃ x : Int, 2 ≤ x ∧ x ≤ 16 ∧ litB[i]? = some (.int .i64 x) := by
  unfold litB
  rcases i with _ | _ | _ | _ | _ | _ | _ | _ | _ | _ | i
  all_goals first | exact ⟨_, by decide, by decide, rfl⟩ | omega
theorem litB_cell (w : World) (i : Nat) (x : Int) (h : litB[i]? = some (.int .i64 x)) : (w.alloc (.cells litB 3)).cell? ⟨w.heap.size, i, none⟩ = some (.int .i64 x) := by
  have hb : (w.alloc (.cells litB 3)).heap[w.heap.size]? = some (.cells litB 3 (0, 0)) := heap_alloc_new w _
  unfold World.cell?
  rw [show (w.alloc (.cells litB 3)).heap[(⟨w.heap.size, i, none⟩ : Addr).block]? = _ from hb]
  exact h
theorem litB_w2 {w w2 : World} {g i : Nat} {x : Int} (hG : (w.alloc (.cells #[.int .i64 10, .int .i64 2, .int .i64 3, .int .i64 7, .int .i64 12, .int .i64 16, .int .i64 10, .int .i64 10, .int .i64 5, .int .i64 6] 3)).drew.grownBy w2 (some g)) (hne : some w.heap.size ≠ some g) (h : litB[i]? = some (.int .i64 x)) : w2.cell? ⟨w.heap.size, i, none⟩ = some (.int .i64 x) :=
  World.grownBy.cell (a := ⟨w.heap.size, i, none⟩) hG (litB_cell w i x h) hne

theorem grown_drew {w w' : World} {row : Option Nat} (h : w.grownBy w' row) : w.grownBy w'.drew row := ⟨h.os, h.tape, h.output, h.size, h.block⟩

theorem wrap_in (x : Int) (h0 : -1000000000 ≤ x) (h1 : x ≤ 1000000000) : IntKind.i64.wrap x = x := IntWalk.i64_in x (by omega)

theorem base_val {x r : Int} (h1 : 2 ≤ x) (h2 : x ≤ 16) (h3 : 0 ≤ r) (h4 : r < 40) : IntKind.i64.wrap (x + IntKind.i64.wrap (IntKind.i64.wrap (r.tdiv 39) * 15)) = x + r / 39 * 15 := by
  have e : r.tdiv 39 = r / 39 := Int.tdiv_eq_ediv_of_nonneg h3
  rw [e, wrap_in (r / 39) (by omega) (by omega), wrap_in (r / 39 * 15) (by omega) (by omega), wrap_in _ (by omega) (by omega)]

set_option maxHeartbeats 1000000 in
theorem l91Base_any (g p : Nat) (w : World) (h : Rdr w g p) (hp : p ≤ 10000) :
    Calls Tryz.prog 31 #[.pointer (some ⟨g, 0, none⟩)] w fun e w' => ∃ b : Int, 2 ≤ b ∧ b ≤ 31 ∧ e = .returned (.int .i64 b) ∧ Rdr w' g (p + 2) ∧ w.grownBy w' (some g) := by
  have hd : Rdr w.drew g p := h
  have ha : Rdr (w.alloc (.cells litB 3)).drew g p := h.alloc _
  unfold litB at ha
  go_enter Tryz.func31, Tryz.ntmps31
  go_wp2_with fail
  have gD : w.grownBy w.drew (some g) := ⟨rfl, rfl, rfl, Nat.le_refl _, fun _ _ _ => rfl⟩
  have gA : w.grownBy (w.alloc (.cells litB 3)).drew (some g) := grown_drew (World.grownBy_alloc w _ _)
  unfold litB at gA
  have hne : some w.heap.size ≠ some g := by have := h.lt; simp; omega
  go_region_with (go_at_call 49; first | (with_reducible refine Calls.mono (pick_any g p 10 _ ?_ ?_ ?_) ?_; (· with_reducible assumption); (· omega); (· omega); rintro e w2 ⟨r, hr0, hr1, rfl, hR2, hG2⟩; obtain ⟨r2, rfl⟩ := Int.eq_ofNat_of_zero_le hr0; have hr2 : r2 < 10 := (by omega); obtain ⟨x, hx1, hx2, hx0⟩ := litB_get r2 hr2; have hx0' := hx0; unfold litB at hx0'; first | with_reducible (have hy := litB_w2 hG2 hne hx0) | (have hx := litB_cell w2 r2 x hx0; have hRa : Rdr (w2.alloc (.cells litB 3)) g (p + 1) := hR2.alloc _; unfold litB at hRa hx; have hne2 : some w2.heap.size ≠ some g := (by have := hR2.lt; simp; omega))) | (with_reducible refine Calls.mono (pick_any g (p + 1) 40 _ ?_ ?_ ?_) ?_; (· with_reducible assumption); (· omega); (· omega); rintro e w3 ⟨r3, hr3, hr4, rfl, hR3, hG3⟩; first | with_reducible (have hz := World.grownBy.cell hG3 hy hne) | with_reducible (have hz := World.grownBy.cell hG3 hx hne2) | (have hx3 := litB_cell w3 r2 x hx0; unfold litB at hx3)))
  all_goals (
    go_wp2
    go_ret
    refine ⟨_, ?_, ?_, rfl, ?_, ?_⟩
    · rw [base_val hx1 hx2 hr3 hr4]; omega
    · rw [base_val hx1 hx2 hr3 hr4]; omega
    · first | exact hR3 | exact hR3.alloc _
    · first | with_reducible exact (gA.trans hG2).trans hG3 | with_reducible exact (gD.trans hG2).trans ((World.grownBy_alloc w2 _ _).trans hG3) | with_reducible exact ((gD.trans hG2).trans hG3).trans (World.grownBy_alloc w3 _ _))

end Go.Proofs.YtmpbbflolbakhaaGreatDoor
