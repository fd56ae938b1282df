/-
  The model's draws: a fraction.
-/
import Derived.Test.YtmpbbflolbakhaaGreatDoorDraw1
import Derived.Test.YtmpbbflolbakhaaGreatDoorDrawD
import Derived.Test.YtmpbbflolbakhaaGreatDoorRed
import Derived.Test.YtmpbbflolbakhaaGreatDoorGrown
namespace Go.Proofs.YtmpbbflolbakhaaGreatDoor
open Go.RowKit

/-- The bottoms that are drawn. -/
def litF : Array Value := #[.int .i64 7, .int .i64 13, .int .i64 17, .int .i64 12, .int .i64 41, .int .i64 101, .int .i64 14, .int .i64 9, .int .i64 21, .int .i64 37]
theorem litF_get (i : Nat) (hi : i < 10) : ∃ x : Int, 7 ≤ x ∧ x ≤ 101 ∧ litF[i]? = some (.int .i64 x) := by
  unfold litF
  rcases i with _ | _ | _ | _ | _ | _ | _ | _ | _ | _ | i
  all_goals first | exact ⟨_, by decide, by decide, rfl⟩ | omega
theorem litF_cell (w : World) (i : Nat) (x : Int) (h : litF[i]? = some (.int .i64 x)) : (w.alloc (.cells litF 3)).cell? ⟨w.heap.size, i, none⟩ = some (.int .i64 x) := by
  have hb : (w.alloc (.cells litF 3)).heap[w.heap.size]? = some (.cells litF 3 (0, 0)) := heap_alloc_new w _
  unfold World.cell?
  rw [show (w.alloc (.cells litF 3)).heap[(⟨w.heap.size, i, none⟩ : Addr).block]? = _ from hb]
  exact h

set_option maxHeartbeats 1000000 in
theorem l91Frac_any (g p : Nat) (w : World) (h : Rdr w g p) (hp : p ≤ 10000) :
    Calls Tryz.prog 32 #[.pointer (some ⟨g, 0, none⟩)] w fun e w' => ∃ t n : Int, 0 ≤ t ∧ t < n ∧ n ≤ 202 ∧ e = .returned (.agg #[.int .i64 t, .int .i64 n]) ∧ (∃ p', p' ≤ p + 10 ∧ Rdr w' g p') ∧ w.grownBy w' (some g) := by
  go_enter Tryz.func32, Tryz.ntmps32
  go_wp2_with fail
  have z0 := Box2.new w 24 (.int .i64 0) (.int .i64 0)
  have hne : some w.heap.size ≠ some g := by have := h.lt; simp; omega
  refine (pick_any g p 60 _ (h.alloc _) (by omega) (by omega)).mono ?_
  rintro e w1 ⟨r1, h10, h11, rfl, hR1, hG1⟩
  have z1 := z0.grown hG1 hne
  have i1 : IntKind.i64.wrap (1 + r1) = 1 + r1 := wrap_in _ (by omega) (by omega)
  go_wp2_with fail
  refine (pick_any g (p + 1) 2 _ hR1 (by omega) (by omega)).mono ?_
  rintro e w2 ⟨r2, h20, h21, rfl, hR2, hG2⟩
  have z2 := z1.grown hG2 hne
  by_cases hz : r2 = 0
  · subst hz
    go_wp2_with fail
    refine (pick_any g (p + 1 + 1) 10 _ (hR2.alloc _) (by omega) (by omega)).mono ?_
    rintro e w3 ⟨r, hr0, hr1, rfl, hR3, hG3⟩
    obtain ⟨r3, rfl⟩ := Int.eq_ofNat_of_zero_le hr0
    obtain ⟨x, hx1, hx2, hx0⟩ := litF_get r3 (by omega)
    have hne3 : some w2.heap.size ≠ some g := by have := hR2.lt; simp; omega
    have z3 := (z2.alloc _).grown hG3 hne
    have hy : w3.cell? ⟨w2.heap.size, r3, none⟩ = some (.int .i64 x) := World.grownBy.cell (a := ⟨w2.heap.size, r3, none⟩) hG3 (litF_cell w2 r3 x hx0) hne3
    have hG : w.grownBy w3 (some g) := (((World.grownBy_alloc w _ _).trans hG1).trans hG2).trans ((World.grownBy_alloc w2 _ _).trans hG3)
    have hn1 : 1 ≤ x := by omega
    clear z0 z1 z2 hG1 hG2 hG3 hR1 hR2
    go_wp2_with fail
    refine (pick_any g _ x _ hR3 (by omega) (by omega)).mono ?_
    rintro e w4 ⟨r4, h40, h41, rfl, hR4, hG4⟩
    have z4 := z3.grown hG4 hne
    have hGa := hG.trans hG4
    clear z3 hG hG4 hR3
    obtain ⟨e1, e2, e3⟩ := red_bd h40 h41
    go_wp2_with fail
    refine (l2Reduced_int r4 x w4 h40 (by omega) (by omega) (by omega)).mono ?_
    rintro e w5 ⟨rfl, hb5⟩
    have z5 := z4.later hb5
    have hR5 := hR4.later hb5
    have hGb := hGa.trans (grown_below (row := some g) hb5)
    clear hGa hb5 z4 hR4
    revert e1 e2 e3
    generalize r4 / gcdI r4 x = tt
    generalize x / gcdI r4 x = nn
    intro e1 e2 e3
    have hne5 : some w5.heap.size ≠ some g := by have := hR5.lt; simp; omega
    have hs5 : w.heap.size ≤ w5.heap.size := hGb.size
    have hgl := h.lt
    go_wp2_with fail
    refine (pick_any g _ 40 _ (hR5.alloc _) (by omega) (by omega)).mono ?_
    rintro e w6 ⟨r6, h60, h61, rfl, hR6, hG6⟩
    have z6 := (z5.alloc (.cells #[.int .i64 tt, .int .i64 nn] 24)).grown hG6 hne
    have q6 := (Box2.new w5 24 (.int .i64 tt) (.int .i64 nn)).grown hG6 hne5
    have hGc := hGb.trans ((World.grownBy_alloc w5 (.cells #[.int .i64 tt, .int .i64 nn] 24) (some g)).trans hG6)
    have hlt5 := z5.lt
    clear hGb z5 hR5 hG6
    have hbw : w5.heap.size ≠ w.heap.size := by omega
    have k0 := z6.cell0
    have k1 := z6.cell1
    have f0 := z6.frozen0
    have f1 := z6.frozen1
    have l0 := q6.cell0
    have l1 := q6.cell1
    have m0 := q6.frozen0
    have m1 := q6.frozen1
    have hr6 := hR6.below (W' := (w6.setCell ⟨w.heap.size, 0, none⟩ (.int .i64 tt)).setCell ⟨w.heap.size, 1, none⟩ (.int .i64 nn)) (((Below.refl w.heap.size w6).setCell (p := ⟨w.heap.size, 0, none⟩) (Nat.le_refl _) _).setCell (p := ⟨w.heap.size, 1, none⟩) (Nat.le_refl _) _) hgl
    by_cases hz6 : r6 = 0
    · subst hz6
      go_wp2_with fail
      have z8 : Box2 ((w6.setCell ⟨w5.heap.size, 1, none⟩ (.int .i64 (nn * 2))).setCell ⟨w5.heap.size, 0, none⟩ (.int .i64 (tt * 2))) w.heap.size 24 (.int .i64 0) (.int .i64 0) := (z6.other (Ne.symm hbw) _).other (Ne.symm hbw) _
      have hr8 := hR6.below (W' := ((((w6.setCell ⟨w5.heap.size, 1, none⟩ (.int .i64 (nn * 2))).setCell ⟨w5.heap.size, 0, none⟩ (.int .i64 (tt * 2))).setCell ⟨w.heap.size, 0, none⟩ (.int .i64 (tt * 2))).setCell ⟨w.heap.size, 1, none⟩ (.int .i64 (nn * 2)))) (((((Below.refl w.heap.size w6).setCell (p := ⟨w5.heap.size, 1, none⟩) (Nat.le_of_lt hlt5) _).setCell (p := ⟨w5.heap.size, 0, none⟩) (Nat.le_of_lt hlt5) _).setCell (p := ⟨w.heap.size, 0, none⟩) (Nat.le_refl _) _).setCell (p := ⟨w.heap.size, 1, none⟩) (Nat.le_refl _) _) hgl
      refine bodyPost_ret (v := .agg #[.int .i64 (tt * 2), .int .i64 (nn * 2)]) (by simp [results, Tryz.results32, go_sem, (z8.set _ _).cell0, (z8.set _ _).cell1]) rfl ?_
      exact ⟨tt * 2, nn * 2, by omega, by omega, by omega, rfl, ⟨_, by omega, hr8⟩, (((hGc.set (p := ⟨w5.heap.size, 1, none⟩) (Nat.le_of_lt hlt5) _).set (p := ⟨w5.heap.size, 0, none⟩) (Nat.le_of_lt hlt5) _).set (p := ⟨w.heap.size, 0, none⟩) (Nat.le_refl _) _).set (p := ⟨w.heap.size, 1, none⟩) (Nat.le_refl _) _⟩
    · have hz6' : (r6 == 0) = false := by simpa using hz6
      go_wp2_with fail
      refine bodyPost_ret (v := .agg #[.int .i64 tt, .int .i64 nn]) (by simp [results, Tryz.results32, go_sem, (z6.set _ _).cell0, (z6.set _ _).cell1]) rfl ?_
      exact ⟨tt, nn, e1, e2, by omega, rfl, ⟨_, by omega, hr6⟩, (hGc.set (p := ⟨w.heap.size, 0, none⟩) (Nat.le_refl _) _).set (p := ⟨w.heap.size, 1, none⟩) (Nat.le_refl _) _⟩
  · have hz' : (r2 == 0) = false := by simpa using hz
    have hG : w.grownBy w2 (some g) := ((World.grownBy_alloc w _ _).trans hG1).trans hG2
    have z3 := z2
    have hR3 := hR2
    clear z0 z1 z2 hG1 hG2 hR1 hR2
    go_wp2_with fail
    refine (pick_any g _ (1 + r1) _ hR3 (by omega) (by omega)).mono ?_
    rintro e w4 ⟨r4, h40, h41, rfl, hR4, hG4⟩
    have z4 := z3.grown hG4 hne
    have hGa := hG.trans hG4
    clear z3 hG hG4 hR3
    obtain ⟨e1, e2, e3⟩ := red_bd h40 h41
    go_wp2_with fail
    refine (l2Reduced_int r4 (1 + r1) w4 h40 (by omega) (by omega) (by omega)).mono ?_
    rintro e w5 ⟨rfl, hb5⟩
    have z5 := z4.later hb5
    have hR5 := hR4.later hb5
    have hGb := hGa.trans (grown_below (row := some g) hb5)
    clear hGa hb5 z4 hR4
    revert e1 e2 e3
    generalize r4 / gcdI r4 (1 + r1) = tt
    generalize (1 + r1) / gcdI r4 (1 + r1) = nn
    intro e1 e2 e3
    have hne5 : some w5.heap.size ≠ some g := by have := hR5.lt; simp; omega
    have hs5 : w.heap.size ≤ w5.heap.size := hGb.size
    have hgl := h.lt
    go_wp2_with fail
    refine (pick_any g _ 40 _ (hR5.alloc _) (by omega) (by omega)).mono ?_
    rintro e w6 ⟨r6, h60, h61, rfl, hR6, hG6⟩
    have z6 := (z5.alloc (.cells #[.int .i64 tt, .int .i64 nn] 24)).grown hG6 hne
    have q6 := (Box2.new w5 24 (.int .i64 tt) (.int .i64 nn)).grown hG6 hne5
    have hGc := hGb.trans ((World.grownBy_alloc w5 (.cells #[.int .i64 tt, .int .i64 nn] 24) (some g)).trans hG6)
    have hlt5 := z5.lt
    clear hGb z5 hR5 hG6
    have hbw : w5.heap.size ≠ w.heap.size := by omega
    have k0 := z6.cell0
    have k1 := z6.cell1
    have f0 := z6.frozen0
    have f1 := z6.frozen1
    have l0 := q6.cell0
    have l1 := q6.cell1
    have m0 := q6.frozen0
    have m1 := q6.frozen1
    have hr6 := hR6.below (W' := (w6.setCell ⟨w.heap.size, 0, none⟩ (.int .i64 tt)).setCell ⟨w.heap.size, 1, none⟩ (.int .i64 nn)) (((Below.refl w.heap.size w6).setCell (p := ⟨w.heap.size, 0, none⟩) (Nat.le_refl _) _).setCell (p := ⟨w.heap.size, 1, none⟩) (Nat.le_refl _) _) hgl
    by_cases hz6 : r6 = 0
    · subst hz6
      go_wp2_with fail
      have z8 : Box2 ((w6.setCell ⟨w5.heap.size, 1, none⟩ (.int .i64 (nn * 2))).setCell ⟨w5.heap.size, 0, none⟩ (.int .i64 (tt * 2))) w.heap.size 24 (.int .i64 0) (.int .i64 0) := (z6.other (Ne.symm hbw) _).other (Ne.symm hbw) _
      have hr8 := hR6.below (W' := ((((w6.setCell ⟨w5.heap.size, 1, none⟩ (.int .i64 (nn * 2))).setCell ⟨w5.heap.size, 0, none⟩ (.int .i64 (tt * 2))).setCell ⟨w.heap.size, 0, none⟩ (.int .i64 (tt * 2))).setCell ⟨w.heap.size, 1, none⟩ (.int .i64 (nn * 2)))) (((((Below.refl w.heap.size w6).setCell (p := ⟨w5.heap.size, 1, none⟩) (Nat.le_of_lt hlt5) _).setCell (p := ⟨w5.heap.size, 0, none⟩) (Nat.le_of_lt hlt5) _).setCell (p := ⟨w.heap.size, 0, none⟩) (Nat.le_refl _) _).setCell (p := ⟨w.heap.size, 1, none⟩) (Nat.le_refl _) _) hgl
      refine bodyPost_ret (v := .agg #[.int .i64 (tt * 2), .int .i64 (nn * 2)]) (by simp [results, Tryz.results32, go_sem, (z8.set _ _).cell0, (z8.set _ _).cell1]) rfl ?_
      exact ⟨tt * 2, nn * 2, by omega, by omega, by omega, rfl, ⟨_, by omega, hr8⟩, (((hGc.set (p := ⟨w5.heap.size, 1, none⟩) (Nat.le_of_lt hlt5) _).set (p := ⟨w5.heap.size, 0, none⟩) (Nat.le_of_lt hlt5) _).set (p := ⟨w.heap.size, 0, none⟩) (Nat.le_refl _) _).set (p := ⟨w.heap.size, 1, none⟩) (Nat.le_refl _) _⟩
    · have hz6' : (r6 == 0) = false := by simpa using hz6
      go_wp2_with fail
      refine bodyPost_ret (v := .agg #[.int .i64 tt, .int .i64 nn]) (by simp [results, Tryz.results32, go_sem, (z6.set _ _).cell0, (z6.set _ _).cell1]) rfl ?_
      exact ⟨tt, nn, e1, e2, by omega, rfl, ⟨_, by omega, hr6⟩, (hGc.set (p := ⟨w.heap.size, 0, none⟩) (Nat.le_refl _) _).set (p := ⟨w.heap.size, 1, none⟩) (Nat.le_refl _) _⟩

end Go.Proofs.YtmpbbflolbakhaaGreatDoor
