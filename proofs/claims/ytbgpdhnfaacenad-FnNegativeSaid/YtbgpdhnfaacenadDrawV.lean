/-
  The draws of chapter 8: a base, a value, a number.
-/
import Derived.Test.YtbgpdhnfaacenadDraw1
import Derived.Test.YtbgpdhnfaacenadDrawP
import Derived.RegionTactic
namespace Go.Proofs.Ytbgpdhnfaacenad
open Go.RowKit

def litV : Array Value := #[.int .i64 1, .int .i64 7, .int .i64 13, .int .i64 11, .int .i64 17, .int .i64 19, .int .i64 23, .int .i64 1, .int .i64 49, .int .i64 121]
theorem litV_get (i : Nat) (hi : i < 10) : ∃ x : Int, 1 ≤ x ∧ x ≤ 121 ∧ litV[i]? = some (.int .i64 x) := by
  unfold litV
  rcases i with _ | _ | _ | _ | _ | _ | _ | _ | _ | _ | i
  all_goals first | exact ⟨_, by decide, by decide, rfl⟩ | omega
theorem litV_cell (w : World) (i : Nat) (x : Int) (h : litV[i]? = some (.int .i64 x)) : (w.alloc (.cells litV 3)).cell? ⟨w.heap.size, i, none⟩ = some (.int .i64 x) := by
  have hb : (w.alloc (.cells litV 3)).heap[w.heap.size]? = some (.cells litV 3 (0, 0)) := heap_alloc_new w _
  unfold World.cell?
  rw [show (w.alloc (.cells litV 3)).heap[(⟨w.heap.size, i, none⟩ : Addr).block]? = _ from hb]
  exact h






set_option maxHeartbeats 1000000 in
theorem drawRightNegative_any (a : Option Addr) (len cap : Nat) (w : World) (h : Byt w a len cap) :
    Calls Try.prog 4 #[.slice a len cap] w fun e w' => ∃ b t n : Int, Drw b t n ∧ e = .returned (.tuple #[.int .i64 b, .agg #[.int .i64 t, .int .i64 n]]) ∧ Below w.heap.size w w' := by
  go_enter Try.func4, Try.ntmps4
  go_wp2_with fail
  have z0 := Box2.new w 24 (.int .i64 0) (.int .i64 0)
  have B0 : Below w.heap.size w (w.alloc (.cells #[.int .i64 0, .int .i64 0] 24)) := (Below.refl _ _).alloc (Nat.le_refl _) _
  refine (l92Part_any a len cap _ (h.later B0)).mono ?_
  rintro e w1 ⟨b, tt, nn, k, ⟨d1, d2, e1, e2, e3⟩, hk1, hk2, rfl, hb1⟩
  have z1 := z0.later hb1
  have B1 := B0.trans (hb1.mono B0.size)
  have hlt := z1.lt
  clear z0 B0 hb1
  have hbw1 : ¬ w1.heap.size = w.heap.size := by omega
  have hbw2 : ¬ w.heap.size = w1.heap.size := by omega
  have q2 := Box2.new w1 24 (.int .i64 tt) (.int .i64 nn)
  have z2 := z1.alloc (.cells #[.int .i64 tt, .int .i64 nn] 24)
  have B2 := B1.alloc B1.size (.cells #[.int .i64 tt, .int .i64 nn] 24)
  go_wp2_with fail
  revert q2 z2 B2
  generalize w1.alloc (.cells #[.int .i64 tt, .int .i64 nn] 24) = w2
  intro q2 z2 B2
  have zD : Box2 w2.drew w.heap.size 24 (.int .i64 0) (.int .i64 0) := z2
  have qD : Box2 w2.drew w1.heap.size 24 (.int .i64 tt) (.int .i64 nn) := q2
  have kq0 := qD.cell0; have kq1 := qD.cell1; have kz0 := zD.frozen0; have kz1 := zD.frozen1; have kzc0 := zD.cell0; have kzc1 := zD.cell1
  have lq0 := q2.cell0; have lq1 := q2.cell1; have lz0 := z2.frozen0; have lz1 := z2.frozen1; have lzc0 := z2.cell0; have lzc1 := z2.cell1
  go_region
  all_goals (
    go_wp2
    refine bodyPost_ret (v := .tuple #[.int .i64 b, .agg #[.int .i64 tt, .int .i64 nn]]) (by simp [results, Try.results4, go_sem, (z2.set _ _).cell0, (z2.set _ _).cell1]) rfl ?_
    exact ⟨b, tt, nn, ⟨d1, d2, e1, e2, e3⟩, rfl, ((B2.drew).setCell (p := ⟨w.heap.size, 0, none⟩) (Nat.le_refl _) _).setCell (p := ⟨w.heap.size, 1, none⟩) (Nat.le_refl _) _⟩)

end Go.Proofs.Ytbgpdhnfaacenad
