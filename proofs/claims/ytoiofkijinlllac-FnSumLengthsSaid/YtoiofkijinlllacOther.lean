/-
  The other fraction: the program's and the model's.
-/
import Derived.Test.YtoiofkijinlllacAns
import Derived.Test.YtoiofkijinlllacTold
import Derived.RegionTactic
import Derived.Deep.RegionHeld3
namespace Go.Proofs.Ytoiofkijinlllac
open Go.RowKit

theorem bel1' {w w1 : World} {o : Obj} (hb : Below (w.alloc o).heap.size (w.alloc o) w1) : Below w.heap.size w w1 := ((Below.refl w.heap.size w).alloc (Nat.le_refl _) o).trans (hb.mono (by simp))
theorem bel2' {w w1 : World} {o o' : Obj} (hb : Below ((w.alloc o).alloc o').heap.size ((w.alloc o).alloc o') w1) : Below w.heap.size w w1 := (((Below.refl w.heap.size w).alloc (Nat.le_refl _) o).alloc (by simp) o').trans (hb.mono (by simp; omega))
theorem Box2.set' {W : World} {B : Nat} {T : TypeId} {x y : Value} (h : Box2 W B T x y) (x' y' : Value) : Box2 ((W.setCell ⟨B, 0, none⟩ x').setCell ⟨B, 1, none⟩ y') B T x' y' := by
  unfold Box2 at h
  simp [Box2, World.setCell, Array.getElem?_modify, h]

set_option maxHeartbeats 1000000 in
theorem implRestOther_no (t n : Int) (h : finB t n = false) : GivesF 10 #[.agg #[.int .i64 t, .int .i64 n]] 0 0 false := by
  intro w
  go_enter Try.func10, Try.ntmps10
  go_wp2_with fail
  refine (implFracIn_any _ _ _).mono ?_
  rintro e w1 ⟨rfl, hb1⟩
  have z1 : Box2 w1 (w.heap.size + 1) 24 (.int .i64 0) (.int .i64 0) := (Box2.newAt (by simp)).later hb1
  have k0 := z1.cell0
  have k1 := z1.cell1
  have f0 := z1.frozen0
  have f1 := z1.frozen1
  go_wp2_with fail
  refine bodyPost_ret (v := .tuple #[.agg #[.int .i64 0, .int .i64 0], .bool false]) (by simp [results, Try.results10, go_sem, (z1.set' _ _).cell0, (z1.set' _ _).cell1]) rfl ⟨rfl, ?_⟩
  exact ((bel2' hb1).setCell (p := ⟨w.heap.size + 1, 0, none⟩) (by simp) _).setCell (p := ⟨w.heap.size + 1, 1, none⟩) (by simp) _

set_option maxHeartbeats 1000000 in
theorem implRestOther_top (n : Int) (h : finB 0 n = true) : GivesF 10 #[.agg #[.int .i64 0, .int .i64 n]] 0 0 false := by
  intro w
  go_enter Try.func10, Try.ntmps10
  go_wp2_with fail
  refine (implFracIn_any _ _ _).mono ?_
  rintro e w1 ⟨rfl, hb1⟩
  have z1 : Box2 w1 (w.heap.size + 1) 24 (.int .i64 0) (.int .i64 0) := (Box2.newAt (by simp)).later hb1
  have x1 : Box2 w1 w.heap.size 24 (.int .i64 0) (.int .i64 n) := ((Box2.newAt rfl).alloc _).later hb1
  have k0 := z1.cell0
  have k1 := z1.cell1
  have f0 := z1.frozen0
  have f1 := z1.frozen1
  have x0 := x1.cell0
  have x1' := x1.cell1
  go_wp2_with fail
  refine bodyPost_ret (v := .tuple #[.agg #[.int .i64 0, .int .i64 0], .bool false]) (by simp [results, Try.results10, go_sem, (z1.set' _ _).cell0, (z1.set' _ _).cell1]) rfl ⟨rfl, ?_⟩
  exact ((bel2' hb1).setCell (p := ⟨w.heap.size + 1, 0, none⟩) (by simp) _).setCell (p := ⟨w.heap.size + 1, 1, none⟩) (by simp) _

set_option maxHeartbeats 1000000 in
theorem implRestOther_yes (t n : Int) (h : finB t n = true) (h0 : (t == 0) = false) : GivesF 10 #[.agg #[.int .i64 t, .int .i64 n]] (n - t) n true := by
  intro w
  obtain ⟨f1, f2, f3, f4, f5⟩ := (finB_iff t n).1 h
  clear f5
  go_enter Try.func10, Try.ntmps10
  go_wp2_with fail
  refine (implFracIn_any _ _ _).mono ?_
  rintro e w1 ⟨rfl, hb1⟩
  have z1 : Box2 w1 (w.heap.size + 1) 24 (.int .i64 0) (.int .i64 0) := (Box2.newAt (by simp)).later hb1
  have x1 : Box2 w1 w.heap.size 24 (.int .i64 t) (.int .i64 n) := ((Box2.newAt rfl).alloc _).later hb1
  have k0 := z1.cell0
  have k1 := z1.cell1
  have g0 := z1.frozen0
  have g1 := z1.frozen1
  have x0 := x1.cell0
  have x1' := x1.cell1
  go_wp2_with fail
  refine bodyPost_ret (v := .tuple #[.agg #[.int .i64 (n - t), .int .i64 n], .bool true]) (by simp [results, Try.results10, go_sem, (z1.set' _ _).cell0, (z1.set' _ _).cell1]) rfl ⟨rfl, ?_⟩
  exact ((bel2' hb1).setCell (p := ⟨w.heap.size + 1, 0, none⟩) (by simp) _).setCell (p := ⟨w.heap.size + 1, 1, none⟩) (by simp) _





end Go.Proofs.Ytoiofkijinlllac
