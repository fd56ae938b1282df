/-
  Chapter 6, the program's side: times, other rings.
-/
import Derived.Test.YtoiofkijinlllacSumI
import Derived.Test.YtoiofkijinlllacOther
import Derived.Test.YtoiofkijinlllacPower
import Derived.Test.YtoiofkijinlllacPMath
import Derived.Deep.RegionWith
import Derived.Deep.RegionHeld3
import Derived.Deep.LoopGhost
import Derived.Deep.QuietTactic
import Derived.BigQuiet
namespace Go.Proofs.Ytoiofkijinlllac
open Go.RowKit

theorem lowest_red (t n : Nat) (w : World) (hn : 0 < n) (ht : t ≤ 100000000000) (hn2 : n ≤ 100000000000) :
    Calls Try.prog 30 #[.int .i64 t, .int .i64 n] w fun e w' => e = .returned (.agg #[.int .i64 (redT t n : Nat), .int .i64 (redN t n : Nat)]) ∧ Below w.heap.size w w' := lowest_any t n w hn ht hn2

set_option maxHeartbeats 2000000 in
theorem implSumTimes_no (t n k : Int) (h : (finB t n && decide (0 ≤ k ∧ k ≤ 1000)) = false) : GivesF 12 #[.agg #[.int .i64 t, .int .i64 n], .int .i64 k] 0 0 false := by
  intro w
  cases h1 : finB t n with
  | false =>
    clear h
    go_enter Try.func12, Try.ntmps12
    go_wp2_with fail
    refine (implFracIn_any _ _ _).mono ?_
    rintro e w1 ⟨rfl, hb1⟩
    rw [h1]
    have z1 : Box2 w1 (w.heap.size + 1) 24 (.int .i64 0) (.int .i64 0) := (Box2.newAt (by simp)).later hb1
    have k0 := z1.cell0
    have k1 := z1.cell1
    have f0 := z1.frozen0
    have f1 := z1.frozen1
    have hb := bel2' hb1
    clear hb1
    go_wp2_with fail
    refine bodyPost_ret (v := .tuple #[.agg #[.int .i64 0, .int .i64 0], .bool false]) (by simp [results, Try.results12, go_sem, (z1.set' _ _).cell0, (z1.set' _ _).cell1]) rfl ⟨rfl, ?_⟩
    exact (hb.setCell (p := ⟨w.heap.size + 1, 0, none⟩) (by simp) _).setCell (p := ⟨w.heap.size + 1, 1, none⟩) (by simp) _
  | true =>
    rw [h1, Bool.true_and, decide_eq_false_iff_not] at h
    by_cases hk : k < 0
    · clear h
      go_enter Try.func12, Try.ntmps12
      go_wp2_with fail
      refine (implFracIn_any _ _ _).mono ?_
      rintro e w1 ⟨rfl, hb1⟩
      rw [h1]
      have z1 : Box2 w1 (w.heap.size + 1) 24 (.int .i64 0) (.int .i64 0) := (Box2.newAt (by simp)).later hb1
      have k0 := z1.cell0
      have k1 := z1.cell1
      have f0 := z1.frozen0
      have f1 := z1.frozen1
      have hb := bel2' hb1
      clear hb1
      go_wp2_with fail
      refine bodyPost_ret (v := .tuple #[.agg #[.int .i64 0, .int .i64 0], .bool false]) (by simp [results, Try.results12, go_sem, (z1.set' _ _).cell0, (z1.set' _ _).cell1]) rfl ⟨rfl, ?_⟩
      exact (hb.setCell (p := ⟨w.heap.size + 1, 0, none⟩) (by simp) _).setCell (p := ⟨w.heap.size + 1, 1, none⟩) (by simp) _
    · have hk2 : 1000 < k := by omega
      clear h
      go_enter Try.func12, Try.ntmps12
      go_wp2_with fail
      refine (implFracIn_any _ _ _).mono ?_
      rintro e w1 ⟨rfl, hb1⟩
      rw [h1]
      have z1 : Box2 w1 (w.heap.size + 1) 24 (.int .i64 0) (.int .i64 0) := (Box2.newAt (by simp)).later hb1
      have k0 := z1.cell0
      have k1 := z1.cell1
      have f0 := z1.frozen0
      have f1 := z1.frozen1
      have hb := bel2' hb1
      clear hb1
      go_wp2_with fail
      refine bodyPost_ret (v := .tuple #[.agg #[.int .i64 0, .int .i64 0], .bool false]) (by simp [results, Try.results12, go_sem, (z1.set' _ _).cell0, (z1.set' _ _).cell1]) rfl ⟨rfl, ?_⟩
      exact (hb.setCell (p := ⟨w.heap.size + 1, 0, none⟩) (by simp) _).setCell (p := ⟨w.heap.size + 1, 1, none⟩) (by simp) _

set_option maxHeartbeats 2000000 in
theorem implSumTimes_yes (T B k : Nat) (h : FOk T B) (hk : k ≤ 1000) : GivesF 12 #[.agg #[.int .i64 T, .int .i64 B], .int .i64 k] (tmsT T B k) (tmsN T B k) true := by
  intro w
  have h1 := h.fin
  have hT := h.lt; have hB := h.bot
  have hk0 : ¬ (k : Int) < 0 := by omega
  have hk1 : ¬ (1000 : Int) < k := by omega
  have htk : T * k ≤ 1000 * 1000 := Nat.mul_le_mul (by omega) hk
  have i2 : ((T * k : Nat) : Int) = (T : Int) * k := by simp
  have hmod : T * k % B < B := Nat.mod_lt _ (by omega)
  have HR : Hid (∀ wx, Calls Try.prog 30 #[.int .i64 ((T * k % B : Nat) : Int), .int .i64 B] wx fun e w' => e = .returned (.agg #[.int .i64 (tmsT T B k : Nat), .int .i64 (tmsN T B k : Nat)]) ∧ Below wx.heap.size wx w') := fun wx =>
    lowest_red _ _ wx (by omega) (by omega) (by omega)
  have j1 : IntKind.i64.wrap ((T : Int) * k) = (T : Int) * k := IntWalk.i64_in _ (by omega)
  have j2 : ((T : Int) * k).tmod B = (T * k % B : Nat) := by
    rw [← i2, Int.tmod_eq_emod_of_nonneg (by omega)]; rfl
  have j3 : IntKind.i64.wrap ((T * k % B : Nat) : Int) = (T * k % B : Nat) := IntWalk.i64_in _ (by omega)
  have hB0 : ¬ B = 0 := by omega
  revert HR j2 j3
  generalize T * k % B = x at *
  intro HR j2 j3
  clear h i2 htk
  go_enter Try.func12, Try.ntmps12
  go_wp2_with fail
  refine (implFracIn_any _ _ _).mono ?_
  rintro e w1 ⟨rfl, hb1⟩
  rw [h1]
  have z1 : Box2 w1 (w.heap.size + 1) 24 (.int .i64 0) (.int .i64 0) := (Box2.newAt (by simp)).later hb1
  have x1 : Box2 w1 w.heap.size 24 (.int .i64 T) (.int .i64 B) := ((Box2.newAt rfl).alloc _).later hb1
  have hb := bel2' hb1
  clear hb1 h1
  have dx : Box2 w1.drew w.heap.size 24 (.int .i64 T) (.int .i64 B) := x1
  have dz : Box2 w1.drew (w.heap.size + 1) 24 (.int .i64 0) (.int .i64 0) := z1
  have x0 := dx.cell0
  have x1' := dx.cell1
  clear x1 z1
  go_wp2_with fail
  go_region_with (go_at_call 30; with_reducible refine Calls.mono (HR.out _) ?_; rintro e w4 ⟨rfl, hb4⟩; have z4 := Box2.later dz hb4; have x4 := Box2.later dx hb4; have hz0 := z4.cell0; have hz1 := z4.cell1; have hf0 := z4.frozen0; have hf1 := z4.frozen1; have hx0 := x4.cell0; have hx1 := x4.cell1)
  all_goals (
    go_wp2
    refine bodyPost_ret (v := .tuple #[.agg #[.int .i64 (tmsT T B k), .int .i64 (tmsN T B k)], .bool true]) (by simp [results, Try.results12, go_sem, (z4.set' _ _).cell0, (z4.set' _ _).cell1]) rfl ⟨rfl, ?_⟩
    have hbx : Below w.heap.size w w4 := hb.drew.trans (hb4.mono hb.size)
    exact (hbx.setCell (p := ⟨w.heap.size + 1, 0, none⟩) (by simp) _).setCell (p := ⟨w.heap.size + 1, 1, none⟩) (by simp) _)

theorem imSumTimes : ImSumTimes := ⟨implSumTimes_no, implSumTimes_yes⟩


theorem row_slcX {W : World} {g n₀ : Nat} {zs : List Int} (h : RowI W g zs) (hg : n₀ ≤ g) (hm : zs.length ≤ maxLen) : Slc n₀ W (.slice (some ⟨g, 0, none⟩) zs.length zs.length) zs := by
  obtain ⟨cur, h1, h2⟩ := h
  have hl : cur.size = zs.length := by rw [← Array.length_toList, h2, List.length_map]
  refine .inr ⟨g, 0, zs.length, cur, rfl, hg, h1, Nat.le_refl _, hm, by omega, ?_⟩
  rw [List.drop_zero, h2]
  exact List.take_of_length_le (by simp)



end Go.Proofs.Ytoiofkijinlllac
