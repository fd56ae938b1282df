/-
  The draws of chapter 8: a base, a value, a number.
-/
import Derived.Test.YtbgpdhnfaacenacDraw1
namespace Go.Proofs.Ytbgpdhnfaacenac
open Go.RowKit

def litV : Array Value := #[.int .i64 1, .int .i64 7, .int .i64 13, .int .i64 11, .int .i64 17, .int .i64 19, .int .i64 23, .int .i64 1, .int .i64 49, .int .i64 121]
theorem litV_get (i : Nat) (hi : i < 10) : ∃ x : Int, 1 ≤ x ∧ x ≤ 121 ∧ litV[i]? = some (.int .i64 x) := by
  unfold litV
  rcases i with _ | _ | _ | _ | _ | _ | _ | _ | _ | _ | i
  all_goals first | exact ⟨_, by decide, by decide, rfl⟩ | omega
theorem litV_cell (w : World) (i : Nat) (x : Int) (h : litV[i]? = some (.int .i64 x)) : (w.alloc (.cells litV 3)).cell? ⟨w.heap.size, i, none⟩ = some (.int .i64 x) := by
  have hb : (w.alloc (.cells litV 3)).heap[w.heap.size]? = some (.cells litV 3 (0, 0)) := heap_alloc_new w _
  unfold World.cell?
  rw [show (w.alloc (.cells litV 3)).heap[(⟨w.heap.size, i, none⟩ : Addr).block]? = _ from hb]
  exact h

set_option maxHeartbeats 2000000 in
theorem l92Value_any (g p : Nat) (w : World) (h : Rdr w g p) (hp : p ≤ 1000) :
    Calls Try.prog 16 #[.pointer (some ⟨g, 0, none⟩)] w fun e w' => ∃ (b t n : Int) (q : Nat), q ≤ p + 10 ∧ e = .returned (.tuple #[.int .i64 b, .int .i64 t, .int .i64 n]) ∧ Rdr w' g q ∧ w.grownBy w' (some g) := by
  go_enter Try.func16, Try.ntmps16
  go_wp2_with fail
  refine (l91Base_any g p _ h (by omega)).mono ?_
  rintro e w2 ⟨b, d1, d2, rfl, hR2, hG2⟩
  clear h
  go_wp2_with fail
  refine (pick_any g _ 10 _ (hR2.alloc _) (by omega) (by omega)).mono ?_
  rintro e w3 ⟨r, hr0, hr1, rfl, hR3, hG3⟩
  obtain ⟨r3, rfl⟩ := Int.eq_ofNat_of_zero_le hr0
  obtain ⟨x, hx1, hx2, hx0⟩ := litV_get r3 (by omega)
  have hne3 : some w2.heap.size ≠ some g := by have := hR2.lt; simp; omega
  have hy : w3.cell? ⟨w2.heap.size, r3, none⟩ = some (.int .i64 x) := World.grownBy.cell (a := ⟨w2.heap.size, r3, none⟩) hG3 (litV_cell w2 r3 x hx0) hne3
  have G3 := (hG2.trans (World.grownBy_alloc w2 (.cells litV 3) _)).trans hG3
  clear hG2 hG3 hR2 hne3 hx0
  go_wp2_with fail
  refine (pick_any g _ 12 _ hR3 (by omega) (by omega)).mono ?_
  rintro e w4 ⟨r4, h40, h41, rfl, hR4, hG4⟩
  have G4 := G3.trans hG4
  clear G3 hG4 hR3 hy
  by_cases h0 : r4 = 0
  · subst h0
    go_wp2_with fail
    refine (pick_any g _ 30 _ hR4 (by omega) (by omega)).mono ?_
    rintro e w5 ⟨r5, h50, h51, rfl, hR5, hG5⟩
    have G5 := G4.trans hG5
    clear G4 hG5 hR4
    go_wp2_with fail
    refine (pick_any g _ 200 _ hR5 (by omega) (by omega)).mono ?_
    rintro e w6 ⟨r6, h60, h61, rfl, hR6, hG6⟩
    have G6 := G5.trans hG6
    clear G5 hG6 hR5
    go_wp2_with fail
    refine (pick_any g _ 40 _ hR6 (by omega) (by omega)).mono ?_
    rintro e w7 ⟨r7, h70, h71, rfl, hR7, hG7⟩
    have G7 := G6.trans hG7
    clear G6 hG7 hR6
    have t1 : r7.tdiv 39 = r7 / 39 := Int.tdiv_eq_ediv_of_nonneg h70
    go_wp2_with fail
    refine bodyPost_ret (v := .tuple #[.int .i64 b, .int .i64 (r6 - 100 + r7 / 39 * 9950), .int .i64 (1 + r5)]) ?_ rfl ⟨_, _, _, _, ?_, rfl, hR7, G7⟩
    · simp [results, Try.results16, go_sem]
    · omega
  · have h0' : (r4 == 0) = false := by simpa using h0
    clear h0
    go_wp2_with fail
    refine (pick_any g _ 200 _ hR4 (by omega) (by omega)).mono ?_
    rintro e w6 ⟨r6, h60, h61, rfl, hR6, hG6⟩
    have G6 := G4.trans hG6
    clear G4 hG6 hR4
    go_wp2_with fail
    refine (pick_any g _ 40 _ hR6 (by omega) (by omega)).mono ?_
    rintro e w7 ⟨r7, h70, h71, rfl, hR7, hG7⟩
    have G7 := G6.trans hG7
    clear G6 hG7 hR6
    have t1 : r7.tdiv 39 = r7 / 39 := Int.tdiv_eq_ediv_of_nonneg h70
    go_wp2_with fail
    refine bodyPost_ret (v := .tuple #[.int .i64 b, .int .i64 (r6 - 100 + r7 / 39 * 9950), .int .i64 x]) ?_ rfl ⟨_, _, _, _, ?_, rfl, hR7, G7⟩
    · simp [results, Try.results16, go_sem]
    · omega



set_option maxHeartbeats 1000000 in
theorem drawRightLengths_any (a : Option Addr) (len cap : Nat) (w : World) (h : Byt w a len cap) :
    Calls Try.prog 7 #[.slice a len cap] w fun e w' => ∃ b t n : Int, e = .returned (.tuple #[.int .i64 b, .int .i64 t, .int .i64 n]) ∧ Below w.heap.size w w' := by
  go_enter Try.func7, Try.ntmps7
  go_wp2_with fail
  refine (l6Open_any a len cap _ h).mono ?_
  rintro e w1 ⟨g, rfl, hg, hR1, hb1⟩
  go_wp2_with fail
  refine (l92Value_any g 0 _ hR1 (by omega)).mono ?_
  rintro e w2 ⟨b, t, n, q, hq, rfl, hR2, hG2⟩
  have B2 := hb1.grown hG2 hb1.size (fun k e => by cases e; omega)
  clear hb1 hG2 hR1
  go_wp2_with fail
  refine bodyPost_ret (v := .tuple #[.int .i64 b, .int .i64 t, .int .i64 n]) ?_ rfl ⟨_, _, _, rfl, B2⟩
  simp [results, Try.results7, go_sem]

set_option maxHeartbeats 1000000 in
theorem drawRightRest_any (a : Option Addr) (len cap : Nat) (w : World) (h : Byt w a len cap) :
    Calls Try.prog 12 #[.slice a len cap] w fun e w' => ∃ b t n k : Int, e = .returned (.tuple #[.int .i64 b, .int .i64 t, .int .i64 n, .int .i64 k]) ∧ Below w.heap.size w w' := by
  go_enter Try.func12, Try.ntmps12
  go_wp2_with fail
  refine (l6Open_any a len cap _ h).mono ?_
  rintro e w1 ⟨g, rfl, hg, hR1, hb1⟩
  go_wp2_with fail
  refine (l92Value_any g 0 _ hR1 (by omega)).mono ?_
  rintro e w2 ⟨b, t, n, q, hq, rfl, hR2, hG2⟩
  have B2 := hb1.grown hG2 hb1.size (fun k e => by cases e; omega)
  clear hb1 hG2 hR1
  go_wp2_with fail
  refine (pick_any g _ 5 _ hR2 (by omega) (by omega)).mono ?_
  rintro e w3 ⟨r3, h30, h31, rfl, hR3, hG3⟩
  have B3 := B2.grown hG3 B2.size (fun k e => by cases e; omega)
  clear B2 hG3 hR2
  go_wp2_with fail
  refine (pick_any g _ 24 _ hR3 (by omega) (by omega)).mono ?_
  rintro e w4 ⟨r4, h40, h41, rfl, hR4, hG4⟩
  have B4 := B3.grown hG4 B3.size (fun k e => by cases e; omega)
  clear B3 hG4 hR3
  have t1 : r4.tdiv 23 = r4 / 23 := Int.tdiv_eq_ediv_of_nonneg h40
  go_wp2_with fail
  refine bodyPost_ret (v := .tuple #[.int .i64 b, .int .i64 t, .int .i64 n, .int .i64 (r3 + r4 / 23)]) ?_ rfl ⟨_, _, _, _, rfl, B4⟩
  simp [results, Try.results12, go_sem]


end Go.Proofs.Ytbgpdhnfaacenac
