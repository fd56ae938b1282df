/-
  Chapter 9: a rest of one number.
-/
import Derived.Test.YtmpbbflolbakhaaGreatDoorCmdN
import Derived.Lib.SplitLaws
namespace Go.Proofs.YtmpbbflolbakhaaGreatDoor
open Go.RowKit

/-- A string without the sign between: one piece. -/
theorem split_none (D : List UInt8) (c : UInt8) (h : c ∉ D) (hl : D.length ≤ 1000) (m : Int) (W : World) (hm : W.cell? ⟨0, 0, none⟩ = some (.int .i64 m)) :
    Calls Tryz.prog 20 #[.string ⟨D.toArray⟩, .string ⟨#[c]⟩] W fun e w' => e = .returned (.slice (some ⟨W.heap.size, 0, none⟩) 1 1) ∧ w' = W.alloc (.cells #[.string ⟨D.toArray⟩] 9) := by
  have hc : Lib.countB ⟨D.toArray⟩ ⟨#[c]⟩ = 0 := by
    show Lib.count D [c] = 0
    rw [Lib.count_one]; exact List.count_eq_zero.2 h
  have hs := Tryz.strings_Split ⟨D.toArray⟩ ⟨#[c]⟩ m W (by show D.toArray.size < _; simp; omega) hm (by show 1 ≤ (#[c] : Array UInt8).size; simp)
  rw [hc] at hs
  exact hs

theorem make_one (w : World) : (Instr.makeSlice 27 (.int .i64 1) (.int .i64 1)).run Tryz.prog w = .ok (.slice (some ⟨w.heap.size, 0, none⟩) 1 1) (w.alloc (.cells #[.int .i64 0] 3)) := by
  obtain ⟨i0, hi, hz0, hz1, hz2⟩ := info_parts infoInt
  have hr := run_make (P := Tryz.prog) w 27 3 i0 (.int .i64 0) Tryz.underlying27 hi hz0 .i64 .i64 1 1 (by omega) (by omega) (by rw [hz2]; omega) (by omega)
  rw [hz1] at hr
  have e : madeCells #[Value.int .i64 0] 1 = #[Value.int .i64 0] := by
    apply Array.toList_inj.1
    rw [toList_madeCells_one]; rfl
  rw [← e]
  exact hr
set_option maxRecDepth 100000 in
set_option maxHeartbeats 2000000 in
theorem restNumbers_one (n : Nat) (m : Int) (w : World) (hn : n ≤ 99999) (hm : w.cell? ⟨0, 0, none⟩ = some (.int .i64 m)) :
    Calls Tryz.prog 47 #[.string ⟨(Lib.decDigits n).toArray⟩, .int .i64 1] w fun e w' => ∃ g, e = .returned (.slice (some ⟨g, 0, none⟩) 1 1) ∧ w.heap.size ≤ g ∧ g < w'.heap.size ∧ w'.cell? ⟨g, 0, none⟩ = some (.int .i64 n) ∧ Below w.heap.size w w' := by
  have hD := dec_dig n
  have hL := dec_short 4 n (by omega)
  have hS := fun W => split_none (Lib.decDigits n) 32 (fun h => by have := hD 32 h; simp at this) (by omega) m W
  have HN := Lib.hid (fun W => restNumber_dec n W hn)
  clear hD hL
  generalize Lib.decDigits n = D at hS HN ⊢
  have hmk := make_one
  go_enter Tryz.func47, Tryz.ntmps47
  go_wp2_with (go_at_call 20; refine (hS _ hm).mono ?_; rintro e w' ⟨rfl, rfl⟩)
  clear hS hmk
  obtain ⟨W0, hW0⟩ : ∃ W0, (w.alloc (.cells #[.string ⟨D.toArray⟩] 9)).alloc (.cells #[.int .i64 0] 3) = W0 := ⟨_, rfl⟩
  have hz0 : W0.heap.size = w.heap.size + 2 := by rw [← hW0]; simp
  have hb0 : Below w.heap.size w W0 := by rw [← hW0]; exact ((Below.refl _ _).alloc (Nat.le_refl _) _).alloc (by simp) _
  have hx0 : W0.cell? ⟨w.heap.size, 0, none⟩ = some (.string ⟨D.toArray⟩) := by
    rw [← hW0, World.cell?_of_block (a := ⟨w.heap.size, 0, none⟩) (Below.heap_alloc _ _ w.heap.size (by simp))]
    exact cell_one_new w _ _ 0 _ rfl
  have hy0 : W0.heap[w.heap.size + 1]? = some (.cells #[.int .i64 0] 3 (0, 0)) := by
    rw [← hW0]
    have := heap_alloc_new (w.alloc (.cells #[.string ⟨D.toArray⟩] 9)) (.cells #[.int .i64 0] 3)
    simpa using this
  rw [hW0]
  clear hW0
  go_loopw [7, 8, 20] (fun _ _ x wr => ∃ q : Nat, q ≤ 1 ∧ x = .int .i64 q ∧ wr.heap.size ≥ w.heap.size + 2 ∧ wr.cell? ⟨w.heap.size, 0, none⟩ = some (.string ⟨D.toArray⟩) ∧ Hid (wr.heap[w.heap.size + 1]? = some (.cells #[.int .i64 ((q * n : Nat) : Int)] 3 (0, 0))) ∧ Hid (Below w.heap.size w wr)) (fun _ _ x _ => 1 - (intOf x).toNat)
  case atStart => exact ⟨0, by omega, rfl, by omega, hx0, by rw [Nat.zero_mul]; exact hy0, hb0⟩
  case round =>
    obtain ⟨q, hq, rfl, hsz, hx, hy, hb⟩ := hrel
    by_cases hlt : q = 0
    · subst hlt
      clear hx0 hy0 hb0 hz0
      go_wp2_with fail
      refine (HN.out _).mono ?_
      rintro e w1 ⟨rfl, hb1⟩
      have hy1 : w1.heap[w.heap.size + 1]? = some (.cells #[.int .i64 0] 3 (0, 0)) := (hb1.block _ (by omega)).trans (by have := hy.out; rwa [Nat.zero_mul] at this)
      have hc1 : w1.cell? ⟨w.heap.size + 1, 0, none⟩ = some (.int .i64 0) := by simp [World.cell?, hy1]
      have hf1 : w1.frozen? ⟨w.heap.size + 1, 0, none⟩ = false := by simp [World.frozen?, hy1]
      have hx1 : w1.cell? ⟨w.heap.size, 0, none⟩ = some (.string ⟨D.toArray⟩) := by rw [World.cell?_of_block (a := ⟨w.heap.size, 0, none⟩) (hb1.block _ (by show w.heap.size < _; omega))]; exact hx
      have hB1 := hb.out.trans (hb1.mono hb.out.size)
      have hs1 := hb1.size
      have HY := Lib.hid hy1
      have HB := Lib.hid hB1
      clear hy1 hB1 hb1 hb hy hx
      go_wp2_with fail
      refine ⟨⟨1, by omega, rfl, by simp; omega, ?_, ?_, ?_⟩, by simp [intOf]⟩
      · have hne : (⟨w.heap.size + 1, 0, none⟩ : Addr) ≠ ⟨w.heap.size, 0, none⟩ := by simp
        rw [World.cell?_setCell_other _ _ _ _ hne]; exact hx1
      · have := heap_setCell_same w1 (w.heap.size + 1) 0 #[.int .i64 0] 3 (.int .i64 (n : Int)) HY.out
        show _ = _
        rw [this, Nat.one_mul]; rfl
      · exact HB.out.setCell (by show w.heap.size ≤ w.heap.size + 1; omega) _
    · obtain rfl : q = 1 := by omega
      go_wp2_with fail
      go_ret
      exact ⟨_, rfl, by omega, by omega, by have := hy.out; simp [World.cell?, this], hb.out⟩

end Go.Proofs.YtmpbbflolbakhaaGreatDoor
