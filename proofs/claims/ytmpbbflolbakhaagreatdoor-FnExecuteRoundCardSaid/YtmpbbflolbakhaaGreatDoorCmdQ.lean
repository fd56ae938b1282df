/-
  Chapter 9: the word frac: its own method.
-/
import Derived.Test.YtmpbbflolbakhaaGreatDoorGCmH
import Derived.Test.YtmpbbflolbakhaaGreatDoorIn
namespace Go.Proofs.YtmpbbflolbakhaaGreatDoor
open Go.RowKit

set_option maxRecDepth 100000 in
set_option maxHeartbeats 1000000 in
theorem benchTake_yes (o : Nat) (b t n T B : Int) (w : World) (hO : BenchAt o b t n w) :
    Calls Tryz.prog 98 #[.pointer (some ⟨o, 0, none⟩), .agg #[.int .i64 T, .int .i64 B], .bool true] w fun e w' => e = .returned (.string ⟨#[111, 107]⟩) ∧ BenchAt o b T B w' ∧ BelowBut w.heap.size o w w' := by
  have hb0 : Below w.heap.size w (w.alloc (.cells #[.int .i64 T, .int .i64 B] 24)) := (Below.refl _ _).alloc (Nat.le_refl _) _
  have h0 : (w.alloc (.cells #[.int .i64 T, .int .i64 B] 24)).heap[o]? = some (.cells #[.int .i64 b, .int .i64 t, .int .i64 n] 44 (0, 0)) := hO.keep hb0
  have h1 := heap_setCell_same _ o 1 _ _ (.int .i64 T) h0
  have h2 := heap_setCell_same _ o 2 _ _ (.int .i64 B) h1
  have c1 : (w.alloc (.cells #[.int .i64 T, .int .i64 B] 24)).cell? ⟨o, 1, none⟩ = some (.int .i64 t) := by rw [Lib.cell_of_heap h0]; rfl
  have f1 : (w.alloc (.cells #[.int .i64 T, .int .i64 B] 24)).frozen? ⟨o, 1, none⟩ = false := Lib.frozen_of_heap h0 1
  have c2 : ((w.alloc (.cells #[.int .i64 T, .int .i64 B] 24)).setCell ⟨o, 1, none⟩ (.int .i64 T)).cell? ⟨o, 2, none⟩ = some (.int .i64 n) := by rw [Lib.cell_of_heap h1]; rfl
  have f2 : ((w.alloc (.cells #[.int .i64 T, .int .i64 B] 24)).setCell ⟨o, 1, none⟩ (.int .i64 T)).frozen? ⟨o, 2, none⟩ = false := Lib.frozen_of_heap h1 2
  have H2 := Lib.hid h2
  clear h0 h1 h2
  go_enter Tryz.func98, Tryz.ntmps98
  go_wp2_with fail
  go_ret
  exact ⟨rfl, H2.out, ((Below.but o hb0).set ⟨o, 1, none⟩ (.inr rfl) _).set ⟨o, 2, none⟩ (.inr rfl) _⟩

set_option maxRecDepth 100000 in
set_option maxHeartbeats 2000000 in
theorem benchFrac_any (o : Nat) (b t n : Int) (z : Nat → Int) (g : Value) (w : World) (hO : BenchAt o b t n w) (hg : Nums 2 z g w) (hF : finB (z 0) (z 1) = true) :
    Calls Tryz.prog 74 #[.pointer (some ⟨o, 0, none⟩), g] w fun e w' => e = .returned (.string ⟨#[111, 107]⟩) ∧ BenchAt o b (z 0) (z 1) w' ∧ BelowBut w.heap.size o w w' := by
  obtain ⟨h, C, rfl, hh, hC1, hC2⟩ := hg
  have c0 : w.cell? ⟨h, 0, none⟩ = some (.int .i64 (z 0)) := by rw [Lib.cell_of_heap hh]; exact hC2 0 (by omega)
  have c1 : w.cell? ⟨h, 1, none⟩ = some (.int .i64 (z 1)) := by rw [Lib.cell_of_heap hh]; exact hC2 1 (by omega)
  have HIn : Hid (∀ W, Calls Tryz.prog 34 #[.agg #[.int .i64 (z 0), .int .i64 (z 1)]] W fun e w' => e = .returned (.bool true) ∧ Below W.heap.size W w') := fun W => by
    have := implFracIn_any (z 0) (z 1) W
    rw [hF] at this; exact this
  have HTk : Hid (∀ W, Below w.heap.size w W → Calls Tryz.prog 98 #[.pointer (some ⟨o, 0, none⟩), .agg #[.int .i64 (z 0), .int .i64 (z 1)], .bool true] W fun e w' => e = .returned (.string ⟨#[111, 107]⟩) ∧ BenchAt o b (z 0) (z 1) w' ∧ BelowBut W.heap.size o W w') := fun W hW =>
    benchTake_yes o b t n (z 0) (z 1) W (hO.keep hW)
  have HHL : Hid (h < w.heap.size) := (Array.getElem?_eq_some_iff.1 hh).1
  clear hF hC2 hC1 hh hO
  generalize z 0 = T at *
  generalize z 1 = B at *
  have hh1 : h < w.heap.size := HHL.out
  have c0' : (w.alloc (.cells #[.int .i64 0, .int .i64 0] 24)).cell? ⟨h, 0, none⟩ = some (.int .i64 T) := by rw [World.cell?_of_block (a := ⟨h, 0, none⟩) (Below.heap_alloc _ _ h hh1)]; exact c0
  have c1' : (w.alloc (.cells #[.int .i64 0, .int .i64 0] 24)).cell? ⟨h, 1, none⟩ = some (.int .i64 B) := by rw [World.cell?_of_block (a := ⟨h, 1, none⟩) (Below.heap_alloc _ _ h hh1)]; exact c1
  go_enter Tryz.func74, Tryz.ntmps74
  go_wp2_with fail
  go_region
  all_goals (
    go_wp2_with fail
    obtain ⟨W1, hW1⟩ : ∃ W1, (w.alloc (.cells #[.int .i64 T, .int .i64 B] 24)).drew = W1 := ⟨_, rfl⟩
    have q1 : Box2 W1 w.heap.size 24 (.int .i64 T) (.int .i64 B) := by rw [← hW1]; exact Box2.new w 24 (.int .i64 T) (.int .i64 B)
    have HB1 : Hid (Below w.heap.size w W1) := by
      show Below _ _ _
      rw [← hW1]; exact ((Below.refl _ _).alloc (Nat.le_refl _) _).drew
    rw [hW1]
    clear hW1 c0 c1 c0' c1'
    have l0 := q1.cell0; have l1 := q1.cell1
    have HQ := Lib.hid q1
    clear q1
    go_region_with (first | (go_at_call 34; with_reducible refine Calls.mono (HIn.out _) ?_; rintro e w2 ⟨rfl, hb2⟩; have l2 := ((HQ.out.later (below_drew1 hb2))).cell0; have l3 := ((HQ.out.later (below_drew1 hb2))).cell1) | (go_at_call 98; with_reducible refine Calls.mono (HTk.out _ (HB1.out.trans ((below_drew1 hb2).mono HB1.out.size))) ?_; rintro e w3 ⟨rfl, hb3, hk3⟩))
    all_goals (
      go_wp2_with fail
      go_ret
      exact ⟨rfl, hb3, (Below.but o (HB1.out.trans ((below_drew1 hb2).mono HB1.out.size))).trans (hk3.mono (Nat.le_trans HB1.out.size (below_drew1 hb2).size))⟩))

end Go.Proofs.YtmpbbflolbakhaaGreatDoor
