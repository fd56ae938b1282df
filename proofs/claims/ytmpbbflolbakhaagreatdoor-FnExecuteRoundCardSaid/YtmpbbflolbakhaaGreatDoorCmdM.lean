/-
  Chapter 9: the words base and order, where all is right.
-/
import Derived.Test.YtmpbbflolbakhaaGreatDoorGCmA
import Derived.Test.YtmpbbflolbakhaaGreatDoorGOrx
namespace Go.Proofs.YtmpbbflolbakhaaGreatDoor
open Go.RowKit

theorem below_drew1 {w w1 : World} (h : Below w.drew.heap.size w.drew w1) : Below w.heap.size w w1 := (Below.refl w.heap.size w).drew.trans h
theorem tab_later {w w' : World} {s : String} {k : IntKind} {zs : List Int} (h : Lib.TabBelow Tryz.prog w.heap.size w s k zs) (hb : Below w.heap.size w w') : Lib.TabBelow Tryz.prog w'.heap.size w' s k zs :=
  fun W hW => h W (hb.trans (hW.mono hb.size))

set_option maxRecDepth 100000 in
set_option maxHeartbeats 1000000 in
theorem oneOutput_any (k : Nat) (w : World) (hk : k ≤ 1000000) (htab : Lib.TabBelow Tryz.prog w.heap.size w "internal/strconv.uint64pow10" .u64 Lib.pow10Tab) :
    Calls Tryz.prog 109 #[.int .i64 k, .bool true] w fun e w' => e = .returned (.string ⟨(Lib.decDigits k).toArray⟩) ∧ Below w.heap.size w w' := by
  have hb0 : Below w.heap.size w (w.alloc (.cells #[.int .i64 (k : Int)] 3)) := (Below.refl _ _).alloc (Nat.le_refl _) _
  have hO := Lib.hid (numOut_one k w.heap.size (w.alloc (.cells #[.int .i64 (k : Int)] 3)) hk (by simp) (cell_one_new w _ _ 0 _ rfl) (tab_later htab hb0))
  clear htab
  generalize Lib.decDigits k = D at hO ⊢
  go_enter Tryz.func109, Tryz.ntmps109
  go_wp2_with fail
  refine hO.out.mono ?_
  rintro e w1 ⟨rfl, hb1⟩
  go_wp2_with fail
  go_ret
  exact ⟨rfl, hb0.trans (hb1.mono hb0.size)⟩

set_option maxRecDepth 100000 in
set_option maxHeartbeats 1000000 in
theorem benchBase_any (b : Nat) (b0 : Int) (o g : Nat) (w : World) (h3 : 2 ≤ b) (h4 : b ≤ 16) (ho : w.cell? ⟨o, 0, none⟩ = some (.int .i64 b0)) (hf : w.frozen? ⟨o, 0, none⟩ = false) (hg : w.cell? ⟨g, 0, none⟩ = some (.int .i64 b)) :
    Calls Tryz.prog 73 #[.pointer (some ⟨o, 0, none⟩), .slice (some ⟨g, 0, none⟩) 1 1] w fun e w' => e = .returned (.string ⟨#[111, 107]⟩) ∧ w' = w.setCell ⟨o, 0, none⟩ (.int .i64 b) := by
  have j1 : decide (2 ≤ (b : Int) ∧ (b : Int) ≤ 16) = true := by simp; omega
  have hnot : ∀ (x : Bool) (w : World), (Op.unary .not (.bool x)).run Tryz.prog w = .ok (.bool (!x)) w := fun _ _ => rfl
  go_enter Tryz.func73, Tryz.ntmps73
  go_wp2_with (go_at_call 33; refine (baseIn_any _ _).mono ?_; rintro e w' ⟨rfl, rfl⟩)
  all_goals go_ret
  all_goals exact ⟨rfl, rfl⟩

set_option maxRecDepth 100000 in
set_option maxHeartbeats 2000000 in
theorem benchOrder_any (b n m o g : Nat) (w : World) (hp : prmB b n = true) (h4 : b ≤ 16) (hn : 2 ≤ n) (hn2 : n ≤ 1000) (hm : IsLen b 1 n 0 m)
    (ho : w.cell? ⟨o, 0, none⟩ = some (.int .i64 b)) (hg : w.cell? ⟨g, 0, none⟩ = some (.int .i64 n)) (htab : Lib.TabBelow Tryz.prog w.heap.size w "internal/strconv.uint64pow10" .u64 Lib.pow10Tab) :
    Calls Tryz.prog 81 #[.pointer (some ⟨o, 0, none⟩), .slice (some ⟨g, 0, none⟩) 1 1] w fun e w' => e = .returned (.string ⟨(Lib.decDigits m).toArray⟩) ∧ Below w.heap.size w w' := by
  have hmn : m ≤ 1000000 := by have := hm.le (show 1 < n by omega); omega
  have hO : Hid (∀ W, Calls Tryz.prog 13 #[.int .i64 b, .int .i64 n] W fun e w' => e = .returned (.tuple #[.int .i64 m, .bool true]) ∧ Below W.heap.size W w') := fun W => imOf.2 b n m hp h4 hn hn2 hm W
  have hP : Hid (∀ W, Below w.heap.size w W → Calls Tryz.prog 109 #[.int .i64 m, .bool true] W fun e w' => e = .returned (.string ⟨(Lib.decDigits m).toArray⟩) ∧ Below W.heap.size W w') := fun W hb => oneOutput_any m W hmn (tab_later htab hb)
  clear htab hm
  generalize Lib.decDigits m = D at hP ⊢
  go_enter Tryz.func81, Tryz.ntmps81
  go_wp2_with fail
  go_region_with (first | (go_at_call 13; with_reducible refine Calls.mono (hO.out _) ?_; rintro e w1 ⟨rfl, hb1⟩) | (go_at_call 109; with_reducible refine Calls.mono (hP.out _ (below_drew1 hb1)) ?_; rintro e w2 ⟨rfl, hb2⟩))
  all_goals (
    go_wp2_with fail
    go_ret
    exact ⟨rfl, (below_drew1 hb1).trans (hb2.mono (below_drew1 hb1).size)⟩)

end Go.Proofs.YtmpbbflolbakhaaGreatDoor
