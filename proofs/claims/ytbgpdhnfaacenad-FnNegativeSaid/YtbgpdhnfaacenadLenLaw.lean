/-
  The law FnExactFracLengths's walk.
-/
import Derived.Test.YtbgpdhnfaacenadLists
import Derived.Test.YtbgpdhnfaacenadIn
import Derived.Deep.RegionHeld3
namespace Go.Proofs.Ytbgpdhnfaacenad
open Go.RowKit

set_option maxHeartbeats 1000000 in
theorem specFracLengths_no (b t n : Int) (w : World) (h : tldB b t n = false) :
    Calls Try.prog 23 #[.int .i64 b, .agg #[.int .i64 t, .int .i64 n]] w fun e w' => e = .returned (.tuple #[.int .i64 0, .int .i64 0, .bool false]) ∧ Below w.heap.size w w' := by
  go_enter Try.func23, Try.ntmps23
  go_wp2_with (go_at_call 15; refine (l1Given_any _ _ _ _).mono ?_; rintro e w1 ⟨rfl, hb1⟩)
  go_ret3
  exact ⟨rfl, bel1 hb1⟩

set_option maxHeartbeats 1000000 in
theorem specFracLengths_yes (b T B n m : Nat) (w : World) (h : tldB b T B = true) (hT : T < B) (hB : B ≤ 1000) (h3 : 2 ≤ b) (h4 : b ≤ 16) (hnm : IsLen b T B n m) :
    Calls Try.prog 23 #[.int .i64 b, .agg #[.int .i64 T, .int .i64 B]] w fun e w' => e = .returned (.tuple #[.int .i64 n, .int .i64 m, .bool true]) ∧ Below w.heap.size w w' := by
  go_enter Try.func23, Try.ntmps23
  go_wp2_with fail
  refine (l1Given_any _ _ _ _).mono ?_
  rintro e w1 ⟨rfl, hb1⟩
  have q1 := (Box2.newAt (W := w) (T := 24) (x := .int .i64 T) (y := .int .i64 B) rfl).later hb1
  have k0 := q1.cell0
  have k1 := q1.cell1
  have hb := bel1 hb1
  go_wp2_with fail
  refine (l1Lengths_any b T B _ hT hB h3 h4).mono ?_
  rintro e w2 ⟨n', m', hnm', rfl, hb2⟩
  obtain ⟨rfl, rfl⟩ := hnm.unique hnm'
  go_wp2_with fail
  go_ret3
  exact ⟨rfl, hb.trans (hb2.mono hb.size)⟩





end Go.Proofs.Ytbgpdhnfaacenad
