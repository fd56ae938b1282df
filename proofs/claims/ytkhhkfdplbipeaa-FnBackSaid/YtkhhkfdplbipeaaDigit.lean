/-
  The digit at a place: the program's and the model's; the law FnExactFracDigit's walk.
-/
import Derived.Test.YtkhhkfdplbipeaaPower
import Derived.Test.YtkhhkfdplbipeaaRound
import Derived.Test.YtkhhkfdplbipeaaTold
namespace Go.Proofs.Ytkhhkfdplbipeaa
open Go.RowKit

theorem ret_ib {k : IntKind} {a b : Int} (h : a = b) : Ending.returned (.tuple #[.int k a, .bool true]) = .returned (.tuple #[.int k b, .bool true]) := by rw [h]

set_option maxHeartbeats 1000000 in
theorem implFracDigit_no (b t n k : Int) (w : World) (h : tldB b t n = false) :
    Calls Try.prog 12 #[.int .i64 b, .agg #[.int .i64 t, .int .i64 n], .int .i64 k] w fun e w' => e = .returned (.tuple #[.int .i64 0, .bool false]) ∧ Below w.heap.size w w' := by
  go_enter Try.func12, Try.ntmps12
  go_wp2_with (go_at_call 20; refine (fracTold_any _ _ _ _).mono ?_; rintro e w1 ⟨rfl, hb1⟩)
  go_ret2
  exact ⟨rfl, ((Below.refl w.heap.size w).alloc (Nat.le_refl _) _).trans (hb1.mono (by simp))⟩

set_option maxHeartbeats 1000000 in
theorem implFracDigit_off (b t n k : Int) (w : World) (h : tldB b t n = true) (hk : k < 0 ∨ 1000000 < k) :
    Calls Try.prog 12 #[.int .i64 b, .agg #[.int .i64 t, .int .i64 n], .int .i64 k] w fun e w' => e = .returned (.tuple #[.int .i64 0, .bool false]) ∧ Below w.heap.size w w' := by
  by_cases h1 : k < 0
  · clear hk
    go_enter Try.func12, Try.ntmps12
    go_wp2_with (go_at_call 20; refine (fracTold_any _ _ _ _).mono ?_; rintro e w1 ⟨rfl, hb1⟩)
    go_ret2
    exact ⟨rfl, ((Below.refl w.heap.size w).alloc (Nat.le_refl _) _).trans (hb1.mono (by simp))⟩
  · have h2 : 1000000 < k := by omega
    have h1' : decide (k < 0) = false := by simpa using h1
    clear hk
    go_enter Try.func12, Try.ntmps12
    go_wp2_with (go_at_call 20; refine (fracTold_any _ _ _ _).mono ?_; rintro e w1 ⟨rfl, hb1⟩)
    go_ret2
    exact ⟨rfl, ((Below.refl w.heap.size w).alloc (Nat.le_refl _) _).trans (hb1.mono (by simp))⟩

set_option maxHeartbeats 1000000 in
theorem implFracDigit_yes (b T B k : Nat) (w : World) (h : tldB b T B = true) (hT : T < B) (hg : Nat.gcd T B = 1) (hB : B ≤ 1000) (h3 : 2 ≤ b) (h4 : b ≤ 16) (hk : k ≤ 1000000) :
    Calls Try.prog 12 #[.int .i64 b, .agg #[.int .i64 T, .int .i64 B], .int .i64 k] w fun e w' => e = .returned (.tuple #[.int .i64 (dig b T B k), .bool true]) ∧ Below w.heap.size w w' := by
  have HG := Lib.hid hg; clear hg
  have h1' : decide ((k : Int) < 0) = false := by simp
  have h2' : decide (1000000 < (k : Int)) = false := by simp; omega
  go_enter Try.func12, Try.ntmps12
  go_wp2_with fail
  refine (fracTold_any _ _ _ _).mono ?_
  rintro e w1 ⟨rfl, hb1⟩
  have q1 := (Box2.newAt (W := w) (T := 24) (x := .int .i64 T) (y := .int .i64 B) rfl).later hb1
  have k0 := q1.cell0
  have k1 := q1.cell1
  have hs1 := hb1.size
  go_wp2_with fail
  refine (behind_any b T B k _ hT HG.out hB h4 hk).mono ?_
  rintro e w2 ⟨rfl, hb2⟩
  go_wp2_with fail
  refine (next_fr b T B k _ hT HG.out hB h3 h4).mono ?_
  rintro e w3 ⟨rfl, hb3⟩
  have hs2 := hb2.size
  go_wp2_with fail
  go_ret2
  refine ⟨rfl, ?_⟩
  simp at hs1
  have hbb := ((((Below.refl w.heap.size w).alloc (Nat.le_refl _) (.cells #[.int .i64 T, .int .i64 B] 24)).trans (hb1.mono (by simp))).trans (hb2.mono (by omega))).trans (hb3.mono (by omega))
  exact hbb.alloc (by have := hb3.size; omega) _

theorem digL_get (b T B K k : Nat) (hk : k < K) : (digL b T B K)[k]?.getD 0 = (dig b T B k : Int) := by
  unfold digL
  rw [List.getElem?_map, List.getElem?_range hk]
  rfl





end Go.Proofs.Ytkhhkfdplbipeaa
