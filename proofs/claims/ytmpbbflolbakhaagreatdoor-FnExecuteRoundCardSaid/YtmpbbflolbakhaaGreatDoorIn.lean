/-
  The test of a fraction: the program's and the model's; the law FnExactFracIn's walk.
-/
import Derived.Test.YtmpbbflolbakhaaGreatDoorLeaf
import Derived.Deep.QuietTactic
import Derived.BigQuiet
namespace Go.Proofs.YtmpbbflolbakhaaGreatDoor
open Go.RowKit

theorem finB_false_of {t b : Int} (h : ¬ (1 ≤ b ∧ b ≤ 1000 ∧ 0 ≤ t ∧ t < b)) : finB t b = false := by
  unfold finB; rw [decide_eq_false_iff_not]; intro ⟨h1, h2, h3, h4, _⟩; exact h ⟨h1, h2, h3, h4⟩

theorem finB_eq_of {t b : Int} (h1 : 1 ≤ b) (h2 : b ≤ 1000) (h3 : 0 ≤ t) (h4 : t < b) : finB t b = decide (gcdI t b = 1) := by
  unfold finB; simp [h1, h2, h3, h4]

/-- A struct of two fields in a block of its own. -/
def Box2 (W : World) (B : Nat) (T : TypeId) (x y : Value) : Prop := W.heap[B]? = some (.cells #[x, y] T (0, 0))

theorem Box2.lt {W : World} {B : Nat} {T : TypeId} {x y : Value} (h : Box2 W B T x y) : B < W.heap.size := (Array.getElem?_eq_some_iff.1 h).1
theorem Box2.cell0 {W : World} {B : Nat} {T : TypeId} {x y : Value} (h : Box2 W B T x y) : W.cell? ⟨B, 0, none⟩ = some x := by simp [World.cell?, show W.heap[B]? = _ from h]
theorem Box2.cell1 {W : World} {B : Nat} {T : TypeId} {x y : Value} (h : Box2 W B T x y) : W.cell? ⟨B, 1, none⟩ = some y := by simp [World.cell?, show W.heap[B]? = _ from h]
theorem Box2.frozen0 {W : World} {B : Nat} {T : TypeId} {x y : Value} (h : Box2 W B T x y) : W.frozen? ⟨B, 0, none⟩ = false := by simp [World.frozen?, show W.heap[B]? = _ from h]
theorem Box2.frozen1 {W : World} {B : Nat} {T : TypeId} {x y : Value} (h : Box2 W B T x y) : W.frozen? ⟨B, 1, none⟩ = false := by simp [World.frozen?, show W.heap[B]? = _ from h]
theorem Box2.new (W : World) (T : TypeId) (x y : Value) : Box2 (W.alloc (.cells #[x, y] T)) W.heap.size T x y := heap_alloc_new W _
theorem Box2.newAt {W : World} {T : TypeId} {x y : Value} {B : Nat} (h : B = W.heap.size) : Box2 (W.alloc (.cells #[x, y] T)) B T x y := by subst h; exact Box2.new _ _ _ _
theorem Box2.below {n : Nat} {W W' : World} {B : Nat} {T : TypeId} {x y : Value} (h : Box2 W B T x y) (hb : Below n W W') (hn : B < n) : Box2 W' B T x y := (hb.block B hn).trans h
theorem Box2.later {W W' : World} {B : Nat} {T : TypeId} {x y : Value} (h : Box2 W B T x y) (hb : Below W.heap.size W W') : Box2 W' B T x y := h.below hb h.lt
theorem Box2.alloc {W : World} {B : Nat} {T : TypeId} {x y : Value} (h : Box2 W B T x y) (o : Obj) : Box2 (W.alloc o) B T x y := h.later ((Below.refl _ _).alloc (Nat.le_refl _) _)

set_option maxHeartbeats 400000 in
theorem implFracIn_any (t b : Int) (w : World) :
    Calls Tryz.prog 34 #[.agg #[.int .i64 t, .int .i64 b]] w fun e w' => e = .returned (.bool (finB t b)) ∧ Below w.heap.size w w' := by
  by_cases h1 : b < 1
  · have HF := Lib.hid (finB_false_of (t := t) (b := b) (by omega))
    go_enter Tryz.func34, Tryz.ntmps34
    go_wp2
    go_ret
    exact ⟨ret_bool HF.out.symm, (Below.refl _ _).alloc (Nat.le_refl _) _⟩
  by_cases h2 : 1000 < b
  · have HF := Lib.hid (finB_false_of (t := t) (b := b) (by omega))
    go_enter Tryz.func34, Tryz.ntmps34
    go_wp2
    go_ret
    exact ⟨ret_bool HF.out.symm, (Below.refl _ _).alloc (Nat.le_refl _) _⟩
  by_cases h3 : t < 0
  · have HF := Lib.hid (finB_false_of (t := t) (b := b) (by omega))
    go_enter Tryz.func34, Tryz.ntmps34
    go_wp2
    go_ret
    exact ⟨ret_bool HF.out.symm, (Below.refl _ _).alloc (Nat.le_refl _) _⟩
  by_cases h4 : b ≤ t
  · have HF := Lib.hid (finB_false_of (t := t) (b := b) (by omega))
    go_enter Tryz.func34, Tryz.ntmps34
    go_wp2
    go_ret
    exact ⟨ret_bool HF.out.symm, (Below.refl _ _).alloc (Nat.le_refl _) _⟩
  have HF := Lib.hid (finB_eq_of (t := t) (b := b) (by omega) (by omega) (by omega) (by omega))
  have h1' : decide (b < 1) = false := by simpa using h1
  have h2' : decide (1000 < b) = false := by simpa using h2
  have h3' : decide (t < 0) = false := by simpa using h3
  have h4' : decide (b ≤ t) = false := by simpa using h4
  go_enter Tryz.func34, Tryz.ntmps34
  go_wp2_with (go_at_call 52; refine (commonDivisor_any _ _ _ (by omega) (by omega) (by omega) (by omega)).mono ?_; rintro e w' ⟨rfl, rfl⟩)
  go_ret
  exact ⟨ret_bool HF.out.symm, (Below.refl _ _).alloc (Nat.le_refl _) _⟩

set_option maxHeartbeats 400000 in
theorem specFracIn_any (t b : Int) (w : World) :
    Calls Tryz.prog 38 #[.agg #[.int .i64 t, .int .i64 b]] w fun e w' => e = .returned (.bool (finB t b)) ∧ Below w.heap.size w w' := by
  by_cases h1 : 1 ≤ b ∧ b ≤ 1000
  · have h1' : decide (1 ≤ b ∧ b ≤ 1000) = true := by simpa using h1
    obtain ⟨h11, h12⟩ := h1
    by_cases h2 : 0 ≤ t ∧ t ≤ b - 1
    · have h2' : decide (0 ≤ t ∧ t ≤ b - 1) = true := by simpa using h2
      obtain ⟨h21, h22⟩ := h2
      have HF := Lib.hid (finB_eq_of (t := t) (b := b) (by omega) (by omega) (by omega) (by omega))
      go_enter Tryz.func38, Tryz.ntmps38
      go_wp2_with (first | (go_at_call 37; refine (l6In_any _ _ _ _).mono ?_; rintro e w' ⟨rfl, rfl⟩) | (go_at_call 50; refine (l1Gcd_any _ _ _ (by omega) (by omega) (by omega) (by omega)).mono ?_; rintro e w' ⟨rfl, rfl⟩))
      go_ret
      exact ⟨ret_bool HF.out.symm, (Below.refl _ _).alloc (Nat.le_refl _) _⟩
    · have h2' : decide (0 ≤ t ∧ t ≤ b - 1) = false := by simpa using h2
      have HF := Lib.hid (finB_false_of (t := t) (b := b) (by omega))
      clear h2
      go_enter Tryz.func38, Tryz.ntmps38
      go_wp2_with (go_at_call 37; refine (l6In_any _ _ _ _).mono ?_; rintro e w' ⟨rfl, rfl⟩)
      go_ret
      exact ⟨ret_bool HF.out.symm, (Below.refl _ _).alloc (Nat.le_refl _) _⟩
  · have h1' : decide (1 ≤ b ∧ b ≤ 1000) = false := by simpa using h1
    have HF := Lib.hid (finB_false_of (t := t) (b := b) (by omega))
    clear h1
    go_enter Tryz.func38, Tryz.ntmps38
    go_wp2_with (go_at_call 37; refine (l6In_any _ _ _ _).mono ?_; rintro e w' ⟨rfl, rfl⟩)
    go_ret
    exact ⟨ret_bool HF.out.symm, (Below.refl _ _).alloc (Nat.le_refl _) _⟩

end Go.Proofs.YtmpbbflolbakhaaGreatDoor
