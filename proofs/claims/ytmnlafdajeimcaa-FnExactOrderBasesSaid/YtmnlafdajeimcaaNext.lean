/-
  The program's steps: the next digit and the fraction behind it; the test of a beginning; the fraction behind the beginning.
-/
import Derived.Test.YtmnlafdajeimcaaIn
import Derived.Test.YtmnlafdajeimcaaNum
import Derived.RegionTactic
import Derived.ChangeAlike
import Derived.BigRegion
import Derived.IntWalk
namespace Go.Proofs.Ytmnlafdajeimcaa
open Go.RowKit

theorem mul_bd (t b n : Int) (h0 : 0 ≤ t) (h1 : t < n) (h2 : n ≤ 1000) (h3 : 0 ≤ b) (h4 : b ≤ 16) : 0 ≤ t * b ∧ t * b ≤ 16000 := by
  refine ⟨Int.mul_nonneg h0 h3, ?_⟩
  have : t * b ≤ 1000 * 16 := Int.mul_le_mul (by omega) h4 h3 (by omega)
  omega

theorem gcdI_le_left (x y : Int) (hx : 0 < x) : gcdI x y ≤ x := by rw [gcdI_comm]; exact gcdI_le_right y x hx

theorem gcdI_nat (x y : Nat) : gcdI x y = (Nat.gcd x y : Nat) := by unfold gcdI; simp

/-- A fraction as the program's value. -/
def frV (p : Nat × Nat) : Value := .agg #[.int .i64 p.1, .int .i64 p.2]

/-- What a cell holds, as a number. -/
def cellN (W : World) (b o : Nat) : Nat := match W.cell? ⟨b, o, none⟩ with | some v => (intOf v).toNat | none => 0
theorem cellN_of {W : World} {b o : Nat} {x : Nat} (h : W.cell? ⟨b, o, none⟩ = some (.int .i64 x)) : cellN W b o = x := by simp [cellN, h, intOf]

theorem Box2.set {W : World} {B : Nat} {T : TypeId} {x y : Value} (h : Box2 W B T x y) (x' y' : Value) : Box2 ((W.setCell ⟨B, 0, none⟩ x').setCell ⟨B, 1, none⟩ y') B T x' y' := by
  unfold Box2 at h
  simp [Box2, World.setCell, Array.getElem?_modify, h]

theorem Box2.other {W : World} {B B' o : Nat} {T : TypeId} {x y : Value} (h : Box2 W B T x y) (hne : B ≠ B') (u : Value) : Box2 (W.setCell ⟨B', o, none⟩ u) B T x y :=
  (Below.heap_setCell W ⟨B', o, none⟩ u B hne).trans h

theorem fr_lt {b T B : Nat} (hT : T < B) (hg : Nat.gcd T B = 1) (i : Nat) : (frT b T B i).1 < (frT b T B i).2 ∧ (frT b T B i).2 ≤ B ∧ 0 < (frT b T B i).2 := by
  have h := fr_ok (b := b) hT hg i
  exact ⟨h.lt, Nat.le_of_dvd (by omega) h.div, h.pos⟩

theorem fr_small {b T B i : Nat} (hT : T < B) (hg : Nat.gcd T B = 1) (h3 : 2 ≤ b) (hn : ¬ trn b T B i) : (frT b T B (i + 1)).2 < (frT b T B i).2 := by
  have h := fr_lt (b := b) hT hg i
  have hp := Nat.gcd_pos_of_pos_left (frT b T B i).2 (show 0 < b by omega)
  exact Nat.div_lt_self h.2.2 (by unfold trn at hn; omega)

end Go.Proofs.Ytmnlafdajeimcaa
