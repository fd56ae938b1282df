/-
  What a function answers, in whatever world: a fraction and a bool; numbers and a bool; how the laws compare fractions.
-/
import Derived.Test.YtmpbbflolbakhaaGreatDoorIn
import Derived.Test.YtmpbbflolbakhaaGreatDoorRow
namespace Go.Proofs.YtmpbbflolbakhaaGreatDoor
open Go.RowKit

def GivesF (f : FuncId) (args : Array Value) (x y : Int) (p : Bool) : Prop :=
  ∀ w : World, Calls Tryz.prog f args w fun e w' => e = .returned (.tuple #[.agg #[.int .i64 x, .int .i64 y], .bool p]) ∧ Below w.heap.size w w'
def GivesB (f : FuncId) (args : Array Value) (p : Bool) : Prop :=
  ∀ w : World, Calls Tryz.prog f args w fun e w' => e = .returned (.bool p) ∧ Below w.heap.size w w'
def GivesI (f : FuncId) (args : Array Value) (x : Int) (p : Bool) : Prop :=
  ∀ w : World, Calls Tryz.prog f args w fun e w' => e = .returned (.tuple #[.int .i64 x, .bool p]) ∧ Below w.heap.size w w'
def GivesII (f : FuncId) (args : Array Value) (x y : Int) (p : Bool) : Prop :=
  ∀ w : World, Calls Tryz.prog f args w fun e w' => e = .returned (.tuple #[.int .i64 x, .int .i64 y, .bool p]) ∧ Below w.heap.size w w'

/-- A function answers a new list and a bool, in whatever world. -/
def Gives (f : FuncId) (args : Array Value) (xs : List Int) (p : Bool) : Prop :=
  ∀ w : World, Calls Tryz.prog f args w fun e w' => ∃ v, e = .returned (.tuple #[v, .bool p]) ∧ Slc w.heap.size w' v xs ∧ Below w.heap.size w w'

theorem Slc.empty {n₀ : Nat} {W : World} (hn : n₀ ≤ W.heap.size) : Slc n₀ (W.alloc (.cells #[] 3)) (.slice (some ⟨W.heap.size, 0, none⟩) 0 0) [] :=
  .inr ⟨W.heap.size, 0, 0, #[], rfl, hn, heap_alloc_new W _, by simp, by simp [maxLen], by simp, by simp⟩

theorem bel1 {w w1 : World} {o : Obj} (hb : Below (w.alloc o).heap.size (w.alloc o) w1) : Below w.heap.size w w1 := ((Below.refl w.heap.size w).alloc (Nat.le_refl _) o).trans (hb.mono (by simp))

end Go.Proofs.YtmpbbflolbakhaaGreatDoor
