/-
  What a function answers, in whatever world: a fraction and a bool; numbers and a bool; how the laws compare fractions.
-/
import Derived.Test.YthojliihgieclaaIn
namespace Go.Proofs.Ythojliihgieclaa
open Go.RowKit

def GivesF (f : FuncId) (args : Array Value) (x y : Int) (p : Bool) : Prop :=
  ∀ w : World, Calls Try.prog f args w fun e w' => e = .returned (.tuple #[.agg #[.int .i64 x, .int .i64 y], .bool p]) ∧ Below w.heap.size w w'
def GivesB (f : FuncId) (args : Array Value) (p : Bool) : Prop :=
  ∀ w : World, Calls Try.prog f args w fun e w' => e = .returned (.bool p) ∧ Below w.heap.size w w'
def GivesI (f : FuncId) (args : Array Value) (x : Int) (p : Bool) : Prop :=
  ∀ w : World, Calls Try.prog f args w fun e w' => e = .returned (.tuple #[.int .i64 x, .bool p]) ∧ Below w.heap.size w w'
def GivesII (f : FuncId) (args : Array Value) (x y : Int) (p : Bool) : Prop :=
  ∀ w : World, Calls Try.prog f args w fun e w' => e = .returned (.tuple #[.int .i64 x, .int .i64 y, .bool p]) ∧ Below w.heap.size w w'

set_option maxHeartbeats 1000000 in
theorem eqFr_any (x y : Int) (w : World) :
    Calls Try.prog 10 #[.agg #[.int .i64 x, .int .i64 y], .agg #[.int .i64 x, .int .i64 y]] w fun e w' => e = .returned (.bool true) ∧ Below w.heap.size w w' := by
  go_enter Try.func10, Try.ntmps10
  go_wp2
  go_ret
  refine ⟨rfl, ?_⟩
  repeat (first | exact Below.refl _ _ | refine Below.drew ?_ | refine Below.alloc ?_ (by simp; try omega) _ | refine Below.setCell ?_ (by simp; try omega) _)

end Go.Proofs.Ythojliihgieclaa
