/-
  No cell of these rows narrows 'for every input' (looked for: loops, veiled, ifaces, maps, wideKeys, modest, calm, conditions, laid).
  DERIVED. THE GIVEN ROWS OF THIS SEAT. 4 by the template 'for every input the law returns true; each argument reads behind the call as it read before'; 0 by the template 'total and deterministic' (their statements: YtdeaikejfpmagaaTotals.lean).
  GIVEN WITH THE SEED: the statements are not yours to turn. If you find one false, say at which input.
  Laid BY PROGRAM, IN A SANDBOX (cutbox-rows.mjs): the forced cells as the released guide's own fill.sh prints them over the translation 3c604e345e8f0b3e… (all of the seat's roots in one cut). By AI agents, Wed Nov 11 2026. No macro, syntax, notation, axiom, sorry.
-/
import Derived.Test.YtdeaikejfpmagaaChecked
import GoSem.Claim
import GoSem.ClaimJoined
import GoSem.ClaimMapViews
import Derived.JoinedTies
import Derived.KernelRfl
namespace Go.Proofs.Ytdeaikejfpmagaa
/- THE CELL 'sum', in the pinned program and in every row, IS THE sha256 OF THE DUMP (.gsa) THAT YtdeaikejfpmagaaProg.lean LOADS. Nothing in Lean hashes anything: it is a label: what it is worth is what the hold of that sum in a sandbox is worth. -/
noncomputable def Try.pinned : Pinned := { name := "ytdeaikejfpmagaa", sum := "3c604e345e8f0b3ec0bd370a6bb01081950e8037ea48fcd31feeca8bbd6fb49f", checked := Try.checked }
namespace Rows
def none {H : Type} : Left H := { results := [], args := [] }

/-- 'laws.FnUnits': WHATEVER THE INPUT: true; the input reads as it did. -/
def fnUnitsSpec : ChangeSpec := { name := "fnUnits", fn := fun _ => fun
  | [d] => { results := [.lit (.bool true)], args := [d] }
  | _ => none }
def fnUnitsRow : OpenClaim := { program := "ytdeaikejfpmagaa", sum := "3c604e345e8f0b3ec0bd370a6bb01081950e8037ea48fcd31feeca8bbd6fb49f", func := "loop.example/fractionrounds/laws.FnUnits", spec := "fnUnits", apart := false }
def FnUnitsSaid : Prop := fnUnitsRow.holds Try.pinned (OpenSpec.ofChange fnUnitsSpec)

/-- ITS FALSE NEIGHBOUR: 'it returns false'. Refute it at one input. -/
def fnUnitsWrong : ChangeSpec := { name := "fnUnits", fn := fun _ => fun
  | [d] => { results := [.lit (.bool false)], args := [d] }
  | _ => none }
def FnUnitsWrongFalsely : Prop := fnUnitsRow.holds Try.pinned (OpenSpec.ofChange fnUnitsWrong)

/-- 'laws.FnOnes': WHATEVER THE INPUT: true; the input reads as it did. -/
def fnOnesSpec : ChangeSpec := { name := "fnOnes", fn := fun _ => fun
  | [d] => { results := [.lit (.bool true)], args := [d] }
  | _ => none }
def fnOnesRow : OpenClaim := { program := "ytdeaikejfpmagaa", sum := "3c604e345e8f0b3ec0bd370a6bb01081950e8037ea48fcd31feeca8bbd6fb49f", func := "loop.example/fractionrounds/laws.FnOnes", spec := "fnOnes", apart := false }
def FnOnesSaid : Prop := fnOnesRow.holds Try.pinned (OpenSpec.ofChange fnOnesSpec)

/-- ITS FALSE NEIGHBOUR: 'it returns false'. Refute it at one input. -/
def fnOnesWrong : ChangeSpec := { name := "fnOnes", fn := fun _ => fun
  | [d] => { results := [.lit (.bool false)], args := [d] }
  | _ => none }
def FnOnesWrongFalsely : Prop := fnOnesRow.holds Try.pinned (OpenSpec.ofChange fnOnesWrong)

/-- 'laws.FnSplit': WHATEVER THE INPUT: true; the input reads as it did. -/
def fnSplitSpec : ChangeSpec := { name := "fnSplit", fn := fun _ => fun
  | [d] => { results := [.lit (.bool true)], args := [d] }
  | _ => none }
def fnSplitRow : OpenClaim := { program := "ytdeaikejfpmagaa", sum := "3c604e345e8f0b3ec0bd370a6bb01081950e8037ea48fcd31feeca8bbd6fb49f", func := "loop.example/fractionrounds/laws.FnSplit", spec := "fnSplit", unfollowed := true, recurses := true, apart := false }
def FnSplitSaid : Prop := fnSplitRow.holds Try.pinned (OpenSpec.ofChange fnSplitSpec)

/-- ITS FALSE NEIGHBOUR: 'it returns false'. Refute it at one input. -/
def fnSplitWrong : ChangeSpec := { name := "fnSplit", fn := fun _ => fun
  | [d] => { results := [.lit (.bool false)], args := [d] }
  | _ => none }
def FnSplitWrongFalsely : Prop := fnSplitRow.holds Try.pinned (OpenSpec.ofChange fnSplitWrong)

/-- 'laws.FnOrderBegin': WHATEVER THE INPUT: true; the input reads as it did. -/
def fnOrderBeginSpec : ChangeSpec := { name := "fnOrderBegin", fn := fun _ => fun
  | [d] => { results := [.lit (.bool true)], args := [d] }
  | _ => none }
def fnOrderBeginRow : OpenClaim := { program := "ytdeaikejfpmagaa", sum := "3c604e345e8f0b3ec0bd370a6bb01081950e8037ea48fcd31feeca8bbd6fb49f", func := "loop.example/fractionrounds/laws.FnOrderBegin", spec := "fnOrderBegin", apart := false }
def FnOrderBeginSaid : Prop := fnOrderBeginRow.holds Try.pinned (OpenSpec.ofChange fnOrderBeginSpec)

/-- ITS FALSE NEIGHBOUR: 'it returns false'. Refute it at one input. -/
def fnOrderBeginWrong : ChangeSpec := { name := "fnOrderBegin", fn := fun _ => fun
  | [d] => { results := [.lit (.bool false)], args := [d] }
  | _ => none }
def FnOrderBeginWrongFalsely : Prop := fnOrderBeginRow.holds Try.pinned (OpenSpec.ofChange fnOrderBeginWrong)

/- THE SECOND FORM. 'bulk': how many values and letters a reading holds, each counted each time it is reached (what is shared counts as often as it is met; a slice's spare places count too). A statement '..UptoSaid' is the law's where the arguments, and the package variables that the reading takes, are together of bulk at most 1048576: NARROWER than '..Said'. Prove '..Said' where nothing that the law and all that it calls make is longer than what came in: it says more and counts as full. Else prove '..UptoSaid'. A law counts once. -/
mutual
def uptoBulk {H : Type} : DataW H → Nat
  | .lit (.string bytes) => bytes.length + 1
  | .lit _ => 1
  | .nil => 1
  | .ptr d => uptoBulk d + 1
  | .slice elems spare => uptoBulkAll elems + uptoBulkAll spare + 1
  | .agg parts => uptoBulkAll parts + 1
  | .iface _ d => uptoBulk d + 1
  | .map entries => uptoBulkEntries entries + 1
  | .held _ => 1
def uptoBulkAll {H : Type} : List (DataW H) → Nat
  | [] => 0
  | d :: r => uptoBulk d + uptoBulkAll r
def uptoBulkEntries {H : Type} : List (Lit × DataW H) → Nat
  | [] => 0
  | x :: r => uptoBulkEntry x + uptoBulkEntries r
def uptoBulkEntry {H : Type} : Lit × DataW H → Nat
  | (.string bytes, d) => bytes.length + uptoBulk d + 1
  | (_, d) => uptoBulk d + 1
 end
def uptoSmall : (H : Type) → List (DataW H) → Bool := fun _ ds => decide (uptoBulkAll ds ≤ 1048576)
def OpenSpec.upto (s : _root_.Go.ChangeSpec) : _root_.Go.OpenSpec := { _root_.Go.OpenSpec.ofChange s with cond := some uptoSmall }

/-- 'laws.FnUnits', WHERE WHAT IT READS IS OF BULK AT MOST 1048576: true; the input reads as it did. -/
def fnUnitsUptoRow : OpenClaim := { program := "ytdeaikejfpmagaa", sum := "3c604e345e8f0b3ec0bd370a6bb01081950e8037ea48fcd31feeca8bbd6fb49f", func := "loop.example/fractionrounds/laws.FnUnits", spec := "fnUnits", apart := false, narrowed := true }
def FnUnitsUptoSaid : Prop := fnUnitsUptoRow.holds Try.pinned (OpenSpec.upto fnUnitsSpec)

/-- 'laws.FnOnes', WHERE WHAT IT READS IS OF BULK AT MOST 1048576: true; the input reads as it did. -/
def fnOnesUptoRow : OpenClaim := { program := "ytdeaikejfpmagaa", sum := "3c604e345e8f0b3ec0bd370a6bb01081950e8037ea48fcd31feeca8bbd6fb49f", func := "loop.example/fractionrounds/laws.FnOnes", spec := "fnOnes", apart := false, narrowed := true }
def FnOnesUptoSaid : Prop := fnOnesUptoRow.holds Try.pinned (OpenSpec.upto fnOnesSpec)

/-- 'laws.FnSplit', WHERE WHAT IT READS IS OF BULK AT MOST 1048576: true; the input reads as it did. -/
def fnSplitUptoRow : OpenClaim := { program := "ytdeaikejfpmagaa", sum := "3c604e345e8f0b3ec0bd370a6bb01081950e8037ea48fcd31feeca8bbd6fb49f", func := "loop.example/fractionrounds/laws.FnSplit", spec := "fnSplit", unfollowed := true, recurses := true, apart := false, narrowed := true }
def FnSplitUptoSaid : Prop := fnSplitUptoRow.holds Try.pinned (OpenSpec.upto fnSplitSpec)

/-- 'laws.FnOrderBegin', WHERE WHAT IT READS IS OF BULK AT MOST 1048576: true; the input reads as it did. -/
def fnOrderBeginUptoRow : OpenClaim := { program := "ytdeaikejfpmagaa", sum := "3c604e345e8f0b3ec0bd370a6bb01081950e8037ea48fcd31feeca8bbd6fb49f", func := "loop.example/fractionrounds/laws.FnOrderBegin", spec := "fnOrderBegin", apart := false, narrowed := true }
def FnOrderBeginUptoSaid : Prop := fnOrderBeginUptoRow.holds Try.pinned (OpenSpec.upto fnOrderBeginSpec)

end Rows
end Go.Proofs.Ytdeaikejfpmagaa
