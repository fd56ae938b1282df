/-
  No cell of these rows narrows 'for every input' (looked for: loops, veiled, ifaces, maps, wideKeys, modest, calm, conditions, laid).
  DERIVED. THE GIVEN ROWS OF THIS SEAT. 4 by the template 'for every input the law returns true; each argument reads behind the call as it read before'; 0 by the template 'total and deterministic' (their statements: YtbgpdhnfaacenacTotals.lean).
  GIVEN WITH THE SEED: the statements are not yours to turn. If you find one false, say at which input.
  Laid BY PROGRAM, IN A SANDBOX (cutbox-rows.mjs): the forced cells as the released guide's own fill.sh prints them over the translation daeb1b481bf6c7dc… (all of the seat's roots in one cut). By AI agents, Wed Nov 11 2026. No macro, syntax, notation, axiom, sorry.
-/
import Derived.Test.YtbgpdhnfaacenacChecked
import GoSem.Claim
import GoSem.ClaimJoined
import GoSem.ClaimMapViews
import Derived.JoinedTies
import Derived.KernelRfl
namespace Go.Proofs.Ytbgpdhnfaacenac
/- THE CELL 'sum', in the pinned program and in every row, IS THE sha256 OF THE DUMP (.gsa) THAT YtbgpdhnfaacenacProg.lean LOADS. Nothing in Lean hashes anything: it is a label: what it is worth is what the hold of that sum in a sandbox is worth. -/
noncomputable def Try.pinned : Pinned := { name := "ytbgpdhnfaacenac", sum := "daeb1b481bf6c7dccece5a5d82af8963a8e6039dda4ef488d6c476da29d60a73", checked := Try.checked }
namespace Rows
def none {H : Type} : Left H := { results := [], args := [] }

/-- 'laws.FnRightLengths': WHATEVER THE INPUT: true; the input reads as it did. -/
def fnRightLengthsSpec : ChangeSpec := { name := "fnRightLengths", fn := fun _ => fun
  | [d] => { results := [.lit (.bool true)], args := [d] }
  | _ => none }
def fnRightLengthsRow : OpenClaim := { program := "ytbgpdhnfaacenac", sum := "daeb1b481bf6c7dccece5a5d82af8963a8e6039dda4ef488d6c476da29d60a73", func := "loop.example/fractionrounds/laws.FnRightLengths", spec := "fnRightLengths", apart := false }
def FnRightLengthsSaid : Prop := fnRightLengthsRow.holds Try.pinned (OpenSpec.ofChange fnRightLengthsSpec)

/-- ITS FALSE NEIGHBOUR: 'it returns false'. Refute it at one input. -/
def fnRightLengthsWrong : ChangeSpec := { name := "fnRightLengths", fn := fun _ => fun
  | [d] => { results := [.lit (.bool false)], args := [d] }
  | _ => none }
def FnRightLengthsWrongFalsely : Prop := fnRightLengthsRow.holds Try.pinned (OpenSpec.ofChange fnRightLengthsWrong)

/-- 'laws.FnRightOrder': WHATEVER THE INPUT: true; the input reads as it did. -/
def fnRightOrderSpec : ChangeSpec := { name := "fnRightOrder", fn := fun _ => fun
  | [d] => { results := [.lit (.bool true)], args := [d] }
  | _ => none }
def fnRightOrderRow : OpenClaim := { program := "ytbgpdhnfaacenac", sum := "daeb1b481bf6c7dccece5a5d82af8963a8e6039dda4ef488d6c476da29d60a73", func := "loop.example/fractionrounds/laws.FnRightOrder", spec := "fnRightOrder", apart := false }
def FnRightOrderSaid : Prop := fnRightOrderRow.holds Try.pinned (OpenSpec.ofChange fnRightOrderSpec)

/-- ITS FALSE NEIGHBOUR: 'it returns false'. Refute it at one input. -/
def fnRightOrderWrong : ChangeSpec := { name := "fnRightOrder", fn := fun _ => fun
  | [d] => { results := [.lit (.bool false)], args := [d] }
  | _ => none }
def FnRightOrderWrongFalsely : Prop := fnRightOrderRow.holds Try.pinned (OpenSpec.ofChange fnRightOrderWrong)

/-- 'laws.FnRightRest': WHATEVER THE INPUT: true; the input reads as it did. -/
def fnRightRestSpec : ChangeSpec := { name := "fnRightRest", fn := fun _ => fun
  | [d] => { results := [.lit (.bool true)], args := [d] }
  | _ => none }
def fnRightRestRow : OpenClaim := { program := "ytbgpdhnfaacenac", sum := "daeb1b481bf6c7dccece5a5d82af8963a8e6039dda4ef488d6c476da29d60a73", func := "loop.example/fractionrounds/laws.FnRightRest", spec := "fnRightRest", apart := false }
def FnRightRestSaid : Prop := fnRightRestRow.holds Try.pinned (OpenSpec.ofChange fnRightRestSpec)

/-- ITS FALSE NEIGHBOUR: 'it returns false'. Refute it at one input. -/
def fnRightRestWrong : ChangeSpec := { name := "fnRightRest", fn := fun _ => fun
  | [d] => { results := [.lit (.bool false)], args := [d] }
  | _ => none }
def FnRightRestWrongFalsely : Prop := fnRightRestRow.holds Try.pinned (OpenSpec.ofChange fnRightRestWrong)

/-- 'laws.FnWhole': WHATEVER THE INPUT: true; the input reads as it did. -/
def fnWholeSpec : ChangeSpec := { name := "fnWhole", fn := fun _ => fun
  | [d] => { results := [.lit (.bool true)], args := [d] }
  | _ => none }
def fnWholeRow : OpenClaim := { program := "ytbgpdhnfaacenac", sum := "daeb1b481bf6c7dccece5a5d82af8963a8e6039dda4ef488d6c476da29d60a73", func := "loop.example/fractionrounds/laws.FnWhole", spec := "fnWhole", apart := false }
def FnWholeSaid : Prop := fnWholeRow.holds Try.pinned (OpenSpec.ofChange fnWholeSpec)

/-- ITS FALSE NEIGHBOUR: 'it returns false'. Refute it at one input. -/
def fnWholeWrong : ChangeSpec := { name := "fnWhole", fn := fun _ => fun
  | [d] => { results := [.lit (.bool false)], args := [d] }
  | _ => none }
def FnWholeWrongFalsely : Prop := fnWholeRow.holds Try.pinned (OpenSpec.ofChange fnWholeWrong)

/- THE SECOND FORM. 'bulk': how many values and letters a reading holds, each counted each time it is reached (what is shared counts as often as it is met; a slice's spare places count too). A statement '..UptoSaid' is the law's where the arguments, and the package variables that the reading takes, are together of bulk at most 1048576: NARROWER than '..Said'. Prove '..Said' where nothing that the law and all that it calls make is longer than what came in: it says more and counts as full. Else prove '..UptoSaid'. A law counts once. -/
mutual
def uptoBulk {H : Type} : DataW H → Nat
  | .lit (.string bytes) => bytes.length + 1
  | .lit _ => 1
  | .nil => 1
  | .ptr d => uptoBulk d + 1
  | .slice elems spare => uptoBulkAll elems + uptoBulkAll spare + 1
  | .agg parts => uptoBulkAll parts + 1
  | .iface _ d => uptoBulk d + 1
  | .map entries => uptoBulkEntries entries + 1
  | .held _ => 1
def uptoBulkAll {H : Type} : List (DataW H) → Nat
  | [] => 0
  | d :: r => uptoBulk d + uptoBulkAll r
def uptoBulkEntries {H : Type} : List (Lit × DataW H) → Nat
  | [] => 0
  | x :: r => uptoBulkEntry x + uptoBulkEntries r
def uptoBulkEntry {H : Type} : Lit × DataW H → Nat
  | (.string bytes, d) => bytes.length + uptoBulk d + 1
  | (_, d) => uptoBulk d + 1
 end
def uptoSmall : (H : Type) → List (DataW H) → Bool := fun _ ds => decide (uptoBulkAll ds ≤ 1048576)
def OpenSpec.upto (s : _root_.Go.ChangeSpec) : _root_.Go.OpenSpec := { _root_.Go.OpenSpec.ofChange s with cond := some uptoSmall }

/-- 'laws.FnRightLengths', WHERE WHAT IT READS IS OF BULK AT MOST 1048576: true; the input reads as it did. -/
def fnRightLengthsUptoRow : OpenClaim := { program := "ytbgpdhnfaacenac", sum := "daeb1b481bf6c7dccece5a5d82af8963a8e6039dda4ef488d6c476da29d60a73", func := "loop.example/fractionrounds/laws.FnRightLengths", spec := "fnRightLengths", apart := false, narrowed := true }
def FnRightLengthsUptoSaid : Prop := fnRightLengthsUptoRow.holds Try.pinned (OpenSpec.upto fnRightLengthsSpec)

/-- 'laws.FnRightOrder', WHERE WHAT IT READS IS OF BULK AT MOST 1048576: true; the input reads as it did. -/
def fnRightOrderUptoRow : OpenClaim := { program := "ytbgpdhnfaacenac", sum := "daeb1b481bf6c7dccece5a5d82af8963a8e6039dda4ef488d6c476da29d60a73", func := "loop.example/fractionrounds/laws.FnRightOrder", spec := "fnRightOrder", apart := false, narrowed := true }
def FnRightOrderUptoSaid : Prop := fnRightOrderUptoRow.holds Try.pinned (OpenSpec.upto fnRightOrderSpec)

/-- 'laws.FnRightRest', WHERE WHAT IT READS IS OF BULK AT MOST 1048576: true; the input reads as it did. -/
def fnRightRestUptoRow : OpenClaim := { program := "ytbgpdhnfaacenac", sum := "daeb1b481bf6c7dccece5a5d82af8963a8e6039dda4ef488d6c476da29d60a73", func := "loop.example/fractionrounds/laws.FnRightRest", spec := "fnRightRest", apart := false, narrowed := true }
def FnRightRestUptoSaid : Prop := fnRightRestUptoRow.holds Try.pinned (OpenSpec.upto fnRightRestSpec)

/-- 'laws.FnWhole', WHERE WHAT IT READS IS OF BULK AT MOST 1048576: true; the input reads as it did. -/
def fnWholeUptoRow : OpenClaim := { program := "ytbgpdhnfaacenac", sum := "daeb1b481bf6c7dccece5a5d82af8963a8e6039dda4ef488d6c476da29d60a73", func := "loop.example/fractionrounds/laws.FnWhole", spec := "fnWhole", apart := false, narrowed := true }
def FnWholeUptoSaid : Prop := fnWholeUptoRow.holds Try.pinned (OpenSpec.upto fnWholeSpec)

end Rows
end Go.Proofs.Ytbgpdhnfaacenac
