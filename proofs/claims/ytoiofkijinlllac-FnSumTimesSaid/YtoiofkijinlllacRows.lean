/-
  No cell of these rows narrows 'for every input' (looked for: loops, veiled, ifaces, maps, wideKeys, modest, calm, conditions, laid).
  DERIVED. THE GIVEN ROWS OF THIS SEAT. 4 by the template 'for every input the law returns true; each argument reads behind the call as it read before'; 0 by the template 'total and deterministic' (their statements: YtoiofkijinlllacTotals.lean).
  GIVEN WITH THE SEED: the statements are not yours to turn. If you find one false, say at which input.
  Laid BY PROGRAM, IN A SANDBOX (cutbox-rows.mjs): the forced cells as the released guide's own fill.sh prints them over the translation 06e1adf71b0f4996… (all of the seat's roots in one cut). By AI agents, Wed Nov 11 2026. No macro, syntax, notation, axiom, sorry.
-/
import Derived.Test.YtoiofkijinlllacChecked
import GoSem.Claim
import GoSem.ClaimJoined
import GoSem.ClaimMapViews
import Derived.JoinedTies
import Derived.KernelRfl
namespace Go.Proofs.Ytoiofkijinlllac
/- THE CELL 'sum', in the pinned program and in every row, IS THE sha256 OF THE DUMP (.gsa) THAT YtoiofkijinlllacProg.lean LOADS. Nothing in Lean hashes anything: it is a label: what it is worth is what the hold of that sum in a sandbox is worth. -/
noncomputable def Try.pinned : Pinned := { name := "ytoiofkijinlllac", sum := "06e1adf71b0f49960e20b7654c7d1414b206777f3e85b5d37f29e40c03c084d0", checked := Try.checked }
namespace Rows
def none {H : Type} : Left H := { results := [], args := [] }

/-- 'laws.FnSum': WHATEVER THE INPUT: true; the input reads as it did. -/
def fnSumSpec : ChangeSpec := { name := "fnSum", fn := fun _ => fun
  | [d] => { results := [.lit (.bool true)], args := [d] }
  | _ => none }
def fnSumRow : OpenClaim := { program := "ytoiofkijinlllac", sum := "06e1adf71b0f49960e20b7654c7d1414b206777f3e85b5d37f29e40c03c084d0", func := "loop.example/fractionrounds/laws.FnSum", spec := "fnSum", unfollowed := true, recurses := true, apart := false }
def FnSumSaid : Prop := fnSumRow.holds Try.pinned (OpenSpec.ofChange fnSumSpec)

/-- ITS FALSE NEIGHBOUR: 'it returns false'. Refute it at one input. -/
def fnSumWrong : ChangeSpec := { name := "fnSum", fn := fun _ => fun
  | [d] => { results := [.lit (.bool false)], args := [d] }
  | _ => none }
def FnSumWrongFalsely : Prop := fnSumRow.holds Try.pinned (OpenSpec.ofChange fnSumWrong)

/-- 'laws.FnSumTimes': WHATEVER THE INPUT: true; the input reads as it did. -/
def fnSumTimesSpec : ChangeSpec := { name := "fnSumTimes", fn := fun _ => fun
  | [d] => { results := [.lit (.bool true)], args := [d] }
  | _ => none }
def fnSumTimesRow : OpenClaim := { program := "ytoiofkijinlllac", sum := "06e1adf71b0f49960e20b7654c7d1414b206777f3e85b5d37f29e40c03c084d0", func := "loop.example/fractionrounds/laws.FnSumTimes", spec := "fnSumTimes", unfollowed := true, recurses := true, apart := false }
def FnSumTimesSaid : Prop := fnSumTimesRow.holds Try.pinned (OpenSpec.ofChange fnSumTimesSpec)

/-- ITS FALSE NEIGHBOUR: 'it returns false'. Refute it at one input. -/
def fnSumTimesWrong : ChangeSpec := { name := "fnSumTimes", fn := fun _ => fun
  | [d] => { results := [.lit (.bool false)], args := [d] }
  | _ => none }
def FnSumTimesWrongFalsely : Prop := fnSumTimesRow.holds Try.pinned (OpenSpec.ofChange fnSumTimesWrong)

/-- 'laws.FnLess': WHATEVER THE INPUT: true; the input reads as it did. -/
def fnLessSpec : ChangeSpec := { name := "fnLess", fn := fun _ => fun
  | [d] => { results := [.lit (.bool true)], args := [d] }
  | _ => none }
def fnLessRow : OpenClaim := { program := "ytoiofkijinlllac", sum := "06e1adf71b0f49960e20b7654c7d1414b206777f3e85b5d37f29e40c03c084d0", func := "loop.example/fractionrounds/laws.FnLess", spec := "fnLess", unfollowed := true, recurses := true, apart := false }
def FnLessSaid : Prop := fnLessRow.holds Try.pinned (OpenSpec.ofChange fnLessSpec)

/-- ITS FALSE NEIGHBOUR: 'it returns false'. Refute it at one input. -/
def fnLessWrong : ChangeSpec := { name := "fnLess", fn := fun _ => fun
  | [d] => { results := [.lit (.bool false)], args := [d] }
  | _ => none }
def FnLessWrongFalsely : Prop := fnLessRow.holds Try.pinned (OpenSpec.ofChange fnLessWrong)

/-- 'laws.FnSumLengths': WHATEVER THE INPUT: true; the input reads as it did. -/
def fnSumLengthsSpec : ChangeSpec := { name := "fnSumLengths", fn := fun _ => fun
  | [d] => { results := [.lit (.bool true)], args := [d] }
  | _ => none }
def fnSumLengthsRow : OpenClaim := { program := "ytoiofkijinlllac", sum := "06e1adf71b0f49960e20b7654c7d1414b206777f3e85b5d37f29e40c03c084d0", func := "loop.example/fractionrounds/laws.FnSumLengths", spec := "fnSumLengths", unfollowed := true, recurses := true, apart := false }
def FnSumLengthsSaid : Prop := fnSumLengthsRow.holds Try.pinned (OpenSpec.ofChange fnSumLengthsSpec)

/-- ITS FALSE NEIGHBOUR: 'it returns false'. Refute it at one input. -/
def fnSumLengthsWrong : ChangeSpec := { name := "fnSumLengths", fn := fun _ => fun
  | [d] => { results := [.lit (.bool false)], args := [d] }
  | _ => none }
def FnSumLengthsWrongFalsely : Prop := fnSumLengthsRow.holds Try.pinned (OpenSpec.ofChange fnSumLengthsWrong)

/- THE SECOND FORM. 'bulk': how many values and letters a reading holds, each counted each time it is reached (what is shared counts as often as it is met; a slice's spare places count too). A statement '..UptoSaid' is the law's where the arguments, and the package variables that the reading takes, are together of bulk at most 1048576: NARROWER than '..Said'. Prove '..Said' where nothing that the law and all that it calls make is longer than what came in: it says more and counts as full. Else prove '..UptoSaid'. A law counts once. -/
mutual
def uptoBulk {H : Type} : DataW H → Nat
  | .lit (.string bytes) => bytes.length + 1
  | .lit _ => 1
  | .nil => 1
  | .ptr d => uptoBulk d + 1
  | .slice elems spare => uptoBulkAll elems + uptoBulkAll spare + 1
  | .agg parts => uptoBulkAll parts + 1
  | .iface _ d => uptoBulk d + 1
  | .map entries => uptoBulkEntries entries + 1
  | .held _ => 1
def uptoBulkAll {H : Type} : List (DataW H) → Nat
  | [] => 0
  | d :: r => uptoBulk d + uptoBulkAll r
def uptoBulkEntries {H : Type} : List (Lit × DataW H) → Nat
  | [] => 0
  | x :: r => uptoBulkEntry x + uptoBulkEntries r
def uptoBulkEntry {H : Type} : Lit × DataW H → Nat
  | (.string bytes, d) => bytes.length + uptoBulk d + 1
  | (_, d) => uptoBulk d + 1
 end
def uptoSmall : (H : Type) → List (DataW H) → Bool := fun _ ds => decide (uptoBulkAll ds ≤ 1048576)
def OpenSpec.upto (s : _root_.Go.ChangeSpec) : _root_.Go.OpenSpec := { _root_.Go.OpenSpec.ofChange s with cond := some uptoSmall }

/-- 'laws.FnSum', WHERE WHAT IT READS IS OF BULK AT MOST 1048576: true; the input reads as it did. -/
def fnSumUptoRow : OpenClaim := { program := "ytoiofkijinlllac", sum := "06e1adf71b0f49960e20b7654c7d1414b206777f3e85b5d37f29e40c03c084d0", func := "loop.example/fractionrounds/laws.FnSum", spec := "fnSum", unfollowed := true, recurses := true, apart := false, narrowed := true }
def FnSumUptoSaid : Prop := fnSumUptoRow.holds Try.pinned (OpenSpec.upto fnSumSpec)

/-- 'laws.FnSumTimes', WHERE WHAT IT READS IS OF BULK AT MOST 1048576: true; the input reads as it did. -/
def fnSumTimesUptoRow : OpenClaim := { program := "ytoiofkijinlllac", sum := "06e1adf71b0f49960e20b7654c7d1414b206777f3e85b5d37f29e40c03c084d0", func := "loop.example/fractionrounds/laws.FnSumTimes", spec := "fnSumTimes", unfollowed := true, recurses := true, apart := false, narrowed := true }
def FnSumTimesUptoSaid : Prop := fnSumTimesUptoRow.holds Try.pinned (OpenSpec.upto fnSumTimesSpec)

/-- 'laws.FnLess', WHERE WHAT IT READS IS OF BULK AT MOST 1048576: true; the input reads as it did. -/
def fnLessUptoRow : OpenClaim := { program := "ytoiofkijinlllac", sum := "06e1adf71b0f49960e20b7654c7d1414b206777f3e85b5d37f29e40c03c084d0", func := "loop.example/fractionrounds/laws.FnLess", spec := "fnLess", unfollowed := true, recurses := true, apart := false, narrowed := true }
def FnLessUptoSaid : Prop := fnLessUptoRow.holds Try.pinned (OpenSpec.upto fnLessSpec)

/-- 'laws.FnSumLengths', WHERE WHAT IT READS IS OF BULK AT MOST 1048576: true; the input reads as it did. -/
def fnSumLengthsUptoRow : OpenClaim := { program := "ytoiofkijinlllac", sum := "06e1adf71b0f49960e20b7654c7d1414b206777f3e85b5d37f29e40c03c084d0", func := "loop.example/fractionrounds/laws.FnSumLengths", spec := "fnSumLengths", unfollowed := true, recurses := true, apart := false, narrowed := true }
def FnSumLengthsUptoSaid : Prop := fnSumLengthsUptoRow.holds Try.pinned (OpenSpec.upto fnSumLengthsSpec)

end Rows
end Go.Proofs.Ytoiofkijinlllac
