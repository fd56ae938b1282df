/-
  No cell of these rows narrows 'for every input' (looked for: loops, veiled, ifaces, maps, wideKeys, modest, calm, conditions, laid).
  DERIVED. THE GIVEN ROWS OF THIS SEAT. 4 by the template 'for every input the law returns true; each argument reads behind the call as it read before'; 0 by the template 'total and deterministic' (their statements: YtoiofkijinlllaaTotals.lean).
  GIVEN WITH THE SEED: the statements are not yours to turn. If you find one false, say at which input.
  Laid BY PROGRAM, IN A SANDBOX (cutbox-rows.mjs): the forced cells as the released guide's own fill.sh prints them over the translation 253f3f5c7147cf77… (all of the seat's roots in one cut). By AI agents, Wed Nov 11 2026. No macro, syntax, notation, axiom, sorry.
-/
import Derived.Test.YtoiofkijinlllaaChecked
import GoSem.Claim
import GoSem.ClaimJoined
import GoSem.ClaimMapViews
import Derived.JoinedTies
import Derived.KernelRfl
namespace Go.Proofs.Ytoiofkijinlllaa
/- THE CELL 'sum', in the pinned program and in every row, IS THE sha256 OF THE DUMP (.gsa) THAT YtoiofkijinlllaaProg.lean LOADS. Nothing in Lean hashes anything: it is a label: what it is worth is what the hold of that sum in a sandbox is worth. -/
noncomputable def Try.pinned : Pinned := { name := "ytoiofkijinlllaa", sum := "253f3f5c7147cf7723f5f7de3111ace3ab2f8080378f7c8155880cace0d9c57b", checked := Try.checked }
namespace Rows
def none {H : Type} : Left H := { results := [], args := [] }

/-- 'laws.FnExactSumOf': WHATEVER THE INPUT: true; the input reads as it did. -/
def fnExactSumOfSpec : ChangeSpec := { name := "fnExactSumOf", fn := fun _ => fun
  | [d1, d2] => { results := [.lit (.bool true)], args := [d1, d2] }
  | _ => none }
def fnExactSumOfRow : OpenClaim := { program := "ytoiofkijinlllaa", sum := "253f3f5c7147cf7723f5f7de3111ace3ab2f8080378f7c8155880cace0d9c57b", func := "loop.example/fractionrounds/laws.FnExactSumOf", spec := "fnExactSumOf", unfollowed := true, recurses := true, apart := false }
def FnExactSumOfSaid : Prop := fnExactSumOfRow.holds Try.pinned (OpenSpec.ofChange fnExactSumOfSpec)

/-- ITS FALSE NEIGHBOUR: 'it returns false'. Refute it at one input. -/
def fnExactSumOfWrong : ChangeSpec := { name := "fnExactSumOf", fn := fun _ => fun
  | [d1, d2] => { results := [.lit (.bool false)], args := [d1, d2] }
  | _ => none }
def FnExactSumOfWrongFalsely : Prop := fnExactSumOfRow.holds Try.pinned (OpenSpec.ofChange fnExactSumOfWrong)

/-- 'laws.FnExactSumTimes': WHATEVER THE INPUT: true; the input reads as it did. -/
def fnExactSumTimesSpec : ChangeSpec := { name := "fnExactSumTimes", fn := fun _ => fun
  | [d1, d2] => { results := [.lit (.bool true)], args := [d1, d2] }
  | _ => none }
def fnExactSumTimesRow : OpenClaim := { program := "ytoiofkijinlllaa", sum := "253f3f5c7147cf7723f5f7de3111ace3ab2f8080378f7c8155880cace0d9c57b", func := "loop.example/fractionrounds/laws.FnExactSumTimes", spec := "fnExactSumTimes", apart := false }
def FnExactSumTimesSaid : Prop := fnExactSumTimesRow.holds Try.pinned (OpenSpec.ofChange fnExactSumTimesSpec)

/-- ITS FALSE NEIGHBOUR: 'it returns false'. Refute it at one input. -/
def fnExactSumTimesWrong : ChangeSpec := { name := "fnExactSumTimes", fn := fun _ => fun
  | [d1, d2] => { results := [.lit (.bool false)], args := [d1, d2] }
  | _ => none }
def FnExactSumTimesWrongFalsely : Prop := fnExactSumTimesRow.holds Try.pinned (OpenSpec.ofChange fnExactSumTimesWrong)

/-- 'laws.FnExactSumOther': WHATEVER THE INPUT: true; the input reads as it did. -/
def fnExactSumOtherSpec : ChangeSpec := { name := "fnExactSumOther", fn := fun _ => fun
  | [d1, d2] => { results := [.lit (.bool true)], args := [d1, d2] }
  | _ => none }
def fnExactSumOtherRow : OpenClaim := { program := "ytoiofkijinlllaa", sum := "253f3f5c7147cf7723f5f7de3111ace3ab2f8080378f7c8155880cace0d9c57b", func := "loop.example/fractionrounds/laws.FnExactSumOther", spec := "fnExactSumOther", apart := false }
def FnExactSumOtherSaid : Prop := fnExactSumOtherRow.holds Try.pinned (OpenSpec.ofChange fnExactSumOtherSpec)

/-- ITS FALSE NEIGHBOUR: 'it returns false'. Refute it at one input. -/
def fnExactSumOtherWrong : ChangeSpec := { name := "fnExactSumOther", fn := fun _ => fun
  | [d1, d2] => { results := [.lit (.bool false)], args := [d1, d2] }
  | _ => none }
def FnExactSumOtherWrongFalsely : Prop := fnExactSumOtherRow.holds Try.pinned (OpenSpec.ofChange fnExactSumOtherWrong)

/-- 'laws.FnExactSumLess': WHATEVER THE INPUT: true; the input reads as it did. -/
def fnExactSumLessSpec : ChangeSpec := { name := "fnExactSumLess", fn := fun _ => fun
  | [d1, d2, d3] => { results := [.lit (.bool true)], args := [d1, d2, d3] }
  | _ => none }
def fnExactSumLessRow : OpenClaim := { program := "ytoiofkijinlllaa", sum := "253f3f5c7147cf7723f5f7de3111ace3ab2f8080378f7c8155880cace0d9c57b", func := "loop.example/fractionrounds/laws.FnExactSumLess", spec := "fnExactSumLess", apart := false }
def FnExactSumLessSaid : Prop := fnExactSumLessRow.holds Try.pinned (OpenSpec.ofChange fnExactSumLessSpec)

/-- ITS FALSE NEIGHBOUR: 'it returns false'. Refute it at one input. -/
def fnExactSumLessWrong : ChangeSpec := { name := "fnExactSumLess", fn := fun _ => fun
  | [d1, d2, d3] => { results := [.lit (.bool false)], args := [d1, d2, d3] }
  | _ => none }
def FnExactSumLessWrongFalsely : Prop := fnExactSumLessRow.holds Try.pinned (OpenSpec.ofChange fnExactSumLessWrong)

/- THE SECOND FORM. 'bulk': how many values and letters a reading holds, each counted each time it is reached (what is shared counts as often as it is met; a slice's spare places count too). A statement '..UptoSaid' is the law's where the arguments, and the package variables that the reading takes, are together of bulk at most 1048576: NARROWER than '..Said'. Prove '..Said' where nothing that the law and all that it calls make is longer than what came in: it says more and counts as full. Else prove '..UptoSaid'. A law counts once. -/
mutual
def uptoBulk {H : Type} : DataW H → Nat
  | .lit (.string bytes) => bytes.length + 1
  | .lit _ => 1
  | .nil => 1
  | .ptr d => uptoBulk d + 1
  | .slice elems spare => uptoBulkAll elems + uptoBulkAll spare + 1
  | .agg parts => uptoBulkAll parts + 1
  | .iface _ d => uptoBulk d + 1
  | .map entries => uptoBulkEntries entries + 1
  | .held _ => 1
def uptoBulkAll {H : Type} : List (DataW H) → Nat
  | [] => 0
  | d :: r => uptoBulk d + uptoBulkAll r
def uptoBulkEntries {H : Type} : List (Lit × DataW H) → Nat
  | [] => 0
  | x :: r => uptoBulkEntry x + uptoBulkEntries r
def uptoBulkEntry {H : Type} : Lit × DataW H → Nat
  | (.string bytes, d) => bytes.length + uptoBulk d + 1
  | (_, d) => uptoBulk d + 1
 end
def uptoSmall : (H : Type) → List (DataW H) → Bool := fun _ ds => decide (uptoBulkAll ds ≤ 1048576)
def OpenSpec.upto (s : _root_.Go.ChangeSpec) : _root_.Go.OpenSpec := { _root_.Go.OpenSpec.ofChange s with cond := some uptoSmall }

/-- 'laws.FnExactSumOf', WHERE WHAT IT READS IS OF BULK AT MOST 1048576: true; the input reads as it did. -/
def fnExactSumOfUptoRow : OpenClaim := { program := "ytoiofkijinlllaa", sum := "253f3f5c7147cf7723f5f7de3111ace3ab2f8080378f7c8155880cace0d9c57b", func := "loop.example/fractionrounds/laws.FnExactSumOf", spec := "fnExactSumOf", unfollowed := true, recurses := true, apart := false, narrowed := true }
def FnExactSumOfUptoSaid : Prop := fnExactSumOfUptoRow.holds Try.pinned (OpenSpec.upto fnExactSumOfSpec)

/-- 'laws.FnExactSumTimes', WHERE WHAT IT READS IS OF BULK AT MOST 1048576: true; the input reads as it did. -/
def fnExactSumTimesUptoRow : OpenClaim := { program := "ytoiofkijinlllaa", sum := "253f3f5c7147cf7723f5f7de3111ace3ab2f8080378f7c8155880cace0d9c57b", func := "loop.example/fractionrounds/laws.FnExactSumTimes", spec := "fnExactSumTimes", apart := false, narrowed := true }
def FnExactSumTimesUptoSaid : Prop := fnExactSumTimesUptoRow.holds Try.pinned (OpenSpec.upto fnExactSumTimesSpec)

/-- 'laws.FnExactSumOther', WHERE WHAT IT READS IS OF BULK AT MOST 1048576: true; the input reads as it did. -/
def fnExactSumOtherUptoRow : OpenClaim := { program := "ytoiofkijinlllaa", sum := "253f3f5c7147cf7723f5f7de3111ace3ab2f8080378f7c8155880cace0d9c57b", func := "loop.example/fractionrounds/laws.FnExactSumOther", spec := "fnExactSumOther", apart := false, narrowed := true }
def FnExactSumOtherUptoSaid : Prop := fnExactSumOtherUptoRow.holds Try.pinned (OpenSpec.upto fnExactSumOtherSpec)

/-- 'laws.FnExactSumLess', WHERE WHAT IT READS IS OF BULK AT MOST 1048576: true; the input reads as it did. -/
def fnExactSumLessUptoRow : OpenClaim := { program := "ytoiofkijinlllaa", sum := "253f3f5c7147cf7723f5f7de3111ace3ab2f8080378f7c8155880cace0d9c57b", func := "loop.example/fractionrounds/laws.FnExactSumLess", spec := "fnExactSumLess", apart := false, narrowed := true }
def FnExactSumLessUptoSaid : Prop := fnExactSumLessUptoRow.holds Try.pinned (OpenSpec.upto fnExactSumLessSpec)

end Rows
end Go.Proofs.Ytoiofkijinlllaa
