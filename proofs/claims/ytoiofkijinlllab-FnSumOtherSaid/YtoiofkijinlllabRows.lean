/-
  No cell of these rows narrows 'for every input' (looked for: loops, veiled, ifaces, maps, wideKeys, modest, calm, conditions, laid).
  DERIVED. THE GIVEN ROWS OF THIS SEAT. 4 by the template 'for every input the law returns true; each argument reads behind the call as it read before'; 0 by the template 'total and deterministic' (their statements: YtoiofkijinlllabTotals.lean).
  GIVEN WITH THE SEED: the statements are not yours to turn. If you find one false, say at which input.
  Laid BY PROGRAM, IN A SANDBOX (cutbox-rows.mjs): the forced cells as the released guide's own fill.sh prints them over the translation c950434283d8b959… (all of the seat's roots in one cut). By AI agents, Wed Nov 11 2026. No macro, syntax, notation, axiom, sorry.
-/
import Derived.Test.YtoiofkijinlllabChecked
import GoSem.Claim
import GoSem.ClaimJoined
import GoSem.ClaimMapViews
import Derived.JoinedTies
import Derived.KernelRfl
namespace Go.Proofs.Ytoiofkijinlllab
/- THE CELL 'sum', in the pinned program and in every row, IS THE sha256 OF THE DUMP (.gsa) THAT YtoiofkijinlllabProg.lean LOADS. Nothing in Lean hashes anything: it is a label: what it is worth is what the hold of that sum in a sandbox is worth. -/
noncomputable def Try.pinned : Pinned := { name := "ytoiofkijinlllab", sum := "c950434283d8b959a424662b04c4d3b2a62ce800fcf0fca976c01e7cd1b80d4e", checked := Try.checked }
namespace Rows
def none {H : Type} : Left H := { results := [], args := [] }

/-- 'laws.FnExactSumRound': WHATEVER THE INPUT: true; the input reads as it did. -/
def fnExactSumRoundSpec : ChangeSpec := { name := "fnExactSumRound", fn := fun _ => fun
  | [d1, d2, d3] => { results := [.lit (.bool true)], args := [d1, d2, d3] }
  | _ => none }
def fnExactSumRoundRow : OpenClaim := { program := "ytoiofkijinlllab", sum := "c950434283d8b959a424662b04c4d3b2a62ce800fcf0fca976c01e7cd1b80d4e", func := "loop.example/fractionrounds/laws.FnExactSumRound", spec := "fnExactSumRound", unfollowed := true, recurses := true, apart := false }
def FnExactSumRoundSaid : Prop := fnExactSumRoundRow.holds Try.pinned (OpenSpec.ofChange fnExactSumRoundSpec)

/-- ITS FALSE NEIGHBOUR: 'it returns false'. Refute it at one input. -/
def fnExactSumRoundWrong : ChangeSpec := { name := "fnExactSumRound", fn := fun _ => fun
  | [d1, d2, d3] => { results := [.lit (.bool false)], args := [d1, d2, d3] }
  | _ => none }
def FnExactSumRoundWrongFalsely : Prop := fnExactSumRoundRow.holds Try.pinned (OpenSpec.ofChange fnExactSumRoundWrong)

/-- 'laws.FnExactSumLengths': WHATEVER THE INPUT: true; the input reads as it did. -/
def fnExactSumLengthsSpec : ChangeSpec := { name := "fnExactSumLengths", fn := fun _ => fun
  | [d1, d2, d3] => { results := [.lit (.bool true)], args := [d1, d2, d3] }
  | _ => none }
def fnExactSumLengthsRow : OpenClaim := { program := "ytoiofkijinlllab", sum := "c950434283d8b959a424662b04c4d3b2a62ce800fcf0fca976c01e7cd1b80d4e", func := "loop.example/fractionrounds/laws.FnExactSumLengths", spec := "fnExactSumLengths", unfollowed := true, recurses := true, apart := false }
def FnExactSumLengthsSaid : Prop := fnExactSumLengthsRow.holds Try.pinned (OpenSpec.ofChange fnExactSumLengthsSpec)

/-- ITS FALSE NEIGHBOUR: 'it returns false'. Refute it at one input. -/
def fnExactSumLengthsWrong : ChangeSpec := { name := "fnExactSumLengths", fn := fun _ => fun
  | [d1, d2, d3] => { results := [.lit (.bool false)], args := [d1, d2, d3] }
  | _ => none }
def FnExactSumLengthsWrongFalsely : Prop := fnExactSumLengthsRow.holds Try.pinned (OpenSpec.ofChange fnExactSumLengthsWrong)

/-- 'laws.FnSumRound': WHATEVER THE INPUT: true; the input reads as it did. -/
def fnSumRoundSpec : ChangeSpec := { name := "fnSumRound", fn := fun _ => fun
  | [d] => { results := [.lit (.bool true)], args := [d] }
  | _ => none }
def fnSumRoundRow : OpenClaim := { program := "ytoiofkijinlllab", sum := "c950434283d8b959a424662b04c4d3b2a62ce800fcf0fca976c01e7cd1b80d4e", func := "loop.example/fractionrounds/laws.FnSumRound", spec := "fnSumRound", unfollowed := true, recurses := true, apart := false }
def FnSumRoundSaid : Prop := fnSumRoundRow.holds Try.pinned (OpenSpec.ofChange fnSumRoundSpec)

/-- ITS FALSE NEIGHBOUR: 'it returns false'. Refute it at one input. -/
def fnSumRoundWrong : ChangeSpec := { name := "fnSumRound", fn := fun _ => fun
  | [d] => { results := [.lit (.bool false)], args := [d] }
  | _ => none }
def FnSumRoundWrongFalsely : Prop := fnSumRoundRow.holds Try.pinned (OpenSpec.ofChange fnSumRoundWrong)

/-- 'laws.FnSumOther': WHATEVER THE INPUT: true; the input reads as it did. -/
def fnSumOtherSpec : ChangeSpec := { name := "fnSumOther", fn := fun _ => fun
  | [d] => { results := [.lit (.bool true)], args := [d] }
  | _ => none }
def fnSumOtherRow : OpenClaim := { program := "ytoiofkijinlllab", sum := "c950434283d8b959a424662b04c4d3b2a62ce800fcf0fca976c01e7cd1b80d4e", func := "loop.example/fractionrounds/laws.FnSumOther", spec := "fnSumOther", unfollowed := true, recurses := true, apart := false }
def FnSumOtherSaid : Prop := fnSumOtherRow.holds Try.pinned (OpenSpec.ofChange fnSumOtherSpec)

/-- ITS FALSE NEIGHBOUR: 'it returns false'. Refute it at one input. -/
def fnSumOtherWrong : ChangeSpec := { name := "fnSumOther", fn := fun _ => fun
  | [d] => { results := [.lit (.bool false)], args := [d] }
  | _ => none }
def FnSumOtherWrongFalsely : Prop := fnSumOtherRow.holds Try.pinned (OpenSpec.ofChange fnSumOtherWrong)

/- THE SECOND FORM. 'bulk': how many values and letters a reading holds, each counted each time it is reached (what is shared counts as often as it is met; a slice's spare places count too). A statement '..UptoSaid' is the law's where the arguments, and the package variables that the reading takes, are together of bulk at most 1048576: NARROWER than '..Said'. Prove '..Said' where nothing that the law and all that it calls make is longer than what came in: it says more and counts as full. Else prove '..UptoSaid'. A law counts once. -/
mutual
def uptoBulk {H : Type} : DataW H → Nat
  | .lit (.string bytes) => bytes.length + 1
  | .lit _ => 1
  | .nil => 1
  | .ptr d => uptoBulk d + 1
  | .slice elems spare => uptoBulkAll elems + uptoBulkAll spare + 1
  | .agg parts => uptoBulkAll parts + 1
  | .iface _ d => uptoBulk d + 1
  | .map entries => uptoBulkEntries entries + 1
  | .held _ => 1
def uptoBulkAll {H : Type} : List (DataW H) → Nat
  | [] => 0
  | d :: r => uptoBulk d + uptoBulkAll r
def uptoBulkEntries {H : Type} : List (Lit × DataW H) → Nat
  | [] => 0
  | x :: r => uptoBulkEntry x + uptoBulkEntries r
def uptoBulkEntry {H : Type} : Lit × DataW H → Nat
  | (.string bytes, d) => bytes.length + uptoBulk d + 1
  | (_, d) => uptoBulk d + 1
 end
def uptoSmall : (H : Type) → List (DataW H) → Bool := fun _ ds => decide (uptoBulkAll ds ≤ 1048576)
def OpenSpec.upto (s : _root_.Go.ChangeSpec) : _root_.Go.OpenSpec := { _root_.Go.OpenSpec.ofChange s with cond := some uptoSmall }

/-- 'laws.FnExactSumRound', WHERE WHAT IT READS IS OF BULK AT MOST 1048576: true; the input reads as it did. -/
def fnExactSumRoundUptoRow : OpenClaim := { program := "ytoiofkijinlllab", sum := "c950434283d8b959a424662b04c4d3b2a62ce800fcf0fca976c01e7cd1b80d4e", func := "loop.example/fractionrounds/laws.FnExactSumRound", spec := "fnExactSumRound", unfollowed := true, recurses := true, apart := false, narrowed := true }
def FnExactSumRoundUptoSaid : Prop := fnExactSumRoundUptoRow.holds Try.pinned (OpenSpec.upto fnExactSumRoundSpec)

/-- 'laws.FnExactSumLengths', WHERE WHAT IT READS IS OF BULK AT MOST 1048576: true; the input reads as it did. -/
def fnExactSumLengthsUptoRow : OpenClaim := { program := "ytoiofkijinlllab", sum := "c950434283d8b959a424662b04c4d3b2a62ce800fcf0fca976c01e7cd1b80d4e", func := "loop.example/fractionrounds/laws.FnExactSumLengths", spec := "fnExactSumLengths", unfollowed := true, recurses := true, apart := false, narrowed := true }
def FnExactSumLengthsUptoSaid : Prop := fnExactSumLengthsUptoRow.holds Try.pinned (OpenSpec.upto fnExactSumLengthsSpec)

/-- 'laws.FnSumRound', WHERE WHAT IT READS IS OF BULK AT MOST 1048576: true; the input reads as it did. -/
def fnSumRoundUptoRow : OpenClaim := { program := "ytoiofkijinlllab", sum := "c950434283d8b959a424662b04c4d3b2a62ce800fcf0fca976c01e7cd1b80d4e", func := "loop.example/fractionrounds/laws.FnSumRound", spec := "fnSumRound", unfollowed := true, recurses := true, apart := false, narrowed := true }
def FnSumRoundUptoSaid : Prop := fnSumRoundUptoRow.holds Try.pinned (OpenSpec.upto fnSumRoundSpec)

/-- 'laws.FnSumOther', WHERE WHAT IT READS IS OF BULK AT MOST 1048576: true; the input reads as it did. -/
def fnSumOtherUptoRow : OpenClaim := { program := "ytoiofkijinlllab", sum := "c950434283d8b959a424662b04c4d3b2a62ce800fcf0fca976c01e7cd1b80d4e", func := "loop.example/fractionrounds/laws.FnSumOther", spec := "fnSumOther", unfollowed := true, recurses := true, apart := false, narrowed := true }
def FnSumOtherUptoSaid : Prop := fnSumOtherUptoRow.holds Try.pinned (OpenSpec.upto fnSumOtherSpec)

end Rows
end Go.Proofs.Ytoiofkijinlllab
