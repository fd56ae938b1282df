/-
  No cell of these rows narrows 'for every input' (looked for: loops, veiled, ifaces, maps, wideKeys, modest, calm, conditions, laid).
  DERIVED. THE GIVEN ROWS OF THIS SEAT. 4 by the template 'for every input the law returns true; each argument reads behind the call as it read before'; 0 by the template 'total and deterministic' (their statements: YtbgpdhnfaacenaaTotals.lean).
  GIVEN WITH THE SEED: the statements are not yours to turn. If you find one false, say at which input.
  Laid BY PROGRAM, IN A SANDBOX (cutbox-rows.mjs): the forced cells as the released guide's own fill.sh prints them over the translation e0aaf201df8ae509… (all of the seat's roots in one cut). By AI agents, Wed Nov 11 2026. No macro, syntax, notation, axiom, sorry.
-/
import Derived.Test.YtbgpdhnfaacenaaChecked
import GoSem.Claim
import GoSem.ClaimJoined
import GoSem.ClaimMapViews
import Derived.JoinedTies
import Derived.KernelRfl
namespace Go.Proofs.Ytbgpdhnfaacenaa
/- THE CELL 'sum', in the pinned program and in every row, IS THE sha256 OF THE DUMP (.gsa) THAT YtbgpdhnfaacenaaProg.lean LOADS. Nothing in Lean hashes anything: it is a label: what it is worth is what the hold of that sum in a sandbox is worth. -/
noncomputable def Try.pinned : Pinned := { name := "ytbgpdhnfaacenaa", sum := "e0aaf201df8ae509eeb9a8e6b1dfc433463644d5d3651a617171c5ece103a0bb", checked := Try.checked }
namespace Rows
def none {H : Type} : Left H := { results := [], args := [] }

/-- 'laws.FnExactRightDigits': WHATEVER THE INPUT: true; the input reads as it did. -/
def fnExactRightDigitsSpec : ChangeSpec := { name := "fnExactRightDigits", fn := fun _ => fun
  | [d1, d2, d3, d4] => { results := [.lit (.bool true)], args := [d1, d2, d3, d4] }
  | _ => none }
def fnExactRightDigitsRow : OpenClaim := { program := "ytbgpdhnfaacenaa", sum := "e0aaf201df8ae509eeb9a8e6b1dfc433463644d5d3651a617171c5ece103a0bb", func := "loop.example/fractionrounds/laws.FnExactRightDigits", spec := "fnExactRightDigits", apart := false }
def FnExactRightDigitsSaid : Prop := fnExactRightDigitsRow.holds Try.pinned (OpenSpec.ofChange fnExactRightDigitsSpec)

/-- ITS FALSE NEIGHBOUR: 'it returns false'. Refute it at one input. -/
def fnExactRightDigitsWrong : ChangeSpec := { name := "fnExactRightDigits", fn := fun _ => fun
  | [d1, d2, d3, d4] => { results := [.lit (.bool false)], args := [d1, d2, d3, d4] }
  | _ => none }
def FnExactRightDigitsWrongFalsely : Prop := fnExactRightDigitsRow.holds Try.pinned (OpenSpec.ofChange fnExactRightDigitsWrong)

/-- 'laws.FnExactRightTops': WHATEVER THE INPUT: true; the input reads as it did. -/
def fnExactRightTopsSpec : ChangeSpec := { name := "fnExactRightTops", fn := fun _ => fun
  | [d1, d2, d3, d4] => { results := [.lit (.bool true)], args := [d1, d2, d3, d4] }
  | _ => none }
def fnExactRightTopsRow : OpenClaim := { program := "ytbgpdhnfaacenaa", sum := "e0aaf201df8ae509eeb9a8e6b1dfc433463644d5d3651a617171c5ece103a0bb", func := "loop.example/fractionrounds/laws.FnExactRightTops", spec := "fnExactRightTops", apart := false }
def FnExactRightTopsSaid : Prop := fnExactRightTopsRow.holds Try.pinned (OpenSpec.ofChange fnExactRightTopsSpec)

/-- ITS FALSE NEIGHBOUR: 'it returns false'. Refute it at one input. -/
def fnExactRightTopsWrong : ChangeSpec := { name := "fnExactRightTops", fn := fun _ => fun
  | [d1, d2, d3, d4] => { results := [.lit (.bool false)], args := [d1, d2, d3, d4] }
  | _ => none }
def FnExactRightTopsWrongFalsely : Prop := fnExactRightTopsRow.holds Try.pinned (OpenSpec.ofChange fnExactRightTopsWrong)

/-- 'laws.FnExactRightLengths': WHATEVER THE INPUT: true; the input reads as it did. -/
def fnExactRightLengthsSpec : ChangeSpec := { name := "fnExactRightLengths", fn := fun _ => fun
  | [d1, d2, d3] => { results := [.lit (.bool true)], args := [d1, d2, d3] }
  | _ => none }
def fnExactRightLengthsRow : OpenClaim := { program := "ytbgpdhnfaacenaa", sum := "e0aaf201df8ae509eeb9a8e6b1dfc433463644d5d3651a617171c5ece103a0bb", func := "loop.example/fractionrounds/laws.FnExactRightLengths", spec := "fnExactRightLengths", apart := false }
def FnExactRightLengthsSaid : Prop := fnExactRightLengthsRow.holds Try.pinned (OpenSpec.ofChange fnExactRightLengthsSpec)

/-- ITS FALSE NEIGHBOUR: 'it returns false'. Refute it at one input. -/
def fnExactRightLengthsWrong : ChangeSpec := { name := "fnExactRightLengths", fn := fun _ => fun
  | [d1, d2, d3] => { results := [.lit (.bool false)], args := [d1, d2, d3] }
  | _ => none }
def FnExactRightLengthsWrongFalsely : Prop := fnExactRightLengthsRow.holds Try.pinned (OpenSpec.ofChange fnExactRightLengthsWrong)

/-- 'laws.FnExactRightRest': WHATEVER THE INPUT: true; the input reads as it did. -/
def fnExactRightRestSpec : ChangeSpec := { name := "fnExactRightRest", fn := fun _ => fun
  | [d1, d2, d3, d4] => { results := [.lit (.bool true)], args := [d1, d2, d3, d4] }
  | _ => none }
def fnExactRightRestRow : OpenClaim := { program := "ytbgpdhnfaacenaa", sum := "e0aaf201df8ae509eeb9a8e6b1dfc433463644d5d3651a617171c5ece103a0bb", func := "loop.example/fractionrounds/laws.FnExactRightRest", spec := "fnExactRightRest", apart := false }
def FnExactRightRestSaid : Prop := fnExactRightRestRow.holds Try.pinned (OpenSpec.ofChange fnExactRightRestSpec)

/-- ITS FALSE NEIGHBOUR: 'it returns false'. Refute it at one input. -/
def fnExactRightRestWrong : ChangeSpec := { name := "fnExactRightRest", fn := fun _ => fun
  | [d1, d2, d3, d4] => { results := [.lit (.bool false)], args := [d1, d2, d3, d4] }
  | _ => none }
def FnExactRightRestWrongFalsely : Prop := fnExactRightRestRow.holds Try.pinned (OpenSpec.ofChange fnExactRightRestWrong)

/- THE SECOND FORM. 'bulk': how many values and letters a reading holds, each counted each time it is reached (what is shared counts as often as it is met; a slice's spare places count too). A statement '..UptoSaid' is the law's where the arguments, and the package variables that the reading takes, are together of bulk at most 1048576: NARROWER than '..Said'. Prove '..Said' where nothing that the law and all that it calls make is longer than what came in: it says more and counts as full. Else prove '..UptoSaid'. A law counts once. -/
mutual
def uptoBulk {H : Type} : DataW H → Nat
  | .lit (.string bytes) => bytes.length + 1
  | .lit _ => 1
  | .nil => 1
  | .ptr d => uptoBulk d + 1
  | .slice elems spare => uptoBulkAll elems + uptoBulkAll spare + 1
  | .agg parts => uptoBulkAll parts + 1
  | .iface _ d => uptoBulk d + 1
  | .map entries => uptoBulkEntries entries + 1
  | .held _ => 1
def uptoBulkAll {H : Type} : List (DataW H) → Nat
  | [] => 0
  | d :: r => uptoBulk d + uptoBulkAll r
def uptoBulkEntries {H : Type} : List (Lit × DataW H) → Nat
  | [] => 0
  | x :: r => uptoBulkEntry x + uptoBulkEntries r
def uptoBulkEntry {H : Type} : Lit × DataW H → Nat
  | (.string bytes, d) => bytes.length + uptoBulk d + 1
  | (_, d) => uptoBulk d + 1
 end
def uptoSmall : (H : Type) → List (DataW H) → Bool := fun _ ds => decide (uptoBulkAll ds ≤ 1048576)
def OpenSpec.upto (s : _root_.Go.ChangeSpec) : _root_.Go.OpenSpec := { _root_.Go.OpenSpec.ofChange s with cond := some uptoSmall }

/-- 'laws.FnExactRightDigits', WHERE WHAT IT READS IS OF BULK AT MOST 1048576: true; the input reads as it did. -/
def fnExactRightDigitsUptoRow : OpenClaim := { program := "ytbgpdhnfaacenaa", sum := "e0aaf201df8ae509eeb9a8e6b1dfc433463644d5d3651a617171c5ece103a0bb", func := "loop.example/fractionrounds/laws.FnExactRightDigits", spec := "fnExactRightDigits", apart := false, narrowed := true }
def FnExactRightDigitsUptoSaid : Prop := fnExactRightDigitsUptoRow.holds Try.pinned (OpenSpec.upto fnExactRightDigitsSpec)

/-- 'laws.FnExactRightTops', WHERE WHAT IT READS IS OF BULK AT MOST 1048576: true; the input reads as it did. -/
def fnExactRightTopsUptoRow : OpenClaim := { program := "ytbgpdhnfaacenaa", sum := "e0aaf201df8ae509eeb9a8e6b1dfc433463644d5d3651a617171c5ece103a0bb", func := "loop.example/fractionrounds/laws.FnExactRightTops", spec := "fnExactRightTops", apart := false, narrowed := true }
def FnExactRightTopsUptoSaid : Prop := fnExactRightTopsUptoRow.holds Try.pinned (OpenSpec.upto fnExactRightTopsSpec)

/-- 'laws.FnExactRightLengths', WHERE WHAT IT READS IS OF BULK AT MOST 1048576: true; the input reads as it did. -/
def fnExactRightLengthsUptoRow : OpenClaim := { program := "ytbgpdhnfaacenaa", sum := "e0aaf201df8ae509eeb9a8e6b1dfc433463644d5d3651a617171c5ece103a0bb", func := "loop.example/fractionrounds/laws.FnExactRightLengths", spec := "fnExactRightLengths", apart := false, narrowed := true }
def FnExactRightLengthsUptoSaid : Prop := fnExactRightLengthsUptoRow.holds Try.pinned (OpenSpec.upto fnExactRightLengthsSpec)

/-- 'laws.FnExactRightRest', WHERE WHAT IT READS IS OF BULK AT MOST 1048576: true; the input reads as it did. -/
def fnExactRightRestUptoRow : OpenClaim := { program := "ytbgpdhnfaacenaa", sum := "e0aaf201df8ae509eeb9a8e6b1dfc433463644d5d3651a617171c5ece103a0bb", func := "loop.example/fractionrounds/laws.FnExactRightRest", spec := "fnExactRightRest", apart := false, narrowed := true }
def FnExactRightRestUptoSaid : Prop := fnExactRightRestUptoRow.holds Try.pinned (OpenSpec.upto fnExactRightRestSpec)

end Rows
end Go.Proofs.Ytbgpdhnfaacenaa
