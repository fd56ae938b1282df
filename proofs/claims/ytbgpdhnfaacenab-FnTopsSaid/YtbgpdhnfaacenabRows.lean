/-
  No cell of these rows narrows 'for every input' (looked for: loops, veiled, ifaces, maps, wideKeys, modest, calm, conditions, laid).
  DERIVED. THE GIVEN ROWS OF THIS SEAT. 4 by the template 'for every input the law returns true; each argument reads behind the call as it read before'; 0 by the template 'total and deterministic' (their statements: YtbgpdhnfaacenabTotals.lean).
  GIVEN WITH THE SEED: the statements are not yours to turn. If you find one false, say at which input.
  Laid BY PROGRAM, IN A SANDBOX (cutbox-rows.mjs): the forced cells as the released guide's own fill.sh prints them over the translation 0a22f50b2cc282ad… (all of the seat's roots in one cut). By AI agents, Wed Nov 11 2026. No macro, syntax, notation, axiom, sorry.
-/
import Derived.Test.YtbgpdhnfaacenabChecked
import GoSem.Claim
import GoSem.ClaimJoined
import GoSem.ClaimMapViews
import Derived.JoinedTies
import Derived.KernelRfl
namespace Go.Proofs.Ytbgpdhnfaacenab
/- THE CELL 'sum', in the pinned program and in every row, IS THE sha256 OF THE DUMP (.gsa) THAT YtbgpdhnfaacenabProg.lean LOADS. Nothing in Lean hashes anything: it is a label: what it is worth is what the hold of that sum in a sandbox is worth. -/
noncomputable def Try.pinned : Pinned := { name := "ytbgpdhnfaacenab", sum := "0a22f50b2cc282ad82abf379b9a3995f48a1df5c18363333605f23eaff77de7e", checked := Try.checked }
namespace Rows
def none {H : Type} : Left H := { results := [], args := [] }

/-- 'laws.FnExactRightNegative': WHATEVER THE INPUT: true; the input reads as it did. -/
def fnExactRightNegativeSpec : ChangeSpec := { name := "fnExactRightNegative", fn := fun _ => fun
  | [d1, d2] => { results := [.lit (.bool true)], args := [d1, d2] }
  | _ => none }
def fnExactRightNegativeRow : OpenClaim := { program := "ytbgpdhnfaacenab", sum := "0a22f50b2cc282ad82abf379b9a3995f48a1df5c18363333605f23eaff77de7e", func := "loop.example/fractionrounds/laws.FnExactRightNegative", spec := "fnExactRightNegative", apart := false }
def FnExactRightNegativeSaid : Prop := fnExactRightNegativeRow.holds Try.pinned (OpenSpec.ofChange fnExactRightNegativeSpec)

/-- ITS FALSE NEIGHBOUR: 'it returns false'. Refute it at one input. -/
def fnExactRightNegativeWrong : ChangeSpec := { name := "fnExactRightNegative", fn := fun _ => fun
  | [d1, d2] => { results := [.lit (.bool false)], args := [d1, d2] }
  | _ => none }
def FnExactRightNegativeWrongFalsely : Prop := fnExactRightNegativeRow.holds Try.pinned (OpenSpec.ofChange fnExactRightNegativeWrong)

/-- 'laws.FnExactRightWhole': WHATEVER THE INPUT: true; the input reads as it did. -/
def fnExactRightWholeSpec : ChangeSpec := { name := "fnExactRightWhole", fn := fun _ => fun
  | [d1, d2, d3] => { results := [.lit (.bool true)], args := [d1, d2, d3] }
  | _ => none }
def fnExactRightWholeRow : OpenClaim := { program := "ytbgpdhnfaacenab", sum := "0a22f50b2cc282ad82abf379b9a3995f48a1df5c18363333605f23eaff77de7e", func := "loop.example/fractionrounds/laws.FnExactRightWhole", spec := "fnExactRightWhole", apart := false }
def FnExactRightWholeSaid : Prop := fnExactRightWholeRow.holds Try.pinned (OpenSpec.ofChange fnExactRightWholeSpec)

/-- ITS FALSE NEIGHBOUR: 'it returns false'. Refute it at one input. -/
def fnExactRightWholeWrong : ChangeSpec := { name := "fnExactRightWhole", fn := fun _ => fun
  | [d1, d2, d3] => { results := [.lit (.bool false)], args := [d1, d2, d3] }
  | _ => none }
def FnExactRightWholeWrongFalsely : Prop := fnExactRightWholeRow.holds Try.pinned (OpenSpec.ofChange fnExactRightWholeWrong)

/-- 'laws.FnRight': WHATEVER THE INPUT: true; the input reads as it did. -/
def fnRightSpec : ChangeSpec := { name := "fnRight", fn := fun _ => fun
  | [d] => { results := [.lit (.bool true)], args := [d] }
  | _ => none }
def fnRightRow : OpenClaim := { program := "ytbgpdhnfaacenab", sum := "0a22f50b2cc282ad82abf379b9a3995f48a1df5c18363333605f23eaff77de7e", func := "loop.example/fractionrounds/laws.FnRight", spec := "fnRight", apart := false }
def FnRightSaid : Prop := fnRightRow.holds Try.pinned (OpenSpec.ofChange fnRightSpec)

/-- ITS FALSE NEIGHBOUR: 'it returns false'. Refute it at one input. -/
def fnRightWrong : ChangeSpec := { name := "fnRight", fn := fun _ => fun
  | [d] => { results := [.lit (.bool false)], args := [d] }
  | _ => none }
def FnRightWrongFalsely : Prop := fnRightRow.holds Try.pinned (OpenSpec.ofChange fnRightWrong)

/-- 'laws.FnTops': WHATEVER THE INPUT: true; the input reads as it did. -/
def fnTopsSpec : ChangeSpec := { name := "fnTops", fn := fun _ => fun
  | [d] => { results := [.lit (.bool true)], args := [d] }
  | _ => none }
def fnTopsRow : OpenClaim := { program := "ytbgpdhnfaacenab", sum := "0a22f50b2cc282ad82abf379b9a3995f48a1df5c18363333605f23eaff77de7e", func := "loop.example/fractionrounds/laws.FnTops", spec := "fnTops", apart := false }
def FnTopsSaid : Prop := fnTopsRow.holds Try.pinned (OpenSpec.ofChange fnTopsSpec)

/-- ITS FALSE NEIGHBOUR: 'it returns false'. Refute it at one input. -/
def fnTopsWrong : ChangeSpec := { name := "fnTops", fn := fun _ => fun
  | [d] => { results := [.lit (.bool false)], args := [d] }
  | _ => none }
def FnTopsWrongFalsely : Prop := fnTopsRow.holds Try.pinned (OpenSpec.ofChange fnTopsWrong)

/- THE SECOND FORM. 'bulk': how many values and letters a reading holds, each counted each time it is reached (what is shared counts as often as it is met; a slice's spare places count too). A statement '..UptoSaid' is the law's where the arguments, and the package variables that the reading takes, are together of bulk at most 1048576: NARROWER than '..Said'. Prove '..Said' where nothing that the law and all that it calls make is longer than what came in: it says more and counts as full. Else prove '..UptoSaid'. A law counts once. -/
mutual
def uptoBulk {H : Type} : DataW H → Nat
  | .lit (.string bytes) => bytes.length + 1
  | .lit _ => 1
  | .nil => 1
  | .ptr d => uptoBulk d + 1
  | .slice elems spare => uptoBulkAll elems + uptoBulkAll spare + 1
  | .agg parts => uptoBulkAll parts + 1
  | .iface _ d => uptoBulk d + 1
  | .map entries => uptoBulkEntries entries + 1
  | .held _ => 1
def uptoBulkAll {H : Type} : List (DataW H) → Nat
  | [] => 0
  | d :: r => uptoBulk d + uptoBulkAll r
def uptoBulkEntries {H : Type} : List (Lit × DataW H) → Nat
  | [] => 0
  | x :: r => uptoBulkEntry x + uptoBulkEntries r
def uptoBulkEntry {H : Type} : Lit × DataW H → Nat
  | (.string bytes, d) => bytes.length + uptoBulk d + 1
  | (_, d) => uptoBulk d + 1
 end
def uptoSmall : (H : Type) → List (DataW H) → Bool := fun _ ds => decide (uptoBulkAll ds ≤ 1048576)
def OpenSpec.upto (s : _root_.Go.ChangeSpec) : _root_.Go.OpenSpec := { _root_.Go.OpenSpec.ofChange s with cond := some uptoSmall }

/-- 'laws.FnExactRightNegative', WHERE WHAT IT READS IS OF BULK AT MOST 1048576: true; the input reads as it did. -/
def fnExactRightNegativeUptoRow : OpenClaim := { program := "ytbgpdhnfaacenab", sum := "0a22f50b2cc282ad82abf379b9a3995f48a1df5c18363333605f23eaff77de7e", func := "loop.example/fractionrounds/laws.FnExactRightNegative", spec := "fnExactRightNegative", apart := false, narrowed := true }
def FnExactRightNegativeUptoSaid : Prop := fnExactRightNegativeUptoRow.holds Try.pinned (OpenSpec.upto fnExactRightNegativeSpec)

/-- 'laws.FnExactRightWhole', WHERE WHAT IT READS IS OF BULK AT MOST 1048576: true; the input reads as it did. -/
def fnExactRightWholeUptoRow : OpenClaim := { program := "ytbgpdhnfaacenab", sum := "0a22f50b2cc282ad82abf379b9a3995f48a1df5c18363333605f23eaff77de7e", func := "loop.example/fractionrounds/laws.FnExactRightWhole", spec := "fnExactRightWhole", apart := false, narrowed := true }
def FnExactRightWholeUptoSaid : Prop := fnExactRightWholeUptoRow.holds Try.pinned (OpenSpec.upto fnExactRightWholeSpec)

/-- 'laws.FnRight', WHERE WHAT IT READS IS OF BULK AT MOST 1048576: true; the input reads as it did. -/
def fnRightUptoRow : OpenClaim := { program := "ytbgpdhnfaacenab", sum := "0a22f50b2cc282ad82abf379b9a3995f48a1df5c18363333605f23eaff77de7e", func := "loop.example/fractionrounds/laws.FnRight", spec := "fnRight", apart := false, narrowed := true }
def FnRightUptoSaid : Prop := fnRightUptoRow.holds Try.pinned (OpenSpec.upto fnRightSpec)

/-- 'laws.FnTops', WHERE WHAT IT READS IS OF BULK AT MOST 1048576: true; the input reads as it did. -/
def fnTopsUptoRow : OpenClaim := { program := "ytbgpdhnfaacenab", sum := "0a22f50b2cc282ad82abf379b9a3995f48a1df5c18363333605f23eaff77de7e", func := "loop.example/fractionrounds/laws.FnTops", spec := "fnTops", apart := false, narrowed := true }
def FnTopsUptoSaid : Prop := fnTopsUptoRow.holds Try.pinned (OpenSpec.upto fnTopsSpec)

end Rows
end Go.Proofs.Ytbgpdhnfaacenab
