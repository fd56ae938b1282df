/-
  NARROWER THAN 'FOR EVERY INPUT', by the rows' own cells (each row's printed sentence says how): FnExactPartAll: laid · FnMultiple: laid · FnPartPrime: laid · FnHalves: laid.
  DERIVED. THE GIVEN ROWS OF THIS SEAT. 4 by the template 'for every input the law returns true; each argument reads behind the call as it read before'; 0 by the template 'total and deterministic' (their statements: YtehpgcgdcoahnacDoorTotals.lean).
  GIVEN WITH THE SEED: the statements are not yours to turn. If you find one false, say at which input.
  Laid BY PROGRAM, IN A SANDBOX (cutbox-rows.mjs): the forced cells as the released guide's own fill.sh prints them over the translation 22a07487057ee883… (all of the seat's roots in one cut). By AI agents, Wed Nov 11 2026. No macro, syntax, notation, axiom, sorry.
-/
import Derived.Test.YtehpgcgdcoahnacDoorChecked
import GoSem.Claim
import GoSem.ClaimJoined
import GoSem.ClaimMapViews
import Derived.JoinedTies
import Derived.KernelRfl
namespace Go.Proofs.YtehpgcgdcoahnacDoor
/- THE CELL 'sum', in the pinned program and in every row, IS THE sha256 OF THE DUMP (.gsa) THAT YtehpgcgdcoahnacDoorProg.lean LOADS. Nothing in Lean hashes anything: it is a label: what it is worth is what the hold of that sum in a sandbox is worth. -/
noncomputable def Tryd.pinned : Pinned := { name := "ytehpgcgdcoahnacdoor", sum := "22a07487057ee8836d06157b19098794896754ab42c4f85761a29d431232358b", checked := Tryd.checked }
namespace Rows
def none {H : Type} : Left H := { results := [], args := [] }

/- WHAT THE LISTED PACKAGE-LEVEL VARIABLES READ AS WHEN THE CALL BEGINS. Each datum BY PROGRAM (the guide's laid-datum.mjs) off the statement by which the dump's own 'gosem.cut.vars' lays the variable. In a bare row this is a premise. The card (YtehpgcgdcoahnacDoorCards.lean) ties it to the program's text. -/
def laid_errors_errorType {H : Type} : DataW H := .iface "internal/reflectlite.rtype" (.agg [.ptr (.lit (.string [101, 114, 114, 111, 114]))])

/-- 'laws.FnExactPartAll': WHATEVER THE INPUT: true; the input reads as it did. -/
def fnExactPartAllSpec : ChangeSpec := { name := "fnExactPartAll", fn := fun _ => fun
  | [d1, d2] => { results := [.lit (.bool true)], args := [d1, d2] }
  | _ => none }
def fnExactPartAllRow : OpenClaim := { program := "ytehpgcgdcoahnacdoor", sum := "22a07487057ee8836d06157b19098794896754ab42c4f85761a29d431232358b", func := "loop.example/fractionrounds/laws.FnExactPartAll", spec := "fnExactPartAll", inPlace := ["internal/reflectlite.ValueOf", "(internal/reflectlite.Value).Type", "(internal/reflectlite.Value).IsNil", "internal/reflectlite.TypeOf", "(internal/reflectlite.Value).Elem", "(internal/reflectlite.Value).Set"], unfollowed := true, recurses := true, named := ["errors.errorType"], apart := false, laid := [("errors.errorType", laid_errors_errorType)] }
def FnExactPartAllSaid : Prop := fnExactPartAllRow.holds Tryd.pinned (OpenSpec.ofChange fnExactPartAllSpec)

/-- ITS FALSE NEIGHBOUR: 'it returns false'. Refute it at one input. -/
def fnExactPartAllWrong : ChangeSpec := { name := "fnExactPartAll", fn := fun _ => fun
  | [d1, d2] => { results := [.lit (.bool false)], args := [d1, d2] }
  | _ => none }
def FnExactPartAllWrongFalsely : Prop := fnExactPartAllRow.holds Tryd.pinned (OpenSpec.ofChange fnExactPartAllWrong)

/-- 'laws.FnMultiple': WHATEVER THE INPUT: true; the input reads as it did. -/
def fnMultipleSpec : ChangeSpec := { name := "fnMultiple", fn := fun _ => fun
  | [d] => { results := [.lit (.bool true)], args := [d] }
  | _ => none }
def fnMultipleRow : OpenClaim := { program := "ytehpgcgdcoahnacdoor", sum := "22a07487057ee8836d06157b19098794896754ab42c4f85761a29d431232358b", func := "loop.example/fractionrounds/laws.FnMultiple", spec := "fnMultiple", inPlace := ["internal/reflectlite.ValueOf", "(internal/reflectlite.Value).Type", "(internal/reflectlite.Value).IsNil", "internal/reflectlite.TypeOf", "(internal/reflectlite.Value).Elem", "(internal/reflectlite.Value).Set"], unfollowed := true, recurses := true, named := ["errors.errorType"], apart := false, laid := [("errors.errorType", laid_errors_errorType)] }
def FnMultipleSaid : Prop := fnMultipleRow.holds Tryd.pinned (OpenSpec.ofChange fnMultipleSpec)

/-- ITS FALSE NEIGHBOUR: 'it returns false'. Refute it at one input. -/
def fnMultipleWrong : ChangeSpec := { name := "fnMultiple", fn := fun _ => fun
  | [d] => { results := [.lit (.bool false)], args := [d] }
  | _ => none }
def FnMultipleWrongFalsely : Prop := fnMultipleRow.holds Tryd.pinned (OpenSpec.ofChange fnMultipleWrong)

/-- 'laws.FnPartPrime': WHATEVER THE INPUT: true; the input reads as it did. -/
def fnPartPrimeSpec : ChangeSpec := { name := "fnPartPrime", fn := fun _ => fun
  | [d] => { results := [.lit (.bool true)], args := [d] }
  | _ => none }
def fnPartPrimeRow : OpenClaim := { program := "ytehpgcgdcoahnacdoor", sum := "22a07487057ee8836d06157b19098794896754ab42c4f85761a29d431232358b", func := "loop.example/fractionrounds/laws.FnPartPrime", spec := "fnPartPrime", inPlace := ["internal/reflectlite.ValueOf", "(internal/reflectlite.Value).Type", "(internal/reflectlite.Value).IsNil", "internal/reflectlite.TypeOf", "(internal/reflectlite.Value).Elem", "(internal/reflectlite.Value).Set"], unfollowed := true, recurses := true, named := ["errors.errorType"], apart := false, laid := [("errors.errorType", laid_errors_errorType)] }
def FnPartPrimeSaid : Prop := fnPartPrimeRow.holds Tryd.pinned (OpenSpec.ofChange fnPartPrimeSpec)

/-- ITS FALSE NEIGHBOUR: 'it returns false'. Refute it at one input. -/
def fnPartPrimeWrong : ChangeSpec := { name := "fnPartPrime", fn := fun _ => fun
  | [d] => { results := [.lit (.bool false)], args := [d] }
  | _ => none }
def FnPartPrimeWrongFalsely : Prop := fnPartPrimeRow.holds Tryd.pinned (OpenSpec.ofChange fnPartPrimeWrong)

/-- 'laws.FnHalves': WHATEVER THE INPUT: true; the input reads as it did. -/
def fnHalvesSpec : ChangeSpec := { name := "fnHalves", fn := fun _ => fun
  | [d] => { results := [.lit (.bool true)], args := [d] }
  | _ => none }
def fnHalvesRow : OpenClaim := { program := "ytehpgcgdcoahnacdoor", sum := "22a07487057ee8836d06157b19098794896754ab42c4f85761a29d431232358b", func := "loop.example/fractionrounds/laws.FnHalves", spec := "fnHalves", inPlace := ["internal/reflectlite.ValueOf", "(internal/reflectlite.Value).Type", "(internal/reflectlite.Value).IsNil", "internal/reflectlite.TypeOf", "(internal/reflectlite.Value).Elem", "(internal/reflectlite.Value).Set"], unfollowed := true, recurses := true, named := ["errors.errorType"], apart := false, laid := [("errors.errorType", laid_errors_errorType)] }
def FnHalvesSaid : Prop := fnHalvesRow.holds Tryd.pinned (OpenSpec.ofChange fnHalvesSpec)

/-- ITS FALSE NEIGHBOUR: 'it returns false'. Refute it at one input. -/
def fnHalvesWrong : ChangeSpec := { name := "fnHalves", fn := fun _ => fun
  | [d] => { results := [.lit (.bool false)], args := [d] }
  | _ => none }
def FnHalvesWrongFalsely : Prop := fnHalvesRow.holds Tryd.pinned (OpenSpec.ofChange fnHalvesWrong)

/- THE SECOND FORM. 'bulk': how many values and letters a reading holds, each counted each time it is reached (what is shared counts as often as it is met; a slice's spare places count too). A statement '..UptoSaid' is the law's where the arguments, and the package variables that the reading takes, are together of bulk at most 1048576: NARROWER than '..Said'. Prove '..Said' where nothing that the law and all that it calls make is longer than what came in: it says more and counts as full. Else prove '..UptoSaid'. A law counts once. -/
mutual
def uptoBulk {H : Type} : DataW H → Nat
  | .lit (.string bytes) => bytes.length + 1
  | .lit _ => 1
  | .nil => 1
  | .ptr d => uptoBulk d + 1
  | .slice elems spare => uptoBulkAll elems + uptoBulkAll spare + 1
  | .agg parts => uptoBulkAll parts + 1
  | .iface _ d => uptoBulk d + 1
  | .map entries => uptoBulkEntries entries + 1
  | .held _ => 1
def uptoBulkAll {H : Type} : List (DataW H) → Nat
  | [] => 0
  | d :: r => uptoBulk d + uptoBulkAll r
def uptoBulkEntries {H : Type} : List (Lit × DataW H) → Nat
  | [] => 0
  | x :: r => uptoBulkEntry x + uptoBulkEntries r
def uptoBulkEntry {H : Type} : Lit × DataW H → Nat
  | (.string bytes, d) => bytes.length + uptoBulk d + 1
  | (_, d) => uptoBulk d + 1
 end
def uptoSmall : (H : Type) → List (DataW H) → Bool := fun _ ds => decide (uptoBulkAll ds ≤ 1048576)
def OpenSpec.upto (s : _root_.Go.ChangeSpec) : _root_.Go.OpenSpec := { _root_.Go.OpenSpec.ofChange s with cond := some uptoSmall }

/-- 'laws.FnExactPartAll', WHERE WHAT IT READS IS OF BULK AT MOST 1048576: true; the input reads as it did. -/
def fnExactPartAllUptoRow : OpenClaim := { program := "ytehpgcgdcoahnacdoor", sum := "22a07487057ee8836d06157b19098794896754ab42c4f85761a29d431232358b", func := "loop.example/fractionrounds/laws.FnExactPartAll", spec := "fnExactPartAll", inPlace := ["internal/reflectlite.ValueOf", "(internal/reflectlite.Value).Type", "(internal/reflectlite.Value).IsNil", "internal/reflectlite.TypeOf", "(internal/reflectlite.Value).Elem", "(internal/reflectlite.Value).Set"], unfollowed := true, recurses := true, named := ["errors.errorType"], apart := false, laid := [("errors.errorType", laid_errors_errorType)], narrowed := true }
def FnExactPartAllUptoSaid : Prop := fnExactPartAllUptoRow.holds Tryd.pinned (OpenSpec.upto fnExactPartAllSpec)

/-- 'laws.FnMultiple', WHERE WHAT IT READS IS OF BULK AT MOST 1048576: true; the input reads as it did. -/
def fnMultipleUptoRow : OpenClaim := { program := "ytehpgcgdcoahnacdoor", sum := "22a07487057ee8836d06157b19098794896754ab42c4f85761a29d431232358b", func := "loop.example/fractionrounds/laws.FnMultiple", spec := "fnMultiple", inPlace := ["internal/reflectlite.ValueOf", "(internal/reflectlite.Value).Type", "(internal/reflectlite.Value).IsNil", "internal/reflectlite.TypeOf", "(internal/reflectlite.Value).Elem", "(internal/reflectlite.Value).Set"], unfollowed := true, recurses := true, named := ["errors.errorType"], apart := false, laid := [("errors.errorType", laid_errors_errorType)], narrowed := true }
def FnMultipleUptoSaid : Prop := fnMultipleUptoRow.holds Tryd.pinned (OpenSpec.upto fnMultipleSpec)

/-- 'laws.FnPartPrime', WHERE WHAT IT READS IS OF BULK AT MOST 1048576: true; the input reads as it did. -/
def fnPartPrimeUptoRow : OpenClaim := { program := "ytehpgcgdcoahnacdoor", sum := "22a07487057ee8836d06157b19098794896754ab42c4f85761a29d431232358b", func := "loop.example/fractionrounds/laws.FnPartPrime", spec := "fnPartPrime", inPlace := ["internal/reflectlite.ValueOf", "(internal/reflectlite.Value).Type", "(internal/reflectlite.Value).IsNil", "internal/reflectlite.TypeOf", "(internal/reflectlite.Value).Elem", "(internal/reflectlite.Value).Set"], unfollowed := true, recurses := true, named := ["errors.errorType"], apart := false, laid := [("errors.errorType", laid_errors_errorType)], narrowed := true }
def FnPartPrimeUptoSaid : Prop := fnPartPrimeUptoRow.holds Tryd.pinned (OpenSpec.upto fnPartPrimeSpec)

/-- 'laws.FnHalves', WHERE WHAT IT READS IS OF BULK AT MOST 1048576: true; the input reads as it did. -/
def fnHalvesUptoRow : OpenClaim := { program := "ytehpgcgdcoahnacdoor", sum := "22a07487057ee8836d06157b19098794896754ab42c4f85761a29d431232358b", func := "loop.example/fractionrounds/laws.FnHalves", spec := "fnHalves", inPlace := ["internal/reflectlite.ValueOf", "(internal/reflectlite.Value).Type", "(internal/reflectlite.Value).IsNil", "internal/reflectlite.TypeOf", "(internal/reflectlite.Value).Elem", "(internal/reflectlite.Value).Set"], unfollowed := true, recurses := true, named := ["errors.errorType"], apart := false, laid := [("errors.errorType", laid_errors_errorType)], narrowed := true }
def FnHalvesUptoSaid : Prop := fnHalvesUptoRow.holds Tryd.pinned (OpenSpec.upto fnHalvesSpec)

end Rows
end Go.Proofs.YtehpgcgdcoahnacDoor
