/-
  No cell of these rows narrows 'for every input' (looked for: loops, veiled, ifaces, maps, wideKeys, modest, calm, conditions, laid).
  DERIVED. THE GIVEN ROWS OF THIS SEAT. 3 by the template 'for every input the law returns true; each argument reads behind the call as it read before'; 0 by the template 'total and deterministic' (their statements: YtehpgcgdcoahnabTotals.lean).
  GIVEN WITH THE SEED: the statements are not yours to turn. If you find one false, say at which input.
  Laid BY PROGRAM, IN A SANDBOX (cutbox-rows.mjs): the forced cells as the released guide's own fill.sh prints them over the translation 41705952a3ed5ff9… (all of the seat's roots in one cut). By AI agents, Wed Nov 11 2026. No macro, syntax, notation, axiom, sorry.
-/
import Derived.Test.YtehpgcgdcoahnabChecked
import GoSem.Claim
import GoSem.ClaimJoined
import GoSem.ClaimMapViews
import Derived.JoinedTies
import Derived.KernelRfl
namespace Go.Proofs.Ytehpgcgdcoahnab
/- THE CELL 'sum', in the pinned program and in every row, IS THE sha256 OF THE DUMP (.gsa) THAT YtehpgcgdcoahnabProg.lean LOADS. Nothing in Lean hashes anything: it is a label: what it is worth is what the hold of that sum in a sandbox is worth. -/
noncomputable def Try.pinned : Pinned := { name := "ytehpgcgdcoahnab", sum := "41705952a3ed5ff955b6b5648fb9d5a5b4d5c97294093db1a04617bb3964c73e", checked := Try.checked }
namespace Rows
def none {H : Type} : Left H := { results := [], args := [] }

/-- 'laws.FnParts': WHATEVER THE INPUT: true; the input reads as it did. -/
def fnPartsSpec : ChangeSpec := { name := "fnParts", fn := fun _ => fun
  | [d] => { results := [.lit (.bool true)], args := [d] }
  | _ => none }
def fnPartsRow : OpenClaim := { program := "ytehpgcgdcoahnab", sum := "41705952a3ed5ff955b6b5648fb9d5a5b4d5c97294093db1a04617bb3964c73e", func := "loop.example/fractionrounds/laws.FnParts", spec := "fnParts", unfollowed := true, recurses := true, apart := false }
def FnPartsSaid : Prop := fnPartsRow.holds Try.pinned (OpenSpec.ofChange fnPartsSpec)

/-- ITS FALSE NEIGHBOUR: 'it returns false'. Refute it at one input. -/
def fnPartsWrong : ChangeSpec := { name := "fnParts", fn := fun _ => fun
  | [d] => { results := [.lit (.bool false)], args := [d] }
  | _ => none }
def FnPartsWrongFalsely : Prop := fnPartsRow.holds Try.pinned (OpenSpec.ofChange fnPartsWrong)

/-- 'laws.FnPartRests': WHATEVER THE INPUT: true; the input reads as it did. -/
def fnPartRestsSpec : ChangeSpec := { name := "fnPartRests", fn := fun _ => fun
  | [d] => { results := [.lit (.bool true)], args := [d] }
  | _ => none }
def fnPartRestsRow : OpenClaim := { program := "ytehpgcgdcoahnab", sum := "41705952a3ed5ff955b6b5648fb9d5a5b4d5c97294093db1a04617bb3964c73e", func := "loop.example/fractionrounds/laws.FnPartRests", spec := "fnPartRests", unfollowed := true, recurses := true, apart := false }
def FnPartRestsSaid : Prop := fnPartRestsRow.holds Try.pinned (OpenSpec.ofChange fnPartRestsSpec)

/-- ITS FALSE NEIGHBOUR: 'it returns false'. Refute it at one input. -/
def fnPartRestsWrong : ChangeSpec := { name := "fnPartRests", fn := fun _ => fun
  | [d] => { results := [.lit (.bool false)], args := [d] }
  | _ => none }
def FnPartRestsWrongFalsely : Prop := fnPartRestsRow.holds Try.pinned (OpenSpec.ofChange fnPartRestsWrong)

/-- 'laws.FnPartSum': WHATEVER THE INPUT: true; the input reads as it did. -/
def fnPartSumSpec : ChangeSpec := { name := "fnPartSum", fn := fun _ => fun
  | [d] => { results := [.lit (.bool true)], args := [d] }
  | _ => none }
def fnPartSumRow : OpenClaim := { program := "ytehpgcgdcoahnab", sum := "41705952a3ed5ff955b6b5648fb9d5a5b4d5c97294093db1a04617bb3964c73e", func := "loop.example/fractionrounds/laws.FnPartSum", spec := "fnPartSum", unfollowed := true, recurses := true, apart := false }
def FnPartSumSaid : Prop := fnPartSumRow.holds Try.pinned (OpenSpec.ofChange fnPartSumSpec)

/-- ITS FALSE NEIGHBOUR: 'it returns false'. Refute it at one input. -/
def fnPartSumWrong : ChangeSpec := { name := "fnPartSum", fn := fun _ => fun
  | [d] => { results := [.lit (.bool false)], args := [d] }
  | _ => none }
def FnPartSumWrongFalsely : Prop := fnPartSumRow.holds Try.pinned (OpenSpec.ofChange fnPartSumWrong)

/- THE SECOND FORM. 'bulk': how many values and letters a reading holds, each counted each time it is reached (what is shared counts as often as it is met; a slice's spare places count too). A statement '..UptoSaid' is the law's where the arguments, and the package variables that the reading takes, are together of bulk at most 1048576: NARROWER than '..Said'. Prove '..Said' where nothing that the law and all that it calls make is longer than what came in: it says more and counts as full. Else prove '..UptoSaid'. A law counts once. -/
mutual
def uptoBulk {H : Type} : DataW H → Nat
  | .lit (.string bytes) => bytes.length + 1
  | .lit _ => 1
  | .nil => 1
  | .ptr d => uptoBulk d + 1
  | .slice elems spare => uptoBulkAll elems + uptoBulkAll spare + 1
  | .agg parts => uptoBulkAll parts + 1
  | .iface _ d => uptoBulk d + 1
  | .map entries => uptoBulkEntries entries + 1
  | .held _ => 1
def uptoBulkAll {H : Type} : List (DataW H) → Nat
  | [] => 0
  | d :: r => uptoBulk d + uptoBulkAll r
def uptoBulkEntries {H : Type} : List (Lit × DataW H) → Nat
  | [] => 0
  | x :: r => uptoBulkEntry x + uptoBulkEntries r
def uptoBulkEntry {H : Type} : Lit × DataW H → Nat
  | (.string bytes, d) => bytes.length + uptoBulk d + 1
  | (_, d) => uptoBulk d + 1
 end
def uptoSmall : (H : Type) → List (DataW H) → Bool := fun _ ds => decide (uptoBulkAll ds ≤ 1048576)
def OpenSpec.upto (s : _root_.Go.ChangeSpec) : _root_.Go.OpenSpec := { _root_.Go.OpenSpec.ofChange s with cond := some uptoSmall }

/-- 'laws.FnParts', WHERE WHAT IT READS IS OF BULK AT MOST 1048576: true; the input reads as it did. -/
def fnPartsUptoRow : OpenClaim := { program := "ytehpgcgdcoahnab", sum := "41705952a3ed5ff955b6b5648fb9d5a5b4d5c97294093db1a04617bb3964c73e", func := "loop.example/fractionrounds/laws.FnParts", spec := "fnParts", unfollowed := true, recurses := true, apart := false, narrowed := true }
def FnPartsUptoSaid : Prop := fnPartsUptoRow.holds Try.pinned (OpenSpec.upto fnPartsSpec)

/-- 'laws.FnPartRests', WHERE WHAT IT READS IS OF BULK AT MOST 1048576: true; the input reads as it did. -/
def fnPartRestsUptoRow : OpenClaim := { program := "ytehpgcgdcoahnab", sum := "41705952a3ed5ff955b6b5648fb9d5a5b4d5c97294093db1a04617bb3964c73e", func := "loop.example/fractionrounds/laws.FnPartRests", spec := "fnPartRests", unfollowed := true, recurses := true, apart := false, narrowed := true }
def FnPartRestsUptoSaid : Prop := fnPartRestsUptoRow.holds Try.pinned (OpenSpec.upto fnPartRestsSpec)

/-- 'laws.FnPartSum', WHERE WHAT IT READS IS OF BULK AT MOST 1048576: true; the input reads as it did. -/
def fnPartSumUptoRow : OpenClaim := { program := "ytehpgcgdcoahnab", sum := "41705952a3ed5ff955b6b5648fb9d5a5b4d5c97294093db1a04617bb3964c73e", func := "loop.example/fractionrounds/laws.FnPartSum", spec := "fnPartSum", unfollowed := true, recurses := true, apart := false, narrowed := true }
def FnPartSumUptoSaid : Prop := fnPartSumUptoRow.holds Try.pinned (OpenSpec.upto fnPartSumSpec)

end Rows
end Go.Proofs.Ytehpgcgdcoahnab
