/-
  No cell of these rows narrows 'for every input' (looked for: loops, veiled, ifaces, maps, wideKeys, modest, calm, conditions, laid).
  DERIVED. THE GIVEN ROWS OF THIS SEAT. 4 by the template 'for every input the law returns true; each argument reads behind the call as it read before'; 0 by the template 'total and deterministic' (their statements: YtehpgcgdcoahnaaTotals.lean).
  GIVEN WITH THE SEED: the statements are not yours to turn. If you find one false, say at which input.
  Laid BY PROGRAM, IN A SANDBOX (cutbox-rows.mjs): the forced cells as the released guide's own fill.sh prints them over the translation a3d08f2b7beca83c… (all of the seat's roots in one cut). By AI agents, Wed Nov 11 2026. No macro, syntax, notation, axiom, sorry.
-/
import Derived.Test.YtehpgcgdcoahnaaChecked
import GoSem.Claim
import GoSem.ClaimJoined
import GoSem.ClaimMapViews
import Derived.JoinedTies
import Derived.KernelRfl
namespace Go.Proofs.Ytehpgcgdcoahnaa
/- THE CELL 'sum', in the pinned program and in every row, IS THE sha256 OF THE DUMP (.gsa) THAT YtehpgcgdcoahnaaProg.lean LOADS. Nothing in Lean hashes anything: it is a label: what it is worth is what the hold of that sum in a sandbox is worth. -/
noncomputable def Try.pinned : Pinned := { name := "ytehpgcgdcoahnaa", sum := "a3d08f2b7beca83cfb8e069fec2a941d2e2f1d629cea76b144fe9ed04596932d", checked := Try.checked }
namespace Rows
def none {H : Type} : Left H := { results := [], args := [] }

/-- 'laws.FnExactPartList': WHATEVER THE INPUT: true; the input reads as it did. -/
def fnExactPartListSpec : ChangeSpec := { name := "fnExactPartList", fn := fun _ => fun
  | [d1, d2, d3] => { results := [.lit (.bool true)], args := [d1, d2, d3] }
  | _ => none }
def fnExactPartListRow : OpenClaim := { program := "ytehpgcgdcoahnaa", sum := "a3d08f2b7beca83cfb8e069fec2a941d2e2f1d629cea76b144fe9ed04596932d", func := "loop.example/fractionrounds/laws.FnExactPartList", spec := "fnExactPartList", unfollowed := true, recurses := true, apart := false }
def FnExactPartListSaid : Prop := fnExactPartListRow.holds Try.pinned (OpenSpec.ofChange fnExactPartListSpec)

/-- ITS FALSE NEIGHBOUR: 'it returns false'. Refute it at one input. -/
def fnExactPartListWrong : ChangeSpec := { name := "fnExactPartList", fn := fun _ => fun
  | [d1, d2, d3] => { results := [.lit (.bool false)], args := [d1, d2, d3] }
  | _ => none }
def FnExactPartListWrongFalsely : Prop := fnExactPartListRow.holds Try.pinned (OpenSpec.ofChange fnExactPartListWrong)

/-- 'laws.FnExactPartHalves': WHATEVER THE INPUT: true; the input reads as it did. -/
def fnExactPartHalvesSpec : ChangeSpec := { name := "fnExactPartHalves", fn := fun _ => fun
  | [d1, d2] => { results := [.lit (.bool true)], args := [d1, d2] }
  | _ => none }
def fnExactPartHalvesRow : OpenClaim := { program := "ytehpgcgdcoahnaa", sum := "a3d08f2b7beca83cfb8e069fec2a941d2e2f1d629cea76b144fe9ed04596932d", func := "loop.example/fractionrounds/laws.FnExactPartHalves", spec := "fnExactPartHalves", unfollowed := true, recurses := true, apart := false }
def FnExactPartHalvesSaid : Prop := fnExactPartHalvesRow.holds Try.pinned (OpenSpec.ofChange fnExactPartHalvesSpec)

/-- ITS FALSE NEIGHBOUR: 'it returns false'. Refute it at one input. -/
def fnExactPartHalvesWrong : ChangeSpec := { name := "fnExactPartHalves", fn := fun _ => fun
  | [d1, d2] => { results := [.lit (.bool false)], args := [d1, d2] }
  | _ => none }
def FnExactPartHalvesWrongFalsely : Prop := fnExactPartHalvesRow.holds Try.pinned (OpenSpec.ofChange fnExactPartHalvesWrong)

/-- 'laws.FnExactPartRests': WHATEVER THE INPUT: true; the input reads as it did. -/
def fnExactPartRestsSpec : ChangeSpec := { name := "fnExactPartRests", fn := fun _ => fun
  | [d1, d2, d3] => { results := [.lit (.bool true)], args := [d1, d2, d3] }
  | _ => none }
def fnExactPartRestsRow : OpenClaim := { program := "ytehpgcgdcoahnaa", sum := "a3d08f2b7beca83cfb8e069fec2a941d2e2f1d629cea76b144fe9ed04596932d", func := "loop.example/fractionrounds/laws.FnExactPartRests", spec := "fnExactPartRests", unfollowed := true, recurses := true, apart := false }
def FnExactPartRestsSaid : Prop := fnExactPartRestsRow.holds Try.pinned (OpenSpec.ofChange fnExactPartRestsSpec)

/-- ITS FALSE NEIGHBOUR: 'it returns false'. Refute it at one input. -/
def fnExactPartRestsWrong : ChangeSpec := { name := "fnExactPartRests", fn := fun _ => fun
  | [d1, d2, d3] => { results := [.lit (.bool false)], args := [d1, d2, d3] }
  | _ => none }
def FnExactPartRestsWrongFalsely : Prop := fnExactPartRestsRow.holds Try.pinned (OpenSpec.ofChange fnExactPartRestsWrong)

/-- 'laws.FnExactPartSum': WHATEVER THE INPUT: true; the input reads as it did. -/
def fnExactPartSumSpec : ChangeSpec := { name := "fnExactPartSum", fn := fun _ => fun
  | [d1, d2, d3] => { results := [.lit (.bool true)], args := [d1, d2, d3] }
  | _ => none }
def fnExactPartSumRow : OpenClaim := { program := "ytehpgcgdcoahnaa", sum := "a3d08f2b7beca83cfb8e069fec2a941d2e2f1d629cea76b144fe9ed04596932d", func := "loop.example/fractionrounds/laws.FnExactPartSum", spec := "fnExactPartSum", unfollowed := true, recurses := true, apart := false }
def FnExactPartSumSaid : Prop := fnExactPartSumRow.holds Try.pinned (OpenSpec.ofChange fnExactPartSumSpec)

/-- ITS FALSE NEIGHBOUR: 'it returns false'. Refute it at one input. -/
def fnExactPartSumWrong : ChangeSpec := { name := "fnExactPartSum", fn := fun _ => fun
  | [d1, d2, d3] => { results := [.lit (.bool false)], args := [d1, d2, d3] }
  | _ => none }
def FnExactPartSumWrongFalsely : Prop := fnExactPartSumRow.holds Try.pinned (OpenSpec.ofChange fnExactPartSumWrong)

/- THE SECOND FORM. 'bulk': how many values and letters a reading holds, each counted each time it is reached (what is shared counts as often as it is met; a slice's spare places count too). A statement '..UptoSaid' is the law's where the arguments, and the package variables that the reading takes, are together of bulk at most 1048576: NARROWER than '..Said'. Prove '..Said' where nothing that the law and all that it calls make is longer than what came in: it says more and counts as full. Else prove '..UptoSaid'. A law counts once. -/
mutual
def uptoBulk {H : Type} : DataW H → Nat
  | .lit (.string bytes) => bytes.length + 1
  | .lit _ => 1
  | .nil => 1
  | .ptr d => uptoBulk d + 1
  | .slice elems spare => uptoBulkAll elems + uptoBulkAll spare + 1
  | .agg parts => uptoBulkAll parts + 1
  | .iface _ d => uptoBulk d + 1
  | .map entries => uptoBulkEntries entries + 1
  | .held _ => 1
def uptoBulkAll {H : Type} : List (DataW H) → Nat
  | [] => 0
  | d :: r => uptoBulk d + uptoBulkAll r
def uptoBulkEntries {H : Type} : List (Lit × DataW H) → Nat
  | [] => 0
  | x :: r => uptoBulkEntry x + uptoBulkEntries r
def uptoBulkEntry {H : Type} : Lit × DataW H → Nat
  | (.string bytes, d) => bytes.length + uptoBulk d + 1
  | (_, d) => uptoBulk d + 1
 end
def uptoSmall : (H : Type) → List (DataW H) → Bool := fun _ ds => decide (uptoBulkAll ds ≤ 1048576)
def OpenSpec.upto (s : _root_.Go.ChangeSpec) : _root_.Go.OpenSpec := { _root_.Go.OpenSpec.ofChange s with cond := some uptoSmall }

/-- 'laws.FnExactPartList', WHERE WHAT IT READS IS OF BULK AT MOST 1048576: true; the input reads as it did. -/
def fnExactPartListUptoRow : OpenClaim := { program := "ytehpgcgdcoahnaa", sum := "a3d08f2b7beca83cfb8e069fec2a941d2e2f1d629cea76b144fe9ed04596932d", func := "loop.example/fractionrounds/laws.FnExactPartList", spec := "fnExactPartList", unfollowed := true, recurses := true, apart := false, narrowed := true }
def FnExactPartListUptoSaid : Prop := fnExactPartListUptoRow.holds Try.pinned (OpenSpec.upto fnExactPartListSpec)

/-- 'laws.FnExactPartHalves', WHERE WHAT IT READS IS OF BULK AT MOST 1048576: true; the input reads as it did. -/
def fnExactPartHalvesUptoRow : OpenClaim := { program := "ytehpgcgdcoahnaa", sum := "a3d08f2b7beca83cfb8e069fec2a941d2e2f1d629cea76b144fe9ed04596932d", func := "loop.example/fractionrounds/laws.FnExactPartHalves", spec := "fnExactPartHalves", unfollowed := true, recurses := true, apart := false, narrowed := true }
def FnExactPartHalvesUptoSaid : Prop := fnExactPartHalvesUptoRow.holds Try.pinned (OpenSpec.upto fnExactPartHalvesSpec)

/-- 'laws.FnExactPartRests', WHERE WHAT IT READS IS OF BULK AT MOST 1048576: true; the input reads as it did. -/
def fnExactPartRestsUptoRow : OpenClaim := { program := "ytehpgcgdcoahnaa", sum := "a3d08f2b7beca83cfb8e069fec2a941d2e2f1d629cea76b144fe9ed04596932d", func := "loop.example/fractionrounds/laws.FnExactPartRests", spec := "fnExactPartRests", unfollowed := true, recurses := true, apart := false, narrowed := true }
def FnExactPartRestsUptoSaid : Prop := fnExactPartRestsUptoRow.holds Try.pinned (OpenSpec.upto fnExactPartRestsSpec)

/-- 'laws.FnExactPartSum', WHERE WHAT IT READS IS OF BULK AT MOST 1048576: true; the input reads as it did. -/
def fnExactPartSumUptoRow : OpenClaim := { program := "ytehpgcgdcoahnaa", sum := "a3d08f2b7beca83cfb8e069fec2a941d2e2f1d629cea76b144fe9ed04596932d", func := "loop.example/fractionrounds/laws.FnExactPartSum", spec := "fnExactPartSum", unfollowed := true, recurses := true, apart := false, narrowed := true }
def FnExactPartSumUptoSaid : Prop := fnExactPartSumUptoRow.holds Try.pinned (OpenSpec.upto fnExactPartSumSpec)

end Rows
end Go.Proofs.Ytehpgcgdcoahnaa
