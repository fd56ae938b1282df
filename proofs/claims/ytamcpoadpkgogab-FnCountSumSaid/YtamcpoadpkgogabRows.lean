/-
  No cell of these rows narrows 'for every input' (looked for: loops, veiled, ifaces, maps, wideKeys, modest, calm, conditions, laid).
  DERIVED. THE GIVEN ROWS OF THIS SEAT. 4 by the template 'for every input the law returns true; each argument reads behind the call as it read before'; 0 by the template 'total and deterministic' (their statements: YtamcpoadpkgogabTotals.lean).
  GIVEN WITH THE SEED: the statements are not yours to turn. If you find one false, say at which input.
  Laid BY PROGRAM, IN A SANDBOX (cutbox-rows.mjs): the forced cells as the released guide's own fill.sh prints them over the translation 6a4bf308bc7e8619… (all of the seat's roots in one cut). By AI agents, Wed Nov 11 2026. No macro, syntax, notation, axiom, sorry.
-/
import Derived.Test.YtamcpoadpkgogabChecked
import GoSem.Claim
import GoSem.ClaimJoined
import GoSem.ClaimMapViews
import Derived.JoinedTies
import Derived.KernelRfl
namespace Go.Proofs.Ytamcpoadpkgogab
/- THE CELL 'sum', in the pinned program and in every row, IS THE sha256 OF THE DUMP (.gsa) THAT YtamcpoadpkgogabProg.lean LOADS. Nothing in Lean hashes anything: it is a label: what it is worth is what the hold of that sum in a sandbox is worth. -/
noncomputable def Try.pinned : Pinned := { name := "ytamcpoadpkgogab", sum := "6a4bf308bc7e86197328fbd74c4526076684f4b681c5917da15bb1e6558c91c6", checked := Try.checked }
namespace Rows
def none {H : Type} : Left H := { results := [], args := [] }

/-- 'laws.FnExactCountPairs': WHATEVER THE INPUT: true; the input reads as it did. -/
def fnExactCountPairsSpec : ChangeSpec := { name := "fnExactCountPairs", fn := fun _ => fun
  | [d1, d2] => { results := [.lit (.bool true)], args := [d1, d2] }
  | _ => none }
def fnExactCountPairsRow : OpenClaim := { program := "ytamcpoadpkgogab", sum := "6a4bf308bc7e86197328fbd74c4526076684f4b681c5917da15bb1e6558c91c6", func := "loop.example/fractionrounds/laws.FnExactCountPairs", spec := "fnExactCountPairs", unfollowed := true, recurses := true, apart := false }
def FnExactCountPairsSaid : Prop := fnExactCountPairsRow.holds Try.pinned (OpenSpec.ofChange fnExactCountPairsSpec)

/-- ITS FALSE NEIGHBOUR: 'it returns false'. Refute it at one input. -/
def fnExactCountPairsWrong : ChangeSpec := { name := "fnExactCountPairs", fn := fun _ => fun
  | [d1, d2] => { results := [.lit (.bool false)], args := [d1, d2] }
  | _ => none }
def FnExactCountPairsWrongFalsely : Prop := fnExactCountPairsRow.holds Try.pinned (OpenSpec.ofChange fnExactCountPairsWrong)

/-- 'laws.FnExactCountFull': WHATEVER THE INPUT: true; the input reads as it did. -/
def fnExactCountFullSpec : ChangeSpec := { name := "fnExactCountFull", fn := fun _ => fun
  | [d1, d2, d3] => { results := [.lit (.bool true)], args := [d1, d2, d3] }
  | _ => none }
def fnExactCountFullRow : OpenClaim := { program := "ytamcpoadpkgogab", sum := "6a4bf308bc7e86197328fbd74c4526076684f4b681c5917da15bb1e6558c91c6", func := "loop.example/fractionrounds/laws.FnExactCountFull", spec := "fnExactCountFull", unfollowed := true, recurses := true, apart := false }
def FnExactCountFullSaid : Prop := fnExactCountFullRow.holds Try.pinned (OpenSpec.ofChange fnExactCountFullSpec)

/-- ITS FALSE NEIGHBOUR: 'it returns false'. Refute it at one input. -/
def fnExactCountFullWrong : ChangeSpec := { name := "fnExactCountFull", fn := fun _ => fun
  | [d1, d2, d3] => { results := [.lit (.bool false)], args := [d1, d2, d3] }
  | _ => none }
def FnExactCountFullWrongFalsely : Prop := fnExactCountFullRow.holds Try.pinned (OpenSpec.ofChange fnExactCountFullWrong)

/-- 'laws.FnCounts': WHATEVER THE INPUT: true; the input reads as it did. -/
def fnCountsSpec : ChangeSpec := { name := "fnCounts", fn := fun _ => fun
  | [d] => { results := [.lit (.bool true)], args := [d] }
  | _ => none }
def fnCountsRow : OpenClaim := { program := "ytamcpoadpkgogab", sum := "6a4bf308bc7e86197328fbd74c4526076684f4b681c5917da15bb1e6558c91c6", func := "loop.example/fractionrounds/laws.FnCounts", spec := "fnCounts", unfollowed := true, recurses := true, apart := false }
def FnCountsSaid : Prop := fnCountsRow.holds Try.pinned (OpenSpec.ofChange fnCountsSpec)

/-- ITS FALSE NEIGHBOUR: 'it returns false'. Refute it at one input. -/
def fnCountsWrong : ChangeSpec := { name := "fnCounts", fn := fun _ => fun
  | [d] => { results := [.lit (.bool false)], args := [d] }
  | _ => none }
def FnCountsWrongFalsely : Prop := fnCountsRow.holds Try.pinned (OpenSpec.ofChange fnCountsWrong)

/-- 'laws.FnCountSum': WHATEVER THE INPUT: true; the input reads as it did. -/
def fnCountSumSpec : ChangeSpec := { name := "fnCountSum", fn := fun _ => fun
  | [d] => { results := [.lit (.bool true)], args := [d] }
  | _ => none }
def fnCountSumRow : OpenClaim := { program := "ytamcpoadpkgogab", sum := "6a4bf308bc7e86197328fbd74c4526076684f4b681c5917da15bb1e6558c91c6", func := "loop.example/fractionrounds/laws.FnCountSum", spec := "fnCountSum", unfollowed := true, recurses := true, apart := false }
def FnCountSumSaid : Prop := fnCountSumRow.holds Try.pinned (OpenSpec.ofChange fnCountSumSpec)

/-- ITS FALSE NEIGHBOUR: 'it returns false'. Refute it at one input. -/
def fnCountSumWrong : ChangeSpec := { name := "fnCountSum", fn := fun _ => fun
  | [d] => { results := [.lit (.bool false)], args := [d] }
  | _ => none }
def FnCountSumWrongFalsely : Prop := fnCountSumRow.holds Try.pinned (OpenSpec.ofChange fnCountSumWrong)

/- THE SECOND FORM. 'bulk': how many values and letters a reading holds, each counted each time it is reached (what is shared counts as often as it is met; a slice's spare places count too). A statement '..UptoSaid' is the law's where the arguments, and the package variables that the reading takes, are together of bulk at most 1048576: NARROWER than '..Said'. Prove '..Said' where nothing that the law and all that it calls make is longer than what came in: it says more and counts as full. Else prove '..UptoSaid'. A law counts once. -/
mutual
def uptoBulk {H : Type} : DataW H → Nat
  | .lit (.string bytes) => bytes.length + 1
  | .lit _ => 1
  | .nil => 1
  | .ptr d => uptoBulk d + 1
  | .slice elems spare => uptoBulkAll elems + uptoBulkAll spare + 1
  | .agg parts => uptoBulkAll parts + 1
  | .iface _ d => uptoBulk d + 1
  | .map entries => uptoBulkEntries entries + 1
  | .held _ => 1
def uptoBulkAll {H : Type} : List (DataW H) → Nat
  | [] => 0
  | d :: r => uptoBulk d + uptoBulkAll r
def uptoBulkEntries {H : Type} : List (Lit × DataW H) → Nat
  | [] => 0
  | x :: r => uptoBulkEntry x + uptoBulkEntries r
def uptoBulkEntry {H : Type} : Lit × DataW H → Nat
  | (.string bytes, d) => bytes.length + uptoBulk d + 1
  | (_, d) => uptoBulk d + 1
 end
def uptoSmall : (H : Type) → List (DataW H) → Bool := fun _ ds => decide (uptoBulkAll ds ≤ 1048576)
def OpenSpec.upto (s : _root_.Go.ChangeSpec) : _root_.Go.OpenSpec := { _root_.Go.OpenSpec.ofChange s with cond := some uptoSmall }

/-- 'laws.FnExactCountPairs', WHERE WHAT IT READS IS OF BULK AT MOST 1048576: true; the input reads as it did. -/
def fnExactCountPairsUptoRow : OpenClaim := { program := "ytamcpoadpkgogab", sum := "6a4bf308bc7e86197328fbd74c4526076684f4b681c5917da15bb1e6558c91c6", func := "loop.example/fractionrounds/laws.FnExactCountPairs", spec := "fnExactCountPairs", unfollowed := true, recurses := true, apart := false, narrowed := true }
def FnExactCountPairsUptoSaid : Prop := fnExactCountPairsUptoRow.holds Try.pinned (OpenSpec.upto fnExactCountPairsSpec)

/-- 'laws.FnExactCountFull', WHERE WHAT IT READS IS OF BULK AT MOST 1048576: true; the input reads as it did. -/
def fnExactCountFullUptoRow : OpenClaim := { program := "ytamcpoadpkgogab", sum := "6a4bf308bc7e86197328fbd74c4526076684f4b681c5917da15bb1e6558c91c6", func := "loop.example/fractionrounds/laws.FnExactCountFull", spec := "fnExactCountFull", unfollowed := true, recurses := true, apart := false, narrowed := true }
def FnExactCountFullUptoSaid : Prop := fnExactCountFullUptoRow.holds Try.pinned (OpenSpec.upto fnExactCountFullSpec)

/-- 'laws.FnCounts', WHERE WHAT IT READS IS OF BULK AT MOST 1048576: true; the input reads as it did. -/
def fnCountsUptoRow : OpenClaim := { program := "ytamcpoadpkgogab", sum := "6a4bf308bc7e86197328fbd74c4526076684f4b681c5917da15bb1e6558c91c6", func := "loop.example/fractionrounds/laws.FnCounts", spec := "fnCounts", unfollowed := true, recurses := true, apart := false, narrowed := true }
def FnCountsUptoSaid : Prop := fnCountsUptoRow.holds Try.pinned (OpenSpec.upto fnCountsSpec)

/-- 'laws.FnCountSum', WHERE WHAT IT READS IS OF BULK AT MOST 1048576: true; the input reads as it did. -/
def fnCountSumUptoRow : OpenClaim := { program := "ytamcpoadpkgogab", sum := "6a4bf308bc7e86197328fbd74c4526076684f4b681c5917da15bb1e6558c91c6", func := "loop.example/fractionrounds/laws.FnCountSum", spec := "fnCountSum", unfollowed := true, recurses := true, apart := false, narrowed := true }
def FnCountSumUptoSaid : Prop := fnCountSumUptoRow.holds Try.pinned (OpenSpec.upto fnCountSumSpec)

end Rows
end Go.Proofs.Ytamcpoadpkgogab
