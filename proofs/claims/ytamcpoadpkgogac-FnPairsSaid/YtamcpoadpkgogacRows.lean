/-
  No cell of these rows narrows 'for every input' (looked for: loops, veiled, ifaces, maps, wideKeys, modest, calm, conditions, laid).
  DERIVED. THE GIVEN ROWS OF THIS SEAT. 4 by the template 'for every input the law returns true; each argument reads behind the call as it read before'; 0 by the template 'total and deterministic' (their statements: YtamcpoadpkgogacTotals.lean).
  GIVEN WITH THE SEED: the statements are not yours to turn. If you find one false, say at which input.
  Laid BY PROGRAM, IN A SANDBOX (cutbox-rows.mjs): the forced cells as the released guide's own fill.sh prints them over the translation a777daee4d540a6d… (all of the seat's roots in one cut). By AI agents, Wed Nov 11 2026. No macro, syntax, notation, axiom, sorry.
-/
import Derived.Test.YtamcpoadpkgogacChecked
import GoSem.Claim
import GoSem.ClaimJoined
import GoSem.ClaimMapViews
import Derived.JoinedTies
import Derived.KernelRfl
namespace Go.Proofs.Ytamcpoadpkgogac
/- THE CELL 'sum', in the pinned program and in every row, IS THE sha256 OF THE DUMP (.gsa) THAT YtamcpoadpkgogacProg.lean LOADS. Nothing in Lean hashes anything: it is a label: what it is worth is what the hold of that sum in a sandbox is worth. -/
noncomputable def Try.pinned : Pinned := { name := "ytamcpoadpkgogac", sum := "a777daee4d540a6de3916d66001a67e31bae4365251603876144fe53eacfeacf", checked := Try.checked }
namespace Rows
def none {H : Type} : Left H := { results := [], args := [] }

/-- 'laws.FnCountMost': WHATEVER THE INPUT: true; the input reads as it did. -/
def fnCountMostSpec : ChangeSpec := { name := "fnCountMost", fn := fun _ => fun
  | [d] => { results := [.lit (.bool true)], args := [d] }
  | _ => none }
def fnCountMostRow : OpenClaim := { program := "ytamcpoadpkgogac", sum := "a777daee4d540a6de3916d66001a67e31bae4365251603876144fe53eacfeacf", func := "loop.example/fractionrounds/laws.FnCountMost", spec := "fnCountMost", unfollowed := true, recurses := true, apart := false }
def FnCountMostSaid : Prop := fnCountMostRow.holds Try.pinned (OpenSpec.ofChange fnCountMostSpec)

/-- ITS FALSE NEIGHBOUR: 'it returns false'. Refute it at one input. -/
def fnCountMostWrong : ChangeSpec := { name := "fnCountMost", fn := fun _ => fun
  | [d] => { results := [.lit (.bool false)], args := [d] }
  | _ => none }
def FnCountMostWrongFalsely : Prop := fnCountMostRow.holds Try.pinned (OpenSpec.ofChange fnCountMostWrong)

/-- 'laws.FnCountHalves': WHATEVER THE INPUT: true; the input reads as it did. -/
def fnCountHalvesSpec : ChangeSpec := { name := "fnCountHalves", fn := fun _ => fun
  | [d] => { results := [.lit (.bool true)], args := [d] }
  | _ => none }
def fnCountHalvesRow : OpenClaim := { program := "ytamcpoadpkgogac", sum := "a777daee4d540a6de3916d66001a67e31bae4365251603876144fe53eacfeacf", func := "loop.example/fractionrounds/laws.FnCountHalves", spec := "fnCountHalves", unfollowed := true, recurses := true, apart := false }
def FnCountHalvesSaid : Prop := fnCountHalvesRow.holds Try.pinned (OpenSpec.ofChange fnCountHalvesSpec)

/-- ITS FALSE NEIGHBOUR: 'it returns false'. Refute it at one input. -/
def fnCountHalvesWrong : ChangeSpec := { name := "fnCountHalves", fn := fun _ => fun
  | [d] => { results := [.lit (.bool false)], args := [d] }
  | _ => none }
def FnCountHalvesWrongFalsely : Prop := fnCountHalvesRow.holds Try.pinned (OpenSpec.ofChange fnCountHalvesWrong)

/-- 'laws.FnRuns': WHATEVER THE INPUT: true; the input reads as it did. -/
def fnRunsSpec : ChangeSpec := { name := "fnRuns", fn := fun _ => fun
  | [d] => { results := [.lit (.bool true)], args := [d] }
  | _ => none }
def fnRunsRow : OpenClaim := { program := "ytamcpoadpkgogac", sum := "a777daee4d540a6de3916d66001a67e31bae4365251603876144fe53eacfeacf", func := "loop.example/fractionrounds/laws.FnRuns", spec := "fnRuns", unfollowed := true, recurses := true, apart := false }
def FnRunsSaid : Prop := fnRunsRow.holds Try.pinned (OpenSpec.ofChange fnRunsSpec)

/-- ITS FALSE NEIGHBOUR: 'it returns false'. Refute it at one input. -/
def fnRunsWrong : ChangeSpec := { name := "fnRuns", fn := fun _ => fun
  | [d] => { results := [.lit (.bool false)], args := [d] }
  | _ => none }
def FnRunsWrongFalsely : Prop := fnRunsRow.holds Try.pinned (OpenSpec.ofChange fnRunsWrong)

/-- 'laws.FnPairs': WHATEVER THE INPUT: true; the input reads as it did. -/
def fnPairsSpec : ChangeSpec := { name := "fnPairs", fn := fun _ => fun
  | [d] => { results := [.lit (.bool true)], args := [d] }
  | _ => none }
def fnPairsRow : OpenClaim := { program := "ytamcpoadpkgogac", sum := "a777daee4d540a6de3916d66001a67e31bae4365251603876144fe53eacfeacf", func := "loop.example/fractionrounds/laws.FnPairs", spec := "fnPairs", unfollowed := true, recurses := true, apart := false }
def FnPairsSaid : Prop := fnPairsRow.holds Try.pinned (OpenSpec.ofChange fnPairsSpec)

/-- ITS FALSE NEIGHBOUR: 'it returns false'. Refute it at one input. -/
def fnPairsWrong : ChangeSpec := { name := "fnPairs", fn := fun _ => fun
  | [d] => { results := [.lit (.bool false)], args := [d] }
  | _ => none }
def FnPairsWrongFalsely : Prop := fnPairsRow.holds Try.pinned (OpenSpec.ofChange fnPairsWrong)

/- THE SECOND FORM. 'bulk': how many values and letters a reading holds, each counted each time it is reached (what is shared counts as often as it is met; a slice's spare places count too). A statement '..UptoSaid' is the law's where the arguments, and the package variables that the reading takes, are together of bulk at most 1048576: NARROWER than '..Said'. Prove '..Said' where nothing that the law and all that it calls make is longer than what came in: it says more and counts as full. Else prove '..UptoSaid'. A law counts once. -/
mutual
def uptoBulk {H : Type} : DataW H → Nat
  | .lit (.string bytes) => bytes.length + 1
  | .lit _ => 1
  | .nil => 1
  | .ptr d => uptoBulk d + 1
  | .slice elems spare => uptoBulkAll elems + uptoBulkAll spare + 1
  | .agg parts => uptoBulkAll parts + 1
  | .iface _ d => uptoBulk d + 1
  | .map entries => uptoBulkEntries entries + 1
  | .held _ => 1
def uptoBulkAll {H : Type} : List (DataW H) → Nat
  | [] => 0
  | d :: r => uptoBulk d + uptoBulkAll r
def uptoBulkEntries {H : Type} : List (Lit × DataW H) → Nat
  | [] => 0
  | x :: r => uptoBulkEntry x + uptoBulkEntries r
def uptoBulkEntry {H : Type} : Lit × DataW H → Nat
  | (.string bytes, d) => bytes.length + uptoBulk d + 1
  | (_, d) => uptoBulk d + 1
 end
def uptoSmall : (H : Type) → List (DataW H) → Bool := fun _ ds => decide (uptoBulkAll ds ≤ 1048576)
def OpenSpec.upto (s : _root_.Go.ChangeSpec) : _root_.Go.OpenSpec := { _root_.Go.OpenSpec.ofChange s with cond := some uptoSmall }

/-- 'laws.FnCountMost', WHERE WHAT IT READS IS OF BULK AT MOST 1048576: true; the input reads as it did. -/
def fnCountMostUptoRow : OpenClaim := { program := "ytamcpoadpkgogac", sum := "a777daee4d540a6de3916d66001a67e31bae4365251603876144fe53eacfeacf", func := "loop.example/fractionrounds/laws.FnCountMost", spec := "fnCountMost", unfollowed := true, recurses := true, apart := false, narrowed := true }
def FnCountMostUptoSaid : Prop := fnCountMostUptoRow.holds Try.pinned (OpenSpec.upto fnCountMostSpec)

/-- 'laws.FnCountHalves', WHERE WHAT IT READS IS OF BULK AT MOST 1048576: true; the input reads as it did. -/
def fnCountHalvesUptoRow : OpenClaim := { program := "ytamcpoadpkgogac", sum := "a777daee4d540a6de3916d66001a67e31bae4365251603876144fe53eacfeacf", func := "loop.example/fractionrounds/laws.FnCountHalves", spec := "fnCountHalves", unfollowed := true, recurses := true, apart := false, narrowed := true }
def FnCountHalvesUptoSaid : Prop := fnCountHalvesUptoRow.holds Try.pinned (OpenSpec.upto fnCountHalvesSpec)

/-- 'laws.FnRuns', WHERE WHAT IT READS IS OF BULK AT MOST 1048576: true; the input reads as it did. -/
def fnRunsUptoRow : OpenClaim := { program := "ytamcpoadpkgogac", sum := "a777daee4d540a6de3916d66001a67e31bae4365251603876144fe53eacfeacf", func := "loop.example/fractionrounds/laws.FnRuns", spec := "fnRuns", unfollowed := true, recurses := true, apart := false, narrowed := true }
def FnRunsUptoSaid : Prop := fnRunsUptoRow.holds Try.pinned (OpenSpec.upto fnRunsSpec)

/-- 'laws.FnPairs', WHERE WHAT IT READS IS OF BULK AT MOST 1048576: true; the input reads as it did. -/
def fnPairsUptoRow : OpenClaim := { program := "ytamcpoadpkgogac", sum := "a777daee4d540a6de3916d66001a67e31bae4365251603876144fe53eacfeacf", func := "loop.example/fractionrounds/laws.FnPairs", spec := "fnPairs", unfollowed := true, recurses := true, apart := false, narrowed := true }
def FnPairsUptoSaid : Prop := fnPairsUptoRow.holds Try.pinned (OpenSpec.upto fnPairsSpec)

end Rows
end Go.Proofs.Ytamcpoadpkgogac
