/-
  No cell of these rows narrows 'for every input' (looked for: loops, veiled, ifaces, maps, wideKeys, modest, calm, conditions, laid).
  DERIVED. THE GIVEN ROWS OF THIS SEAT. 4 by the template 'for every input the law returns true; each argument reads behind the call as it read before'; 0 by the template 'total and deterministic' (their statements: YtagkbpdfpeadbacTotals.lean).
  GIVEN WITH THE SEED: the statements are not yours to turn. If you find one false, say at which input.
  Laid BY PROGRAM, IN A SANDBOX (cutbox-rows.mjs): the forced cells as the released guide's own fill.sh prints them over the translation 49ff4299c21fb393… (all of the seat's roots in one cut). By AI agents, Wed Nov 11 2026. No macro, syntax, notation, axiom, sorry.
-/
import Derived.Test.YtagkbpdfpeadbacChecked
import GoSem.Claim
import GoSem.ClaimJoined
import GoSem.ClaimMapViews
import Derived.JoinedTies
import Derived.KernelRfl
namespace Go.Proofs.Ytagkbpdfpeadbac
/- THE CELL 'sum', in the pinned program and in every row, IS THE sha256 OF THE DUMP (.gsa) THAT YtagkbpdfpeadbacProg.lean LOADS. Nothing in Lean hashes anything: it is a label: what it is worth is what the hold of that sum in a sandbox is worth. -/
noncomputable def Try.pinned : Pinned := { name := "ytagkbpdfpeadbac", sum := "49ff4299c21fb39327430bcb065f2bcecc5eb03c073bc6ebc253787969a0ea25", checked := Try.checked }
namespace Rows
def none {H : Type} : Left H := { results := [], args := [] }

/-- 'laws.FnTurnBy': WHATEVER THE INPUT: true; the input reads as it did. -/
def fnTurnBySpec : ChangeSpec := { name := "fnTurnBy", fn := fun _ => fun
  | [d] => { results := [.lit (.bool true)], args := [d] }
  | _ => none }
def fnTurnByRow : OpenClaim := { program := "ytagkbpdfpeadbac", sum := "49ff4299c21fb39327430bcb065f2bcecc5eb03c073bc6ebc253787969a0ea25", func := "loop.example/fractionrounds/laws.FnTurnBy", spec := "fnTurnBy", apart := false }
def FnTurnBySaid : Prop := fnTurnByRow.holds Try.pinned (OpenSpec.ofChange fnTurnBySpec)

/-- ITS FALSE NEIGHBOUR: 'it returns false'. Refute it at one input. -/
def fnTurnByWrong : ChangeSpec := { name := "fnTurnBy", fn := fun _ => fun
  | [d] => { results := [.lit (.bool false)], args := [d] }
  | _ => none }
def FnTurnByWrongFalsely : Prop := fnTurnByRow.holds Try.pinned (OpenSpec.ofChange fnTurnByWrong)

/-- 'laws.FnTurnLeast': WHATEVER THE INPUT: true; the input reads as it did. -/
def fnTurnLeastSpec : ChangeSpec := { name := "fnTurnLeast", fn := fun _ => fun
  | [d] => { results := [.lit (.bool true)], args := [d] }
  | _ => none }
def fnTurnLeastRow : OpenClaim := { program := "ytagkbpdfpeadbac", sum := "49ff4299c21fb39327430bcb065f2bcecc5eb03c073bc6ebc253787969a0ea25", func := "loop.example/fractionrounds/laws.FnTurnLeast", spec := "fnTurnLeast", apart := false }
def FnTurnLeastSaid : Prop := fnTurnLeastRow.holds Try.pinned (OpenSpec.ofChange fnTurnLeastSpec)

/-- ITS FALSE NEIGHBOUR: 'it returns false'. Refute it at one input. -/
def fnTurnLeastWrong : ChangeSpec := { name := "fnTurnLeast", fn := fun _ => fun
  | [d] => { results := [.lit (.bool false)], args := [d] }
  | _ => none }
def FnTurnLeastWrongFalsely : Prop := fnTurnLeastRow.holds Try.pinned (OpenSpec.ofChange fnTurnLeastWrong)

/-- 'laws.FnCyclic': WHATEVER THE INPUT: true; the input reads as it did. -/
def fnCyclicSpec : ChangeSpec := { name := "fnCyclic", fn := fun _ => fun
  | [d] => { results := [.lit (.bool true)], args := [d] }
  | _ => none }
def fnCyclicRow : OpenClaim := { program := "ytagkbpdfpeadbac", sum := "49ff4299c21fb39327430bcb065f2bcecc5eb03c073bc6ebc253787969a0ea25", func := "loop.example/fractionrounds/laws.FnCyclic", spec := "fnCyclic", unfollowed := true, recurses := true, apart := false }
def FnCyclicSaid : Prop := fnCyclicRow.holds Try.pinned (OpenSpec.ofChange fnCyclicSpec)

/-- ITS FALSE NEIGHBOUR: 'it returns false'. Refute it at one input. -/
def fnCyclicWrong : ChangeSpec := { name := "fnCyclic", fn := fun _ => fun
  | [d] => { results := [.lit (.bool false)], args := [d] }
  | _ => none }
def FnCyclicWrongFalsely : Prop := fnCyclicRow.holds Try.pinned (OpenSpec.ofChange fnCyclicWrong)

/-- 'laws.FnFind': WHATEVER THE INPUT: true; the input reads as it did. -/
def fnFindSpec : ChangeSpec := { name := "fnFind", fn := fun _ => fun
  | [d] => { results := [.lit (.bool true)], args := [d] }
  | _ => none }
def fnFindRow : OpenClaim := { program := "ytagkbpdfpeadbac", sum := "49ff4299c21fb39327430bcb065f2bcecc5eb03c073bc6ebc253787969a0ea25", func := "loop.example/fractionrounds/laws.FnFind", spec := "fnFind", unfollowed := true, recurses := true, apart := false }
def FnFindSaid : Prop := fnFindRow.holds Try.pinned (OpenSpec.ofChange fnFindSpec)

/-- ITS FALSE NEIGHBOUR: 'it returns false'. Refute it at one input. -/
def fnFindWrong : ChangeSpec := { name := "fnFind", fn := fun _ => fun
  | [d] => { results := [.lit (.bool false)], args := [d] }
  | _ => none }
def FnFindWrongFalsely : Prop := fnFindRow.holds Try.pinned (OpenSpec.ofChange fnFindWrong)

/- THE SECOND FORM. 'bulk': how many values and letters a reading holds, each counted each time it is reached (what is shared counts as often as it is met; a slice's spare places count too). A statement '..UptoSaid' is the law's where the arguments, and the package variables that the reading takes, are together of bulk at most 1048576: NARROWER than '..Said'. Prove '..Said' where nothing that the law and all that it calls make is longer than what came in: it says more and counts as full. Else prove '..UptoSaid'. A law counts once. -/
mutual
def uptoBulk {H : Type} : DataW H → Nat
  | .lit (.string bytes) => bytes.length + 1
  | .lit _ => 1
  | .nil => 1
  | .ptr d => uptoBulk d + 1
  | .slice elems spare => uptoBulkAll elems + uptoBulkAll spare + 1
  | .agg parts => uptoBulkAll parts + 1
  | .iface _ d => uptoBulk d + 1
  | .map entries => uptoBulkEntries entries + 1
  | .held _ => 1
def uptoBulkAll {H : Type} : List (DataW H) → Nat
  | [] => 0
  | d :: r => uptoBulk d + uptoBulkAll r
def uptoBulkEntries {H : Type} : List (Lit × DataW H) → Nat
  | [] => 0
  | x :: r => uptoBulkEntry x + uptoBulkEntries r
def uptoBulkEntry {H : Type} : Lit × DataW H → Nat
  | (.string bytes, d) => bytes.length + uptoBulk d + 1
  | (_, d) => uptoBulk d + 1
 end
def uptoSmall : (H : Type) → List (DataW H) → Bool := fun _ ds => decide (uptoBulkAll ds ≤ 1048576)
def OpenSpec.upto (s : _root_.Go.ChangeSpec) : _root_.Go.OpenSpec := { _root_.Go.OpenSpec.ofChange s with cond := some uptoSmall }

/-- 'laws.FnTurnBy', WHERE WHAT IT READS IS OF BULK AT MOST 1048576: true; the input reads as it did. -/
def fnTurnByUptoRow : OpenClaim := { program := "ytagkbpdfpeadbac", sum := "49ff4299c21fb39327430bcb065f2bcecc5eb03c073bc6ebc253787969a0ea25", func := "loop.example/fractionrounds/laws.FnTurnBy", spec := "fnTurnBy", apart := false, narrowed := true }
def FnTurnByUptoSaid : Prop := fnTurnByUptoRow.holds Try.pinned (OpenSpec.upto fnTurnBySpec)

/-- 'laws.FnTurnLeast', WHERE WHAT IT READS IS OF BULK AT MOST 1048576: true; the input reads as it did. -/
def fnTurnLeastUptoRow : OpenClaim := { program := "ytagkbpdfpeadbac", sum := "49ff4299c21fb39327430bcb065f2bcecc5eb03c073bc6ebc253787969a0ea25", func := "loop.example/fractionrounds/laws.FnTurnLeast", spec := "fnTurnLeast", apart := false, narrowed := true }
def FnTurnLeastUptoSaid : Prop := fnTurnLeastUptoRow.holds Try.pinned (OpenSpec.upto fnTurnLeastSpec)

/-- 'laws.FnCyclic', WHERE WHAT IT READS IS OF BULK AT MOST 1048576: true; the input reads as it did. -/
def fnCyclicUptoRow : OpenClaim := { program := "ytagkbpdfpeadbac", sum := "49ff4299c21fb39327430bcb065f2bcecc5eb03c073bc6ebc253787969a0ea25", func := "loop.example/fractionrounds/laws.FnCyclic", spec := "fnCyclic", unfollowed := true, recurses := true, apart := false, narrowed := true }
def FnCyclicUptoSaid : Prop := fnCyclicUptoRow.holds Try.pinned (OpenSpec.upto fnCyclicSpec)

/-- 'laws.FnFind', WHERE WHAT IT READS IS OF BULK AT MOST 1048576: true; the input reads as it did. -/
def fnFindUptoRow : OpenClaim := { program := "ytagkbpdfpeadbac", sum := "49ff4299c21fb39327430bcb065f2bcecc5eb03c073bc6ebc253787969a0ea25", func := "loop.example/fractionrounds/laws.FnFind", spec := "fnFind", unfollowed := true, recurses := true, apart := false, narrowed := true }
def FnFindUptoSaid : Prop := fnFindUptoRow.holds Try.pinned (OpenSpec.upto fnFindSpec)

end Rows
end Go.Proofs.Ytagkbpdfpeadbac
