/-
  No cell of these rows narrows 'for every input' (looked for: loops, veiled, ifaces, maps, wideKeys, modest, calm, conditions, laid).
  DERIVED. THE GIVEN ROWS OF THIS SEAT. 4 by the template 'for every input the law returns true; each argument reads behind the call as it read before'; 0 by the template 'total and deterministic' (their statements: YtagkbpdfpeadbabTotals.lean).
  GIVEN WITH THE SEED: the statements are not yours to turn. If you find one false, say at which input.
  Laid BY PROGRAM, IN A SANDBOX (cutbox-rows.mjs): the forced cells as the released guide's own fill.sh prints them over the translation 66af0010388030d2… (all of the seat's roots in one cut). By AI agents, Wed Nov 11 2026. No macro, syntax, notation, axiom, sorry.
-/
import Derived.Test.YtagkbpdfpeadbabChecked
import GoSem.Claim
import GoSem.ClaimJoined
import GoSem.ClaimMapViews
import Derived.JoinedTies
import Derived.KernelRfl
namespace Go.Proofs.Ytagkbpdfpeadbab
/- THE CELL 'sum', in the pinned program and in every row, IS THE sha256 OF THE DUMP (.gsa) THAT YtagkbpdfpeadbabProg.lean LOADS. Nothing in Lean hashes anything: it is a label: what it is worth is what the hold of that sum in a sandbox is worth. -/
noncomputable def Try.pinned : Pinned := { name := "ytagkbpdfpeadbab", sum := "66af0010388030d2dbb00a9dbea7cf3cac7b108951051a3780e8a8334624a078", checked := Try.checked }
namespace Rows
def none {H : Type} : Left H := { results := [], args := [] }

/-- 'laws.FnExactTurnTimes': WHATEVER THE INPUT: true; the input reads as it did. -/
def fnExactTurnTimesSpec : ChangeSpec := { name := "fnExactTurnTimes", fn := fun _ => fun
  | [d1, d2, d3] => { results := [.lit (.bool true)], args := [d1, d2, d3] }
  | _ => none }
def fnExactTurnTimesRow : OpenClaim := { program := "ytagkbpdfpeadbab", sum := "66af0010388030d2dbb00a9dbea7cf3cac7b108951051a3780e8a8334624a078", func := "loop.example/fractionrounds/laws.FnExactTurnTimes", spec := "fnExactTurnTimes", unfollowed := true, recurses := true, apart := false }
def FnExactTurnTimesSaid : Prop := fnExactTurnTimesRow.holds Try.pinned (OpenSpec.ofChange fnExactTurnTimesSpec)

/-- ITS FALSE NEIGHBOUR: 'it returns false'. Refute it at one input. -/
def fnExactTurnTimesWrong : ChangeSpec := { name := "fnExactTurnTimes", fn := fun _ => fun
  | [d1, d2, d3] => { results := [.lit (.bool false)], args := [d1, d2, d3] }
  | _ => none }
def FnExactTurnTimesWrongFalsely : Prop := fnExactTurnTimesRow.holds Try.pinned (OpenSpec.ofChange fnExactTurnTimesWrong)

/-- 'laws.FnExactTurnIs': WHATEVER THE INPUT: true; the input reads as it did. -/
def fnExactTurnIsSpec : ChangeSpec := { name := "fnExactTurnIs", fn := fun _ => fun
  | [d1, d2, d3] => { results := [.lit (.bool true)], args := [d1, d2, d3] }
  | _ => none }
def fnExactTurnIsRow : OpenClaim := { program := "ytagkbpdfpeadbab", sum := "66af0010388030d2dbb00a9dbea7cf3cac7b108951051a3780e8a8334624a078", func := "loop.example/fractionrounds/laws.FnExactTurnIs", spec := "fnExactTurnIs", unfollowed := true, recurses := true, apart := false }
def FnExactTurnIsSaid : Prop := fnExactTurnIsRow.holds Try.pinned (OpenSpec.ofChange fnExactTurnIsSpec)

/-- ITS FALSE NEIGHBOUR: 'it returns false'. Refute it at one input. -/
def fnExactTurnIsWrong : ChangeSpec := { name := "fnExactTurnIs", fn := fun _ => fun
  | [d1, d2, d3] => { results := [.lit (.bool false)], args := [d1, d2, d3] }
  | _ => none }
def FnExactTurnIsWrongFalsely : Prop := fnExactTurnIsRow.holds Try.pinned (OpenSpec.ofChange fnExactTurnIsWrong)

/-- 'laws.FnExactTurnAll': WHATEVER THE INPUT: true; the input reads as it did. -/
def fnExactTurnAllSpec : ChangeSpec := { name := "fnExactTurnAll", fn := fun _ => fun
  | [d1, d2] => { results := [.lit (.bool true)], args := [d1, d2] }
  | _ => none }
def fnExactTurnAllRow : OpenClaim := { program := "ytagkbpdfpeadbab", sum := "66af0010388030d2dbb00a9dbea7cf3cac7b108951051a3780e8a8334624a078", func := "loop.example/fractionrounds/laws.FnExactTurnAll", spec := "fnExactTurnAll", unfollowed := true, recurses := true, apart := false }
def FnExactTurnAllSaid : Prop := fnExactTurnAllRow.holds Try.pinned (OpenSpec.ofChange fnExactTurnAllSpec)

/-- ITS FALSE NEIGHBOUR: 'it returns false'. Refute it at one input. -/
def fnExactTurnAllWrong : ChangeSpec := { name := "fnExactTurnAll", fn := fun _ => fun
  | [d1, d2] => { results := [.lit (.bool false)], args := [d1, d2] }
  | _ => none }
def FnExactTurnAllWrongFalsely : Prop := fnExactTurnAllRow.holds Try.pinned (OpenSpec.ofChange fnExactTurnAllWrong)

/-- 'laws.FnTurnTimes': WHATEVER THE INPUT: true; the input reads as it did. -/
def fnTurnTimesSpec : ChangeSpec := { name := "fnTurnTimes", fn := fun _ => fun
  | [d] => { results := [.lit (.bool true)], args := [d] }
  | _ => none }
def fnTurnTimesRow : OpenClaim := { program := "ytagkbpdfpeadbab", sum := "66af0010388030d2dbb00a9dbea7cf3cac7b108951051a3780e8a8334624a078", func := "loop.example/fractionrounds/laws.FnTurnTimes", spec := "fnTurnTimes", unfollowed := true, recurses := true, apart := false }
def FnTurnTimesSaid : Prop := fnTurnTimesRow.holds Try.pinned (OpenSpec.ofChange fnTurnTimesSpec)

/-- ITS FALSE NEIGHBOUR: 'it returns false'. Refute it at one input. -/
def fnTurnTimesWrong : ChangeSpec := { name := "fnTurnTimes", fn := fun _ => fun
  | [d] => { results := [.lit (.bool false)], args := [d] }
  | _ => none }
def FnTurnTimesWrongFalsely : Prop := fnTurnTimesRow.holds Try.pinned (OpenSpec.ofChange fnTurnTimesWrong)

/- THE SECOND FORM. 'bulk': how many values and letters a reading holds, each counted each time it is reached (what is shared counts as often as it is met; a slice's spare places count too). A statement '..UptoSaid' is the law's where the arguments, and the package variables that the reading takes, are together of bulk at most 1048576: NARROWER than '..Said'. Prove '..Said' where nothing that the law and all that it calls make is longer than what came in: it says more and counts as full. Else prove '..UptoSaid'. A law counts once. -/
mutual
def uptoBulk {H : Type} : DataW H → Nat
  | .lit (.string bytes) => bytes.length + 1
  | .lit _ => 1
  | .nil => 1
  | .ptr d => uptoBulk d + 1
  | .slice elems spare => uptoBulkAll elems + uptoBulkAll spare + 1
  | .agg parts => uptoBulkAll parts + 1
  | .iface _ d => uptoBulk d + 1
  | .map entries => uptoBulkEntries entries + 1
  | .held _ => 1
def uptoBulkAll {H : Type} : List (DataW H) → Nat
  | [] => 0
  | d :: r => uptoBulk d + uptoBulkAll r
def uptoBulkEntries {H : Type} : List (Lit × DataW H) → Nat
  | [] => 0
  | x :: r => uptoBulkEntry x + uptoBulkEntries r
def uptoBulkEntry {H : Type} : Lit × DataW H → Nat
  | (.string bytes, d) => bytes.length + uptoBulk d + 1
  | (_, d) => uptoBulk d + 1
 end
def uptoSmall : (H : Type) → List (DataW H) → Bool := fun _ ds => decide (uptoBulkAll ds ≤ 1048576)
def OpenSpec.upto (s : _root_.Go.ChangeSpec) : _root_.Go.OpenSpec := { _root_.Go.OpenSpec.ofChange s with cond := some uptoSmall }

/-- 'laws.FnExactTurnTimes', WHERE WHAT IT READS IS OF BULK AT MOST 1048576: true; the input reads as it did. -/
def fnExactTurnTimesUptoRow : OpenClaim := { program := "ytagkbpdfpeadbab", sum := "66af0010388030d2dbb00a9dbea7cf3cac7b108951051a3780e8a8334624a078", func := "loop.example/fractionrounds/laws.FnExactTurnTimes", spec := "fnExactTurnTimes", unfollowed := true, recurses := true, apart := false, narrowed := true }
def FnExactTurnTimesUptoSaid : Prop := fnExactTurnTimesUptoRow.holds Try.pinned (OpenSpec.upto fnExactTurnTimesSpec)

/-- 'laws.FnExactTurnIs', WHERE WHAT IT READS IS OF BULK AT MOST 1048576: true; the input reads as it did. -/
def fnExactTurnIsUptoRow : OpenClaim := { program := "ytagkbpdfpeadbab", sum := "66af0010388030d2dbb00a9dbea7cf3cac7b108951051a3780e8a8334624a078", func := "loop.example/fractionrounds/laws.FnExactTurnIs", spec := "fnExactTurnIs", unfollowed := true, recurses := true, apart := false, narrowed := true }
def FnExactTurnIsUptoSaid : Prop := fnExactTurnIsUptoRow.holds Try.pinned (OpenSpec.upto fnExactTurnIsSpec)

/-- 'laws.FnExactTurnAll', WHERE WHAT IT READS IS OF BULK AT MOST 1048576: true; the input reads as it did. -/
def fnExactTurnAllUptoRow : OpenClaim := { program := "ytagkbpdfpeadbab", sum := "66af0010388030d2dbb00a9dbea7cf3cac7b108951051a3780e8a8334624a078", func := "loop.example/fractionrounds/laws.FnExactTurnAll", spec := "fnExactTurnAll", unfollowed := true, recurses := true, apart := false, narrowed := true }
def FnExactTurnAllUptoSaid : Prop := fnExactTurnAllUptoRow.holds Try.pinned (OpenSpec.upto fnExactTurnAllSpec)

/-- 'laws.FnTurnTimes', WHERE WHAT IT READS IS OF BULK AT MOST 1048576: true; the input reads as it did. -/
def fnTurnTimesUptoRow : OpenClaim := { program := "ytagkbpdfpeadbab", sum := "66af0010388030d2dbb00a9dbea7cf3cac7b108951051a3780e8a8334624a078", func := "loop.example/fractionrounds/laws.FnTurnTimes", spec := "fnTurnTimes", unfollowed := true, recurses := true, apart := false, narrowed := true }
def FnTurnTimesUptoSaid : Prop := fnTurnTimesUptoRow.holds Try.pinned (OpenSpec.upto fnTurnTimesSpec)

end Rows
end Go.Proofs.Ytagkbpdfpeadbab
