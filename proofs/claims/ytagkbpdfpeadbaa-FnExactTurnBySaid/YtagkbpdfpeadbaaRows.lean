/-
  No cell of these rows narrows 'for every input' (looked for: loops, veiled, ifaces, maps, wideKeys, modest, calm, conditions, laid).
  DERIVED. THE GIVEN ROWS OF THIS SEAT. 4 by the template 'for every input the law returns true; each argument reads behind the call as it read before'; 0 by the template 'total and deterministic' (their statements: YtagkbpdfpeadbaaTotals.lean).
  GIVEN WITH THE SEED: the statements are not yours to turn. If you find one false, say at which input.
  Laid BY PROGRAM, IN A SANDBOX (cutbox-rows.mjs): the forced cells as the released guide's own fill.sh prints them over the translation 45c87cce8a4f9ea0… (all of the seat's roots in one cut). By AI agents, Wed Nov 11 2026. No macro, syntax, notation, axiom, sorry.
-/
import Derived.Test.YtagkbpdfpeadbaaChecked
import GoSem.Claim
import GoSem.ClaimJoined
import GoSem.ClaimMapViews
import Derived.JoinedTies
import Derived.KernelRfl
namespace Go.Proofs.Ytagkbpdfpeadbaa
/- THE CELL 'sum', in the pinned program and in every row, IS THE sha256 OF THE DUMP (.gsa) THAT YtagkbpdfpeadbaaProg.lean LOADS. Nothing in Lean hashes anything: it is a label: what it is worth is what the hold of that sum in a sandbox is worth. -/
noncomputable def Try.pinned : Pinned := { name := "ytagkbpdfpeadbaa", sum := "45c87cce8a4f9ea089e90cdca40ba7ff1f999b34274e41be2201c149f3b1134a", checked := Try.checked }
namespace Rows
def none {H : Type} : Left H := { results := [], args := [] }

/-- 'laws.FnExactTurnBy': WHATEVER THE INPUT: true; the input reads as it did. -/
def fnExactTurnBySpec : ChangeSpec := { name := "fnExactTurnBy", fn := fun _ => fun
  | [d1, d2, d3] => { results := [.lit (.bool true)], args := [d1, d2, d3] }
  | _ => none }
def fnExactTurnByRow : OpenClaim := { program := "ytagkbpdfpeadbaa", sum := "45c87cce8a4f9ea089e90cdca40ba7ff1f999b34274e41be2201c149f3b1134a", func := "loop.example/fractionrounds/laws.FnExactTurnBy", spec := "fnExactTurnBy", apart := false }
def FnExactTurnBySaid : Prop := fnExactTurnByRow.holds Try.pinned (OpenSpec.ofChange fnExactTurnBySpec)

/-- ITS FALSE NEIGHBOUR: 'it returns false'. Refute it at one input. -/
def fnExactTurnByWrong : ChangeSpec := { name := "fnExactTurnBy", fn := fun _ => fun
  | [d1, d2, d3] => { results := [.lit (.bool false)], args := [d1, d2, d3] }
  | _ => none }
def FnExactTurnByWrongFalsely : Prop := fnExactTurnByRow.holds Try.pinned (OpenSpec.ofChange fnExactTurnByWrong)

/-- 'laws.FnExactTurnFind': WHATEVER THE INPUT: true; the input reads as it did. -/
def fnExactTurnFindSpec : ChangeSpec := { name := "fnExactTurnFind", fn := fun _ => fun
  | [d1, d2, d3] => { results := [.lit (.bool true)], args := [d1, d2, d3] }
  | _ => none }
def fnExactTurnFindRow : OpenClaim := { program := "ytagkbpdfpeadbaa", sum := "45c87cce8a4f9ea089e90cdca40ba7ff1f999b34274e41be2201c149f3b1134a", func := "loop.example/fractionrounds/laws.FnExactTurnFind", spec := "fnExactTurnFind", unfollowed := true, recurses := true, apart := false }
def FnExactTurnFindSaid : Prop := fnExactTurnFindRow.holds Try.pinned (OpenSpec.ofChange fnExactTurnFindSpec)

/-- ITS FALSE NEIGHBOUR: 'it returns false'. Refute it at one input. -/
def fnExactTurnFindWrong : ChangeSpec := { name := "fnExactTurnFind", fn := fun _ => fun
  | [d1, d2, d3] => { results := [.lit (.bool false)], args := [d1, d2, d3] }
  | _ => none }
def FnExactTurnFindWrongFalsely : Prop := fnExactTurnFindRow.holds Try.pinned (OpenSpec.ofChange fnExactTurnFindWrong)

/-- 'laws.FnExactTurnCyclic': WHATEVER THE INPUT: true; the input reads as it did. -/
def fnExactTurnCyclicSpec : ChangeSpec := { name := "fnExactTurnCyclic", fn := fun _ => fun
  | [d1, d2] => { results := [.lit (.bool true)], args := [d1, d2] }
  | _ => none }
def fnExactTurnCyclicRow : OpenClaim := { program := "ytagkbpdfpeadbaa", sum := "45c87cce8a4f9ea089e90cdca40ba7ff1f999b34274e41be2201c149f3b1134a", func := "loop.example/fractionrounds/laws.FnExactTurnCyclic", spec := "fnExactTurnCyclic", unfollowed := true, recurses := true, apart := false }
def FnExactTurnCyclicSaid : Prop := fnExactTurnCyclicRow.holds Try.pinned (OpenSpec.ofChange fnExactTurnCyclicSpec)

/-- ITS FALSE NEIGHBOUR: 'it returns false'. Refute it at one input. -/
def fnExactTurnCyclicWrong : ChangeSpec := { name := "fnExactTurnCyclic", fn := fun _ => fun
  | [d1, d2] => { results := [.lit (.bool false)], args := [d1, d2] }
  | _ => none }
def FnExactTurnCyclicWrongFalsely : Prop := fnExactTurnCyclicRow.holds Try.pinned (OpenSpec.ofChange fnExactTurnCyclicWrong)

/-- 'laws.FnExactTurnLeast': WHATEVER THE INPUT: true; the input reads as it did. -/
def fnExactTurnLeastSpec : ChangeSpec := { name := "fnExactTurnLeast", fn := fun _ => fun
  | [d1, d2] => { results := [.lit (.bool true)], args := [d1, d2] }
  | _ => none }
def fnExactTurnLeastRow : OpenClaim := { program := "ytagkbpdfpeadbaa", sum := "45c87cce8a4f9ea089e90cdca40ba7ff1f999b34274e41be2201c149f3b1134a", func := "loop.example/fractionrounds/laws.FnExactTurnLeast", spec := "fnExactTurnLeast", apart := false }
def FnExactTurnLeastSaid : Prop := fnExactTurnLeastRow.holds Try.pinned (OpenSpec.ofChange fnExactTurnLeastSpec)

/-- ITS FALSE NEIGHBOUR: 'it returns false'. Refute it at one input. -/
def fnExactTurnLeastWrong : ChangeSpec := { name := "fnExactTurnLeast", fn := fun _ => fun
  | [d1, d2] => { results := [.lit (.bool false)], args := [d1, d2] }
  | _ => none }
def FnExactTurnLeastWrongFalsely : Prop := fnExactTurnLeastRow.holds Try.pinned (OpenSpec.ofChange fnExactTurnLeastWrong)

/- THE SECOND FORM. 'bulk': how many values and letters a reading holds, each counted each time it is reached (what is shared counts as often as it is met; a slice's spare places count too). A statement '..UptoSaid' is the law's where the arguments, and the package variables that the reading takes, are together of bulk at most 1048576: NARROWER than '..Said'. Prove '..Said' where nothing that the law and all that it calls make is longer than what came in: it says more and counts as full. Else prove '..UptoSaid'. A law counts once. -/
mutual
def uptoBulk {H : Type} : DataW H → Nat
  | .lit (.string bytes) => bytes.length + 1
  | .lit _ => 1
  | .nil => 1
  | .ptr d => uptoBulk d + 1
  | .slice elems spare => uptoBulkAll elems + uptoBulkAll spare + 1
  | .agg parts => uptoBulkAll parts + 1
  | .iface _ d => uptoBulk d + 1
  | .map entries => uptoBulkEntries entries + 1
  | .held _ => 1
def uptoBulkAll {H : Type} : List (DataW H) → Nat
  | [] => 0
  | d :: r => uptoBulk d + uptoBulkAll r
def uptoBulkEntries {H : Type} : List (Lit × DataW H) → Nat
  | [] => 0
  | x :: r => uptoBulkEntry x + uptoBulkEntries r
def uptoBulkEntry {H : Type} : Lit × DataW H → Nat
  | (.string bytes, d) => bytes.length + uptoBulk d + 1
  | (_, d) => uptoBulk d + 1
 end
def uptoSmall : (H : Type) → List (DataW H) → Bool := fun _ ds => decide (uptoBulkAll ds ≤ 1048576)
def OpenSpec.upto (s : _root_.Go.ChangeSpec) : _root_.Go.OpenSpec := { _root_.Go.OpenSpec.ofChange s with cond := some uptoSmall }

/-- 'laws.FnExactTurnBy', WHERE WHAT IT READS IS OF BULK AT MOST 1048576: true; the input reads as it did. -/
def fnExactTurnByUptoRow : OpenClaim := { program := "ytagkbpdfpeadbaa", sum := "45c87cce8a4f9ea089e90cdca40ba7ff1f999b34274e41be2201c149f3b1134a", func := "loop.example/fractionrounds/laws.FnExactTurnBy", spec := "fnExactTurnBy", apart := false, narrowed := true }
def FnExactTurnByUptoSaid : Prop := fnExactTurnByUptoRow.holds Try.pinned (OpenSpec.upto fnExactTurnBySpec)

/-- 'laws.FnExactTurnFind', WHERE WHAT IT READS IS OF BULK AT MOST 1048576: true; the input reads as it did. -/
def fnExactTurnFindUptoRow : OpenClaim := { program := "ytagkbpdfpeadbaa", sum := "45c87cce8a4f9ea089e90cdca40ba7ff1f999b34274e41be2201c149f3b1134a", func := "loop.example/fractionrounds/laws.FnExactTurnFind", spec := "fnExactTurnFind", unfollowed := true, recurses := true, apart := false, narrowed := true }
def FnExactTurnFindUptoSaid : Prop := fnExactTurnFindUptoRow.holds Try.pinned (OpenSpec.upto fnExactTurnFindSpec)

/-- 'laws.FnExactTurnCyclic', WHERE WHAT IT READS IS OF BULK AT MOST 1048576: true; the input reads as it did. -/
def fnExactTurnCyclicUptoRow : OpenClaim := { program := "ytagkbpdfpeadbaa", sum := "45c87cce8a4f9ea089e90cdca40ba7ff1f999b34274e41be2201c149f3b1134a", func := "loop.example/fractionrounds/laws.FnExactTurnCyclic", spec := "fnExactTurnCyclic", unfollowed := true, recurses := true, apart := false, narrowed := true }
def FnExactTurnCyclicUptoSaid : Prop := fnExactTurnCyclicUptoRow.holds Try.pinned (OpenSpec.upto fnExactTurnCyclicSpec)

/-- 'laws.FnExactTurnLeast', WHERE WHAT IT READS IS OF BULK AT MOST 1048576: true; the input reads as it did. -/
def fnExactTurnLeastUptoRow : OpenClaim := { program := "ytagkbpdfpeadbaa", sum := "45c87cce8a4f9ea089e90cdca40ba7ff1f999b34274e41be2201c149f3b1134a", func := "loop.example/fractionrounds/laws.FnExactTurnLeast", spec := "fnExactTurnLeast", apart := false, narrowed := true }
def FnExactTurnLeastUptoSaid : Prop := fnExactTurnLeastUptoRow.holds Try.pinned (OpenSpec.upto fnExactTurnLeastSpec)

end Rows
end Go.Proofs.Ytagkbpdfpeadbaa
