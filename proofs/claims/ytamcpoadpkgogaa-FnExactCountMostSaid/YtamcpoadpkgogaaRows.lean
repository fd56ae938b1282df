/-
  No cell of these rows narrows 'for every input' (looked for: loops, veiled, ifaces, maps, wideKeys, modest, calm, conditions, laid).
  DERIVED. THE GIVEN ROWS OF THIS SEAT. 4 by the template 'for every input the law returns true; each argument reads behind the call as it read before'; 0 by the template 'total and deterministic' (their statements: YtamcpoadpkgogaaTotals.lean).
  GIVEN WITH THE SEED: the statements are not yours to turn. If you find one false, say at which input.
  Laid BY PROGRAM, IN A SANDBOX (cutbox-rows.mjs): the forced cells as the released guide's own fill.sh prints them over the translation ede9099502354f0b… (all of the seat's roots in one cut). By AI agents, Wed Nov 11 2026. No macro, syntax, notation, axiom, sorry.
-/
import Derived.Test.YtamcpoadpkgogaaChecked
import GoSem.Claim
import GoSem.ClaimJoined
import GoSem.ClaimMapViews
import Derived.JoinedTies
import Derived.KernelRfl
namespace Go.Proofs.Ytamcpoadpkgogaa
/- THE CELL 'sum', in the pinned program and in every row, IS THE sha256 OF THE DUMP (.gsa) THAT YtamcpoadpkgogaaProg.lean LOADS. Nothing in Lean hashes anything: it is a label: what it is worth is what the hold of that sum in a sandbox is worth. -/
noncomputable def Try.pinned : Pinned := { name := "ytamcpoadpkgogaa", sum := "ede9099502354f0b6b1793e046c2a77637f2dd2927add294965ee20eecfaa81a", checked := Try.checked }
namespace Rows
def none {H : Type} : Left H := { results := [], args := [] }

/-- 'laws.FnExactCountDigits': WHATEVER THE INPUT: true; the input reads as it did. -/
def fnExactCountDigitsSpec : ChangeSpec := { name := "fnExactCountDigits", fn := fun _ => fun
  | [d1, d2] => { results := [.lit (.bool true)], args := [d1, d2] }
  | _ => none }
def fnExactCountDigitsRow : OpenClaim := { program := "ytamcpoadpkgogaa", sum := "ede9099502354f0b6b1793e046c2a77637f2dd2927add294965ee20eecfaa81a", func := "loop.example/fractionrounds/laws.FnExactCountDigits", spec := "fnExactCountDigits", unfollowed := true, recurses := true, apart := false }
def FnExactCountDigitsSaid : Prop := fnExactCountDigitsRow.holds Try.pinned (OpenSpec.ofChange fnExactCountDigitsSpec)

/-- ITS FALSE NEIGHBOUR: 'it returns false'. Refute it at one input. -/
def fnExactCountDigitsWrong : ChangeSpec := { name := "fnExactCountDigits", fn := fun _ => fun
  | [d1, d2] => { results := [.lit (.bool false)], args := [d1, d2] }
  | _ => none }
def FnExactCountDigitsWrongFalsely : Prop := fnExactCountDigitsRow.holds Try.pinned (OpenSpec.ofChange fnExactCountDigitsWrong)

/-- 'laws.FnExactCountSum': WHATEVER THE INPUT: true; the input reads as it did. -/
def fnExactCountSumSpec : ChangeSpec := { name := "fnExactCountSum", fn := fun _ => fun
  | [d1, d2] => { results := [.lit (.bool true)], args := [d1, d2] }
  | _ => none }
def fnExactCountSumRow : OpenClaim := { program := "ytamcpoadpkgogaa", sum := "ede9099502354f0b6b1793e046c2a77637f2dd2927add294965ee20eecfaa81a", func := "loop.example/fractionrounds/laws.FnExactCountSum", spec := "fnExactCountSum", unfollowed := true, recurses := true, apart := false }
def FnExactCountSumSaid : Prop := fnExactCountSumRow.holds Try.pinned (OpenSpec.ofChange fnExactCountSumSpec)

/-- ITS FALSE NEIGHBOUR: 'it returns false'. Refute it at one input. -/
def fnExactCountSumWrong : ChangeSpec := { name := "fnExactCountSum", fn := fun _ => fun
  | [d1, d2] => { results := [.lit (.bool false)], args := [d1, d2] }
  | _ => none }
def FnExactCountSumWrongFalsely : Prop := fnExactCountSumRow.holds Try.pinned (OpenSpec.ofChange fnExactCountSumWrong)

/-- 'laws.FnExactCountMost': WHATEVER THE INPUT: true; the input reads as it did. -/
def fnExactCountMostSpec : ChangeSpec := { name := "fnExactCountMost", fn := fun _ => fun
  | [d1, d2] => { results := [.lit (.bool true)], args := [d1, d2] }
  | _ => none }
def fnExactCountMostRow : OpenClaim := { program := "ytamcpoadpkgogaa", sum := "ede9099502354f0b6b1793e046c2a77637f2dd2927add294965ee20eecfaa81a", func := "loop.example/fractionrounds/laws.FnExactCountMost", spec := "fnExactCountMost", unfollowed := true, recurses := true, apart := false }
def FnExactCountMostSaid : Prop := fnExactCountMostRow.holds Try.pinned (OpenSpec.ofChange fnExactCountMostSpec)

/-- ITS FALSE NEIGHBOUR: 'it returns false'. Refute it at one input. -/
def fnExactCountMostWrong : ChangeSpec := { name := "fnExactCountMost", fn := fun _ => fun
  | [d1, d2] => { results := [.lit (.bool false)], args := [d1, d2] }
  | _ => none }
def FnExactCountMostWrongFalsely : Prop := fnExactCountMostRow.holds Try.pinned (OpenSpec.ofChange fnExactCountMostWrong)

/-- 'laws.FnExactCountRuns': WHATEVER THE INPUT: true; the input reads as it did. -/
def fnExactCountRunsSpec : ChangeSpec := { name := "fnExactCountRuns", fn := fun _ => fun
  | [d1, d2] => { results := [.lit (.bool true)], args := [d1, d2] }
  | _ => none }
def fnExactCountRunsRow : OpenClaim := { program := "ytamcpoadpkgogaa", sum := "ede9099502354f0b6b1793e046c2a77637f2dd2927add294965ee20eecfaa81a", func := "loop.example/fractionrounds/laws.FnExactCountRuns", spec := "fnExactCountRuns", unfollowed := true, recurses := true, apart := false }
def FnExactCountRunsSaid : Prop := fnExactCountRunsRow.holds Try.pinned (OpenSpec.ofChange fnExactCountRunsSpec)

/-- ITS FALSE NEIGHBOUR: 'it returns false'. Refute it at one input. -/
def fnExactCountRunsWrong : ChangeSpec := { name := "fnExactCountRuns", fn := fun _ => fun
  | [d1, d2] => { results := [.lit (.bool false)], args := [d1, d2] }
  | _ => none }
def FnExactCountRunsWrongFalsely : Prop := fnExactCountRunsRow.holds Try.pinned (OpenSpec.ofChange fnExactCountRunsWrong)

/- THE SECOND FORM. 'bulk': how many values and letters a reading holds, each counted each time it is reached (what is shared counts as often as it is met; a slice's spare places count too). A statement '..UptoSaid' is the law's where the arguments, and the package variables that the reading takes, are together of bulk at most 1048576: NARROWER than '..Said'. Prove '..Said' where nothing that the law and all that it calls make is longer than what came in: it says more and counts as full. Else prove '..UptoSaid'. A law counts once. -/
mutual
def uptoBulk {H : Type} : DataW H → Nat
  | .lit (.string bytes) => bytes.length + 1
  | .lit _ => 1
  | .nil => 1
  | .ptr d => uptoBulk d + 1
  | .slice elems spare => uptoBulkAll elems + uptoBulkAll spare + 1
  | .agg parts => uptoBulkAll parts + 1
  | .iface _ d => uptoBulk d + 1
  | .map entries => uptoBulkEntries entries + 1
  | .held _ => 1
def uptoBulkAll {H : Type} : List (DataW H) → Nat
  | [] => 0
  | d :: r => uptoBulk d + uptoBulkAll r
def uptoBulkEntries {H : Type} : List (Lit × DataW H) → Nat
  | [] => 0
  | x :: r => uptoBulkEntry x + uptoBulkEntries r
def uptoBulkEntry {H : Type} : Lit × DataW H → Nat
  | (.string bytes, d) => bytes.length + uptoBulk d + 1
  | (_, d) => uptoBulk d + 1
 end
def uptoSmall : (H : Type) → List (DataW H) → Bool := fun _ ds => decide (uptoBulkAll ds ≤ 1048576)
def OpenSpec.upto (s : _root_.Go.ChangeSpec) : _root_.Go.OpenSpec := { _root_.Go.OpenSpec.ofChange s with cond := some uptoSmall }

/-- 'laws.FnExactCountDigits', WHERE WHAT IT READS IS OF BULK AT MOST 1048576: true; the input reads as it did. -/
def fnExactCountDigitsUptoRow : OpenClaim := { program := "ytamcpoadpkgogaa", sum := "ede9099502354f0b6b1793e046c2a77637f2dd2927add294965ee20eecfaa81a", func := "loop.example/fractionrounds/laws.FnExactCountDigits", spec := "fnExactCountDigits", unfollowed := true, recurses := true, apart := false, narrowed := true }
def FnExactCountDigitsUptoSaid : Prop := fnExactCountDigitsUptoRow.holds Try.pinned (OpenSpec.upto fnExactCountDigitsSpec)

/-- 'laws.FnExactCountSum', WHERE WHAT IT READS IS OF BULK AT MOST 1048576: true; the input reads as it did. -/
def fnExactCountSumUptoRow : OpenClaim := { program := "ytamcpoadpkgogaa", sum := "ede9099502354f0b6b1793e046c2a77637f2dd2927add294965ee20eecfaa81a", func := "loop.example/fractionrounds/laws.FnExactCountSum", spec := "fnExactCountSum", unfollowed := true, recurses := true, apart := false, narrowed := true }
def FnExactCountSumUptoSaid : Prop := fnExactCountSumUptoRow.holds Try.pinned (OpenSpec.upto fnExactCountSumSpec)

/-- 'laws.FnExactCountMost', WHERE WHAT IT READS IS OF BULK AT MOST 1048576: true; the input reads as it did. -/
def fnExactCountMostUptoRow : OpenClaim := { program := "ytamcpoadpkgogaa", sum := "ede9099502354f0b6b1793e046c2a77637f2dd2927add294965ee20eecfaa81a", func := "loop.example/fractionrounds/laws.FnExactCountMost", spec := "fnExactCountMost", unfollowed := true, recurses := true, apart := false, narrowed := true }
def FnExactCountMostUptoSaid : Prop := fnExactCountMostUptoRow.holds Try.pinned (OpenSpec.upto fnExactCountMostSpec)

/-- 'laws.FnExactCountRuns', WHERE WHAT IT READS IS OF BULK AT MOST 1048576: true; the input reads as it did. -/
def fnExactCountRunsUptoRow : OpenClaim := { program := "ytamcpoadpkgogaa", sum := "ede9099502354f0b6b1793e046c2a77637f2dd2927add294965ee20eecfaa81a", func := "loop.example/fractionrounds/laws.FnExactCountRuns", spec := "fnExactCountRuns", unfollowed := true, recurses := true, apart := false, narrowed := true }
def FnExactCountRunsUptoSaid : Prop := fnExactCountRunsUptoRow.holds Try.pinned (OpenSpec.upto fnExactCountRunsSpec)

end Rows
end Go.Proofs.Ytamcpoadpkgogaa
