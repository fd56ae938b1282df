/-
  No cell of these rows narrows 'for every input' (looked for: loops, veiled, ifaces, maps, wideKeys, modest, calm, conditions, laid).
  DERIVED. THE GIVEN ROWS OF THIS SEAT. 4 by the template 'for every input the law returns true; each argument reads behind the call as it read before'; 0 by the template 'total and deterministic' (their statements: YtppdhnndklpdmaaTotals.lean).
  GIVEN WITH THE SEED: the statements are not yours to turn. If you find one false, say at which input.
  Laid BY PROGRAM, IN A SANDBOX (cutbox-rows.mjs): the forced cells as the released guide's own fill.sh prints them over the translation 398630a54cb9065c… (all of the seat's roots in one cut). By AI agents, Wed Nov 11 2026. No macro, syntax, notation, axiom, sorry.
-/
import Derived.Test.YtppdhnndklpdmaaChecked
import GoSem.Claim
import GoSem.ClaimJoined
import GoSem.ClaimMapViews
import Derived.JoinedTies
import Derived.KernelRfl
namespace Go.Proofs.Ytppdhnndklpdmaa
/- THE CELL 'sum', in the pinned program and in every row, IS THE sha256 OF THE DUMP (.gsa) THAT YtppdhnndklpdmaaProg.lean LOADS. Nothing in Lean hashes anything: it is a label: what it is worth is what the hold of that sum in a sandbox is worth. -/
noncomputable def Try.pinned : Pinned := { name := "ytppdhnndklpdmaa", sum := "398630a54cb9065cd830504358b5dff835014473f6a27835b6141aabcc9dc323", checked := Try.checked }
namespace Rows
def none {H : Type} : Left H := { results := [], args := [] }

/-- 'laws.FnExactFracIn': WHATEVER THE INPUT: true; the input reads as it did. -/
def fnExactFracInSpec : ChangeSpec := { name := "fnExactFracIn", fn := fun _ => fun
  | [d] => { results := [.lit (.bool true)], args := [d] }
  | _ => none }
def fnExactFracInRow : OpenClaim := { program := "ytppdhnndklpdmaa", sum := "398630a54cb9065cd830504358b5dff835014473f6a27835b6141aabcc9dc323", func := "loop.example/fractionrounds/laws.FnExactFracIn", spec := "fnExactFracIn", apart := false }
def FnExactFracInSaid : Prop := fnExactFracInRow.holds Try.pinned (OpenSpec.ofChange fnExactFracInSpec)

/-- ITS FALSE NEIGHBOUR: 'it returns false'. Refute it at one input. -/
def fnExactFracInWrong : ChangeSpec := { name := "fnExactFracIn", fn := fun _ => fun
  | [d] => { results := [.lit (.bool false)], args := [d] }
  | _ => none }
def FnExactFracInWrongFalsely : Prop := fnExactFracInRow.holds Try.pinned (OpenSpec.ofChange fnExactFracInWrong)

/-- 'laws.FnExactFracOf': WHATEVER THE INPUT: true; the input reads as it did. -/
def fnExactFracOfSpec : ChangeSpec := { name := "fnExactFracOf", fn := fun _ => fun
  | [d1, d2, d3] => { results := [.lit (.bool true)], args := [d1, d2, d3] }
  | _ => none }
def fnExactFracOfRow : OpenClaim := { program := "ytppdhnndklpdmaa", sum := "398630a54cb9065cd830504358b5dff835014473f6a27835b6141aabcc9dc323", func := "loop.example/fractionrounds/laws.FnExactFracOf", spec := "fnExactFracOf", apart := false }
def FnExactFracOfSaid : Prop := fnExactFracOfRow.holds Try.pinned (OpenSpec.ofChange fnExactFracOfSpec)

/-- ITS FALSE NEIGHBOUR: 'it returns false'. Refute it at one input. -/
def fnExactFracOfWrong : ChangeSpec := { name := "fnExactFracOf", fn := fun _ => fun
  | [d1, d2, d3] => { results := [.lit (.bool false)], args := [d1, d2, d3] }
  | _ => none }
def FnExactFracOfWrongFalsely : Prop := fnExactFracOfRow.holds Try.pinned (OpenSpec.ofChange fnExactFracOfWrong)

/-- 'laws.FnExactFracEnds': WHATEVER THE INPUT: true; the input reads as it did. -/
def fnExactFracEndsSpec : ChangeSpec := { name := "fnExactFracEnds", fn := fun _ => fun
  | [d1, d2] => { results := [.lit (.bool true)], args := [d1, d2] }
  | _ => none }
def fnExactFracEndsRow : OpenClaim := { program := "ytppdhnndklpdmaa", sum := "398630a54cb9065cd830504358b5dff835014473f6a27835b6141aabcc9dc323", func := "loop.example/fractionrounds/laws.FnExactFracEnds", spec := "fnExactFracEnds", apart := false }
def FnExactFracEndsSaid : Prop := fnExactFracEndsRow.holds Try.pinned (OpenSpec.ofChange fnExactFracEndsSpec)

/-- ITS FALSE NEIGHBOUR: 'it returns false'. Refute it at one input. -/
def fnExactFracEndsWrong : ChangeSpec := { name := "fnExactFracEnds", fn := fun _ => fun
  | [d1, d2] => { results := [.lit (.bool false)], args := [d1, d2] }
  | _ => none }
def FnExactFracEndsWrongFalsely : Prop := fnExactFracEndsRow.holds Try.pinned (OpenSpec.ofChange fnExactFracEndsWrong)

/-- 'laws.FnExactFracDigit': WHATEVER THE INPUT: true; the input reads as it did. -/
def fnExactFracDigitSpec : ChangeSpec := { name := "fnExactFracDigit", fn := fun _ => fun
  | [d1, d2, d3] => { results := [.lit (.bool true)], args := [d1, d2, d3] }
  | _ => none }
def fnExactFracDigitRow : OpenClaim := { program := "ytppdhnndklpdmaa", sum := "398630a54cb9065cd830504358b5dff835014473f6a27835b6141aabcc9dc323", func := "loop.example/fractionrounds/laws.FnExactFracDigit", spec := "fnExactFracDigit", apart := false }
def FnExactFracDigitSaid : Prop := fnExactFracDigitRow.holds Try.pinned (OpenSpec.ofChange fnExactFracDigitSpec)

/-- ITS FALSE NEIGHBOUR: 'it returns false'. Refute it at one input. -/
def fnExactFracDigitWrong : ChangeSpec := { name := "fnExactFracDigit", fn := fun _ => fun
  | [d1, d2, d3] => { results := [.lit (.bool false)], args := [d1, d2, d3] }
  | _ => none }
def FnExactFracDigitWrongFalsely : Prop := fnExactFracDigitRow.holds Try.pinned (OpenSpec.ofChange fnExactFracDigitWrong)

/- THE SECOND FORM. 'bulk': how many values and letters a reading holds, each counted each time it is reached (what is shared counts as often as it is met; a slice's spare places count too). A statement '..UptoSaid' is the law's where the arguments, and the package variables that the reading takes, are together of bulk at most 1048576: NARROWER than '..Said'. Prove '..Said' where nothing that the law and all that it calls make is longer than what came in: it says more and counts as full. Else prove '..UptoSaid'. A law counts once. -/
mutual
def uptoBulk {H : Type} : DataW H → Nat
  | .lit (.string bytes) => bytes.length + 1
  | .lit _ => 1
  | .nil => 1
  | .ptr d => uptoBulk d + 1
  | .slice elems spare => uptoBulkAll elems + uptoBulkAll spare + 1
  | .agg parts => uptoBulkAll parts + 1
  | .iface _ d => uptoBulk d + 1
  | .map entries => uptoBulkEntries entries + 1
  | .held _ => 1
def uptoBulkAll {H : Type} : List (DataW H) → Nat
  | [] => 0
  | d :: r => uptoBulk d + uptoBulkAll r
def uptoBulkEntries {H : Type} : List (Lit × DataW H) → Nat
  | [] => 0
  | x :: r => uptoBulkEntry x + uptoBulkEntries r
def uptoBulkEntry {H : Type} : Lit × DataW H → Nat
  | (.string bytes, d) => bytes.length + uptoBulk d + 1
  | (_, d) => uptoBulk d + 1
 end
def uptoSmall : (H : Type) → List (DataW H) → Bool := fun _ ds => decide (uptoBulkAll ds ≤ 1048576)
def OpenSpec.upto (s : _root_.Go.ChangeSpec) : _root_.Go.OpenSpec := { _root_.Go.OpenSpec.ofChange s with cond := some uptoSmall }

/-- 'laws.FnExactFracIn', WHERE WHAT IT READS IS OF BULK AT MOST 1048576: true; the input reads as it did. -/
def fnExactFracInUptoRow : OpenClaim := { program := "ytppdhnndklpdmaa", sum := "398630a54cb9065cd830504358b5dff835014473f6a27835b6141aabcc9dc323", func := "loop.example/fractionrounds/laws.FnExactFracIn", spec := "fnExactFracIn", apart := false, narrowed := true }
def FnExactFracInUptoSaid : Prop := fnExactFracInUptoRow.holds Try.pinned (OpenSpec.upto fnExactFracInSpec)

/-- 'laws.FnExactFracOf', WHERE WHAT IT READS IS OF BULK AT MOST 1048576: true; the input reads as it did. -/
def fnExactFracOfUptoRow : OpenClaim := { program := "ytppdhnndklpdmaa", sum := "398630a54cb9065cd830504358b5dff835014473f6a27835b6141aabcc9dc323", func := "loop.example/fractionrounds/laws.FnExactFracOf", spec := "fnExactFracOf", apart := false, narrowed := true }
def FnExactFracOfUptoSaid : Prop := fnExactFracOfUptoRow.holds Try.pinned (OpenSpec.upto fnExactFracOfSpec)

/-- 'laws.FnExactFracEnds', WHERE WHAT IT READS IS OF BULK AT MOST 1048576: true; the input reads as it did. -/
def fnExactFracEndsUptoRow : OpenClaim := { program := "ytppdhnndklpdmaa", sum := "398630a54cb9065cd830504358b5dff835014473f6a27835b6141aabcc9dc323", func := "loop.example/fractionrounds/laws.FnExactFracEnds", spec := "fnExactFracEnds", apart := false, narrowed := true }
def FnExactFracEndsUptoSaid : Prop := fnExactFracEndsUptoRow.holds Try.pinned (OpenSpec.upto fnExactFracEndsSpec)

/-- 'laws.FnExactFracDigit', WHERE WHAT IT READS IS OF BULK AT MOST 1048576: true; the input reads as it did. -/
def fnExactFracDigitUptoRow : OpenClaim := { program := "ytppdhnndklpdmaa", sum := "398630a54cb9065cd830504358b5dff835014473f6a27835b6141aabcc9dc323", func := "loop.example/fractionrounds/laws.FnExactFracDigit", spec := "fnExactFracDigit", apart := false, narrowed := true }
def FnExactFracDigitUptoSaid : Prop := fnExactFracDigitUptoRow.holds Try.pinned (OpenSpec.upto fnExactFracDigitSpec)

end Rows
end Go.Proofs.Ytppdhnndklpdmaa
