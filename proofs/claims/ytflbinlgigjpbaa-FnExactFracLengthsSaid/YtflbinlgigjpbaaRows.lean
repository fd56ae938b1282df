/-
  No cell of these rows narrows 'for every input' (looked for: loops, veiled, ifaces, maps, wideKeys, modest, calm, conditions, laid).
  DERIVED. THE GIVEN ROWS OF THIS SEAT. 4 by the template 'for every input the law returns true; each argument reads behind the call as it read before'; 0 by the template 'total and deterministic' (their statements: YtflbinlgigjpbaaTotals.lean).
  GIVEN WITH THE SEED: the statements are not yours to turn. If you find one false, say at which input.
  Laid BY PROGRAM, IN A SANDBOX (cutbox-rows.mjs): the forced cells as the released guide's own fill.sh prints them over the translation 373bc417b4b8391d… (all of the seat's roots in one cut). By AI agents, Wed Nov 11 2026. No macro, syntax, notation, axiom, sorry.
-/
import Derived.Test.YtflbinlgigjpbaaChecked
import GoSem.Claim
import GoSem.ClaimJoined
import GoSem.ClaimMapViews
import Derived.JoinedTies
import Derived.KernelRfl
namespace Go.Proofs.Ytflbinlgigjpbaa
/- THE CELL 'sum', in the pinned program and in every row, IS THE sha256 OF THE DUMP (.gsa) THAT YtflbinlgigjpbaaProg.lean LOADS. Nothing in Lean hashes anything: it is a label: what it is worth is what the hold of that sum in a sandbox is worth. -/
noncomputable def Try.pinned : Pinned := { name := "ytflbinlgigjpbaa", sum := "373bc417b4b8391d600693c6c45d3e133adb60f56655c5061b831b83413e3528", checked := Try.checked }
namespace Rows
def none {H : Type} : Left H := { results := [], args := [] }

/-- 'laws.FnExactFracDigits': WHATEVER THE INPUT: true; the input reads as it did. -/
def fnExactFracDigitsSpec : ChangeSpec := { name := "fnExactFracDigits", fn := fun _ => fun
  | [d1, d2, d3] => { results := [.lit (.bool true)], args := [d1, d2, d3] }
  | _ => none }
def fnExactFracDigitsRow : OpenClaim := { program := "ytflbinlgigjpbaa", sum := "373bc417b4b8391d600693c6c45d3e133adb60f56655c5061b831b83413e3528", func := "loop.example/fractionrounds/laws.FnExactFracDigits", spec := "fnExactFracDigits", unfollowed := true, recurses := true, apart := false }
def FnExactFracDigitsSaid : Prop := fnExactFracDigitsRow.holds Try.pinned (OpenSpec.ofChange fnExactFracDigitsSpec)

/-- ITS FALSE NEIGHBOUR: 'it returns false'. Refute it at one input. -/
def fnExactFracDigitsWrong : ChangeSpec := { name := "fnExactFracDigits", fn := fun _ => fun
  | [d1, d2, d3] => { results := [.lit (.bool false)], args := [d1, d2, d3] }
  | _ => none }
def FnExactFracDigitsWrongFalsely : Prop := fnExactFracDigitsRow.holds Try.pinned (OpenSpec.ofChange fnExactFracDigitsWrong)

/-- 'laws.FnExactFracBegin': WHATEVER THE INPUT: true; the input reads as it did. -/
def fnExactFracBeginSpec : ChangeSpec := { name := "fnExactFracBegin", fn := fun _ => fun
  | [d1, d2] => { results := [.lit (.bool true)], args := [d1, d2] }
  | _ => none }
def fnExactFracBeginRow : OpenClaim := { program := "ytflbinlgigjpbaa", sum := "373bc417b4b8391d600693c6c45d3e133adb60f56655c5061b831b83413e3528", func := "loop.example/fractionrounds/laws.FnExactFracBegin", spec := "fnExactFracBegin", unfollowed := true, recurses := true, apart := false }
def FnExactFracBeginSaid : Prop := fnExactFracBeginRow.holds Try.pinned (OpenSpec.ofChange fnExactFracBeginSpec)

/-- ITS FALSE NEIGHBOUR: 'it returns false'. Refute it at one input. -/
def fnExactFracBeginWrong : ChangeSpec := { name := "fnExactFracBegin", fn := fun _ => fun
  | [d1, d2] => { results := [.lit (.bool false)], args := [d1, d2] }
  | _ => none }
def FnExactFracBeginWrongFalsely : Prop := fnExactFracBeginRow.holds Try.pinned (OpenSpec.ofChange fnExactFracBeginWrong)

/-- 'laws.FnExactFracRound': WHATEVER THE INPUT: true; the input reads as it did. -/
def fnExactFracRoundSpec : ChangeSpec := { name := "fnExactFracRound", fn := fun _ => fun
  | [d1, d2] => { results := [.lit (.bool true)], args := [d1, d2] }
  | _ => none }
def fnExactFracRoundRow : OpenClaim := { program := "ytflbinlgigjpbaa", sum := "373bc417b4b8391d600693c6c45d3e133adb60f56655c5061b831b83413e3528", func := "loop.example/fractionrounds/laws.FnExactFracRound", spec := "fnExactFracRound", unfollowed := true, recurses := true, apart := false }
def FnExactFracRoundSaid : Prop := fnExactFracRoundRow.holds Try.pinned (OpenSpec.ofChange fnExactFracRoundSpec)

/-- ITS FALSE NEIGHBOUR: 'it returns false'. Refute it at one input. -/
def fnExactFracRoundWrong : ChangeSpec := { name := "fnExactFracRound", fn := fun _ => fun
  | [d1, d2] => { results := [.lit (.bool false)], args := [d1, d2] }
  | _ => none }
def FnExactFracRoundWrongFalsely : Prop := fnExactFracRoundRow.holds Try.pinned (OpenSpec.ofChange fnExactFracRoundWrong)

/-- 'laws.FnExactFracLengths': WHATEVER THE INPUT: true; the input reads as it did. -/
def fnExactFracLengthsSpec : ChangeSpec := { name := "fnExactFracLengths", fn := fun _ => fun
  | [d1, d2] => { results := [.lit (.bool true)], args := [d1, d2] }
  | _ => none }
def fnExactFracLengthsRow : OpenClaim := { program := "ytflbinlgigjpbaa", sum := "373bc417b4b8391d600693c6c45d3e133adb60f56655c5061b831b83413e3528", func := "loop.example/fractionrounds/laws.FnExactFracLengths", spec := "fnExactFracLengths", unfollowed := true, recurses := true, apart := false }
def FnExactFracLengthsSaid : Prop := fnExactFracLengthsRow.holds Try.pinned (OpenSpec.ofChange fnExactFracLengthsSpec)

/-- ITS FALSE NEIGHBOUR: 'it returns false'. Refute it at one input. -/
def fnExactFracLengthsWrong : ChangeSpec := { name := "fnExactFracLengths", fn := fun _ => fun
  | [d1, d2] => { results := [.lit (.bool false)], args := [d1, d2] }
  | _ => none }
def FnExactFracLengthsWrongFalsely : Prop := fnExactFracLengthsRow.holds Try.pinned (OpenSpec.ofChange fnExactFracLengthsWrong)

/- THE SECOND FORM. 'bulk': how many values and letters a reading holds, each counted each time it is reached (what is shared counts as often as it is met; a slice's spare places count too). A statement '..UptoSaid' is the law's where the arguments, and the package variables that the reading takes, are together of bulk at most 1048576: NARROWER than '..Said'. Prove '..Said' where nothing that the law and all that it calls make is longer than what came in: it says more and counts as full. Else prove '..UptoSaid'. A law counts once. -/
mutual
def uptoBulk {H : Type} : DataW H → Nat
  | .lit (.string bytes) => bytes.length + 1
  | .lit _ => 1
  | .nil => 1
  | .ptr d => uptoBulk d + 1
  | .slice elems spare => uptoBulkAll elems + uptoBulkAll spare + 1
  | .agg parts => uptoBulkAll parts + 1
  | .iface _ d => uptoBulk d + 1
  | .map entries => uptoBulkEntries entries + 1
  | .held _ => 1
def uptoBulkAll {H : Type} : List (DataW H) → Nat
  | [] => 0
  | d :: r => uptoBulk d + uptoBulkAll r
def uptoBulkEntries {H : Type} : List (Lit × DataW H) → Nat
  | [] => 0
  | x :: r => uptoBulkEntry x + uptoBulkEntries r
def uptoBulkEntry {H : Type} : Lit × DataW H → Nat
  | (.string bytes, d) => bytes.length + uptoBulk d + 1
  | (_, d) => uptoBulk d + 1
 end
def uptoSmall : (H : Type) → List (DataW H) → Bool := fun _ ds => decide (uptoBulkAll ds ≤ 1048576)
def OpenSpec.upto (s : _root_.Go.ChangeSpec) : _root_.Go.OpenSpec := { _root_.Go.OpenSpec.ofChange s with cond := some uptoSmall }

/-- 'laws.FnExactFracDigits', WHERE WHAT IT READS IS OF BULK AT MOST 1048576: true; the input reads as it did. -/
def fnExactFracDigitsUptoRow : OpenClaim := { program := "ytflbinlgigjpbaa", sum := "373bc417b4b8391d600693c6c45d3e133adb60f56655c5061b831b83413e3528", func := "loop.example/fractionrounds/laws.FnExactFracDigits", spec := "fnExactFracDigits", unfollowed := true, recurses := true, apart := false, narrowed := true }
def FnExactFracDigitsUptoSaid : Prop := fnExactFracDigitsUptoRow.holds Try.pinned (OpenSpec.upto fnExactFracDigitsSpec)

/-- 'laws.FnExactFracBegin', WHERE WHAT IT READS IS OF BULK AT MOST 1048576: true; the input reads as it did. -/
def fnExactFracBeginUptoRow : OpenClaim := { program := "ytflbinlgigjpbaa", sum := "373bc417b4b8391d600693c6c45d3e133adb60f56655c5061b831b83413e3528", func := "loop.example/fractionrounds/laws.FnExactFracBegin", spec := "fnExactFracBegin", unfollowed := true, recurses := true, apart := false, narrowed := true }
def FnExactFracBeginUptoSaid : Prop := fnExactFracBeginUptoRow.holds Try.pinned (OpenSpec.upto fnExactFracBeginSpec)

/-- 'laws.FnExactFracRound', WHERE WHAT IT READS IS OF BULK AT MOST 1048576: true; the input reads as it did. -/
def fnExactFracRoundUptoRow : OpenClaim := { program := "ytflbinlgigjpbaa", sum := "373bc417b4b8391d600693c6c45d3e133adb60f56655c5061b831b83413e3528", func := "loop.example/fractionrounds/laws.FnExactFracRound", spec := "fnExactFracRound", unfollowed := true, recurses := true, apart := false, narrowed := true }
def FnExactFracRoundUptoSaid : Prop := fnExactFracRoundUptoRow.holds Try.pinned (OpenSpec.upto fnExactFracRoundSpec)

/-- 'laws.FnExactFracLengths', WHERE WHAT IT READS IS OF BULK AT MOST 1048576: true; the input reads as it did. -/
def fnExactFracLengthsUptoRow : OpenClaim := { program := "ytflbinlgigjpbaa", sum := "373bc417b4b8391d600693c6c45d3e133adb60f56655c5061b831b83413e3528", func := "loop.example/fractionrounds/laws.FnExactFracLengths", spec := "fnExactFracLengths", unfollowed := true, recurses := true, apart := false, narrowed := true }
def FnExactFracLengthsUptoSaid : Prop := fnExactFracLengthsUptoRow.holds Try.pinned (OpenSpec.upto fnExactFracLengthsSpec)

end Rows
end Go.Proofs.Ytflbinlgigjpbaa
