/-
  No cell of these rows narrows 'for every input' (looked for: loops, veiled, ifaces, maps, wideKeys, modest, calm, conditions, laid).
  DERIVED. THE GIVEN ROWS OF THIS SEAT. 4 by the template 'for every input the law returns true; each argument reads behind the call as it read before'; 0 by the template 'total and deterministic' (their statements: YtomfofkhcjcijaaTotals.lean).
  GIVEN WITH THE SEED: the statements are not yours to turn. If you find one false, say at which input.
  Laid BY PROGRAM, IN A SANDBOX (cutbox-rows.mjs): the forced cells as the released guide's own fill.sh prints them over the translation ccb10239ec1d3d41… (all of the seat's roots in one cut). By AI agents, Wed Nov 11 2026. No macro, syntax, notation, axiom, sorry.
-/
import Derived.Test.YtomfofkhcjcijaaChecked
import GoSem.Claim
import GoSem.ClaimJoined
import GoSem.ClaimMapViews
import Derived.JoinedTies
import Derived.KernelRfl
namespace Go.Proofs.Ytomfofkhcjcijaa
/- THE CELL 'sum', in the pinned program and in every row, IS THE sha256 OF THE DUMP (.gsa) THAT YtomfofkhcjcijaaProg.lean LOADS. Nothing in Lean hashes anything: it is a label: what it is worth is what the hold of that sum in a sandbox is worth. -/
noncomputable def Try.pinned : Pinned := { name := "ytomfofkhcjcijaa", sum := "ccb10239ec1d3d4115e9c36702e4ae08d8c620015ee217342e77fac83aaa5963", checked := Try.checked }
namespace Rows
def none {H : Type} : Left H := { results := [], args := [] }

/-- 'laws.FnFrac': WHATEVER THE INPUT: true; the input reads as it did. -/
def fnFracSpec : ChangeSpec := { name := "fnFrac", fn := fun _ => fun
  | [d] => { results := [.lit (.bool true)], args := [d] }
  | _ => none }
def fnFracRow : OpenClaim := { program := "ytomfofkhcjcijaa", sum := "ccb10239ec1d3d4115e9c36702e4ae08d8c620015ee217342e77fac83aaa5963", func := "loop.example/fractionrounds/laws.FnFrac", spec := "fnFrac", unfollowed := true, recurses := true, apart := false }
def FnFracSaid : Prop := fnFracRow.holds Try.pinned (OpenSpec.ofChange fnFracSpec)

/-- ITS FALSE NEIGHBOUR: 'it returns false'. Refute it at one input. -/
def fnFracWrong : ChangeSpec := { name := "fnFrac", fn := fun _ => fun
  | [d] => { results := [.lit (.bool false)], args := [d] }
  | _ => none }
def FnFracWrongFalsely : Prop := fnFracRow.holds Try.pinned (OpenSpec.ofChange fnFracWrong)

/-- 'laws.FnEnds': WHATEVER THE INPUT: true; the input reads as it did. -/
def fnEndsSpec : ChangeSpec := { name := "fnEnds", fn := fun _ => fun
  | [d] => { results := [.lit (.bool true)], args := [d] }
  | _ => none }
def fnEndsRow : OpenClaim := { program := "ytomfofkhcjcijaa", sum := "ccb10239ec1d3d4115e9c36702e4ae08d8c620015ee217342e77fac83aaa5963", func := "loop.example/fractionrounds/laws.FnEnds", spec := "fnEnds", unfollowed := true, recurses := true, apart := false }
def FnEndsSaid : Prop := fnEndsRow.holds Try.pinned (OpenSpec.ofChange fnEndsSpec)

/-- ITS FALSE NEIGHBOUR: 'it returns false'. Refute it at one input. -/
def fnEndsWrong : ChangeSpec := { name := "fnEnds", fn := fun _ => fun
  | [d] => { results := [.lit (.bool false)], args := [d] }
  | _ => none }
def FnEndsWrongFalsely : Prop := fnEndsRow.holds Try.pinned (OpenSpec.ofChange fnEndsWrong)

/-- 'laws.FnLengths': WHATEVER THE INPUT: true; the input reads as it did. -/
def fnLengthsSpec : ChangeSpec := { name := "fnLengths", fn := fun _ => fun
  | [d] => { results := [.lit (.bool true)], args := [d] }
  | _ => none }
def fnLengthsRow : OpenClaim := { program := "ytomfofkhcjcijaa", sum := "ccb10239ec1d3d4115e9c36702e4ae08d8c620015ee217342e77fac83aaa5963", func := "loop.example/fractionrounds/laws.FnLengths", spec := "fnLengths", unfollowed := true, recurses := true, apart := false }
def FnLengthsSaid : Prop := fnLengthsRow.holds Try.pinned (OpenSpec.ofChange fnLengthsSpec)

/-- ITS FALSE NEIGHBOUR: 'it returns false'. Refute it at one input. -/
def fnLengthsWrong : ChangeSpec := { name := "fnLengths", fn := fun _ => fun
  | [d] => { results := [.lit (.bool false)], args := [d] }
  | _ => none }
def FnLengthsWrongFalsely : Prop := fnLengthsRow.holds Try.pinned (OpenSpec.ofChange fnLengthsWrong)

/-- 'laws.FnDigit': WHATEVER THE INPUT: true; the input reads as it did. -/
def fnDigitSpec : ChangeSpec := { name := "fnDigit", fn := fun _ => fun
  | [d] => { results := [.lit (.bool true)], args := [d] }
  | _ => none }
def fnDigitRow : OpenClaim := { program := "ytomfofkhcjcijaa", sum := "ccb10239ec1d3d4115e9c36702e4ae08d8c620015ee217342e77fac83aaa5963", func := "loop.example/fractionrounds/laws.FnDigit", spec := "fnDigit", unfollowed := true, recurses := true, apart := false }
def FnDigitSaid : Prop := fnDigitRow.holds Try.pinned (OpenSpec.ofChange fnDigitSpec)

/-- ITS FALSE NEIGHBOUR: 'it returns false'. Refute it at one input. -/
def fnDigitWrong : ChangeSpec := { name := "fnDigit", fn := fun _ => fun
  | [d] => { results := [.lit (.bool false)], args := [d] }
  | _ => none }
def FnDigitWrongFalsely : Prop := fnDigitRow.holds Try.pinned (OpenSpec.ofChange fnDigitWrong)

/- THE SECOND FORM. 'bulk': how many values and letters a reading holds, each counted each time it is reached (what is shared counts as often as it is met; a slice's spare places count too). A statement '..UptoSaid' is the law's where the arguments, and the package variables that the reading takes, are together of bulk at most 1048576: NARROWER than '..Said'. Prove '..Said' where nothing that the law and all that it calls make is longer than what came in: it says more and counts as full. Else prove '..UptoSaid'. A law counts once. -/
mutual
def uptoBulk {H : Type} : DataW H → Nat
  | .lit (.string bytes) => bytes.length + 1
  | .lit _ => 1
  | .nil => 1
  | .ptr d => uptoBulk d + 1
  | .slice elems spare => uptoBulkAll elems + uptoBulkAll spare + 1
  | .agg parts => uptoBulkAll parts + 1
  | .iface _ d => uptoBulk d + 1
  | .map entries => uptoBulkEntries entries + 1
  | .held _ => 1
def uptoBulkAll {H : Type} : List (DataW H) → Nat
  | [] => 0
  | d :: r => uptoBulk d + uptoBulkAll r
def uptoBulkEntries {H : Type} : List (Lit × DataW H) → Nat
  | [] => 0
  | x :: r => uptoBulkEntry x + uptoBulkEntries r
def uptoBulkEntry {H : Type} : Lit × DataW H → Nat
  | (.string bytes, d) => bytes.length + uptoBulk d + 1
  | (_, d) => uptoBulk d + 1
 end
def uptoSmall : (H : Type) → List (DataW H) → Bool := fun _ ds => decide (uptoBulkAll ds ≤ 1048576)
def OpenSpec.upto (s : _root_.Go.ChangeSpec) : _root_.Go.OpenSpec := { _root_.Go.OpenSpec.ofChange s with cond := some uptoSmall }

/-- 'laws.FnFrac', WHERE WHAT IT READS IS OF BULK AT MOST 1048576: true; the input reads as it did. -/
def fnFracUptoRow : OpenClaim := { program := "ytomfofkhcjcijaa", sum := "ccb10239ec1d3d4115e9c36702e4ae08d8c620015ee217342e77fac83aaa5963", func := "loop.example/fractionrounds/laws.FnFrac", spec := "fnFrac", unfollowed := true, recurses := true, apart := false, narrowed := true }
def FnFracUptoSaid : Prop := fnFracUptoRow.holds Try.pinned (OpenSpec.upto fnFracSpec)

/-- 'laws.FnEnds', WHERE WHAT IT READS IS OF BULK AT MOST 1048576: true; the input reads as it did. -/
def fnEndsUptoRow : OpenClaim := { program := "ytomfofkhcjcijaa", sum := "ccb10239ec1d3d4115e9c36702e4ae08d8c620015ee217342e77fac83aaa5963", func := "loop.example/fractionrounds/laws.FnEnds", spec := "fnEnds", unfollowed := true, recurses := true, apart := false, narrowed := true }
def FnEndsUptoSaid : Prop := fnEndsUptoRow.holds Try.pinned (OpenSpec.upto fnEndsSpec)

/-- 'laws.FnLengths', WHERE WHAT IT READS IS OF BULK AT MOST 1048576: true; the input reads as it did. -/
def fnLengthsUptoRow : OpenClaim := { program := "ytomfofkhcjcijaa", sum := "ccb10239ec1d3d4115e9c36702e4ae08d8c620015ee217342e77fac83aaa5963", func := "loop.example/fractionrounds/laws.FnLengths", spec := "fnLengths", unfollowed := true, recurses := true, apart := false, narrowed := true }
def FnLengthsUptoSaid : Prop := fnLengthsUptoRow.holds Try.pinned (OpenSpec.upto fnLengthsSpec)

/-- 'laws.FnDigit', WHERE WHAT IT READS IS OF BULK AT MOST 1048576: true; the input reads as it did. -/
def fnDigitUptoRow : OpenClaim := { program := "ytomfofkhcjcijaa", sum := "ccb10239ec1d3d4115e9c36702e4ae08d8c620015ee217342e77fac83aaa5963", func := "loop.example/fractionrounds/laws.FnDigit", spec := "fnDigit", unfollowed := true, recurses := true, apart := false, narrowed := true }
def FnDigitUptoSaid : Prop := fnDigitUptoRow.holds Try.pinned (OpenSpec.upto fnDigitSpec)

end Rows
end Go.Proofs.Ytomfofkhcjcijaa
