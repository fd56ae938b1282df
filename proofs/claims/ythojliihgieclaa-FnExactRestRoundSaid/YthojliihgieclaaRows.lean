/-
  No cell of these rows narrows 'for every input' (looked for: loops, veiled, ifaces, maps, wideKeys, modest, calm, conditions, laid).
  DERIVED. THE GIVEN ROWS OF THIS SEAT. 4 by the template 'for every input the law returns true; each argument reads behind the call as it read before'; 0 by the template 'total and deterministic' (their statements: YthojliihgieclaaTotals.lean).
  GIVEN WITH THE SEED: the statements are not yours to turn. If you find one false, say at which input.
  Laid BY PROGRAM, IN A SANDBOX (cutbox-rows.mjs): the forced cells as the released guide's own fill.sh prints them over the translation f6ddd5d239e04da8… (all of the seat's roots in one cut). By AI agents, Wed Nov 11 2026. No macro, syntax, notation, axiom, sorry.
-/
import Derived.Test.YthojliihgieclaaChecked
import GoSem.Claim
import GoSem.ClaimJoined
import GoSem.ClaimMapViews
import Derived.JoinedTies
import Derived.KernelRfl
namespace Go.Proofs.Ythojliihgieclaa
/- THE CELL 'sum', in the pinned program and in every row, IS THE sha256 OF THE DUMP (.gsa) THAT YthojliihgieclaaProg.lean LOADS. Nothing in Lean hashes anything: it is a label: what it is worth is what the hold of that sum in a sandbox is worth. -/
noncomputable def Try.pinned : Pinned := { name := "ythojliihgieclaa", sum := "f6ddd5d239e04da8b8540e50017f453d2a3e6bb5bae75f98996c2f4d49fa7582", checked := Try.checked }
namespace Rows
def none {H : Type} : Left H := { results := [], args := [] }

/-- 'laws.FnExactRestShift': WHATEVER THE INPUT: true; the input reads as it did. -/
def fnExactRestShiftSpec : ChangeSpec := { name := "fnExactRestShift", fn := fun _ => fun
  | [d1, d2, d3] => { results := [.lit (.bool true)], args := [d1, d2, d3] }
  | _ => none }
def fnExactRestShiftRow : OpenClaim := { program := "ythojliihgieclaa", sum := "f6ddd5d239e04da8b8540e50017f453d2a3e6bb5bae75f98996c2f4d49fa7582", func := "loop.example/fractionrounds/laws.FnExactRestShift", spec := "fnExactRestShift", apart := false }
def FnExactRestShiftSaid : Prop := fnExactRestShiftRow.holds Try.pinned (OpenSpec.ofChange fnExactRestShiftSpec)

/-- ITS FALSE NEIGHBOUR: 'it returns false'. Refute it at one input. -/
def fnExactRestShiftWrong : ChangeSpec := { name := "fnExactRestShift", fn := fun _ => fun
  | [d1, d2, d3] => { results := [.lit (.bool false)], args := [d1, d2, d3] }
  | _ => none }
def FnExactRestShiftWrongFalsely : Prop := fnExactRestShiftRow.holds Try.pinned (OpenSpec.ofChange fnExactRestShiftWrong)

/-- 'laws.FnExactRestOther': WHATEVER THE INPUT: true; the input reads as it did. -/
def fnExactRestOtherSpec : ChangeSpec := { name := "fnExactRestOther", fn := fun _ => fun
  | [d] => { results := [.lit (.bool true)], args := [d] }
  | _ => none }
def fnExactRestOtherRow : OpenClaim := { program := "ythojliihgieclaa", sum := "f6ddd5d239e04da8b8540e50017f453d2a3e6bb5bae75f98996c2f4d49fa7582", func := "loop.example/fractionrounds/laws.FnExactRestOther", spec := "fnExactRestOther", apart := false }
def FnExactRestOtherSaid : Prop := fnExactRestOtherRow.holds Try.pinned (OpenSpec.ofChange fnExactRestOtherSpec)

/-- ITS FALSE NEIGHBOUR: 'it returns false'. Refute it at one input. -/
def fnExactRestOtherWrong : ChangeSpec := { name := "fnExactRestOther", fn := fun _ => fun
  | [d] => { results := [.lit (.bool false)], args := [d] }
  | _ => none }
def FnExactRestOtherWrongFalsely : Prop := fnExactRestOtherRow.holds Try.pinned (OpenSpec.ofChange fnExactRestOtherWrong)

/-- 'laws.FnExactRestList': WHATEVER THE INPUT: true; the input reads as it did. -/
def fnExactRestListSpec : ChangeSpec := { name := "fnExactRestList", fn := fun _ => fun
  | [d1, d2] => { results := [.lit (.bool true)], args := [d1, d2] }
  | _ => none }
def fnExactRestListRow : OpenClaim := { program := "ythojliihgieclaa", sum := "f6ddd5d239e04da8b8540e50017f453d2a3e6bb5bae75f98996c2f4d49fa7582", func := "loop.example/fractionrounds/laws.FnExactRestList", spec := "fnExactRestList", unfollowed := true, recurses := true, apart := false }
def FnExactRestListSaid : Prop := fnExactRestListRow.holds Try.pinned (OpenSpec.ofChange fnExactRestListSpec)

/-- ITS FALSE NEIGHBOUR: 'it returns false'. Refute it at one input. -/
def fnExactRestListWrong : ChangeSpec := { name := "fnExactRestList", fn := fun _ => fun
  | [d1, d2] => { results := [.lit (.bool false)], args := [d1, d2] }
  | _ => none }
def FnExactRestListWrongFalsely : Prop := fnExactRestListRow.holds Try.pinned (OpenSpec.ofChange fnExactRestListWrong)

/-- 'laws.FnExactRestRound': WHATEVER THE INPUT: true; the input reads as it did. -/
def fnExactRestRoundSpec : ChangeSpec := { name := "fnExactRestRound", fn := fun _ => fun
  | [d1, d2] => { results := [.lit (.bool true)], args := [d1, d2] }
  | _ => none }
def fnExactRestRoundRow : OpenClaim := { program := "ythojliihgieclaa", sum := "f6ddd5d239e04da8b8540e50017f453d2a3e6bb5bae75f98996c2f4d49fa7582", func := "loop.example/fractionrounds/laws.FnExactRestRound", spec := "fnExactRestRound", unfollowed := true, recurses := true, apart := false }
def FnExactRestRoundSaid : Prop := fnExactRestRoundRow.holds Try.pinned (OpenSpec.ofChange fnExactRestRoundSpec)

/-- ITS FALSE NEIGHBOUR: 'it returns false'. Refute it at one input. -/
def fnExactRestRoundWrong : ChangeSpec := { name := "fnExactRestRound", fn := fun _ => fun
  | [d1, d2] => { results := [.lit (.bool false)], args := [d1, d2] }
  | _ => none }
def FnExactRestRoundWrongFalsely : Prop := fnExactRestRoundRow.holds Try.pinned (OpenSpec.ofChange fnExactRestRoundWrong)

/- THE SECOND FORM. 'bulk': how many values and letters a reading holds, each counted each time it is reached (what is shared counts as often as it is met; a slice's spare places count too). A statement '..UptoSaid' is the law's where the arguments, and the package variables that the reading takes, are together of bulk at most 1048576: NARROWER than '..Said'. Prove '..Said' where nothing that the law and all that it calls make is longer than what came in: it says more and counts as full. Else prove '..UptoSaid'. A law counts once. -/
mutual
def uptoBulk {H : Type} : DataW H → Nat
  | .lit (.string bytes) => bytes.length + 1
  | .lit _ => 1
  | .nil => 1
  | .ptr d => uptoBulk d + 1
  | .slice elems spare => uptoBulkAll elems + uptoBulkAll spare + 1
  | .agg parts => uptoBulkAll parts + 1
  | .iface _ d => uptoBulk d + 1
  | .map entries => uptoBulkEntries entries + 1
  | .held _ => 1
def uptoBulkAll {H : Type} : List (DataW H) → Nat
  | [] => 0
  | d :: r => uptoBulk d + uptoBulkAll r
def uptoBulkEntries {H : Type} : List (Lit × DataW H) → Nat
  | [] => 0
  | x :: r => uptoBulkEntry x + uptoBulkEntries r
def uptoBulkEntry {H : Type} : Lit × DataW H → Nat
  | (.string bytes, d) => bytes.length + uptoBulk d + 1
  | (_, d) => uptoBulk d + 1
 end
def uptoSmall : (H : Type) → List (DataW H) → Bool := fun _ ds => decide (uptoBulkAll ds ≤ 1048576)
def OpenSpec.upto (s : _root_.Go.ChangeSpec) : _root_.Go.OpenSpec := { _root_.Go.OpenSpec.ofChange s with cond := some uptoSmall }

/-- 'laws.FnExactRestShift', WHERE WHAT IT READS IS OF BULK AT MOST 1048576: true; the input reads as it did. -/
def fnExactRestShiftUptoRow : OpenClaim := { program := "ythojliihgieclaa", sum := "f6ddd5d239e04da8b8540e50017f453d2a3e6bb5bae75f98996c2f4d49fa7582", func := "loop.example/fractionrounds/laws.FnExactRestShift", spec := "fnExactRestShift", apart := false, narrowed := true }
def FnExactRestShiftUptoSaid : Prop := fnExactRestShiftUptoRow.holds Try.pinned (OpenSpec.upto fnExactRestShiftSpec)

/-- 'laws.FnExactRestOther', WHERE WHAT IT READS IS OF BULK AT MOST 1048576: true; the input reads as it did. -/
def fnExactRestOtherUptoRow : OpenClaim := { program := "ythojliihgieclaa", sum := "f6ddd5d239e04da8b8540e50017f453d2a3e6bb5bae75f98996c2f4d49fa7582", func := "loop.example/fractionrounds/laws.FnExactRestOther", spec := "fnExactRestOther", apart := false, narrowed := true }
def FnExactRestOtherUptoSaid : Prop := fnExactRestOtherUptoRow.holds Try.pinned (OpenSpec.upto fnExactRestOtherSpec)

/-- 'laws.FnExactRestList', WHERE WHAT IT READS IS OF BULK AT MOST 1048576: true; the input reads as it did. -/
def fnExactRestListUptoRow : OpenClaim := { program := "ythojliihgieclaa", sum := "f6ddd5d239e04da8b8540e50017f453d2a3e6bb5bae75f98996c2f4d49fa7582", func := "loop.example/fractionrounds/laws.FnExactRestList", spec := "fnExactRestList", unfollowed := true, recurses := true, apart := false, narrowed := true }
def FnExactRestListUptoSaid : Prop := fnExactRestListUptoRow.holds Try.pinned (OpenSpec.upto fnExactRestListSpec)

/-- 'laws.FnExactRestRound', WHERE WHAT IT READS IS OF BULK AT MOST 1048576: true; the input reads as it did. -/
def fnExactRestRoundUptoRow : OpenClaim := { program := "ythojliihgieclaa", sum := "f6ddd5d239e04da8b8540e50017f453d2a3e6bb5bae75f98996c2f4d49fa7582", func := "loop.example/fractionrounds/laws.FnExactRestRound", spec := "fnExactRestRound", unfollowed := true, recurses := true, apart := false, narrowed := true }
def FnExactRestRoundUptoSaid : Prop := fnExactRestRoundUptoRow.holds Try.pinned (OpenSpec.upto fnExactRestRoundSpec)

end Rows
end Go.Proofs.Ythojliihgieclaa
