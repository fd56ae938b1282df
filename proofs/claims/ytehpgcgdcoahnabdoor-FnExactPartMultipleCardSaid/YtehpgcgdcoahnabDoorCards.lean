/-
  DERIVED. GIVEN WITH THE SEED: THE CARDS: each row of YtehpgcgdcoahnabDoorRows.lean that lists a variable, with what it lists TIED to the program's text (the seventh form; the later family's looks); each row that meets fmt, with fmt's text TOLD by the authors' own Lean function (tested against real Go, not proved from fmt's source: count such statements apart). THE CARD IS WHAT COUNTS. Prove the row's statement (the work); the ties are given (YtehpgcgdcoahnabDoorTie.lean); close each card by the builder's one call (the guide's Derived/Test/ToyasCard.lean, 'card_holds'). Laid BY PROGRAM, IN A SANDBOX (cutbox-door.mjs). By AI agents, Wed Nov 11 2026. No macro, syntax, notation, axiom, sorry.
-/
import Derived.Test.YtehpgcgdcoahnabDoorRows
import GoSem.ClaimSeven
namespace Go.Proofs.YtehpgcgdcoahnabDoor
namespace Rows

/-- THE TIED CARD OF 'laws.FnExactPartMultiple'. -/
def fnExactPartMultipleCard : Claim7 := { stood := { row := fnExactPartMultipleRow, standIns := [], harness := (true, "bb086fca1927e38cc7bd8eed0dcd40770b929526c99e33dc6cd92d418410f0b2"), looks := true }, kinds := [], alts := [], laidByText := true, laidKinds := [.handle], laidTests := true, laidLooks := .later }
def FnExactPartMultipleCardSaid : Prop := Claim7.holds Tryd.pinned (.plain (OpenSpec.ofChange fnExactPartMultipleSpec)) fnExactPartMultipleCard

/-- THE SECOND FORM's CARD OF 'laws.FnExactPartMultiple'. -/
def fnExactPartMultipleUptoCard : Claim7 := { stood := { row := fnExactPartMultipleUptoRow, standIns := [], harness := (true, "bb086fca1927e38cc7bd8eed0dcd40770b929526c99e33dc6cd92d418410f0b2"), looks := true }, kinds := [], alts := [], laidByText := true, laidKinds := [.handle], laidTests := true, laidLooks := .later }
def FnExactPartMultipleUptoCardSaid : Prop := Claim7.holds Tryd.pinned (.plain (OpenSpec.upto fnExactPartMultipleSpec)) fnExactPartMultipleUptoCard
end Rows
end Go.Proofs.YtehpgcgdcoahnabDoor
