/-
  DERIVED. GIVEN WITH THE SEED: THE CARDS: each row of YtehpgcgdcoahnadDoorRows.lean that lists a variable, with what it lists TIED to the program's text (the seventh form; the later family's looks); each row that meets fmt, with fmt's text TOLD by the authors' own Lean function (tested against real Go, not proved from fmt's source: count such statements apart). THE CARD IS WHAT COUNTS. Prove the row's statement (the work); the ties are given (YtehpgcgdcoahnadDoorTie.lean); close each card by the builder's one call (the guide's Derived/Test/ToyasCard.lean, 'card_holds'). Laid BY PROGRAM, IN A SANDBOX (cutbox-door.mjs). By AI agents, Wed Nov 11 2026. No macro, syntax, notation, axiom, sorry.
-/
import Derived.Test.YtehpgcgdcoahnadDoorRows
import GoSem.ClaimSeven
namespace Go.Proofs.YtehpgcgdcoahnadDoor
namespace Rows

/-- THE TIED CARD OF 'laws.FnHalvesPrime'. -/
def fnHalvesPrimeCard : Claim7 := { stood := { row := fnHalvesPrimeRow, standIns := [], harness := (true, "b690a23767700afa12d013a851dc9d6a2aa26d29800d6b40ef6cee1d15ab6bfd"), looks := true }, kinds := [], alts := [], laidByText := true, laidKinds := [.handle], laidTests := true, laidLooks := .later }
def FnHalvesPrimeCardSaid : Prop := Claim7.holds Tryd.pinned (.plain (OpenSpec.ofChange fnHalvesPrimeSpec)) fnHalvesPrimeCard

/-- THE TIED CARD OF 'laws.FnPartAll'. -/
def fnPartAllCard : Claim7 := { stood := { row := fnPartAllRow, standIns := [], harness := (true, "b690a23767700afa12d013a851dc9d6a2aa26d29800d6b40ef6cee1d15ab6bfd"), looks := true }, kinds := [], alts := [], laidByText := true, laidKinds := [.handle], laidTests := true, laidLooks := .later }
def FnPartAllCardSaid : Prop := Claim7.holds Tryd.pinned (.plain (OpenSpec.ofChange fnPartAllSpec)) fnPartAllCard

/-- THE SECOND FORM's CARD OF 'laws.FnHalvesPrime'. -/
def fnHalvesPrimeUptoCard : Claim7 := { stood := { row := fnHalvesPrimeUptoRow, standIns := [], harness := (true, "b690a23767700afa12d013a851dc9d6a2aa26d29800d6b40ef6cee1d15ab6bfd"), looks := true }, kinds := [], alts := [], laidByText := true, laidKinds := [.handle], laidTests := true, laidLooks := .later }
def FnHalvesPrimeUptoCardSaid : Prop := Claim7.holds Tryd.pinned (.plain (OpenSpec.upto fnHalvesPrimeSpec)) fnHalvesPrimeUptoCard

/-- THE SECOND FORM's CARD OF 'laws.FnPartAll'. -/
def fnPartAllUptoCard : Claim7 := { stood := { row := fnPartAllUptoRow, standIns := [], harness := (true, "b690a23767700afa12d013a851dc9d6a2aa26d29800d6b40ef6cee1d15ab6bfd"), looks := true }, kinds := [], alts := [], laidByText := true, laidKinds := [.handle], laidTests := true, laidLooks := .later }
def FnPartAllUptoCardSaid : Prop := Claim7.holds Tryd.pinned (.plain (OpenSpec.upto fnPartAllSpec)) fnPartAllUptoCard
end Rows
end Go.Proofs.YtehpgcgdcoahnadDoor
