/-
  DERIVED. GIVEN WITH THE SEED: THE CARDS: each row of YtehpgcgdcoahnacDoorRows.lean that lists a variable, with what it lists TIED to the program's text (the seventh form; the later family's looks); each row that meets fmt, with fmt's text TOLD by the authors' own Lean function (tested against real Go, not proved from fmt's source: count such statements apart). THE CARD IS WHAT COUNTS. Prove the row's statement (the work); the ties are given (YtehpgcgdcoahnacDoorTie.lean); close each card by the builder's one call (the guide's Derived/Test/ToyasCard.lean, 'card_holds'). Laid BY PROGRAM, IN A SANDBOX (cutbox-door.mjs). By AI agents, Wed Nov 11 2026. No macro, syntax, notation, axiom, sorry.
-/
import Derived.Test.YtehpgcgdcoahnacDoorRows
import GoSem.ClaimSeven
namespace Go.Proofs.YtehpgcgdcoahnacDoor
namespace Rows

/-- THE TIED CARD OF 'laws.FnExactPartAll'. -/
def fnExactPartAllCard : Claim7 := { stood := { row := fnExactPartAllRow, standIns := [], harness := (true, "52c5f19c309cbeaeb35dc467924430dff77f12cb5f7da8ad4c32a483f2501dc7"), looks := true }, kinds := [], alts := [], laidByText := true, laidKinds := [.handle], laidTests := true, laidLooks := .later }
def FnExactPartAllCardSaid : Prop := Claim7.holds Tryd.pinned (.plain (OpenSpec.ofChange fnExactPartAllSpec)) fnExactPartAllCard

/-- THE TIED CARD OF 'laws.FnMultiple'. -/
def fnMultipleCard : Claim7 := { stood := { row := fnMultipleRow, standIns := [], harness := (true, "52c5f19c309cbeaeb35dc467924430dff77f12cb5f7da8ad4c32a483f2501dc7"), looks := true }, kinds := [], alts := [], laidByText := true, laidKinds := [.handle], laidTests := true, laidLooks := .later }
def FnMultipleCardSaid : Prop := Claim7.holds Tryd.pinned (.plain (OpenSpec.ofChange fnMultipleSpec)) fnMultipleCard

/-- THE TIED CARD OF 'laws.FnPartPrime'. -/
def fnPartPrimeCard : Claim7 := { stood := { row := fnPartPrimeRow, standIns := [], harness := (true, "52c5f19c309cbeaeb35dc467924430dff77f12cb5f7da8ad4c32a483f2501dc7"), looks := true }, kinds := [], alts := [], laidByText := true, laidKinds := [.handle], laidTests := true, laidLooks := .later }
def FnPartPrimeCardSaid : Prop := Claim7.holds Tryd.pinned (.plain (OpenSpec.ofChange fnPartPrimeSpec)) fnPartPrimeCard

/-- THE TIED CARD OF 'laws.FnHalves'. -/
def fnHalvesCard : Claim7 := { stood := { row := fnHalvesRow, standIns := [], harness := (true, "52c5f19c309cbeaeb35dc467924430dff77f12cb5f7da8ad4c32a483f2501dc7"), looks := true }, kinds := [], alts := [], laidByText := true, laidKinds := [.handle], laidTests := true, laidLooks := .later }
def FnHalvesCardSaid : Prop := Claim7.holds Tryd.pinned (.plain (OpenSpec.ofChange fnHalvesSpec)) fnHalvesCard

/-- THE SECOND FORM's CARD OF 'laws.FnExactPartAll'. -/
def fnExactPartAllUptoCard : Claim7 := { stood := { row := fnExactPartAllUptoRow, standIns := [], harness := (true, "52c5f19c309cbeaeb35dc467924430dff77f12cb5f7da8ad4c32a483f2501dc7"), looks := true }, kinds := [], alts := [], laidByText := true, laidKinds := [.handle], laidTests := true, laidLooks := .later }
def FnExactPartAllUptoCardSaid : Prop := Claim7.holds Tryd.pinned (.plain (OpenSpec.upto fnExactPartAllSpec)) fnExactPartAllUptoCard

/-- THE SECOND FORM's CARD OF 'laws.FnMultiple'. -/
def fnMultipleUptoCard : Claim7 := { stood := { row := fnMultipleUptoRow, standIns := [], harness := (true, "52c5f19c309cbeaeb35dc467924430dff77f12cb5f7da8ad4c32a483f2501dc7"), looks := true }, kinds := [], alts := [], laidByText := true, laidKinds := [.handle], laidTests := true, laidLooks := .later }
def FnMultipleUptoCardSaid : Prop := Claim7.holds Tryd.pinned (.plain (OpenSpec.upto fnMultipleSpec)) fnMultipleUptoCard

/-- THE SECOND FORM's CARD OF 'laws.FnPartPrime'. -/
def fnPartPrimeUptoCard : Claim7 := { stood := { row := fnPartPrimeUptoRow, standIns := [], harness := (true, "52c5f19c309cbeaeb35dc467924430dff77f12cb5f7da8ad4c32a483f2501dc7"), looks := true }, kinds := [], alts := [], laidByText := true, laidKinds := [.handle], laidTests := true, laidLooks := .later }
def FnPartPrimeUptoCardSaid : Prop := Claim7.holds Tryd.pinned (.plain (OpenSpec.upto fnPartPrimeSpec)) fnPartPrimeUptoCard

/-- THE SECOND FORM's CARD OF 'laws.FnHalves'. -/
def fnHalvesUptoCard : Claim7 := { stood := { row := fnHalvesUptoRow, standIns := [], harness := (true, "52c5f19c309cbeaeb35dc467924430dff77f12cb5f7da8ad4c32a483f2501dc7"), looks := true }, kinds := [], alts := [], laidByText := true, laidKinds := [.handle], laidTests := true, laidLooks := .later }
def FnHalvesUptoCardSaid : Prop := Claim7.holds Tryd.pinned (.plain (OpenSpec.upto fnHalvesSpec)) fnHalvesUptoCard
end Rows
end Go.Proofs.YtehpgcgdcoahnacDoor
