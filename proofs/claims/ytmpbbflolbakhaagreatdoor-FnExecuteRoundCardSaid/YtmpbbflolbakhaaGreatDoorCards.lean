/-
  DERIVED. GIVEN WITH THE SEED: THE CARDS: each row of YtmpbbflolbakhaaGreatDoorRows.lean that lists a variable, with what it lists TIED to the program's text (the seventh form; the later family's looks); each row that meets fmt, with fmt's text TOLD by the authors' own Lean function (tested against real Go, not proved from fmt's source: count such statements apart). THE CARD IS WHAT COUNTS. Prove the row's statement (the work); the ties are given (YtmpbbflolbakhaaGreatDoorTie.lean); close each card by the builder's one call (the guide's Derived/Test/ToyasCard.lean, 'card_holds'). Laid BY PROGRAM, IN A SANDBOX (cutbox-door.mjs). By AI agents, Wed Nov 11 2026. No macro, syntax, notation, axiom, sorry.
-/
import Derived.Test.YtmpbbflolbakhaaGreatDoorRows
import GoSem.ClaimSeven
namespace Go.Proofs.YtmpbbflolbakhaaGreatDoor
namespace Rows

/-- THE TIED CARD OF 'laws.FnExecuteRound'. -/
def fnExecuteRoundCard : Claim7 := { stood := { row := fnExecuteRoundRow, standIns := [], harness := (true, "e1dddf701f7eb125768de075d05875c772c60ab4f14742ddd150471e5f7697a7"), looks := true }, kinds := [], alts := [], goes := true, laidByText := true, laidKinds := [.data, .data, .data, .data, .handle, .pinned], laidTests := true, laidLooks := .later }
def FnExecuteRoundCardSaid : Prop := Claim7.holds Tryz.pinned (.plain (OpenSpec.ofChange fnExecuteRoundSpec)) fnExecuteRoundCard

/-- THE TIED CARD OF 'laws.FnExecuteOrder'. -/
def fnExecuteOrderCard : Claim7 := { stood := { row := fnExecuteOrderRow, standIns := [], harness := (true, "e1dddf701f7eb125768de075d05875c772c60ab4f14742ddd150471e5f7697a7"), looks := true }, kinds := [], alts := [], goes := true, laidByText := true, laidKinds := [.data, .data, .data, .data, .handle, .pinned], laidTests := true, laidLooks := .later }
def FnExecuteOrderCardSaid : Prop := Claim7.holds Tryz.pinned (.plain (OpenSpec.ofChange fnExecuteOrderSpec)) fnExecuteOrderCard

/-- THE SECOND FORM's CARD OF 'laws.FnExecuteRound'. -/
def fnExecuteRoundUptoCard : Claim7 := { stood := { row := fnExecuteRoundUptoRow, standIns := [], harness := (true, "e1dddf701f7eb125768de075d05875c772c60ab4f14742ddd150471e5f7697a7"), looks := true }, kinds := [], alts := [], goes := true, laidByText := true, laidKinds := [.data, .data, .data, .data, .handle, .pinned], laidTests := true, laidLooks := .later }
def FnExecuteRoundUptoCardSaid : Prop := Claim7.holds Tryz.pinned (.plain (OpenSpec.upto fnExecuteRoundSpec)) fnExecuteRoundUptoCard

/-- THE SECOND FORM's CARD OF 'laws.FnExecuteOrder'. -/
def fnExecuteOrderUptoCard : Claim7 := { stood := { row := fnExecuteOrderUptoRow, standIns := [], harness := (true, "e1dddf701f7eb125768de075d05875c772c60ab4f14742ddd150471e5f7697a7"), looks := true }, kinds := [], alts := [], goes := true, laidByText := true, laidKinds := [.data, .data, .data, .data, .handle, .pinned], laidTests := true, laidLooks := .later }
def FnExecuteOrderUptoCardSaid : Prop := Claim7.holds Tryz.pinned (.plain (OpenSpec.upto fnExecuteOrderSpec)) fnExecuteOrderUptoCard
end Rows
end Go.Proofs.YtmpbbflolbakhaaGreatDoor
