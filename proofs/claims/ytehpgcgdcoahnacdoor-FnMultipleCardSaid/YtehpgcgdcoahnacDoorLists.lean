/-
  Digits, beginning and round as lists: the program's functions and the model's answer alike.
-/
import Derived.Test.YtehpgcgdcoahnacDoorGRow
import Derived.Test.YtehpgcgdcoahnacDoorAns
import Derived.Test.YtehpgcgdcoahnacDoorFirst
namespace Go.Proofs.YtehpgcgdcoahnacDoor
open Go.RowKit
















end Go.Proofs.YtehpgcgdcoahnacDoor
