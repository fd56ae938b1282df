/-
  Digits, beginning and round as lists: the program's functions and the model's answer alike.
-/
import Derived.Test.YtehpgcgdcoahnadDoorGRow
import Derived.Test.YtehpgcgdcoahnadDoorAns
import Derived.Test.YtehpgcgdcoahnadDoorFirst
namespace Go.Proofs.YtehpgcgdcoahnadDoor
open Go.RowKit
















end Go.Proofs.YtehpgcgdcoahnadDoor
