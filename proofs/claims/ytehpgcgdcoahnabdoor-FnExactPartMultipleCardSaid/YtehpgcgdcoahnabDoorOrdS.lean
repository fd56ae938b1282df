/-
  Orders, units, rows of ones, products of a base's primes: the model's.
-/
import Derived.Test.YtehpgcgdcoahnabDoorGOrd
import Derived.Test.YtehpgcgdcoahnabDoorPower
import Derived.Test.YtehpgcgdcoahnabDoorGrown
import Derived.Test.YtehpgcgdcoahnabDoorGRnd
import Derived.Test.YtehpgcgdcoahnabDoorPrm
import Derived.Test.YtehpgcgdcoahnabDoorAns
import Derived.Maps.AppendAt
namespace Go.Proofs.YtehpgcgdcoahnabDoor
open Go.RowKit

















end Go.Proofs.YtehpgcgdcoahnabDoor
