/-
  Orders, units, rows of ones, products of a base's primes: the model's.
-/
import Derived.Test.YtehpgcgdcoahnacDoorGOrd
import Derived.Test.YtehpgcgdcoahnacDoorPower
import Derived.Test.YtehpgcgdcoahnacDoorGrown
import Derived.Test.YtehpgcgdcoahnacDoorGRnd
import Derived.Test.YtehpgcgdcoahnacDoorPrm
import Derived.Test.YtehpgcgdcoahnacDoorAns
import Derived.Maps.AppendAt
namespace Go.Proofs.YtehpgcgdcoahnacDoor
open Go.RowKit

















end Go.Proofs.YtehpgcgdcoahnacDoor
