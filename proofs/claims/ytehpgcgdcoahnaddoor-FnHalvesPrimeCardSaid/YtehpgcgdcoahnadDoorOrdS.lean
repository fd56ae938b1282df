/-
  Orders, units, rows of ones, products of a base's primes: the model's.
-/
import Derived.Test.YtehpgcgdcoahnadDoorGOrd
import Derived.Test.YtehpgcgdcoahnadDoorPower
import Derived.Test.YtehpgcgdcoahnadDoorGrown
import Derived.Test.YtehpgcgdcoahnadDoorGRnd
import Derived.Test.YtehpgcgdcoahnadDoorPrm
import Derived.Test.YtehpgcgdcoahnadDoorAns
import Derived.Maps.AppendAt
namespace Go.Proofs.YtehpgcgdcoahnadDoor
open Go.RowKit

















end Go.Proofs.YtehpgcgdcoahnadDoor
