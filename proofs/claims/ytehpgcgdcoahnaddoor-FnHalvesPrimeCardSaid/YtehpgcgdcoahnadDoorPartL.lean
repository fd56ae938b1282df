/-
  Parts of rounds: the model's list of parts.
-/
import Derived.Test.YtehpgcgdcoahnadDoorPartS
import Derived.Test.YtehpgcgdcoahnadDoorStepA
import Derived.Deep.RegionLaw
import Derived.BigRegion
namespace Go.Proofs.YtehpgcgdcoahnadDoor
open Go.RowKit


end Go.Proofs.YtehpgcgdcoahnadDoor
