/-
  Parts of rounds: the model's list of parts.
-/
import Derived.Test.YtehpgcgdcoahnabDoorPartS
import Derived.Test.YtehpgcgdcoahnabDoorStepA
import Derived.Deep.RegionLaw
import Derived.BigRegion
namespace Go.Proofs.YtehpgcgdcoahnabDoor
open Go.RowKit


end Go.Proofs.YtehpgcgdcoahnabDoor
