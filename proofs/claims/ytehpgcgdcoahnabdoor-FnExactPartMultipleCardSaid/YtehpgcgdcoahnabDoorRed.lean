/-
  The model's reduced fraction.
-/
import Derived.Test.YtehpgcgdcoahnabDoorNext
import Derived.RegionTactic
namespace Go.Proofs.YtehpgcgdcoahnabDoor
open Go.RowKit


end Go.Proofs.YtehpgcgdcoahnabDoor
