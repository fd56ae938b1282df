/-
  The model's reduced fraction.
-/
import Derived.Test.YtehpgcgdcoahnaaNext
import Derived.RegionTactic
namespace Go.Proofs.Ytehpgcgdcoahnaa
open Go.RowKit


end Go.Proofs.Ytehpgcgdcoahnaa
