/-
  The model's reduced fraction.
-/
import Derived.Test.YtfhhfnkgdanakaaNext
import Derived.RegionTactic
namespace Go.Proofs.Ytfhhfnkgdanakaa
open Go.RowKit


end Go.Proofs.Ytfhhfnkgdanakaa
