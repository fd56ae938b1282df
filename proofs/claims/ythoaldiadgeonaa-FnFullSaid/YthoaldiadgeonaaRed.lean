/-
  The model's reduced fraction.
-/
import Derived.Test.YthoaldiadgeonaaNext
import Derived.RegionTactic
namespace Go.Proofs.Ythoaldiadgeonaa
open Go.RowKit


end Go.Proofs.Ythoaldiadgeonaa
