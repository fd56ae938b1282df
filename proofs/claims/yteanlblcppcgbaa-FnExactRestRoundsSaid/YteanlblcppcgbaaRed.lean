/-
  The model's reduced fraction.
-/
import Derived.Test.YteanlblcppcgbaaNext
import Derived.RegionTactic
namespace Go.Proofs.Yteanlblcppcgbaa
open Go.RowKit


end Go.Proofs.Yteanlblcppcgbaa
