/-
  The model's own test of lists.
-/
import Derived.Test.YtoiofkijinlllabEq
import Derived.Test.YtoiofkijinlllabAns
import Derived.Test.YtoiofkijinlllabGrown
import Derived.Deep.AppendLies
import Derived.Deep.RegionLaw
import Derived.Deep.DrawnRows
import Derived.Maps.AppendAt
namespace Go.Proofs.Ytoiofkijinlllab
open Go.RowKit


end Go.Proofs.Ytoiofkijinlllab
