/-
  Sums of rings, and which fraction is less: the model's side.
-/
import Derived.Test.YtoiofkijinllladSumI
import Derived.Test.YtoiofkijinllladOther
import Derived.Test.YtoiofkijinllladRow
import Derived.Test.YtoiofkijinllladPMath
import Derived.Maps.AppendAt
import Derived.Deep.QuietTactic
import Derived.BigQuiet
namespace Go.Proofs.Ytoiofkijinlllad
open Go.RowKit



end Go.Proofs.Ytoiofkijinlllad
