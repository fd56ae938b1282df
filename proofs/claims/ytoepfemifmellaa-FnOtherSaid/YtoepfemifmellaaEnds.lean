/-
  Fractions that end: both tests.
-/
import Derived.Test.YtoepfemifmellaaRound
import Derived.Test.YtoepfemifmellaaBegin
namespace Go.Proofs.Ytoepfemifmellaa
open Go.RowKit



end Go.Proofs.Ytoepfemifmellaa
