/-
  Orders, units, rows of ones, products of a base's primes: the model's.
-/
import Derived.Test.YtoiofkijinlllabGOrd
import Derived.Test.YtoiofkijinlllabPower
import Derived.Test.YtoiofkijinlllabGrown
import Derived.Test.YtoiofkijinlllabGRnd
import Derived.Test.YtoiofkijinlllabPrm
import Derived.Test.YtoiofkijinlllabAns
import Derived.Maps.AppendAt
namespace Go.Proofs.Ytoiofkijinlllab
open Go.RowKit

















end Go.Proofs.Ytoiofkijinlllab
