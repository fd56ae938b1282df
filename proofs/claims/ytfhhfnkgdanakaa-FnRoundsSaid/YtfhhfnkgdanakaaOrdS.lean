/-
  Orders, units, rows of ones, products of a base's primes: the model's.
-/
import Derived.Test.YtfhhfnkgdanakaaOrdQ
import Derived.Test.YtfhhfnkgdanakaaOrdR
import Derived.Test.YtfhhfnkgdanakaaPower
import Derived.Test.YtfhhfnkgdanakaaGrown
import Derived.Test.YtfhhfnkgdanakaaPrm
import Derived.Test.YtfhhfnkgdanakaaAns
import Derived.Maps.AppendAt
namespace Go.Proofs.Ytfhhfnkgdanakaa
open Go.RowKit

















end Go.Proofs.Ytfhhfnkgdanakaa
