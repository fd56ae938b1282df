/-
  Orders, units, rows of ones, products of a base's primes: the model's.
-/
import Derived.Test.YtbgpdhnfaacenacGOrd
import Derived.Test.YtbgpdhnfaacenacPower
import Derived.Test.YtbgpdhnfaacenacGrown
import Derived.Test.YtbgpdhnfaacenacPrm
import Derived.Test.YtbgpdhnfaacenacAns
import Derived.Maps.AppendAt
namespace Go.Proofs.Ytbgpdhnfaacenac
open Go.RowKit

















end Go.Proofs.Ytbgpdhnfaacenac
