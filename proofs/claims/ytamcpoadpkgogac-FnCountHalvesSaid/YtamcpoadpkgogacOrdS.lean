/-
  Orders, units, rows of ones, products of a base's primes: the model's.
-/
import Derived.Test.YtamcpoadpkgogacGOrd
import Derived.Test.YtamcpoadpkgogacPower
import Derived.Test.YtamcpoadpkgogacGrown
import Derived.Test.YtamcpoadpkgogacGRnd
import Derived.Test.YtamcpoadpkgogacPrm
import Derived.Test.YtamcpoadpkgogacAns
import Derived.Maps.AppendAt
namespace Go.Proofs.Ytamcpoadpkgogac
open Go.RowKit

















end Go.Proofs.Ytamcpoadpkgogac
