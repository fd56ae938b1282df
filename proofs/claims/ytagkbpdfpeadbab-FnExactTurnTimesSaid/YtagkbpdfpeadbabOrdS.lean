/-
  Orders, units, rows of ones, products of a base's primes: the model's.
-/
import Derived.Test.YtagkbpdfpeadbabGOrd
import Derived.Test.YtagkbpdfpeadbabPower
import Derived.Test.YtagkbpdfpeadbabGrown
import Derived.Test.YtagkbpdfpeadbabGRnd
import Derived.Test.YtagkbpdfpeadbabPrm
import Derived.Test.YtagkbpdfpeadbabAns
import Derived.Maps.AppendAt
namespace Go.Proofs.Ytagkbpdfpeadbab
open Go.RowKit

















end Go.Proofs.Ytagkbpdfpeadbab
