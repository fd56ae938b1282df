/-
  Orders, units, rows of ones, products of a base's primes: the model's.
-/
import Derived.Test.YtagkbpdfpeadbadGOrd
import Derived.Test.YtagkbpdfpeadbadPower
import Derived.Test.YtagkbpdfpeadbadGrown
import Derived.Test.YtagkbpdfpeadbadGRnd
import Derived.Test.YtagkbpdfpeadbadPrm
import Derived.Test.YtagkbpdfpeadbadAns
import Derived.Maps.AppendAt
namespace Go.Proofs.Ytagkbpdfpeadbad
open Go.RowKit

















end Go.Proofs.Ytagkbpdfpeadbad
