/-
  Orders, units, rows of ones, products of a base's primes: the model's.
-/
import Derived.Test.YtehpgcgdcoahnaaGOrd
import Derived.Test.YtehpgcgdcoahnaaPower
import Derived.Test.YtehpgcgdcoahnaaGrown
import Derived.Test.YtehpgcgdcoahnaaGRnd
import Derived.Test.YtehpgcgdcoahnaaPrm
import Derived.Test.YtehpgcgdcoahnaaAns
import Derived.Maps.AppendAt
namespace Go.Proofs.Ytehpgcgdcoahnaa
open Go.RowKit

















end Go.Proofs.Ytehpgcgdcoahnaa
