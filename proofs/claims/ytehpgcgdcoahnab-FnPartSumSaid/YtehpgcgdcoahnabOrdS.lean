/-
  Orders, units, rows of ones, products of a base's primes: the model's.
-/
import Derived.Test.YtehpgcgdcoahnabGOrd
import Derived.Test.YtehpgcgdcoahnabPower
import Derived.Test.YtehpgcgdcoahnabGrown
import Derived.Test.YtehpgcgdcoahnabGRnd
import Derived.Test.YtehpgcgdcoahnabPrm
import Derived.Test.YtehpgcgdcoahnabAns
import Derived.Maps.AppendAt
namespace Go.Proofs.Ytehpgcgdcoahnab
open Go.RowKit

















end Go.Proofs.Ytehpgcgdcoahnab
