/-
  Parts of rounds: the model's list of parts.
-/
import Derived.Test.YtamcpoadpkgogacPartS
import Derived.Test.YtamcpoadpkgogacStepA
import Derived.Deep.RegionLaw
import Derived.BigRegion
namespace Go.Proofs.Ytamcpoadpkgogac
open Go.RowKit


end Go.Proofs.Ytamcpoadpkgogac
