/-
  The model's reduced fraction.
-/
import Derived.Test.YtamcpoadpkgogadNext
import Derived.RegionTactic
namespace Go.Proofs.Ytamcpoadpkgogad
open Go.RowKit


end Go.Proofs.Ytamcpoadpkgogad
