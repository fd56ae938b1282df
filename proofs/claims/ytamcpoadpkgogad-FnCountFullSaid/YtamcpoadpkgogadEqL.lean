/-
  The model's own test of lists.
-/
import Derived.Test.YtamcpoadpkgogadEq
import Derived.Test.YtamcpoadpkgogadAns
import Derived.Test.YtamcpoadpkgogadGrown
import Derived.Deep.AppendLies
import Derived.Deep.RegionLaw
import Derived.Deep.DrawnRows
import Derived.Maps.AppendAt
namespace Go.Proofs.Ytamcpoadpkgogad
open Go.RowKit


end Go.Proofs.Ytamcpoadpkgogad
