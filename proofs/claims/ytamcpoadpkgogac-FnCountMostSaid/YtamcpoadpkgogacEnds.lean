/-
  Fractions that end: both tests.
-/
import Derived.Test.YtamcpoadpkgogacGRnd
import Derived.Test.YtamcpoadpkgogacGWlk
namespace Go.Proofs.Ytamcpoadpkgogac
open Go.RowKit



end Go.Proofs.Ytamcpoadpkgogac
