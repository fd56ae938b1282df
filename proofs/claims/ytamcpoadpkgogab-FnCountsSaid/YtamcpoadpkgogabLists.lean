/-
  Digits, beginning and round as lists: the program's functions and the model's answer alike.
-/
import Derived.Test.YtamcpoadpkgogabGRow
import Derived.Test.YtamcpoadpkgogabAns
import Derived.Test.YtamcpoadpkgogabTold
import Derived.Test.YtamcpoadpkgogabGRnd
import Derived.Test.YtamcpoadpkgogabFirst
namespace Go.Proofs.Ytamcpoadpkgogab
open Go.RowKit
















end Go.Proofs.Ytamcpoadpkgogab
