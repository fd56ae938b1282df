/-
  Digits, beginning and round as lists: the program's functions and the model's answer alike.
-/
import Derived.Test.YtamcpoadpkgogacGRow
import Derived.Test.YtamcpoadpkgogacAns
import Derived.Test.YtamcpoadpkgogacTold
import Derived.Test.YtamcpoadpkgogacGRnd
import Derived.Test.YtamcpoadpkgogacFirst
namespace Go.Proofs.Ytamcpoadpkgogac
open Go.RowKit
















end Go.Proofs.Ytamcpoadpkgogac
