/-
  Digits, beginning and round as lists: the program's functions and the model's answer alike.
-/
import Derived.Test.YthoaldiadgeonaaGRow
import Derived.Test.YthoaldiadgeonaaAns
import Derived.Test.YthoaldiadgeonaaTold
import Derived.Test.YthoaldiadgeonaaGRnd
import Derived.Test.YthoaldiadgeonaaFirst
namespace Go.Proofs.Ythoaldiadgeonaa
open Go.RowKit
















end Go.Proofs.Ythoaldiadgeonaa
