/-
  The shifted fraction: the program's and the model's; the model's list of rests.
-/
import Derived.Test.YtfhhfnkgdanakaaOther
import Derived.Test.YtfhhfnkgdanakaaRstM
import Derived.Test.YtfhhfnkgdanakaaRed
import Derived.Test.YtfhhfnkgdanakaaPower
import Derived.Test.YtfhhfnkgdanakaaLens
import Derived.Deep.RegionHeld3
namespace Go.Proofs.Ytfhhfnkgdanakaa
open Go.RowKit








end Go.Proofs.Ytfhhfnkgdanakaa
