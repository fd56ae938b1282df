/-
  The shifted fraction: the program's and the model's; the model's list of rests.
-/
import Derived.Test.YtkpdbkfbakbpkaaOther
import Derived.Test.YtkpdbkfbakbpkaaRstM
import Derived.Test.YtkpdbkfbakbpkaaRed
import Derived.Test.YtkpdbkfbakbpkaaPower
import Derived.Test.YtkpdbkfbakbpkaaLens
import Derived.Deep.RegionHeld3
namespace Go.Proofs.Ytkpdbkfbakbpkaa
open Go.RowKit








end Go.Proofs.Ytkpdbkfbakbpkaa
