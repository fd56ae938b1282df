/-
  The model's reduced fraction.
-/
import Derived.Test.YtkpdbkfbakbpkaaNext
import Derived.RegionTactic
namespace Go.Proofs.Ytkpdbkfbakbpkaa
open Go.RowKit


end Go.Proofs.Ytkpdbkfbakbpkaa
