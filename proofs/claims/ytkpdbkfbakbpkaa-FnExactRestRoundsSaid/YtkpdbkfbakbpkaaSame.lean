/-
  How the laws of the promises compare lists.
-/
import Derived.Test.YtkpdbkfbakbpkaaEq
namespace Go.Proofs.Ytkpdbkfbakbpkaa
open Go.RowKit


end Go.Proofs.Ytkpdbkfbakbpkaa
