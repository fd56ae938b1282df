/-
  Rings: the model's side.
-/
import Derived.Test.YtamcpoadpkgogadTurnI
import Derived.Test.YtamcpoadpkgogadStepA
import Derived.Test.YtamcpoadpkgogadEq
import Derived.Deep.RegionLaw
import Derived.BigRegion
namespace Go.Proofs.Ytamcpoadpkgogad
open Go.RowKit


theorem rot_slc {xs : List Int} {k m base : Nat} {W : World} {v : Value} (hx : xs.length = m) (hk : k ≤ m)
    (h : W.ownsRow base 3 1 v (0 + (m - k) + k) ([] ++ (xs.drop k).map (Value.int .i64) ++ (xs.take k).map (Value.int .i64))) : Slc base W v (rotL xs k) := by
  refine Slc.of_owns ?_
  have e1 : (rotL xs k).length = 0 + (m - k) + k := by rw [rotL_len, hx]; omega
  rw [e1]
  simpa [rotL] using h



end Go.Proofs.Ytamcpoadpkgogad
