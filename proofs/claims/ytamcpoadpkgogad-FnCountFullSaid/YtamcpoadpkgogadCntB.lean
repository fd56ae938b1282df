/-
  Chapter 7: both sides answer one thing, where the program answers what its sentence says.
-/
import Derived.Test.YtamcpoadpkgogadCntI
import Derived.Test.YtamcpoadpkgogadCntT
namespace Go.Proofs.Ytamcpoadpkgogad
open Go.RowKit



theorem bothCountFull (H : ImCountFull) (b p d : Int) : ∃ x q, GivesI 6 #[.int .i64 b, .int .i64 p, .int .i64 d] x q ∧ GivesI 5 #[.int .i64 b, .int .i64 p, .int .i64 d] x q := by
  rcases ful_or b p d with h | ⟨b, p, d, rfl, rfl, rfl, h1, h2, h3, h4⟩
  · exact ⟨0, false, specCountFull_no b p d h, H.1 b p d h⟩
  · exact ⟨_, true, specCountFull_yes b p d h1 h2 h3 h4, H.2 b p d h1 h2 h3 h4⟩




end Go.Proofs.Ytamcpoadpkgogad
