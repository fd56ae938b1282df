/-
  The shifted fraction: the program's and the model's; the model's list of rests.
-/
import Derived.Test.YtamcpoadpkgogabOther
import Derived.Test.YtamcpoadpkgogabGOrd
import Derived.Test.YtamcpoadpkgogabRed
import Derived.Test.YtamcpoadpkgogabPower
import Derived.Test.YtamcpoadpkgogabGRnd
import Derived.Deep.RegionHeld3
namespace Go.Proofs.Ytamcpoadpkgogab
open Go.RowKit



theorem l2Reduced_rst (b T B k : Nat) (w : World) (hT : T < B) (hg : Nat.gcd T B = 1) (hB : B ≤ 1000) :
    Calls Try.prog 60 #[.int .i64 (rst b T B k), .int .i64 B] w fun e w' =>
      e = .returned (.agg #[.int .i64 (frT b T B k).1, .int .i64 (frT b T B k).2]) ∧ Below w.heap.size w w' := by
  have hr := rst_lt (b := b) hT k
  have hl := low_rst (b := b) hT hg k
  have h := l2Reduced_int (rst b T B k) B w (by omega) (by omega) (by omega) (by omega)
  rw [gcdI_nat] at h
  rw [← hl.1, ← hl.2]
  simpa using h





end Go.Proofs.Ytamcpoadpkgogab
