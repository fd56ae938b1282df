/-
  The model's reduced fraction.
-/
import Derived.Test.YtmpbbflolbakhaaGreatDoorNext
import Derived.RegionTactic
namespace Go.Proofs.YtmpbbflolbakhaaGreatDoor
open Go.RowKit

set_option maxHeartbeats 400000 in
theorem l2Reduced_int (t n : Int) (w : World) (h0 : 0 ≤ t) (hn : 0 < n) (ht : t ≤ 100000000000) (hn2 : n ≤ 100000000000) :
    Calls Tryz.prog 53 #[.int .i64 t, .int .i64 n] w fun e w' =>
      e = .returned (.agg #[.int .i64 (t / gcdI t n), .int .i64 (n / gcdI t n)]) ∧ Below w.heap.size w w' := by
  have g1 := gcdI_pos_right t n (by omega)
  have q1 : 0 ≤ t / gcdI t n := Int.ediv_nonneg (by omega) (by omega)
  have q2 : t / gcdI t n ≤ 100000000000 := Int.le_trans (Int.ediv_le_self _ (by omega)) (by omega)
  have q3 : 0 ≤ n / gcdI t n := Int.ediv_nonneg (by omega) (by omega)
  have q4 : n / gcdI t n ≤ 100000000000 := Int.le_trans (Int.ediv_le_self _ (by omega)) (by omega)
  go_enter Tryz.func53, Tryz.ntmps53
  go_wp2_with (go_at_call 50; refine (l1Gcd_any _ _ _ (by omega) (by omega) (by omega) (by omega)).mono ?_; rintro e w' ⟨rfl, rfl⟩)
  go_region
  go_wp2
  refine bodyPost_ret (v := .agg #[.int .i64 (t / gcdI t n), .int .i64 (n / gcdI t n)]) (by simp [results, Tryz.results53, go_sem]) rfl ⟨rfl, ?_⟩
  repeat (first | exact Below.refl _ _ | refine Below.drew ?_ | refine Below.alloc ?_ (by simp; try omega) _ | refine Below.setCell ?_ (by simp; try omega) _)

end Go.Proofs.YtmpbbflolbakhaaGreatDoor
