/-
  The model's draws, as the laws call them: a base and a fraction; a fraction.
-/
import Derived.Test.YtoiofkijinlllacDraw3
namespace Go.Proofs.Ytoiofkijinlllac
open Go.RowKit
















theorem dig_val {k r : Int} (h1 : -1 ≤ k) (h2 : k ≤ 250 + 200) (h3 : 0 ≤ r) (h4 : r < 24) :
    -10000 ≤ IntKind.i64.wrap (k * IntKind.i64.wrap (1 + IntKind.i64.wrap (IntKind.i64.wrap (r.tdiv 23) * 4000))) ∧ IntKind.i64.wrap (k * IntKind.i64.wrap (1 + IntKind.i64.wrap (IntKind.i64.wrap (r.tdiv 23) * 4000))) ≤ 10000000 := by
  have e1 : r.tdiv 23 = r / 23 := Int.tdiv_eq_ediv_of_nonneg h3
  rw [e1, wrap_in (r / 23) (by omega) (by omega), wrap_in (r / 23 * 4000) (by omega) (by omega), wrap_in (1 + r / 23 * 4000) (by omega) (by omega)]
  have h5 : r / 23 = 0 ∨ r / 23 = 1 := by omega
  rcases h5 with h5 | h5
  · rw [h5, wrap_in _ (by omega) (by omega)]; omega
  · rw [h5, wrap_in _ (by omega) (by omega)]; omega


end Go.Proofs.Ytoiofkijinlllac
