/-
  The model's draws: a base and a fraction; with a number besides.
-/
import Derived.Test.YtoiofkijinlllacDraw2
import Derived.StillTailTactics
namespace Go.Proofs.Ytoiofkijinlllac
open Go.RowKit


theorem with_val {r4 r5 r6 most : Int} (h1 : 0 ≤ r4) (h2 : r4 < most) (h3 : most ≤ 1000) (h4 : 0 ≤ r5) (h5 : r5 < 24) (h6 : 0 ≤ r6) (h7 : r6 < 24) :
    IntKind.i64.wrap (IntKind.i64.wrap (r4 - IntKind.i64.wrap (r5.tdiv 23)) + IntKind.i64.wrap (IntKind.i64.wrap (r6.tdiv 23) * 201)) = r4 - r5 / 23 + r6 / 23 * 201 := by
  have e1 : r5.tdiv 23 = r5 / 23 := Int.tdiv_eq_ediv_of_nonneg h4
  have e2 : r6.tdiv 23 = r6 / 23 := Int.tdiv_eq_ediv_of_nonneg h6
  rw [e1, e2, wrap_in (r5 / 23) (by omega) (by omega), wrap_in (r6 / 23) (by omega) (by omega), wrap_in (r4 - r5 / 23) (by omega) (by omega), wrap_in (r6 / 23 * 201) (by omega) (by omega), wrap_in _ (by omega) (by omega)]


end Go.Proofs.Ytoiofkijinlllac
