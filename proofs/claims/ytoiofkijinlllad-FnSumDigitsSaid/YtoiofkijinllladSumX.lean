/-
  Chapter 6, the program's side: times, other rings.
-/
import Derived.Test.YtoiofkijinllladSumI
import Derived.Test.YtoiofkijinllladOther
import Derived.Test.YtoiofkijinllladPower
import Derived.Test.YtoiofkijinllladTurnX
import Derived.Test.YtoiofkijinllladPMath
import Derived.Deep.RegionWith
import Derived.Deep.RegionHeld3
import Derived.Deep.LoopGhost
import Derived.Deep.QuietTactic
import Derived.BigQuiet
namespace Go.Proofs.Ytoiofkijinlllad
open Go.RowKit

theorem lowest_red (t n : Nat) (w : World) (hn : 0 < n) (ht : t ≤ 100000000000) (hn2 : n ≤ 100000000000) :
    Calls Try.prog 37 #[.int .i64 t, .int .i64 n] w fun e w' => e = .returned (.agg #[.int .i64 (redT t n : Nat), .int .i64 (redN t n : Nat)]) ∧ Below w.heap.size w w' := lowest_any t n w hn ht hn2



theorem row_slcX {W : World} {g n₀ : Nat} {zs : List Int} (h : RowI W g zs) (hg : n₀ ≤ g) (hm : zs.length ≤ maxLen) : Slc n₀ W (.slice (some ⟨g, 0, none⟩) zs.length zs.length) zs := by
  obtain ⟨cur, h1, h2⟩ := h
  have hl : cur.size = zs.length := by rw [← Array.length_toList, h2, List.length_map]
  refine .inr ⟨g, 0, zs.length, cur, rfl, hg, h1, Nat.le_refl _, hm, by omega, ?_⟩
  rw [List.drop_zero, h2]
  exact List.take_of_length_le (by simp)



end Go.Proofs.Ytoiofkijinlllad
