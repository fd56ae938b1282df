/-
  Counts of digits and their sum: the model's side.
-/
import Derived.Test.YtamcpoadpkgogadCntI
import Derived.Test.YtamcpoadpkgogadEq
import Derived.Test.YtamcpoadpkgogadRow
import Derived.Test.YtamcpoadpkgogadPMath
import Derived.RegionTactic
import Derived.BigRegion
import Derived.Deep.QuietTactic
import Derived.BigQuiet
namespace Go.Proofs.Ytamcpoadpkgogad
open Go.RowKit

theorem row_slcC {W : World} {g n₀ : Nat} {zs : List Int} (h : RowI W g zs) (hg : n₀ ≤ g) (hm : zs.length ≤ maxLen) : Slc n₀ W (.slice (some ⟨g, 0, none⟩) zs.length zs.length) zs := by
  obtain ⟨cur, h1, h2⟩ := h
  have hl : cur.size = zs.length := by rw [← Array.length_toList, h2, List.length_map]
  refine .inr ⟨g, 0, zs.length, cur, rfl, hg, h1, Nat.le_refl _, hm, by omega, ?_⟩
  rw [List.drop_zero, h2]
  exact List.take_of_length_le (by simp)

theorem bel1C {w w1 : World} {o : Obj} (hb : Below (w.alloc o).heap.size (w.alloc o) w1) : Below w.heap.size w w1 := ((Below.refl w.heap.size w).alloc (Nat.le_refl _) o).trans (hb.mono (by simp))





end Go.Proofs.Ytamcpoadpkgogad
