/-
  The law FnExactOrderBases's walk, where the program answers what its sentence says.
-/
import Derived.Test.YtmnlafdajeimcaaOrdB
import Derived.Test.YtmnlafdajeimcaaEq
import Derived.Test.YtmnlafdajeimcaaGRow
import Derived.Test.YtmnlafdajeimcaaTq
namespace Go.Proofs.Ytmnlafdajeimcaa
open Go.RowKit

set_option maxHeartbeats 2000000 in
theorem lawOrderBases_any (H : ImBases) (n k : Int) (w : World) (_wn : (Lit.int .i64 n).wf = true) (_wk : (Lit.int .i64 k).wf = true) :
    Calls Tryq.prog 5 #[.int .i64 n, .int .i64 k] w fun e w' => e = .returned (.bool true) ∧ Below w.heap.size w w' := by
  obtain ⟨xs, p, hl, hs, hi⟩ := bothBases H n k
  have HS := Lib.hid hs; have HI := Lib.hid hi; clear hs hi
  go_enter Tryq.func5, Try.ntmps5
  go_wp2_with fail
  refine (HS.out _).mono ?_
  rintro e w1 ⟨v, rfl, hv, b1⟩
  go_wp2_with fail
  refine (HI.out _).mono ?_
  rintro e w2 ⟨g, rfl, hg, b2⟩
  have v2 := hv.later b2
  have B2 := b1.trans (b2.mono b1.size)
  go_wp2_with fail
  refine (eqIntS_any _ _ _ _ xs xs _ hg v2 (by omega) (by omega)).mono ?_
  rintro e w3 ⟨rfl, b3⟩
  have hxx : decide (xs = xs) = true := by simp
  rw [hxx]
  clear hxx
  have v3 := v2.later b3
  have g3 := hg.later b3
  have B3 := B2.trans (b3.mono B2.size)
  have s13 : w1.heap.size ≤ w3.heap.size := Nat.le_trans b2.size b3.size
  have hvo := fun r e => (hv.own r e).2
  clear B2 b2 b3 v2 hg
  cases p
  all_goals
    go_wp2_with fail
    refine (markIntS_any _ _ xs 1 _ g3 (by omega) (by omega) (by omega)).mono ?_
    rintro e w4 ⟨rfl, g4, hgr⟩
    have hgo : ∀ r, g.ownBlock = some r → w1.heap.size ≤ r := fun r e => (g3.own r e).1
    have v4 : Slc w.heap.size w4 v xs := v3.kept hgr (fun r e1 e2 => by
      have h1 := hgo r e2
      have h2 := hvo r e1
      omega)
    have B4 : Below w.heap.size w w4 := B3.grown hgr B3.size (fun r e => by have h1 := hgo r e; have h2 := b1.size; omega)
    clear v3 g3 B3 hgr
    go_wp2_with fail
    refine (heldIntS_any _ _ xs.length 1 _ g4 (by omega) (by omega) (by omega)).mono ?_
    rintro e w5 ⟨rfl, rfl⟩
    have i1 : ¬ (1 + (xs.length : Int)) < 0 := by omega
    go_wp2_with fail
    refine (HI.out _).mono ?_
    rintro e w5 ⟨h, rfl, h5, b5⟩
    have v5 := v4.later b5
    have g5 := g4.later b5
    have B5 := B4.trans (b5.mono B4.size)
    clear v4 g4 B4 b5
    go_wp2_with fail
    refine (eqIntS_any _ _ _ _ xs xs _ h5 v5 (by omega) (by omega)).mono ?_
    rintro e w6 ⟨rfl, b6⟩
    have hxx : decide (xs = xs) = true := by simp
    rw [hxx]
    clear hxx
    have g6 := g5.later b6
    have B6 := B5.trans (b6.mono B5.size)
    clear v5 g5 h5 B5 b6
    go_wp2_with fail
    refine (heldIntS_any _ _ xs.length 1 _ g6 (by omega) (by omega) (by omega)).mono ?_
    rintro e w7 ⟨rfl, rfl⟩
    go_wp2_with fail
    go_ret
    exact ⟨rfl, B6⟩

end Go.Proofs.Ytmnlafdajeimcaa
