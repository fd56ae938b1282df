/-
  The law FnExactRightNegative's walk.
-/
import Derived.Test.YtbgpdhnfaacenabRgtB
import Derived.Test.YtbgpdhnfaacenabEq
import Derived.Test.YtbgpdhnfaacenabIn
import Derived.Test.YtbgpdhnfaacenabGRow
namespace Go.Proofs.Ytbgpdhnfaacenab
open Go.RowKit

set_option maxRecDepth 100000 in
set_option maxHeartbeats 2000000 in
theorem lawRightNegative_any (H : ImRightNegative) (b t n : Int) (w : World) (_wb : (Lit.int .i64 b).wf = true) (_wt : (Lit.int .i64 t).wf = true) (_wn : (Lit.int .i64 n).wf = true) :
    Calls Try.prog 3 #[.int .i64 b, .agg #[.int .i64 t, .int .i64 n]] w fun e w' => e = .returned (.bool true) ∧ Below w.heap.size w w' := by
  obtain ⟨xs, p, hlen, hspec, himpl⟩ := bothRightNegative H b t n
  have q0 := Box2.new w 23 (.int .i64 t) (.int .i64 n)
  have hb0 := (Below.refl w.heap.size w).alloc (Nat.le_refl _) (.cells #[.int .i64 t, .int .i64 n] 23)
  go_enter Try.func3, Try.ntmps3
  go_wp2_with fail
  refine (toFrac_any _ _ _).mono ?_
  rintro e w1 ⟨rfl, hb1⟩
  have q1 := q0.later hb1
  have hbb1 := hb0.trans (hb1.mono (by simp))
  go_wp2_with fail
  refine (hspec _).mono ?_
  rintro e w2 ⟨v, rfl, hv, hb2⟩
  have q2 := q1.later hb2
  have hbb2 := hbb1.trans (hb2.mono hbb1.size)
  have k0 := q2.cell0
  have k1 := q2.cell1
  go_wp2_with fail
  refine (toFrac_any _ _ _).mono ?_
  rintro e w3 ⟨rfl, hb3⟩
  have q3 := q2.later hb3
  have hbb3 := hbb2.trans (hb3.mono hbb2.size)
  go_wp2_with fail
  refine (himpl _).mono ?_
  rintro e w4 ⟨g, rfl, hg, hb4⟩
  have q4 := q3.later hb4
  have hbb4 := hbb3.trans (hb4.mono hbb3.size)
  have v4 := (hv.later hb3).later hb4
  go_wp2_with fail
  refine (eqIntS_any _ _ _ _ xs xs _ hg v4 (by omega) (by omega)).mono ?_
  rintro e w5 ⟨rfl, hb5⟩
  have q5 := q4.later hb5
  have hbb5 := hbb4.trans (hb5.mono hbb4.size)
  have v5 := v4.later hb5
  have g5 := hg.later hb5
  have hxx : decide (xs = xs) = true := by simp
  rw [hxx]
  clear hxx
  cases p
  all_goals
    go_wp2_with fail
    refine (markIntS_any _ _ xs 1 _ g5 (by omega) (by omega) (by omega)).mono ?_
    rintro e w6 ⟨rfl, g6, hgr⟩
    have hgo : ∀ r, g.ownBlock = some r → w3.heap.size ≤ r := fun r e => (g5.own r e).1
    have q6 : Box2 w6 w.heap.size 23 (.int .i64 t) (.int .i64 n) := (hgr.block _ q5.lt (fun e => by have h1 := hgo _ e.symm; have h2 := q3.lt; omega)).trans q5
    have v6 : Slc w1.heap.size w6 v xs := v5.kept hgr (fun r e1 e2 => by
      have h1 := hgo r e2
      have h2 := (hv.own r e1).2
      have h3 := hb3.size
      omega)
    have hbb6 : Below w.heap.size w w6 := hbb5.grown hgr hbb5.size (fun r e => by have h1 := hgo r e; have h2 := hbb3.size; omega)
    go_wp2_with fail
    refine (heldIntS_any _ _ xs.length 1 _ g6 (by omega) (by omega) (by omega)).mono ?_
    rintro e w6' ⟨rfl, rfl⟩
    have y0 := q6.cell0
    have y1 := q6.cell1
    go_wp2_with fail
    refine (toFrac_any _ _ _).mono ?_
    rintro e w7 ⟨rfl, hb7⟩
    have hbb7 := hbb6.trans (hb7.mono hbb6.size)
    go_wp2_with fail
    refine (himpl _).mono ?_
    rintro e w8 ⟨h, rfl, hh, hb8⟩
    have hbb8 := hbb7.trans (hb8.mono hbb7.size)
    have v8 := (v6.later hb7).later hb8
    have g8 := (g6.later hb7).later hb8
    go_wp2_with fail
    refine (eqIntS_any _ _ _ _ xs xs _ hh v8 (by omega) (by omega)).mono ?_
    rintro e w9 ⟨rfl, hb9⟩
    have hbb9 := hbb8.trans (hb9.mono hbb8.size)
    have g9 := g8.later hb9
    have hxx : decide (xs = xs) = true := by simp
    rw [hxx]
    clear hxx
    go_wp2_with fail
    refine (heldIntS_any _ _ xs.length 1 _ g9 (by omega) (by omega) (by omega)).mono ?_
    rintro e w9' ⟨rfl, rfl⟩
    go_wp2_with fail
    go_ret
    exact ⟨rfl, hbb9⟩

end Go.Proofs.Ytbgpdhnfaacenab
