/-
  The law FnExactPartList's walk, where the program answers what its sentence says.
-/
import Derived.Test.YtehpgcgdcoahnaaPartB
import Derived.Test.YtehpgcgdcoahnaaIn
namespace Go.Proofs.Ytehpgcgdcoahnaa
open Go.RowKit

set_option maxHeartbeats 4000000 in
theorem lawPartList_any (H : ImPartList) (b t n k : Int) (w : World) (_wb : (Lit.int .i64 b).wf = true) (_wt : (Lit.int .i64 t).wf = true) (_wn : (Lit.int .i64 n).wf = true) (_wk : (Lit.int .i64 k).wf = true) :
    Calls Try.prog 3 #[.int .i64 b, .agg #[.int .i64 t, .int .i64 n], .int .i64 k] w fun e w' => e = .returned (.bool true) ∧ Below w.heap.size w w' := by
  have q0 := Box2.new w 23 (.int .i64 t) (.int .i64 n)
  have hb0 := (Below.refl w.heap.size w).alloc (Nat.le_refl _) (.cells #[.int .i64 t, .int .i64 n] 23)
  obtain ⟨L, p, ⟨hl1, hl2⟩, hs, hi⟩ := bothPartList H b t n k
  have HS := Lib.hid hs; have HI := Lib.hid hi; clear hs hi
  have HL2 := Lib.hid hl2; clear hl2
  have htt := tot_le (len_row HL2.out) L.length
  go_enter Try.func3, Try.ntmps3
  go_wp2_with fail
  refine (toFrac_any _ _ _).mono ?_
  rintro e w1 ⟨rfl, b1⟩
  have q1 := q0.later b1
  have B1 := hb0.trans (b1.mono (by simp))
  go_wp2_with fail
  refine (HS.out _).mono ?_
  rintro e w2 ⟨v, rfl, ⟨vs, hvl, hV2, _⟩, b2⟩
  have hVf := hV2.far
  have hVg := fun q e => (row_ge3 hV2.1 (g := q) e).2
  have B2 := B1.trans (b2.mono B1.size)
  have q2 := q1.later b2
  have k0 := q2.cell0
  have k1 := q2.cell1
  go_wp2_with fail
  refine (toFrac_any _ _ _).mono ?_
  rintro e w3 ⟨rfl, b3⟩
  have B3 := B2.trans (b3.mono B2.size)
  have q3 := q2.later b3
  have hV3 := hV2.later b3
  clear k0 k1 q2 q1 q0 hb0 b1
  go_wp2_with fail
  refine (HI.out _).mono ?_
  rintro e w4 ⟨g, rfl, ⟨gs, hgl, hG4, hGA⟩, b4⟩
  have hV4 := hV3.later b4
  have B4 := B3.trans (b4.mono B3.size)
  have q4 := q3.later b4
  have s34 : w2.heap.size ≤ w3.heap.size := b3.size
  go_wp2_with fail
  refine (eqIntSS_all _ _ _ _ L _ ⟨gs, hgl, hG4⟩ ⟨vs, hvl, hV4⟩ hl1 HL2.out).mono ?_
  rintro e w5 ⟨rfl, b5⟩
  have hV5 := hV4.later b5
  have hG5 := hG4.later b5
  have B5 := B4.trans (b5.mono B4.size)
  have q5 := q4.later b5
  have hs5 : w3.heap.size ≤ w5.heap.size := Nat.le_trans b4.size b5.size
  have hq5 : w.heap.size < w3.heap.size := q3.lt
  clear hV2 hV3 hV4 hG4 B3 B4 b3 b4 b5 q3 q4
  have HVF := Lib.hid hVf; have HVG := Lib.hid hVg; have HGA := Lib.hid hGA; have HVL := Lib.hid hvl; have HGL := Lib.hid hgl
  clear hVf hVg hGA hvl hgl
  cases p
  all_goals
    go_wp2_with fail
    refine (markIntSS_off _ _ L gs _ hG5 HGL.out HGA.out hs5 hl1 HL2.out).mono ?_
    rintro e w6 ⟨rfl, hM6, b6, hs6⟩
    have hV6 := hV5.under b6 (fun q e => Nat.lt_of_lt_of_le (HVG.out q e) s34) (fun i u q e1 e2 => Nat.lt_of_lt_of_le (HVF.out i u q e1 e2) s34)
    have B6 := B5.trans (b6.mono (by omega))
    have q6 : Box2 w6 w.heap.size 23 (.int .i64 t) (.int .i64 n) := (b6.block _ hq5).trans q5
    clear hV5 hG5 B5 b6 q5
    go_wp2_with fail
    refine (heldIntSS_any _ _ L gs _ hM6 HGL.out hl1 HL2.out).mono ?_
    rintro e w7 ⟨rfl, rfl⟩
    have i1 : ¬ (1 + (tot L L.length : Int)) < 0 := by omega
    have y0 := q6.cell0
    have y1 := q6.cell1
    go_wp2_with fail
    refine (toFrac_any _ _ _).mono ?_
    rintro e w7 ⟨rfl, b7⟩
    have hV7 := hV6.later b7
    have hM7 := hM6.later b7
    have B7 := B6.trans (b7.mono B6.size)
    clear y0 y1 q6 hV6 hM6 B6 b7
    go_wp2_with fail
    refine (HI.out _).mono ?_
    rintro e w8 ⟨h, rfl, hH8, b8⟩
    have hV8 := hV7.later b8
    have hM8 := hM7.later b8
    have B8 := B7.trans (b8.mono B7.size)
    clear hV7 hM7 B7 b8
    go_wp2_with fail
    refine (eqIntSS_all _ _ _ _ L _ hH8.s0 ⟨vs, HVL.out, hV8⟩ hl1 HL2.out).mono ?_
    rintro e w9 ⟨rfl, b9⟩
    have hM9 := hM8.later b9
    have B9 := B8.trans (b9.mono B8.size)
    clear hV8 hM8 hH8 B8 b9
    go_wp2_with fail
    refine (heldIntSS_any _ _ L gs _ hM9 HGL.out hl1 HL2.out).mono ?_
    rintro e w10 ⟨rfl, rfl⟩
    go_wp2_with fail
    go_ret
    exact ⟨rfl, B9⟩

end Go.Proofs.Ytehpgcgdcoahnaa
