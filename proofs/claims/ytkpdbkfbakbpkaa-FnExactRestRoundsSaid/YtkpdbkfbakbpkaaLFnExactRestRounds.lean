/-
  The law FnExactRestRounds's walk.
-/
import Derived.Test.YtkpdbkfbakbpkaaRndsL
import Derived.Test.YtkpdbkfbakbpkaaRowsT
namespace Go.Proofs.Ytkpdbkfbakbpkaa
open Go.RowKit

set_option maxHeartbeats 4000000 in
theorem lawRestRounds_any (b n : Int) (w : World) (_wb : (Lit.int .i64 b).wf = true) (_wn : (Lit.int .i64 n).wf = true) :
    Calls Try.prog 4 #[.int .i64 b, .int .i64 n] w fun e w' => e = .returned (.bool true) ∧ Below w.heap.size w w' := by
  obtain ⟨L, p, ⟨hl1, hl2⟩, hs, hi⟩ := both_rounds b n
  have HS := Lib.hid hs; have HI := Lib.hid hi; have HL2 := Lib.hid hl2; clear hs hi hl2
  have htt := tot_le (len_row HL2.out) L.length
  go_enter Try.func4, Try.ntmps4
  go_wp2_with fail
  refine (HS.out _).mono ?_
  rintro e w1 ⟨v, rfl, ⟨vs, hvl, hV1, hVA⟩, b1⟩
  have hVf := hV1.far
  have hVg := fun q e => (row_ge3 hV1.1 (g := q) e).2
  go_wp2_with fail
  refine (HI.out _).mono ?_
  rintro e w2 ⟨g, rfl, ⟨gs, hgl, hG2, hGA⟩, b2⟩
  have hV2 := hV1.later b2
  have B2 := b1.trans (b2.mono b1.size)
  go_wp2_with fail
  refine (eqIntSS_any _ _ _ _ L _ ⟨gs, hgl, hG2, hGA⟩ ⟨vs, hvl, hV2, hVA⟩ hl1 HL2.out).mono ?_
  rintro e w3 ⟨rfl, b3⟩
  have hV3 := hV2.later b3
  have hG3 := hG2.later b3
  have B3 := B2.trans (b3.mono B2.size)
  have hs3 : w1.heap.size ≤ w3.heap.size := Nat.le_trans b2.size b3.size
  clear hV1 hV2 hG2 B2 b2 b3
  have HVF := Lib.hid hVf; have HVG := Lib.hid hVg; have HVA := Lib.hid hVA; have HGA := Lib.hid hGA; have HVL := Lib.hid hvl; have HGL := Lib.hid hgl
  clear hVf hVg hVA hGA hvl hgl
  cases p
  all_goals
    go_wp2_with fail
    refine (markIntSS_any _ _ L gs _ hG3 HGL.out HGA.out hs3 hl1 HL2.out).mono ?_
    rintro e w4 ⟨rfl, hM4, b4, hs4⟩
    have hV4 := hV3.under b4 HVG.out HVF.out
    have B4 := B3.trans (b4.mono b1.size)
    clear hV3 hG3 B3 b4
    go_wp2_with fail
    refine (heldIntSS_any _ _ L gs _ hM4 HGL.out hl1 HL2.out).mono ?_
    rintro e w5 ⟨rfl, rfl⟩
    have i1 : ¬ (1 + (tot L L.length : Int)) < 0 := by omega
    go_wp2_with fail
    refine (HI.out _).mono ?_
    rintro e w5 ⟨h, rfl, hH5, b5⟩
    have hV5 := hV4.later b5
    have hM5 := hM4.later b5
    have B5 := B4.trans (b5.mono B4.size)
    clear hV4 hM4 B4 b5
    go_wp2_with fail
    refine (eqIntSS_any _ _ _ _ L _ hH5 ⟨vs, HVL.out, hV5, HVA.out⟩ hl1 HL2.out).mono ?_
    rintro e w6 ⟨rfl, b6⟩
    have hM6 := hM5.later b6
    have B6 := B5.trans (b6.mono B5.size)
    clear hV5 hM5 hH5 B5 b6
    go_wp2_with fail
    refine (heldIntSS_any _ _ L gs _ hM6 HGL.out hl1 HL2.out).mono ?_
    rintro e w7 ⟨rfl, rfl⟩
    go_wp2_with fail
    go_ret
    exact ⟨rfl, B6⟩

end Go.Proofs.Ytkpdbkfbakbpkaa
