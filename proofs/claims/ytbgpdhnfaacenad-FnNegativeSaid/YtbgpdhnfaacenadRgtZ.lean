/-
  Chapter 8, the program's side: what its six functions answer.
-/
import Derived.Test.YtbgpdhnfaacenadRgtX
import Derived.Test.YtbgpdhnfaacenadTold
import Derived.Test.YtbgpdhnfaacenadNext
namespace Go.Proofs.Ytbgpdhnfaacenad
open Go.RowKit Go.Maps

theorem way_len {b B n m : Nat} {t : Int} (h : Rgv b B t) (hm : IsRg b B t n m) : n ≤ 14 ∧ m ≤ 1001 ∧ 0 < m := by
  obtain ⟨_, _, h1, h2⟩ := rg_facts h.r h.lo h.hi hm
  have := h.r.B2
  exact ⟨h1, by omega, hm.pos⟩






set_option maxHeartbeats 2000000 in
theorem imRightNegative : ImRightNegative := by
  constructor
  · intro b t n h w
    cases hv : tldB b t n with
    | false =>
      clear h
      go_enter Try.func5, Try.ntmps5
      go_wp2_with fail
      refine (fracTold_any b t n _).mono ?_
      rintro e w1 ⟨rfl, hb1⟩
      have hb := bel1 hb1
      rw [hv]
      go_wp2_with fail
      go_ret2
      exact ⟨_, rfl, Slc.nil _ _, hb⟩
    | true =>
      obtain ⟨b, T, B, rfl, rfl, rfl, h3, h4, hT, hB, hgT⟩ := tld_nat hv
      have hg : decide (Nat.gcd b B = 1) = false := by
        unfold ngB at h
        rw [hv, Bool.true_and, gcdI_nat] at h
        rw [decide_eq_false_iff_not] at h ⊢
        omega
      have HG := Lib.hid hg
      clear h hg hgT
      go_enter Try.func5, Try.ntmps5
      go_wp2_with fail
      refine (fracTold_any b T B _).mono ?_
      rintro e w1 ⟨rfl, hb1⟩
      have q1 := (Box2.newAt (W := w) (T := 24) (x := .int .i64 T) (y := .int .i64 B) rfl).later hb1
      have k0 := q1.cell0
      have k1 := q1.cell1
      have hb := bel1 hb1
      rw [hv]
      clear hb1
      go_wp2_with fail
      refine (turns_any T B b _ hB h4).mono ?_
      rintro e w2 ⟨rfl, hb2⟩
      rw [HG.out]
      have hbb := hb.trans (hb2.mono hb.size)
      go_wp2_with fail
      go_ret2
      exact ⟨_, rfl, Slc.nil _ _, hbb⟩
  · intro b T B m hf w
    have told : tldB b T B = true := by
      have := hf.told
      unfold ngB at this
      rw [Bool.and_eq_true] at this
      exact this.1
    have hT := hf.lt; have hB := hf.r.B2; have h4 := hf.r.b16
    have HG : Hid (decide (Nat.gcd b B = 1) = true) := decide_eq_true hf.r.cop
    have HM := Lib.hid (rg_neg hf.r hT hf.len)
    have HV := Lib.hid hf.val
    have HBK := Lib.hid (bk_rg hf.r hT hf.len)
    clear hf
    obtain ⟨_, hm2, hpos⟩ := way_len HV.out HM.out
    go_enter Try.func5, Try.ntmps5
    go_wp2_with fail
    refine (fracTold_any b T B _).mono ?_
    rintro e w1 ⟨rfl, hb1⟩
    have q1 := (Box2.newAt (W := w) (T := 24) (x := .int .i64 T) (y := .int .i64 B) rfl).later hb1
    have k0 := q1.cell0
    have k1 := q1.cell1
    have hb := bel1 hb1
    rw [told]
    clear hb1
    go_wp2_with fail
    refine (turns_any T B b _ hB h4).mono ?_
    rintro e w2 ⟨rfl, hb2⟩
    rw [HG.out]
    have q2 := q1.later hb2
    have k0 := q2.cell0
    have k1 := q2.cell1
    have hbb := hb.trans (hb2.mono hb.size)
    have w1' : IntKind.i64.wrap (-(T : Int)) = -(T : Int) := IntWalk.i64_in _ (by omega)
    clear hb hb2 q1 q2
    go_wp2_with fail
    refine (rightValues_any b B 0 m (-(T : Int)) _ HV.out HM.out).mono ?_
    rintro e w3 ⟨rfl, hway, hb3⟩
    have HWAY := Lib.hid hway; clear hway
    have HB3 : Hid (Below w.heap.size w w3) := hbb.trans (hb3.mono hbb.size)
    clear hb3
    go_wp2_with fail
    refine (wturn_any b B 0 m w2.heap.size (-(T : Int)) _ HWAY.out hpos hm2).mono ?_
    rintro e w4 ⟨rfl, rfl⟩
    go_wp2_with fail
    refine (wdigits_any b B 0 m w2.heap.size m 0 (-(T : Int)) _ HV.out HM.out HWAY.out (by omega) (by omega)).mono ?_
    rintro e w5 ⟨v, rfl, hs, hb5⟩
    rw [HBK.out] at hs
    have HB5 : Hid (Below w.heap.size w w5) := HB3.out.trans (hb5.mono HB3.out.size)
    have HS := Lib.hid (hs.mono HB3.out.size)
    clear hs hb5
    go_wp2_with fail
    go_ret2
    exact ⟨_, rfl, HS.out, HB5.out⟩

end Go.Proofs.Ytbgpdhnfaacenad
