/-
  Chapter 8, the program's side: what its six functions answer.
-/
import Derived.Test.YtbgpdhnfaacenabRgtX
import Derived.Test.YtbgpdhnfaacenabTold
import Derived.Test.YtbgpdhnfaacenabNext
namespace Go.Proofs.Ytbgpdhnfaacenab
open Go.RowKit Go.Maps

theorem way_len {b B n m : Nat} {t : Int} (h : Rgv b B t) (hm : IsRg b B t n m) : n ≤ 14 ∧ m ≤ 1001 ∧ 0 < m := by
  obtain ⟨_, _, h1, h2⟩ := rg_facts h.r h.lo h.hi hm
  have := h.r.B2
  exact ⟨h1, by omega, hm.pos⟩

set_option maxHeartbeats 1000000 in
theorem imRightDigits : ImRightDigits := by
  constructor
  · intro b t n k h w
    have hs : Slc w.heap.size w (.slice none 0 0) [] := Slc.nil _ _
    cases hv : vlB b t n with
    | false =>
      clear h
      go_enter Try.func16, Try.ntmps16
      go_wp2_with fail
      refine (rightTold_any _ _ _ _).mono ?_
      rintro e w1 ⟨rfl, rfl⟩
      rw [hv]
      go_wp2_with fail
      go_ret2
      exact ⟨_, rfl, hs, Below.refl _ _⟩
    | true =>
      rw [hv, Bool.true_and] at h
      by_cases h0 : 0 ≤ k
      · have h1 : decide (k < 0) = false := by simp; omega
        have h2 : decide (k > 200) = true := by
          rw [decide_eq_false_iff_not] at h; simp; omega
        clear h
        go_enter Try.func16, Try.ntmps16
        go_wp2_with fail
        refine (rightTold_any _ _ _ _).mono ?_
        rintro e w1 ⟨rfl, rfl⟩
        rw [hv]
        go_wp2_with fail
        go_ret2
        exact ⟨_, rfl, hs, Below.refl _ _⟩
      · have h1 : decide (k < 0) = true := by simp; omega
        clear h
        go_enter Try.func16, Try.ntmps16
        go_wp2_with fail
        refine (rightTold_any _ _ _ _).mono ?_
        rintro e w1 ⟨rfl, rfl⟩
        rw [hv]
        go_wp2_with fail
        go_ret2
        exact ⟨_, rfl, hs, Below.refl _ _⟩
  · intro b B k t hv hk w
    obtain ⟨n, m, hm⟩ := hv.some
    have told := hv.told
    have h1 : decide ((k : Int) > 200) = false := by simp; omega
    have h2 : decide ((k : Int) < 0) = false := by simp
    have HV := Lib.hid hv; have HM := Lib.hid hm
    clear hv hm
    go_enter Try.func16, Try.ntmps16
    go_wp2_with fail
    refine (rightTold_any _ _ _ _).mono ?_
    rintro e w1 ⟨rfl, rfl⟩
    rw [told]
    go_wp2_with fail
    refine (rightValues_any b B n m t _ HV.out HM.out).mono ?_
    rintro e w1 ⟨rfl, hway, hb1⟩
    have HWAY := Lib.hid hway; clear hway
    go_wp2_with fail
    refine (wdigits_any b B n m w.heap.size k 0 t _ HV.out HM.out HWAY.out (by have := (way_len HV.out HM.out).2.2; omega) (by omega)).mono ?_
    rintro e w2 ⟨v, rfl, hs, hb2⟩
    rw [Nat.zero_add, List.drop_zero] at hs
    go_wp2_with fail
    go_ret2
    exact ⟨_, rfl, hs.mono hb1.size, hb1.trans (hb2.mono hb1.size)⟩

set_option maxRecDepth 100000 in
set_option maxHeartbeats 2000000 in
theorem imRightTops : ImRightTops := by
  constructor
  · intro b t n k h w
    have hs : Slc w.heap.size w (.slice none 0 0) [] := Slc.nil _ _
    cases hv : vlB b t n with
    | false =>
      clear h
      go_enter Try.func19, Try.ntmps19
      go_wp2_with fail
      refine (rightTold_any _ _ _ _).mono ?_
      rintro e w1 ⟨rfl, rfl⟩
      rw [hv]
      go_wp2_with fail
      go_ret2
      exact ⟨_, rfl, hs, Below.refl _ _⟩
    | true =>
      rw [hv, Bool.true_and] at h
      by_cases h0 : 0 ≤ k
      · have h1 : decide (k < 0) = false := by simp; omega
        have h2 : decide (k > 200) = true := by
          rw [decide_eq_false_iff_not] at h; simp; omega
        clear h
        go_enter Try.func19, Try.ntmps19
        go_wp2_with fail
        refine (rightTold_any _ _ _ _).mono ?_
        rintro e w1 ⟨rfl, rfl⟩
        rw [hv]
        go_wp2_with fail
        go_ret2
        exact ⟨_, rfl, hs, Below.refl _ _⟩
      · have h1 : decide (k < 0) = true := by simp; omega
        clear h
        go_enter Try.func19, Try.ntmps19
        go_wp2_with fail
        refine (rightTold_any _ _ _ _).mono ?_
        rintro e w1 ⟨rfl, rfl⟩
        rw [hv]
        go_wp2_with fail
        go_ret2
        exact ⟨_, rfl, hs, Below.refl _ _⟩
  · intro b B K t hv hk w
    obtain ⟨i0, hi, hz0, hz1, hz2⟩ := info_parts infoInt
    obtain ⟨n, m, hm⟩ := hv.some
    have told := hv.told
    have h1 : decide ((K : Int) > 200) = false := by simp; omega
    have h2 : decide ((K : Int) < 0) = false := by simp
    have hmk := make_capW K (by omega)
    obtain ⟨_, _, hpos⟩ := way_len hv hm
    have HS : ∀ k, Hid (tpL b B t (k + 1) = tpL b B t k ++ [rgT b B t k]) := fun k => tpL_succ b B t k
    have HBIG := Lib.hid (fun i => hv.big i)
    have HV := Lib.hid hv; have HM := Lib.hid hm
    clear hv hm
    go_enter Try.func19, Try.ntmps19
    go_wp2_with fail
    refine (rightTold_any _ _ _ _).mono ?_
    rintro e w1 ⟨rfl, rfl⟩
    rw [told]
    go_wp2_with fail
    obtain ⟨w0, hw0⟩ : ∃ w0, w.alloc (.cells (madeCells #[.int .i64 0] K) 3) = w0 := ⟨_, rfl⟩
    have hown0 : w0.ownsRow w.heap.size 3 1 (.slice (some ⟨w.heap.size, 0, none⟩) 0 K) 0 [] := by
      rw [← hw0]; exact World.ownsRow_made w (madeCells #[.int .i64 0] K) K (by simp) (by unfold maxLen; omega) (by simp [size_madeCells])
    have hb0 : Below w.heap.size w w0 := by rw [← hw0]; exact (Below.refl _ _).alloc (Nat.le_refl _) _
    have hs0 : w0.heap.size = w.heap.size + 1 := by rw [← hw0]; simp
    rw [hw0]
    have HS0 := Lib.hid hs0
    clear hw0 hs0
    refine (rightValues_any b B n m t w0 HV.out HM.out).mono ?_
    rintro e w1 ⟨rfl, hway, hb1⟩
    have HWAY := Lib.hid hway; clear hway
    have HB1 : Hid (Below w.heap.size w w1) := hb0.trans (hb1.mono hb0.size)
    have HOWN1 : Hid (w1.ownsRow w.heap.size 3 1 (.slice (some ⟨w.heap.size, 0, none⟩) 0 K) 0 []) := owns_later hown0 hb1
    have HSZ : Hid (w0.heap.size ≤ w1.heap.size) := hb1.size
    clear hb0 hown0 hb1
    go_wp2_with fail
    go_loopw [10, 11, 36] (fun v from' i' wr => ∃ k l : Nat, k ≤ K ∧ l < n + m ∧ from' = .pointer (some ⟨wq w0.heap.size l, 0, none⟩) ∧ i' = .int .i64 k ∧ Hid (rgT b B t l = rgT b B t (0 + k)) ∧ Hid (wr.ownsRow w.heap.size 3 1 v k ((tpL b B t k).map (Value.int .i64))) ∧
        Hid (∀ g, v.ownBlock = some g → g = w.heap.size ∨ w1.heap.size ≤ g) ∧ Hid (w1.heap.size ≤ wr.heap.size) ∧ Hid (Way b B t n m w0.heap.size wr) ∧ Hid (Below w.heap.size w wr)) (fun _ _ i' _ => K - (intOf i').toNat)
    case atStart =>
      refine ⟨0, 0, Nat.zero_le _, by omega, rfl, rfl, rfl, ?_, fun g e => .inl (by simp [Value.ownBlock] at e; exact e.symm), Nat.le_refl _, HWAY.out, HB1.out⟩
      exact HOWN1.out
    case round =>
      obtain ⟨k, l, hk, hl, rfl, rfl, HT, hown, HNE, HLE, HWY, hbel⟩ := hrel
      by_cases hlt : k < K
      · have node := HWY.out.node l hl
        have c0 := node.c0
        rw [HT.out, Nat.zero_add] at c0
        obtain ⟨y1, y2⟩ := HBIG.out k
        have HSK := HS k
        revert c0 y1 y2 HSK
        generalize rgT b B t k = a
        intro c0 y1 y2 HSK
        have HNX := Lib.hid (nxt_step HM.out HT.out)
        have hnl : nxt n m l < n + m := nxt_lt hpos hl
        obtain ⟨l', hl'⟩ : ∃ l', nxt n m l = l' := ⟨_, rfl⟩
        rw [hl'] at hnl HNX
        have HL' := Lib.hid hl'
        clear hl' node
        go_wp2_with (at_builtin; refine wpList_append_own_at _ rfl _ _ 24 rfl w.heap.size 3 i0 (.int .i64 0) 1 8 Try.underlying24 hi hz0 hz1 hz2 rfl (by decide) _ _ _ rfl (hown.out.alloc _) ⟨wr.heap.size, 0, none⟩ 1 1 [.int .i64 a] rfl rfl ?c1 ?c2 ?c3 ?c4 ?c5 ?_)
        case c1 => exact cell_one_new _ _ _
        case c2 => simp [Value.oneCell']
        case c3 => unfold maxLen; omega
        case c4 => omega
        case c5 => have := hbel.out.size; simp; omega
        intro u' w2 hu' hgrow _ hat
        have hb1 : Below w.heap.size w w2 := (hbel.out.alloc hbel.out.size _).grown hgrow (by have := hbel.out.size; simp; omega) (fun q e => row_ge hown.out e)
        have hs2 := hgrow.size
        simp only [World.size_alloc] at hs2
        have HW2 : Hid (Way b B t n m w0.heap.size w2) := ⟨fun j hj => by
          have hlt1 := (HWAY.out.node j hj).lt
          have hge := wq_ge w0.heap.size j
          have h0 := HS0.out
          exact ((HWY.out.node j hj).alloc _).kept hgrow (fun e => by have := HNE.out _ e.symm; omega)⟩
        have HN2 : Hid (∀ g, u'.ownBlock = some g → g = w.heap.size ∨ w1.heap.size ≤ g) := fun g e => by
          rcases hat with e1 | e1
          · exact HNE.out g (e1 ▸ e)
          · rw [e1] at e
            have := HLE.out
            simp at e; omega
        have HL2 : Hid (w1.heap.size ≤ w2.heap.size) := by have := HLE.out; unfold Hid; omega
        have node1 := HW2.out.node l hl
        rw [HL'.out] at node1
        have c2 := node1.c2
        have hrow : w2.ownsRow w.heap.size 3 1 u' (k + 1) ((tpL b B t (k + 1)).map (Value.int .i64)) := by
          rw [HSK.out, List.map_append]; exact hu'
        clear hu' hgrow hat node1 hs2
        go_wp2_with fail
        go_roundw
        case rel => exact ⟨k + 1, l', by omega, hnl, rfl, by go_num, HNX.out, hrow, HN2, HL2, HW2, hb1⟩
        case measure => simp [intOf]; omega
      · obtain rfl : k = K := by omega
        go_wp2_with fail
        go_ret2
        exact ⟨_, rfl, Slc.of_owns (by rw [tpL_len]; exact hown.out), hbel.out⟩


set_option maxHeartbeats 2000000 in
theorem imRightWhole : ImRightWhole := by
  constructor
  · intro b t n hv w
    go_enter Try.func14, Try.ntmps14
    go_wp2_with fail
    refine (rightTold_any _ _ _ _).mono ?_
    rintro e w1 ⟨rfl, rfl⟩
    rw [hv]
    go_wp2_with fail
    go_ret
    exact ⟨rfl, Below.refl _ _⟩
  · intro b B t hv w
    obtain ⟨n, m, hm⟩ := hv.some
    have told := hv.told
    obtain ⟨hn, hm2, hpos⟩ := way_len hv hm
    obtain ⟨hin, _, _, _⟩ := rg_facts hv.r hv.lo hv.hi hm
    have hwh := rg_whole hv.r hm hin
    have hb2 := hv.r.b2; have hb16 := hv.r.b16; have hB1 := hv.r.B1
    have hdig := hv.dig (rgT b B t n)
    have HWH : Hid (decide (t % B = 0) = (decide (m = 1) && (decide (rgD b B (rgT b B t n) = 0) || decide (rgD b B (rgT b B t n) = b - 1)))) := by
      unfold Hid
      rw [Bool.eq_iff_iff]
      simp only [Bool.and_eq_true, Bool.or_eq_true, decide_eq_true_eq]
      rw [hwh]
      exact ⟨Int.dvd_of_emod_eq_zero, Int.emod_eq_zero_of_dvd⟩
    have HV := Lib.hid hv; have HM := Lib.hid hm
    clear hv hm hin hwh
    go_enter Try.func14, Try.ntmps14
    go_wp2_with fail
    refine (rightTold_any _ _ _ _).mono ?_
    rintro e w1 ⟨rfl, rfl⟩
    rw [told]
    go_wp2_with fail
    refine (rightValues_any b B n m t _ HV.out HM.out).mono ?_
    rintro e w1 ⟨rfl, hway, hb1⟩
    have node := hway.node n (by omega)
    have node2 := hway.node (nxt n m n) (nxt_lt hpos (by omega))
    have hrun := (eqlN node2 node).1
    have c1 := node.c1
    have c2 := node.c2
    revert c1 HWH hdig
    generalize rgD b B (rgT b B t n) = d
    intro hdig HWH c1
    clear hway node node2
    by_cases h1 : m = 1
    · rw [show decide (wq w.heap.size (nxt n m n) = wq w.heap.size n) = true from decide_eq_true (by unfold nxt; rw [if_pos (by omega)])] at hrun
      have HM1 := Lib.hid h1
      clear h1 hm2 hpos
      by_cases h0 : d = 0
      · subst h0
        go_wp2_with fail
        go_ret
        exact ⟨ret_bool (by rw [HWH.out, HM1.out]; rfl), hb1⟩
      · have h0' : ((d : Int) == 0) = false := by simp; omega
        have w1' : IntKind.i64.wrap ((b : Int) - 1) = (b : Int) - 1 := IntWalk.i64_in _ (by omega)
        have HE : Hid (((d : Int) == (b : Int) - 1) = decide (t % B = 0)) := by
          unfold Hid
          rw [HWH.out, decide_eq_true HM1.out, decide_eq_false h0, Bool.true_and, Bool.false_or, Bool.eq_iff_iff]
          simp
          omega
        go_wp2_with fail
        go_ret
        exact ⟨ret_bool (by first | exact HE.out | (rw [← HE.out]; simp) | (rw [← HE.out])), hb1⟩
    · rw [show decide (wq w.heap.size (nxt n m n) = wq w.heap.size n) = false from decide_eq_false (fun e => by have := wq_inj e; unfold nxt at this; rw [if_neg (by omega)] at this; omega)] at hrun
      have HF : Hid (decide (t % B = 0) = false) := by unfold Hid; rw [HWH.out, decide_eq_false h1, Bool.false_and]
      clear hdig
      go_wp2_with fail
      go_ret
      exact ⟨ret_bool (by rw [HF.out]), hb1⟩


set_option maxHeartbeats 2000000 in
theorem imRightNegative : ImRightNegative := by
  constructor
  · intro b t n h w
    cases hv : tldB b t n with
    | false =>
      clear h
      go_enter Try.func9, Try.ntmps9
      go_wp2_with fail
      refine (fracTold_any b t n _).mono ?_
      rintro e w1 ⟨rfl, hb1⟩
      have hb := bel1 hb1
      rw [hv]
      go_wp2_with fail
      go_ret2
      exact ⟨_, rfl, Slc.nil _ _, hb⟩
    | true =>
      obtain ⟨b, T, B, rfl, rfl, rfl, h3, h4, hT, hB, hgT⟩ := tld_nat hv
      have hg : decide (Nat.gcd b B = 1) = false := by
        unfold ngB at h
        rw [hv, Bool.true_and, gcdI_nat] at h
        rw [decide_eq_false_iff_not] at h ⊢
        omega
      have HG := Lib.hid hg
      clear h hg hgT
      go_enter Try.func9, Try.ntmps9
      go_wp2_with fail
      refine (fracTold_any b T B _).mono ?_
      rintro e w1 ⟨rfl, hb1⟩
      have q1 := (Box2.newAt (W := w) (T := 27) (x := .int .i64 T) (y := .int .i64 B) rfl).later hb1
      have k0 := q1.cell0
      have k1 := q1.cell1
      have hb := bel1 hb1
      rw [hv]
      clear hb1
      go_wp2_with fail
      refine (turns_any T B b _ hB h4).mono ?_
      rintro e w2 ⟨rfl, hb2⟩
      rw [HG.out]
      have hbb := hb.trans (hb2.mono hb.size)
      go_wp2_with fail
      go_ret2
      exact ⟨_, rfl, Slc.nil _ _, hbb⟩
  · intro b T B m hf w
    have told : tldB b T B = true := by
      have := hf.told
      unfold ngB at this
      rw [Bool.and_eq_true] at this
      exact this.1
    have hT := hf.lt; have hB := hf.r.B2; have h4 := hf.r.b16
    have HG : Hid (decide (Nat.gcd b B = 1) = true) := decide_eq_true hf.r.cop
    have HM := Lib.hid (rg_neg hf.r hT hf.len)
    have HV := Lib.hid hf.val
    have HBK := Lib.hid (bk_rg hf.r hT hf.len)
    clear hf
    obtain ⟨_, hm2, hpos⟩ := way_len HV.out HM.out
    go_enter Try.func9, Try.ntmps9
    go_wp2_with fail
    refine (fracTold_any b T B _).mono ?_
    rintro e w1 ⟨rfl, hb1⟩
    have q1 := (Box2.newAt (W := w) (T := 27) (x := .int .i64 T) (y := .int .i64 B) rfl).later hb1
    have k0 := q1.cell0
    have k1 := q1.cell1
    have hb := bel1 hb1
    rw [told]
    clear hb1
    go_wp2_with fail
    refine (turns_any T B b _ hB h4).mono ?_
    rintro e w2 ⟨rfl, hb2⟩
    rw [HG.out]
    have q2 := q1.later hb2
    have k0 := q2.cell0
    have k1 := q2.cell1
    have hbb := hb.trans (hb2.mono hb.size)
    have w1' : IntKind.i64.wrap (-(T : Int)) = -(T : Int) := IntWalk.i64_in _ (by omega)
    clear hb hb2 q1 q2
    go_wp2_with fail
    refine (rightValues_any b B 0 m (-(T : Int)) _ HV.out HM.out).mono ?_
    rintro e w3 ⟨rfl, hway, hb3⟩
    have HWAY := Lib.hid hway; clear hway
    have HB3 : Hid (Below w.heap.size w w3) := hbb.trans (hb3.mono hbb.size)
    clear hb3
    go_wp2_with fail
    refine (wturn_any b B 0 m w2.heap.size (-(T : Int)) _ HWAY.out hpos hm2).mono ?_
    rintro e w4 ⟨rfl, rfl⟩
    go_wp2_with fail
    refine (wdigits_any b B 0 m w2.heap.size m 0 (-(T : Int)) _ HV.out HM.out HWAY.out (by omega) (by omega)).mono ?_
    rintro e w5 ⟨v, rfl, hs, hb5⟩
    rw [HBK.out] at hs
    have HB5 : Hid (Below w.heap.size w w5) := HB3.out.trans (hb5.mono HB3.out.size)
    have HS := Lib.hid (hs.mono HB3.out.size)
    clear hs hb5
    go_wp2_with fail
    go_ret2
    exact ⟨_, rfl, HS.out, HB5.out⟩

end Go.Proofs.Ytbgpdhnfaacenab
