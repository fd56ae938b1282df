/-
  Chapter 8, the program's side: what its six functions answer.
-/
import Derived.Test.YtbgpdhnfaacenaaRgtX
import Derived.Test.YtbgpdhnfaacenaaOfTool
import Derived.Test.YtbgpdhnfaacenaaRev
namespace Go.Proofs.Ytbgpdhnfaacenaa
open Go.RowKit Go.Maps

theorem way_len {b B n m : Nat} {t : Int} (h : Rgv b B t) (hm : IsRg b B t n m) : n ≤ 14 ∧ m ≤ 1001 ∧ 0 < m := by
  obtain ⟨_, _, h1, h2⟩ := rg_facts h.r h.lo h.hi hm
  have := h.r.B2
  exact ⟨h1, by omega, hm.pos⟩

set_option maxHeartbeats 1000000 in
theorem imRightDigits : ImRightDigits := by
  constructor
  · intro b t n k h w
    have hs : Slc w.heap.size w (.slice none 0 0) [] := Slc.nil _ _
    cases hv : vlB b t n with
    | false =>
      clear h
      go_enter Try.func8, Try.ntmps8
      go_wp2_with fail
      refine (rightTold_any _ _ _ _).mono ?_
      rintro e w1 ⟨rfl, rfl⟩
      rw [hv]
      go_wp2_with fail
      go_ret2
      exact ⟨_, rfl, hs, Below.refl _ _⟩
    | true =>
      rw [hv, Bool.true_and] at h
      by_cases h0 : 0 ≤ k
      · have h1 : decide (k < 0) = false := by simp; omega
        have h2 : decide (k > 200) = true := by
          rw [decide_eq_false_iff_not] at h; simp; omega
        clear h
        go_enter Try.func8, Try.ntmps8
        go_wp2_with fail
        refine (rightTold_any _ _ _ _).mono ?_
        rintro e w1 ⟨rfl, rfl⟩
        rw [hv]
        go_wp2_with fail
        go_ret2
        exact ⟨_, rfl, hs, Below.refl _ _⟩
      · have h1 : decide (k < 0) = true := by simp; omega
        clear h
        go_enter Try.func8, Try.ntmps8
        go_wp2_with fail
        refine (rightTold_any _ _ _ _).mono ?_
        rintro e w1 ⟨rfl, rfl⟩
        rw [hv]
        go_wp2_with fail
        go_ret2
        exact ⟨_, rfl, hs, Below.refl _ _⟩
  · intro b B k t hv hk w
    obtain ⟨n, m, hm⟩ := hv.some
    have told := hv.told
    have h1 : decide ((k : Int) > 200) = false := by simp; omega
    have h2 : decide ((k : Int) < 0) = false := by simp
    have HV := Lib.hid hv; have HM := Lib.hid hm
    clear hv hm
    go_enter Try.func8, Try.ntmps8
    go_wp2_with fail
    refine (rightTold_any _ _ _ _).mono ?_
    rintro e w1 ⟨rfl, rfl⟩
    rw [told]
    go_wp2_with fail
    refine (rightValues_any b B n m t _ HV.out HM.out).mono ?_
    rintro e w1 ⟨rfl, hway, hb1⟩
    have HWAY := Lib.hid hway; clear hway
    go_wp2_with fail
    refine (wdigits_any b B n m w.heap.size k 0 t _ HV.out HM.out HWAY.out (by have := (way_len HV.out HM.out).2.2; omega) (by omega)).mono ?_
    rintro e w2 ⟨v, rfl, hs, hb2⟩
    rw [Nat.zero_add, List.drop_zero] at hs
    go_wp2_with fail
    go_ret2
    exact ⟨_, rfl, hs.mono hb1.size, hb1.trans (hb2.mono hb1.size)⟩

set_option maxRecDepth 100000 in
set_option maxHeartbeats 2000000 in
theorem imRightTops : ImRightTops := by
  constructor
  · intro b t n k h w
    have hs : Slc w.heap.size w (.slice none 0 0) [] := Slc.nil _ _
    cases hv : vlB b t n with
    | false =>
      clear h
      go_enter Try.func13, Try.ntmps13
      go_wp2_with fail
      refine (rightTold_any _ _ _ _).mono ?_
      rintro e w1 ⟨rfl, rfl⟩
      rw [hv]
      go_wp2_with fail
      go_ret2
      exact ⟨_, rfl, hs, Below.refl _ _⟩
    | true =>
      rw [hv, Bool.true_and] at h
      by_cases h0 : 0 ≤ k
      · have h1 : decide (k < 0) = false := by simp; omega
        have h2 : decide (k > 200) = true := by
          rw [decide_eq_false_iff_not] at h; simp; omega
        clear h
        go_enter Try.func13, Try.ntmps13
        go_wp2_with fail
        refine (rightTold_any _ _ _ _).mono ?_
        rintro e w1 ⟨rfl, rfl⟩
        rw [hv]
        go_wp2_with fail
        go_ret2
        exact ⟨_, rfl, hs, Below.refl _ _⟩
      · have h1 : decide (k < 0) = true := by simp; omega
        clear h
        go_enter Try.func13, Try.ntmps13
        go_wp2_with fail
        refine (rightTold_any _ _ _ _).mono ?_
        rintro e w1 ⟨rfl, rfl⟩
        rw [hv]
        go_wp2_with fail
        go_ret2
        exact ⟨_, rfl, hs, Below.refl _ _⟩
  · intro b B K t hv hk w
    obtain ⟨i0, hi, hz0, hz1, hz2⟩ := info_parts infoInt
    obtain ⟨n, m, hm⟩ := hv.some
    have told := hv.told
    have h1 : decide ((K : Int) > 200) = false := by simp; omega
    have h2 : decide ((K : Int) < 0) = false := by simp
    have hmk := make_capW K (by omega)
    obtain ⟨_, _, hpos⟩ := way_len hv hm
    have HS : ∀ k, Hid (tpL b B t (k + 1) = tpL b B t k ++ [rgT b B t k]) := fun k => tpL_succ b B t k
    have HBIG := Lib.hid (fun i => hv.big i)
    have HV := Lib.hid hv; have HM := Lib.hid hm
    clear hv hm
    go_enter Try.func13, Try.ntmps13
    go_wp2_with fail
    refine (rightTold_any _ _ _ _).mono ?_
    rintro e w1 ⟨rfl, rfl⟩
    rw [told]
    go_wp2_with fail
    obtain ⟨w0, hw0⟩ : ∃ w0, w.alloc (.cells (madeCells #[.int .i64 0] K) 3) = w0 := ⟨_, rfl⟩
    have hown0 : w0.ownsRow w.heap.size 3 1 (.slice (some ⟨w.heap.size, 0, none⟩) 0 K) 0 [] := by
      rw [← hw0]; exact World.ownsRow_made w (madeCells #[.int .i64 0] K) K (by simp) (by unfold maxLen; omega) (by simp [size_madeCells])
    have hb0 : Below w.heap.size w w0 := by rw [← hw0]; exact (Below.refl _ _).alloc (Nat.le_refl _) _
    have hs0 : w0.heap.size = w.heap.size + 1 := by rw [← hw0]; simp
    rw [hw0]
    have HS0 := Lib.hid hs0
    clear hw0 hs0
    refine (rightValues_any b B n m t w0 HV.out HM.out).mono ?_
    rintro e w1 ⟨rfl, hway, hb1⟩
    have HWAY := Lib.hid hway; clear hway
    have HB1 : Hid (Below w.heap.size w w1) := hb0.trans (hb1.mono hb0.size)
    have HOWN1 : Hid (w1.ownsRow w.heap.size 3 1 (.slice (some ⟨w.heap.size, 0, none⟩) 0 K) 0 []) := owns_later hown0 hb1
    have HSZ : Hid (w0.heap.size ≤ w1.heap.size) := hb1.size
    clear hb0 hown0 hb1
    go_wp2_with fail
    go_loopw [10, 11, 36] (fun v from' i' wr => ∃ k l : Nat, k ≤ K ∧ l < n + m ∧ from' = .pointer (some ⟨wq w0.heap.size l, 0, none⟩) ∧ i' = .int .i64 k ∧ Hid (rgT b B t l = rgT b B t (0 + k)) ∧ Hid (wr.ownsRow w.heap.size 3 1 v k ((tpL b B t k).map (Value.int .i64))) ∧
        Hid (∀ g, v.ownBlock = some g → g = w.heap.size ∨ w1.heap.size ≤ g) ∧ Hid (w1.heap.size ≤ wr.heap.size) ∧ Hid (Way b B t n m w0.heap.size wr) ∧ Hid (Below w.heap.size w wr)) (fun _ _ i' _ => K - (intOf i').toNat)
    case atStart =>
      refine ⟨0, 0, Nat.zero_le _, by omega, rfl, rfl, rfl, ?_, fun g e => .inl (by simp [Value.ownBlock] at e; exact e.symm), Nat.le_refl _, HWAY.out, HB1.out⟩
      exact HOWN1.out
    case round =>
      obtain ⟨k, l, hk, hl, rfl, rfl, HT, hown, HNE, HLE, HWY, hbel⟩ := hrel
      by_cases hlt : k < K
      · have node := HWY.out.node l hl
        have c0 := node.c0
        rw [HT.out, Nat.zero_add] at c0
        obtain ⟨y1, y2⟩ := HBIG.out k
        have HSK := HS k
        revert c0 y1 y2 HSK
        generalize rgT b B t k = a
        intro c0 y1 y2 HSK
        have HNX := Lib.hid (nxt_step HM.out HT.out)
        have hnl : nxt n m l < n + m := nxt_lt hpos hl
        obtain ⟨l', hl'⟩ : ∃ l', nxt n m l = l' := ⟨_, rfl⟩
        rw [hl'] at hnl HNX
        have HL' := Lib.hid hl'
        clear hl' node
        go_wp2_with (at_builtin; refine wpList_append_own_at _ rfl _ _ 22 rfl w.heap.size 3 i0 (.int .i64 0) 1 8 Try.underlying22 hi hz0 hz1 hz2 rfl (by decide) _ _ _ rfl (hown.out.alloc _) ⟨wr.heap.size, 0, none⟩ 1 1 [.int .i64 a] rfl rfl ?c1 ?c2 ?c3 ?c4 ?c5 ?_)
        case c1 => exact cell_one_new _ _ _
        case c2 => simp [Value.oneCell']
        case c3 => unfold maxLen; omega
        case c4 => omega
        case c5 => have := hbel.out.size; simp; omega
        intro u' w2 hu' hgrow _ hat
        have hb1 : Below w.heap.size w w2 := (hbel.out.alloc hbel.out.size _).grown hgrow (by have := hbel.out.size; simp; omega) (fun q e => row_ge hown.out e)
        have hs2 := hgrow.size
        simp only [World.size_alloc] at hs2
        have HW2 : Hid (Way b B t n m w0.heap.size w2) := ⟨fun j hj => by
          have hlt1 := (HWAY.out.node j hj).lt
          have hge := wq_ge w0.heap.size j
          have h0 := HS0.out
          exact ((HWY.out.node j hj).alloc _).kept hgrow (fun e => by have := HNE.out _ e.symm; omega)⟩
        have HN2 : Hid (∀ g, u'.ownBlock = some g → g = w.heap.size ∨ w1.heap.size ≤ g) := fun g e => by
          rcases hat with e1 | e1
          · exact HNE.out g (e1 ▸ e)
          · rw [e1] at e
            have := HLE.out
            simp at e; omega
        have HL2 : Hid (w1.heap.size ≤ w2.heap.size) := by have := HLE.out; unfold Hid; omega
        have node1 := HW2.out.node l hl
        rw [HL'.out] at node1
        have c2 := node1.c2
        have hrow : w2.ownsRow w.heap.size 3 1 u' (k + 1) ((tpL b B t (k + 1)).map (Value.int .i64)) := by
          rw [HSK.out, List.map_append]; exact hu'
        clear hu' hgrow hat node1 hs2
        go_wp2_with fail
        go_roundw
        case rel => exact ⟨k + 1, l', by omega, hnl, rfl, by go_num, HNX.out, hrow, HN2, HL2, HW2, hb1⟩
        case measure => simp [intOf]; omega
      · obtain rfl : k = K := by omega
        go_wp2_with fail
        go_ret2
        exact ⟨_, rfl, Slc.of_owns (by rw [tpL_len]; exact hown.out), hbel.out⟩

set_option maxHeartbeats 1000000 in
theorem imRightLengths : ImRightLengths := by
  constructor
  · intro b t n hv w
    go_enter Try.func15, Try.ntmps15
    go_wp2_with fail
    refine (rightTold_any _ _ _ _).mono ?_
    rintro e w1 ⟨rfl, rfl⟩
    rw [hv]
    go_wp2_with fail
    go_ret3
    exact ⟨rfl, Below.refl _ _⟩
  · intro b B n m t hv hm w
    have told := hv.told
    obtain ⟨hn, hm2, hpos⟩ := way_len hv hm
    have HV := Lib.hid hv; have HM := Lib.hid hm
    clear hv hm
    go_enter Try.func15, Try.ntmps15
    go_wp2_with fail
    refine (rightTold_any _ _ _ _).mono ?_
    rintro e w1 ⟨rfl, rfl⟩
    rw [told]
    go_wp2_with fail
    refine (rightValues_any b B n m t _ HV.out HM.out).mono ?_
    rintro e w1 ⟨rfl, hway, hb1⟩
    have HWAY := Lib.hid hway; clear hway
    go_wp2_with fail
    refine (stepsTo_any b B n m w.heap.size n (fun s => s) t _ HWAY.out (fun s hs => by unfold nxt; rw [if_neg (by omega)]) (fun s hs => by omega) (fun s hs => by omega) (by omega)).mono ?_
    rintro e w2 ⟨rfl, rfl⟩
    go_wp2_with fail
    refine (wturn_any b B n m w.heap.size t _ HWAY.out hpos hm2).mono ?_
    rintro e w3 ⟨rfl, rfl⟩
    go_wp2_with fail
    go_ret3
    exact ⟨rfl, hb1⟩


theorem numI_from (b : Nat) (xs : List Int) : ∀ a : Int, xs.foldl (fun n d => (b : Int) * n + d) a = a * ((b ^ xs.length : Nat) : Int) + numI b xs := by
  induction xs with
  | nil => intro a; simp [numI]
  | cons x xs ih =>
    intro a
    have e : numI b (x :: xs) = xs.foldl (fun n d => (b : Int) * n + d) ((b : Int) * 0 + x) := rfl
    rw [e, List.foldl_cons, ih, ih, List.length_cons, Nat.pow_succ, Int.natCast_mul]
    grind
theorem numI_rev (b B : Nat) (t : Int) (k : Nat) : numI b (rgL b B t k).reverse = rgV b B t k := by
  induction k with
  | zero => rfl
  | succ k ih =>
    rw [rgL_succ, List.reverse_append]
    have e : numI b ([(rgD b B (rgT b B t k) : Int)].reverse ++ (rgL b B t k).reverse) = (rgL b B t k).reverse.foldl (fun n d => (b : Int) * n + d) ((b : Int) * 0 + (rgD b B (rgT b B t k) : Int)) := rfl
    rw [e, numI_from, ih, List.length_reverse, rgL_len]
    show _ = rgV b B t k + (rgD b B (rgT b B t k) : Int) * ((b ^ k : Nat) : Int)
    rw [Int.mul_zero, Int.zero_add]; omega
theorem digB_rev {b B : Nat} {t : Int} (h : Rgv b B t) (k : Nat) : digB b (rgL b B t k).reverse = true := by
  unfold digB
  rw [List.all_eq_true]
  intro x hx
  rw [List.mem_reverse] at hx
  unfold rgL at hx
  obtain ⟨i, _, rfl⟩ := List.mem_map.1 hx
  have := h.dig (rgT b B t i)
  simp
  omega

theorem revAny {n₀ : Nat} (v : Value) (xs : List Int) (w : World) (hv : Slc n₀ w v xs) (hx : xs.length ≤ 10000) :
    Calls Try.prog 27 #[v] w fun e w' => e = .returned (.tuple #[]) ∧ Slc n₀ w' v xs.reverse ∧ w.grownBy w' v.ownBlock := by
  cases xs with
  | nil => exact reverse0_any n₀ v w hv
  | cons x xs => exact reverse_any n₀ v _ w hv hx (by simp)

set_option maxHeartbeats 1000000 in
theorem imRightRest : ImRightRest := by
  constructor
  · intro b t n k h w
    cases hv : vlB b t n with
    | false =>
      clear h
      go_enter Try.func17, Try.ntmps17
      go_wp2_with fail
      refine (rightTold_any _ _ _ _).mono ?_
      rintro e w1 ⟨rfl, rfl⟩
      rw [hv]
      go_wp2_with fail
      go_ret2
      exact ⟨rfl, Below.refl _ _⟩
    | true =>
      rw [hv, Bool.true_and] at h
      by_cases h0 : 0 ≤ k
      · have h1 : decide (k < 0) = false := by simp; omega
        have h2 : decide (k > 4) = true := by
          rw [decide_eq_false_iff_not] at h; simp; omega
        clear h
        go_enter Try.func17, Try.ntmps17
        go_wp2_with fail
        refine (rightTold_any _ _ _ _).mono ?_
        rintro e w1 ⟨rfl, rfl⟩
        rw [hv]
        go_wp2_with fail
        go_ret2
        exact ⟨rfl, Below.refl _ _⟩
      · have h1 : decide (k < 0) = true := by simp; omega
        clear h
        go_enter Try.func17, Try.ntmps17
        go_wp2_with fail
        refine (rightTold_any _ _ _ _).mono ?_
        rintro e w1 ⟨rfl, rfl⟩
        rw [hv]
        go_wp2_with fail
        go_ret2
        exact ⟨rfl, Below.refl _ _⟩
  · intro b B k t hv hk w
    obtain ⟨n, m, hm⟩ := hv.some
    have told := hv.told
    have hb16 := hv.r.b16
    have h1 : decide ((k : Int) > 4) = false := by simp; omega
    have h2 : decide ((k : Int) < 0) = false := by simp
    have HV := Lib.hid hv; have HM := Lib.hid hm
    clear hv hm
    go_enter Try.func17, Try.ntmps17
    go_wp2_with fail
    refine (rightTold_any _ _ _ _).mono ?_
    rintro e w1 ⟨rfl, rfl⟩
    rw [told]
    go_wp2_with fail
    refine (rightValues_any b B n m t _ HV.out HM.out).mono ?_
    rintro e w1 ⟨rfl, hway, hb1⟩
    have HWAY := Lib.hid hway; clear hway
    go_wp2_with fail
    refine (wdigits_any b B n m w.heap.size k 0 t _ HV.out HM.out HWAY.out (by have := (way_len HV.out HM.out).2.2; omega) (by omega)).mono ?_
    rintro e w2 ⟨v, rfl, hs, hb2⟩
    rw [Nat.zero_add, List.drop_zero] at hs
    have HS := Lib.hid (hs.mono hb1.size)
    have HB2 : Hid (Below w.heap.size w w2) := hb1.trans (hb2.mono hb1.size)
    clear hs hb2 hb1
    go_wp2_with fail
    refine (revAny v _ _ HS.out (by rw [rgL_len]; omega)).mono ?_
    rintro e w3 ⟨rfl, hs3, hg3⟩
    have HB3 : Hid (Below w.heap.size w w3) := HB2.out.grown hg3 HB2.out.size (fun g e => (HS.out.own g e).1)
    have HS3 := Lib.hid hs3
    clear hs3 hg3
    go_wp2_with fail
    refine (numberOf_any w.heap.size b v _ _ HS3.out hb16 (by rw [List.length_reverse, rgL_len]; omega) (digB_rev HV.out k)).mono ?_
    rintro e w4 ⟨rfl, rfl⟩
    go_wp2_with fail
    go_ret2
    exact ⟨by rw [numI_rev]; rfl, HB3.out⟩


end Go.Proofs.Ytbgpdhnfaacenaa
