/-
  Digits from the right: the model's lengths, number, round, and what it asks of it.
-/
import Derived.Test.YtbgpdhnfaacenabRgtS
namespace Go.Proofs.Ytbgpdhnfaacenab
open Go.RowKit

/-- How long a slice is. -/
def lenV : Value → Nat
  | .slice _ n _ => n
  | _ => 0

set_option maxRecDepth 100000 in
set_option maxHeartbeats 4000000 in
theorem l8Lengths_any (b B n m : Nat) (t : Int) (w : World) (h : Rgv b B t) (hm : IsRg b B t n m) :
    Calls Try.prog 38 #[.int .i64 b, .int .i64 t, .int .i64 B] w fun e w' => e = .returned (.tuple #[.int .i64 n, .int .i64 m]) ∧ Below w.heap.size w w' := by
  obtain ⟨i0, hi, hz0, hz1, hz2⟩ := info_parts infoInt
  obtain ⟨_, _, hn14, hmB⟩ := rg_facts h.r h.lo h.hi hm
  have HBIG := Lib.hid (fun i => h.big i)
  have HDIG := Lib.hid (fun x => h.dig x)
  have hb := h.r.b2; have hb16 := h.r.b16; have hB2 := h.r.B2
  have HR := Lib.hid h.r
  have HM := Lib.hid hm
  obtain ⟨N, hN⟩ : ∃ N, n + m = N := ⟨_, rfl⟩
  have hNb : N ≤ 1015 := by omega
  have HN := Lib.hid hN
  clear h hm hN
  go_enter Try.func38, Try.ntmps38
  go_wp2_with fail
  go_loopw [1, 8] (fun t' u wr => ∃ j : Nat, j ≤ N ∧ t' = .int .i64 (rgT b B t j) ∧ wr.ownsRow w.heap.size 3 1 u j ((tpL b B t j).map (Value.int .i64)) ∧ lenV u = j ∧ Below w.heap.size w wr) (fun _ u _ => N + 1 - lenV u)
  case atStart =>
    refine ⟨0, Nat.zero_le _, rfl, ?_, rfl, (Below.refl _ _).alloc (Nat.le_refl _) _⟩
    have := World.ownsRow_made (base := w.heap.size) (e := 3) (size := 1) w #[] 0 (by simp) (by simp) (by simp)
    simpa [tpL] using this
  case round =>
    obtain ⟨j, hj, rfl, hu, hlen, hbel⟩ := hrel
    have hs := Slc.of_owns (n₀ := w.heap.size) (xs := tpL b B t j) (by rw [tpL_len]; exact hu)
    have HS := Lib.hid hs
    have HL := Lib.hid (tpL_len b B t j)
    obtain ⟨a8, c8, hu8⟩ := slc_form hs
    rw [tpL_len] at hu8
    subst hu8
    have HU := Lib.hid hu
    clear hu hs hlen
    go_wp2_with fail
    go_loop [9] (fun i' => ∃ i : Nat, i ≤ j ∧ i' = .int .i64 i ∧ Hid (∀ c, c < i → rgT b B t c ≠ rgT b B t j)) (fun i' => j - (intOf i').toNat)
    case atStart => exact ⟨0, Nat.zero_le _, rfl, fun c hc => by omega⟩
    case round =>
      obtain ⟨i, hij, rfl, HNE⟩ := hrel
      by_cases hlt : i < j
      · obtain ⟨g, o, ea⟩ := slc_addr HS.out (by omega)
        subst ea
        have kc := Slc.cell HL.out HS.out i hlt
        rw [tpL_get hlt] at kc
        have i1 : (i : Int) < (j : Int) := by omega
        have i2 : (0 : Int) ≤ (i : Int) := by omega
        by_cases he : rgT b B t i = rgT b B t j
        · have hend : i = n ∧ j - i = m := by
            have e1 : j = N := by
              refine Classical.byContradiction fun hne => HM.out.ne i j hlt (by rw [HN.out]; omega) he
            subst e1
            have h1 := HM.out.eq
            rw [HN.out] at h1
            have h2 : i = n := by
              rcases Nat.lt_trichotomy i n with h3 | h3 | h3
              · exact absurd (he.trans h1) (HM.out.ne i n h3 (by have := HM.out.pos; omega))
              · exact h3
              · have hp := HM.out.pos
                exact absurd (h1.symm.trans he.symm) (HM.out.ne n i h3 (by have := HN.out; omega))
            have := HN.out
            omega
          obtain ⟨rfl, hjm⟩ := hend
          have hsub : (j : Int) - (i : Int) = (m : Int) := by omega
          rw [he] at kc
          clear he hjm
          go_wp2_with fail
          go_ret2
          exact ⟨rfl, hbel⟩
        · have he' : (rgT b B t i == rgT b B t j) = false := by simpa using he
          have HHE := Lib.hid he
          revert kc he he'
          generalize rgT b B t i = x
          intro kc he he'
          go_wp2_with fail
          go_round
          case rel =>
            refine ⟨i + 1, hlt, by go_num, fun c hc => ?_⟩
            rcases Nat.lt_or_ge c i with h0 | h0
            · exact HNE.out c h0
            · obtain rfl : c = i := by omega
              exact HHE.out
          case measure => simp [intOf]; omega
      · obtain rfl : i = j := by omega
        have i1 : ¬ (i : Int) < (i : Int) := by omega
        have hjN : i < N := by
          refine Nat.lt_of_le_of_ne hj fun e => ?_
          subst e
          have h1 := HM.out.eq
          rw [HN.out] at h1
          exact HNE.out n (by have := HM.out.pos; have := HN.out; omega) h1.symm
        obtain ⟨x1, x2⟩ := HBIG.out i
        have hd := HDIG.out (rgT b B t i)
        obtain ⟨y1, y2⟩ := HBIG.out (i + 1)
        have HT : Hid (rgT b B t (i + 1) = (rgT b B t i - (rgD b B (rgT b B t i) : Int) * B) / b) := rfl
        have HTD := Lib.hid (rgN_tdiv HR.out (rgT b B t i))
        have HTS := Lib.hid (tpL_succ b B t i)
        rw [HT.out] at y1 y2
        have DG := Lib.hid (fun wx => l8Digit_any b B (rgT b B t i) wx HR.out x1 x2)
        clear HNE
        revert HT HTD HTS DG x1 x2 y1 y2 hd
        generalize rgT b B t i = x
        generalize rgD b B x = a
        intro x1 x2 hd y1 y2 HT HTD HTS DG
        obtain ⟨p, hp⟩ : ∃ p, a * B = p := ⟨_, rfl⟩
        have hp2 : p ≤ 16000 := by
          have : a * B ≤ 16 * 1000 := Nat.mul_le_mul (by omega) hB2
          omega
        have hc : ((a : Int) * (B : Int)) = (p : Int) := by rw [← hp, Int.natCast_mul]
        rw [hc] at y1 y2
        have hT' := HT.out
        have hTD' := HTD.out
        rw [hc] at hT' hTD'
        clear HT HTD
        obtain ⟨y, hy⟩ : ∃ y : Int, x - (p : Int) = y := ⟨_, rfl⟩
        rw [hy] at hT' hTD' y1 y2
        have hy1 : -30000 ≤ y := by omega
        have hy2 : y ≤ 30000 := by omega
        obtain ⟨z, hz⟩ : ∃ z : Int, y / (b : Int) = z := ⟨_, rfl⟩
        rw [hz] at hT' hTD' y1 y2
        have w1' : IntKind.i64.wrap ((a : Int) * (B : Int)) = (p : Int) := by rw [hc]; exact IntWalk.i64_in _ (by omega)
        have w2' : IntKind.i64.wrap z = z := IntWalk.i64_in _ (by omega)
        have m0 : 0 ≤ (a : Int) * (B : Int) := by omega
        have m1 : (a : Int) * (B : Int) ≤ 16000 := by omega
        have hb0 : ¬ b = 0 := by omega
        have hb1 : ¬ (b : Int) = 0 := by omega
        have HTT := Lib.hid hT'
        clear hT' hz hc hp
        go_wp2_with (at_builtin; refine wpList_append_own_at _ rfl _ _ 24 rfl w.heap.size 3 i0 (.int .i64 0) 1 8 Try.underlying24 hi hz0 hz1 hz2 rfl (by decide) _ _ _ rfl (HU.out.alloc _) ⟨wr.heap.size, 0, none⟩ 1 1 [.int .i64 x] rfl rfl ?c1 ?c2 ?c3 ?c4 ?c5 ?_)
        try case c1 => exact cell_one_new _ _ _
        case c2 => simp [Value.oneCell']
        case c3 => unfold maxLen; omega
        case c4 => omega
        case c5 => have := hbel.size; simp; omega
        intro u' w1 hu' hgrow _ _
        have hb2 : Below w.heap.size w w1 := (hbel.alloc hbel.size _).grown hgrow (by have := hbel.size; simp; omega) (fun q e => row_ge HU.out e)
        have hru : w1.ownsRow w.heap.size 3 1 u' (i + 1) ((tpL b B t (i + 1)).map (Value.int .i64)) := by
          rw [HTS.out, List.map_append]; exact hu'
        have hlu : lenV u' = i + 1 := by
          have h1 := Slc.of_owns (n₀ := w.heap.size) (xs := tpL b B t (i + 1)) (by rw [tpL_len]; exact hru)
          obtain ⟨a9, c9, e9⟩ := slc_form h1
          rw [e9, tpL_len]; rfl
        clear hu' hgrow HU hbel HS
        go_wp2_with fail
        refine (DG.out _).mono ?_
        rintro e w0 ⟨rfl, rfl⟩
        have hb1 : ¬ (b : Int) = 0 := by omega
        go_wp2_with fail
        go_roundw
        case rel => exact ⟨i + 1, hjN, by rw [HTT.out], hru, hlu, hb2⟩
        case measure => simp only [hlu]; simp [lenV]; omega



set_option maxHeartbeats 2000000 in
theorem l8Round_any (b B n m : Nat) (t : Int) (w : World) (h : Rgv b B t) (hm : IsRg b B t n m) :
    Calls Try.prog 24 #[.int .i64 b, .int .i64 t, .int .i64 B] w fun e w' => ∃ v, e = .returned v ∧ Slc w.heap.size w' v ((rgL b B t (n + m)).drop n) ∧ Below w.heap.size w w' := by
  obtain ⟨_, _, hn14, hmB⟩ := rg_facts h.r h.lo h.hi hm
  have hB2 := h.r.B2
  have hp := hm.pos
  have HW := Lib.hid h; have HM := Lib.hid hm
  clear h hm
  go_enter Try.func24, Try.ntmps24
  go_wp2_with fail
  refine (l8Lengths_any b B n m t _ HW.out HM.out).mono ?_
  rintro e w1 ⟨rfl, hb1⟩
  have hs1 := hb1.size
  go_wp2_with fail
  have ec : (n : Int) + m = ((n + m : Nat) : Int) := by omega
  rw [ec]
  refine (l8Walk_any b B (n + m) t _ HW.out (by omega)).mono ?_
  rintro e w2 ⟨v, v2, rfl, hv, _, hb2⟩
  clear ec
  have hv0 := hv
  rcases hv with ⟨rfl, hz⟩ | ⟨g, off, cap, cur, rfl, r1, r2, r3, r4, r5, r6⟩
  · have := rgL_len b B t (n + m); rw [hz] at this; simp at this; omega
  rw [rgL_len] at r3 r6 ⊢
  have hnc : n < cap := by omega
  have hcap : cap ≤ 9223372036854775807 := by unfold maxLen at r4; exact r4
  go_wp2_with fail
  go_ret
  rw [rgL_len] at hv0
  have hd := Slc.drop (n := n) (rgL_len b B t (n + m)) hv0 (by omega)
  refine ⟨_, rfl, ?_, ?_⟩
  · have := hd.mono (n₁ := w.heap.size) hs1
    rw [show n + m - n = m by omega] at this
    exact this
  · exact hb1.trans (hb2.mono hs1)

set_option maxHeartbeats 1000000 in
theorem specRightNegative_no (b t n : Int) (h : ngB b t n = false) : Gives 7 #[.int .i64 b, .agg #[.int .i64 t, .int .i64 n]] [] false := by
  intro w
  cases hv : tldB b t n with
  | false =>
    clear h
    go_enter Try.func7, Try.ntmps7
    go_wp2_with fail
    refine (l1Given_any b t n _).mono ?_
    rintro e w1 ⟨rfl, hb1⟩
    have hb := bel1 hb1
    rw [hv]
    have hb' := hb.alloc hb.size (.cells #[] 3)
    go_wp2_with fail
    go_ret2
    exact ⟨_, rfl, Slc.empty hb.size, hb'⟩
  | true =>
    have hg : ((gcdI b n) != 1) = true := by
      unfold ngB at h
      rw [hv, Bool.true_and, decide_eq_false_iff_not] at h
      simpa using h
    have hg' : ((gcdI b n) == 1) = false := by
      unfold ngB at h
      rw [hv, Bool.true_and, decide_eq_false_iff_not] at h
      simpa using h
    obtain ⟨b, T, B, rfl, rfl, rfl, h3, h4, hT, hB, hgT⟩ := tld_nat hv
    clear h
    have GC := Lib.hid (fun wx => l1Gcd_any (b : Int) (B : Int) wx (by omega) (by omega) (by omega) (by omega))
    revert GC hg hg'
    generalize gcdI (b : Int) (B : Int) = q
    intro hg hg' GC
    go_enter Try.func7, Try.ntmps7
    go_wp2_with fail
    refine (l1Given_any b T B _).mono ?_
    rintro e w1 ⟨rfl, hb1⟩
    have q1 := (Box2.newAt (W := w) (T := 27) (x := .int .i64 T) (y := .int .i64 B) rfl).later hb1
    have k0 := q1.cell0
    have k1 := q1.cell1
    have hb := bel1 hb1
    rw [hv]
    clear hb1
    have hb' := hb.alloc hb.size (.cells #[] 3)
    go_wp2_with fail
    refine (GC.out _).mono ?_
    rintro e w2 ⟨rfl, rfl⟩
    go_wp2_with fail
    go_ret2
    exact ⟨_, rfl, Slc.empty hb.size, hb'⟩

set_option maxHeartbeats 1000000 in
theorem specRightNegative_yes (b T B m : Nat) (h : Rgf b T B m) : Gives 7 #[.int .i64 b, .agg #[.int .i64 T, .int .i64 B]] (bkL b T B m) true := by
  intro w
  have hng := h.told
  have hv : tldB b T B = true := by unfold ngB at hng; rw [Bool.and_eq_true] at hng; exact hng.1
  have hg : gcdI b B = 1 := by unfold ngB at hng; rw [Bool.and_eq_true, decide_eq_true_eq] at hng; exact hng.2
  have hT := h.lt; have hB := h.r.B2; have hb16 := h.r.b16
  have HR := Lib.hid (fun wx => l8Round_any b B 0 m (-(T : Int)) wx h.val (rg_neg h.r h.lt h.len))
  rw [bk_rg h.r h.lt h.len] at HR
  have GC := Lib.hid (fun wx => l1Gcd_any (b : Int) (B : Int) wx (by omega) (by omega) (by omega) (by omega))
  rw [hg] at GC
  clear hng hg h
  go_enter Try.func7, Try.ntmps7
  go_wp2_with fail
  refine (l1Given_any b T B _).mono ?_
  rintro e w1 ⟨rfl, hb1⟩
  have q1 := (Box2.newAt (W := w) (T := 27) (x := .int .i64 T) (y := .int .i64 B) rfl).later hb1
  have k0 := q1.cell0
  have k1 := q1.cell1
  have hb := bel1 hb1
  rw [hv]
  clear hb1
  go_wp2_with fail
  refine (GC.out _).mono ?_
  rintro e w2 ⟨rfl, rfl⟩
  go_wp2_with fail
  refine (HR.out _).mono ?_
  rintro e w3 ⟨v, rfl, hu, hb3⟩
  have hbb := hb.trans (hb3.mono hb.size)
  go_wp2_with fail
  go_ret2
  exact ⟨_, rfl, hu.mono hb.size, hbb⟩

set_option maxHeartbeats 1000000 in
theorem specRightWhole_no (b t n : Int) (h : vlB b t n = false) : GivesB 13 #[.int .i64 b, .int .i64 t, .int .i64 n] false := by
  intro w
  go_enter Try.func13, Try.ntmps13
  go_wp2_with fail
  refine (l8Given_any _ _ _ _).mono ?_
  rintro e w1 ⟨rfl, rfl⟩
  rw [h]
  go_wp2_with fail
  go_ret
  exact ⟨rfl, Below.refl _ _⟩

set_option maxHeartbeats 2000000 in
theorem specRightWhole_yes (b B : Nat) (t : Int) (h : Rgv b B t) : GivesB 13 #[.int .i64 b, .int .i64 t, .int .i64 B] (decide (t % B = 0)) := by
  intro w
  have hv := h.told
  obtain ⟨n, m, hm⟩ := h.some
  obtain ⟨hin, _, hn14, hmB⟩ := rg_facts h.r h.lo h.hi hm
  have hw := rg_whole h.r hm hin
  have hdiv : (B : Int) ∣ t ↔ t % B = 0 := Int.dvd_iff_emod_eq_zero
  rw [hdiv] at hw
  have hd := h.dig (rgT b B t n)
  have hb2 := h.r.b2; have hb16 := h.r.b16; have hB2 := h.r.B2
  have hp := hm.pos
  have HR := Lib.hid (fun wx => l8Round_any b B n m t wx h hm)
  have hlen : ((rgL b B t (n + m)).drop n).length = m := by rw [List.length_drop, rgL_len]; omega
  have hget : ((rgL b B t (n + m)).drop n)[0]?.getD 0 = (rgD b B (rgT b B t n) : Int) := by
    rw [List.getElem?_drop, Nat.add_zero, rgL_get (by omega)]
  clear h hm hin hdiv
  revert hget hw hd hlen HR
  generalize (rgL b B t (n + m)).drop n = L
  generalize rgD b B (rgT b B t n) = x
  intro hw hd HR hlen hget
  have HLEN := Lib.hid hlen; have HGET := Lib.hid hget; have HW := Lib.hid hw
  clear hlen hget hw
  go_enter Try.func13, Try.ntmps13
  go_wp2_with fail
  refine (l8Given_any _ _ _ _).mono ?_
  rintro e w1 ⟨rfl, rfl⟩
  rw [hv]
  go_wp2_with fail
  refine (HR.out _).mono ?_
  rintro e w1 ⟨v, rfl, hu, hb⟩
  obtain ⟨g, o, c, rfl, _, _, _, _⟩ := slc_some hu (by rw [HLEN.out]; exact hp)
  rw [HLEN.out] at hu ⊢
  have kc := Slc.cell HLEN.out hu 0 (by omega)
  rw [HGET.out, Nat.add_zero] at kc
  clear hu
  by_cases hm1 : m = 1
  · subst hm1
    by_cases h0 : x = 0
    · subst h0
      have hr : Hid (decide (t % (B : Int) = 0) = true) := decide_eq_true (HW.out.1 ⟨rfl, .inl rfl⟩)
      go_wp2_with fail
      go_ret
      exact ⟨ret_bool (by rw [hr.out]), hb⟩
    · have h0' : ((x : Int) == 0) = false := by simp; omega
      have h0'' : ¬ (x : Int) = 0 := by omega
      by_cases h1 : x = b - 1
      · have hr : Hid (decide (t % (B : Int) = 0) = true) := decide_eq_true (HW.out.1 ⟨rfl, .inr h1⟩)
        have h1' : (b : Int) - 1 = (x : Int) := by omega
        clear h1
        go_wp2_with fail
        go_ret
        exact ⟨ret_bool (by rw [hr.out]), hb⟩
      · have hr : Hid (decide (t % (B : Int) = 0) = false) := decide_eq_false fun e => by
          have := (HW.out.2 e).2; omega
        have h1' : ((x : Int) == (b : Int) - 1) = false := by simp; omega
        have h1'' : ¬ (x : Int) = (b : Int) - 1 := by omega
        clear h1
        go_wp2_with fail
        go_ret
        exact ⟨ret_bool (by rw [hr.out]), hb⟩
  · have hm' : ((m : Int) == 1) = false := by simp; omega
    have hr : Hid (decide (t % (B : Int) = 0) = false) := decide_eq_false fun e => hm1 (HW.out.2 e).1
    clear hm1
    go_wp2_with fail
    go_ret
    exact ⟨ret_bool (by rw [hr.out]), hb⟩

end Go.Proofs.Ytbgpdhnfaacenab
