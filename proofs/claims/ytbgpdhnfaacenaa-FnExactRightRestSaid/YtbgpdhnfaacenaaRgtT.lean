/-
  Digits from the right: the model's lengths, number, round, and what it asks of it.
-/
import Derived.Test.YtbgpdhnfaacenaaRgtS
namespace Go.Proofs.Ytbgpdhnfaacenaa
open Go.RowKit

/-- How long a slice is. -/
def lenV : Value → Nat
  | .slice _ n _ => n
  | _ => 0

set_option maxRecDepth 100000 in
set_option maxHeartbeats 4000000 in
theorem l8Lengths_any (b B n m : Nat) (t : Int) (w : World) (h : Rgv b B t) (hm : IsRg b B t n m) :
    Calls Try.prog 24 #[.int .i64 b, .int .i64 t, .int .i64 B] w fun e w' => e = .returned (.tuple #[.int .i64 n, .int .i64 m]) ∧ Below w.heap.size w w' := by
  obtain ⟨i0, hi, hz0, hz1, hz2⟩ := info_parts infoInt
  obtain ⟨_, _, hn14, hmB⟩ := rg_facts h.r h.lo h.hi hm
  have HBIG := Lib.hid (fun i => h.big i)
  have HDIG := Lib.hid (fun x => h.dig x)
  have hb := h.r.b2; have hb16 := h.r.b16; have hB2 := h.r.B2
  have HR := Lib.hid h.r
  have HM := Lib.hid hm
  obtain ⟨N, hN⟩ : ∃ N, n + m = N := ⟨_, rfl⟩
  have hNb : N ≤ 1015 := by omega
  have HN := Lib.hid hN
  clear h hm hN
  go_enter Try.func24, Try.ntmps24
  go_wp2_with fail
  go_loopw [1, 8] (fun t' u wr => ∃ j : Nat, j ≤ N ∧ t' = .int .i64 (rgT b B t j) ∧ wr.ownsRow w.heap.size 3 1 u j ((tpL b B t j).map (Value.int .i64)) ∧ lenV u = j ∧ Below w.heap.size w wr) (fun _ u _ => N + 1 - lenV u)
  case atStart =>
    refine ⟨0, Nat.zero_le _, rfl, ?_, rfl, (Below.refl _ _).alloc (Nat.le_refl _) _⟩
    have := World.ownsRow_made (base := w.heap.size) (e := 3) (size := 1) w #[] 0 (by simp) (by simp) (by simp)
    simpa [tpL] using this
  case round =>
    obtain ⟨j, hj, rfl, hu, hlen, hbel⟩ := hrel
    have hs := Slc.of_owns (n₀ := w.heap.size) (xs := tpL b B t j) (by rw [tpL_len]; exact hu)
    have HS := Lib.hid hs
    have HL := Lib.hid (tpL_len b B t j)
    obtain ⟨a8, c8, hu8⟩ := slc_form hs
    rw [tpL_len] at hu8
    subst hu8
    have HU := Lib.hid hu
    clear hu hs hlen
    go_wp2_with fail
    go_loop [9] (fun i' => ∃ i : Nat, i ≤ j ∧ i' = .int .i64 i ∧ Hid (∀ c, c < i → rgT b B t c ≠ rgT b B t j)) (fun i' => j - (intOf i').toNat)
    case atStart => exact ⟨0, Nat.zero_le _, rfl, fun c hc => by omega⟩
    case round =>
      obtain ⟨i, hij, rfl, HNE⟩ := hrel
      by_cases hlt : i < j
      · obtain ⟨g, o, ea⟩ := slc_addr HS.out (by omega)
        subst ea
        have kc := Slc.cell HL.out HS.out i hlt
        rw [tpL_get hlt] at kc
        have i1 : (i : Int) < (j : Int) := by omega
        have i2 : (0 : Int) ≤ (i : Int) := by omega
        by_cases he : rgT b B t i = rgT b B t j
        · have hend : i = n ∧ j - i = m := by
            have e1 : j = N := by
              refine Classical.byContradiction fun hne => HM.out.ne i j hlt (by rw [HN.out]; omega) he
            subst e1
            have h1 := HM.out.eq
            rw [HN.out] at h1
            have h2 : i = n := by
              rcases Nat.lt_trichotomy i n with h3 | h3 | h3
              · exact absurd (he.trans h1) (HM.out.ne i n h3 (by have := HM.out.pos; omega))
              · exact h3
              · have hp := HM.out.pos
                exact absurd (h1.symm.trans he.symm) (HM.out.ne n i h3 (by have := HN.out; omega))
            have := HN.out
            omega
          obtain ⟨rfl, hjm⟩ := hend
          have hsub : (j : Int) - (i : Int) = (m : Int) := by omega
          rw [he] at kc
          clear he hjm
          go_wp2_with fail
          go_ret2
          exact ⟨rfl, hbel⟩
        · have he' : (rgT b B t i == rgT b B t j) = false := by simpa using he
          have HHE := Lib.hid he
          revert kc he he'
          generalize rgT b B t i = x
          intro kc he he'
          go_wp2_with fail
          go_round
          case rel =>
            refine ⟨i + 1, hlt, by go_num, fun c hc => ?_⟩
            rcases Nat.lt_or_ge c i with h0 | h0
            · exact HNE.out c h0
            · obtain rfl : c = i := by omega
              exact HHE.out
          case measure => simp [intOf]; omega
      · obtain rfl : i = j := by omega
        have i1 : ¬ (i : Int) < (i : Int) := by omega
        have hjN : i < N := by
          refine Nat.lt_of_le_of_ne hj fun e => ?_
          subst e
          have h1 := HM.out.eq
          rw [HN.out] at h1
          exact HNE.out n (by have := HM.out.pos; have := HN.out; omega) h1.symm
        obtain ⟨x1, x2⟩ := HBIG.out i
        have hd := HDIG.out (rgT b B t i)
        obtain ⟨y1, y2⟩ := HBIG.out (i + 1)
        have HT : Hid (rgT b B t (i + 1) = (rgT b B t i - (rgD b B (rgT b B t i) : Int) * B) / b) := rfl
        have HTD := Lib.hid (rgN_tdiv HR.out (rgT b B t i))
        have HTS := Lib.hid (tpL_succ b B t i)
        rw [HT.out] at y1 y2
        have DG := Lib.hid (fun wx => l8Digit_any b B (rgT b B t i) wx HR.out x1 x2)
        clear HNE
        revert HT HTD HTS DG x1 x2 y1 y2 hd
        generalize rgT b B t i = x
        generalize rgD b B x = a
        intro x1 x2 hd y1 y2 HT HTD HTS DG
        obtain ⟨p, hp⟩ : ∃ p, a * B = p := ⟨_, rfl⟩
        have hp2 : p ≤ 16000 := by
          have : a * B ≤ 16 * 1000 := Nat.mul_le_mul (by omega) hB2
          omega
        have hc : ((a : Int) * (B : Int)) = (p : Int) := by rw [← hp, Int.natCast_mul]
        rw [hc] at y1 y2
        have hT' := HT.out
        have hTD' := HTD.out
        rw [hc] at hT' hTD'
        clear HT HTD
        obtain ⟨y, hy⟩ : ∃ y : Int, x - (p : Int) = y := ⟨_, rfl⟩
        rw [hy] at hT' hTD' y1 y2
        have hy1 : -30000 ≤ y := by omega
        have hy2 : y ≤ 30000 := by omega
        obtain ⟨z, hz⟩ : ∃ z : Int, y / (b : Int) = z := ⟨_, rfl⟩
        rw [hz] at hT' hTD' y1 y2
        have w1' : IntKind.i64.wrap ((a : Int) * (B : Int)) = (p : Int) := by rw [hc]; exact IntWalk.i64_in _ (by omega)
        have w2' : IntKind.i64.wrap z = z := IntWalk.i64_in _ (by omega)
        have m0 : 0 ≤ (a : Int) * (B : Int) := by omega
        have m1 : (a : Int) * (B : Int) ≤ 16000 := by omega
        have hb0 : ¬ b = 0 := by omega
        have hb1 : ¬ (b : Int) = 0 := by omega
        have HTT := Lib.hid hT'
        clear hT' hz hc hp
        go_wp2_with (at_builtin; refine wpList_append_own_at _ rfl _ _ 22 rfl w.heap.size 3 i0 (.int .i64 0) 1 8 Try.underlying22 hi hz0 hz1 hz2 rfl (by decide) _ _ _ rfl (HU.out.alloc _) ⟨wr.heap.size, 0, none⟩ 1 1 [.int .i64 x] rfl rfl ?c1 ?c2 ?c3 ?c4 ?c5 ?_)
        try case c1 => exact cell_one_new _ _ _
        case c2 => simp [Value.oneCell']
        case c3 => unfold maxLen; omega
        case c4 => omega
        case c5 => have := hbel.size; simp; omega
        intro u' w1 hu' hgrow _ _
        have hb2 : Below w.heap.size w w1 := (hbel.alloc hbel.size _).grown hgrow (by have := hbel.size; simp; omega) (fun q e => row_ge HU.out e)
        have hru : w1.ownsRow w.heap.size 3 1 u' (i + 1) ((tpL b B t (i + 1)).map (Value.int .i64)) := by
          rw [HTS.out, List.map_append]; exact hu'
        have hlu : lenV u' = i + 1 := by
          have h1 := Slc.of_owns (n₀ := w.heap.size) (xs := tpL b B t (i + 1)) (by rw [tpL_len]; exact hru)
          obtain ⟨a9, c9, e9⟩ := slc_form h1
          rw [e9, tpL_len]; rfl
        clear hu' hgrow HU hbel HS
        go_wp2_with fail
        refine (DG.out _).mono ?_
        rintro e w0 ⟨rfl, rfl⟩
        have hb1 : ¬ (b : Int) = 0 := by omega
        go_wp2_with fail
        go_roundw
        case rel => exact ⟨i + 1, hjN, by rw [HTT.out], hru, hlu, hb2⟩
        case measure => simp only [hlu]; simp [lenV]; omega

set_option maxHeartbeats 1000000 in
theorem specRightLengths_no (b t n : Int) (h : vlB b t n = false) : GivesII 14 #[.int .i64 b, .int .i64 t, .int .i64 n] 0 0 false := by
  intro w
  go_enter Try.func14, Try.ntmps14
  go_wp2_with fail
  refine (l8Given_any _ _ _ _).mono ?_
  rintro e w1 ⟨rfl, rfl⟩
  rw [h]
  go_wp2_with fail
  refine bodyPost_ret (v := .tuple #[.int .i64 0, .int .i64 0, .bool false]) (by simp [results, Try.results14, go_sem]) rfl ⟨rfl, Below.refl _ _⟩

set_option maxHeartbeats 1000000 in
theorem specRightLengths_yes (b B n m : Nat) (t : Int) (h : Rgv b B t) (hm : IsRg b B t n m) : GivesII 14 #[.int .i64 b, .int .i64 t, .int .i64 B] n m true := by
  intro w
  have hv := h.told
  have HW := Lib.hid h; have HM := Lib.hid hm
  clear h hm
  go_enter Try.func14, Try.ntmps14
  go_wp2_with fail
  refine (l8Given_any _ _ _ _).mono ?_
  rintro e w1 ⟨rfl, rfl⟩
  rw [hv]
  go_wp2_with fail
  refine (l8Lengths_any b B n m t _ HW.out HM.out).mono ?_
  rintro e w1 ⟨rfl, hb⟩
  go_wp2_with fail
  refine bodyPost_ret (v := .tuple #[.int .i64 n, .int .i64 m, .bool true]) (by simp [results, Try.results14, go_sem]) rfl ⟨rfl, hb⟩

theorem rgH_bd {b B : Nat} {t : Int} (h : Rgv b B t) (k : Nat) : ∀ i, 0 ≤ rgH b B t k i ∧ rgH b B t k i < ((b ^ i : Nat) : Int)
  | 0 => ⟨Int.le_refl _, by show (0 : Int) < ((1 : Nat) : Int); omega⟩
  | i + 1 => by
    obtain ⟨i1, i2⟩ := rgH_bd h k i
    have hd := h.dig (rgT b B t (k - 1 - i))
    have hb := h.r.b2
    show 0 ≤ b * rgH b B t k i + rgD b B (rgT b B t (k - 1 - i)) ∧ b * rgH b B t k i + rgD b B (rgT b B t (k - 1 - i)) < ((b ^ (i + 1) : Nat) : Int)
    rw [Nat.pow_succ, Int.natCast_mul]
    generalize rgD b B (rgT b B t (k - 1 - i)) = a at *
    generalize ((b ^ i : Nat) : Int) = P at *
    generalize rgH b B t k i = v at *
    have h1 : 0 ≤ (b : Int) * v := Int.mul_nonneg (by omega) i1
    have h2 : (b : Int) * (v + 1) ≤ b * P := Int.mul_le_mul_of_nonneg_left (by omega) (by omega)
    rw [Int.mul_add, Int.mul_one] at h2
    have h3 : P * (b : Int) = b * P := Int.mul_comm _ _
    omega
theorem rgH_le {b B : Nat} {t : Int} (h : Rgv b B t) {k i : Nat} (hi : i ≤ 4) : 0 ≤ rgH b B t k i ∧ rgH b B t k i ≤ 65536 := by
  obtain ⟨h1, h2⟩ := rgH_bd h k i
  have h3 : b ^ i ≤ 16 ^ 4 := Nat.le_trans (Nat.pow_le_pow_left h.r.b16 i) (Nat.pow_le_pow_right (by omega) hi)
  have h4 : (16 : Nat) ^ 4 = 65536 := rfl
  omega

set_option maxHeartbeats 1000000 in
theorem specRightRest_no (b t n k : Int) (h : (vlB b t n && decide (0 ≤ k ∧ k ≤ 4)) = false) : GivesI 16 #[.int .i64 b, .int .i64 t, .int .i64 n, .int .i64 k] 0 false := by
  intro w
  cases hk : decide (0 ≤ k ∧ k ≤ 4) with
  | false =>
    clear h
    go_enter Try.func16, Try.ntmps16
    go_wp2_with fail
    refine (l6In_any _ _ _ _).mono ?_
    rintro e w1 ⟨rfl, rfl⟩
    rw [hk]
    go_wp2_with fail
    go_ret2
    exact ⟨rfl, Below.refl _ _⟩
  | true =>
    rw [hk, Bool.and_true] at h
    have SD := Lib.hid (specRightDigits_no b t n k (by rw [h, Bool.false_and]))
    clear h
    go_enter Try.func16, Try.ntmps16
    go_wp2_with fail
    refine (l6In_any _ _ _ _).mono ?_
    rintro e w1 ⟨rfl, rfl⟩
    rw [hk]
    go_wp2_with fail
    refine (SD.out _).mono ?_
    rintro e w1 ⟨v, rfl, hv, hb⟩
    obtain ⟨a, c, rfl⟩ := slc_form hv
    simp only [List.length_nil]
    clear hv
    go_wp2_with fail
    go_loop [12, 13] (fun n' i' => n' = .int .i64 0 ∧ i' = .int .i64 (-1)) (fun _ _ => 0)
    case atStart => exact ⟨rfl, rfl⟩
    case round =>
      obtain ⟨rfl, rfl⟩ := hrel
      go_wp2_with fail
      go_ret2
      exact ⟨rfl, hb⟩

set_option maxHeartbeats 2000000 in
theorem specRightRest_yes (b B k : Nat) (t : Int) (h : Rgv b B t) (hk : k ≤ 4) : GivesI 16 #[.int .i64 b, .int .i64 t, .int .i64 B, .int .i64 k] (rgV b B t k) true := by
  intro w
  have hkd : decide ((0 : Int) ≤ (k : Int) ∧ (k : Int) ≤ 4) = true := by rw [decide_eq_true_eq]; omega
  have SD := Lib.hid (specRightDigits_yes b B k t h (by omega))
  have hb2 := h.r.b2; have hb16 := h.r.b16
  have HH := Lib.hid (fun i (hi : i ≤ 4) => rgH_le (k := k) h hi)
  have HDG := Lib.hid (fun x => h.dig x)
  clear h
  go_enter Try.func16, Try.ntmps16
  go_wp2_with fail
  refine (l6In_any _ _ _ _).mono ?_
  rintro e w1 ⟨rfl, rfl⟩
  rw [hkd]
  go_wp2_with fail
  refine (SD.out _).mono ?_
  rintro e w1 ⟨v, rfl, hv, hb⟩
  obtain ⟨a, c, rfl⟩ := slc_form hv
  have hl := rgL_len b B t k
  rw [hl] at hv ⊢
  have HL := Lib.hid hl; have HV := Lib.hid hv
  clear hl hv
  go_wp2_with fail
  go_loop [12, 13] (fun n' i' => ∃ j : Nat, j ≤ k ∧ n' = .int .i64 (rgH b B t k j) ∧ i' = .int .i64 ((k : Int) - 1 - j)) (fun _ i' => (intOf i' + 1).toNat)
  case atStart => exact ⟨0, Nat.zero_le _, rfl, by go_num⟩
  case round =>
    obtain ⟨j, hj, rfl, rfl⟩ := hrel
    by_cases hlt : j < k
    · obtain ⟨q, hq⟩ : ∃ q, k - 1 - j = q := ⟨_, rfl⟩
      have hqi : (k : Int) - 1 - (j : Int) = (q : Int) := by omega
      rw [hqi]
      have hqk : q < k := by omega
      obtain ⟨g, o, ea⟩ := slc_addr HV.out (by omega)
      subst ea
      have kc := Slc.cell HL.out HV.out q hqk
      rw [rgL_get hqk] at kc
      have hd := HDG.out (rgT b B t q)
      obtain ⟨h1, h2⟩ := HH.out j (by omega)
      have HS : Hid (rgH b B t k (j + 1) = b * rgH b B t k j + rgD b B (rgT b B t q)) := by unfold Hid; rw [← hq]; rfl
      revert kc hd h1 h2 HS
      generalize rgD b B (rgT b B t q) = x
      generalize rgH b B t k j = y
      intro kc hd h1 h2 HS
      have m0 : 0 ≤ (b : Int) * y := Int.mul_nonneg (by omega) h1
      have m1 : (b : Int) * y ≤ 16 * 65536 := Int.mul_le_mul (by omega) h2 h1 (by omega)
      have w1' : IntKind.i64.wrap ((b : Int) * y) = (b : Int) * y := IntWalk.i64_in _ (by omega)
      have i1 : (q : Int) ≥ 0 := by omega
      have i2 : (q : Int) < (k : Int) := by omega
      have i3 : (0 : Int) ≤ (q : Int) := by omega
      have HQ := Lib.hid hqi
      clear hq hqi
      go_wp2_with fail
      go_round
      case rel => exact ⟨j + 1, hlt, by rw [HS.out], by have := HQ.out; go_num⟩
      case measure => simp [intOf] <;> omega
    · obtain rfl : j = k := by omega
      have e1 : (j : Int) - 1 - (j : Int) = -1 := by omega
      rw [e1, rgH_all]
      go_wp2_with fail
      go_ret2
      exact ⟨rfl, hb⟩




end Go.Proofs.Ytbgpdhnfaacenaa
