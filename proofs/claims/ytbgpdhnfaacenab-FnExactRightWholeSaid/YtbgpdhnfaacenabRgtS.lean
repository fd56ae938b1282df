/-
  Digits from the right: the model's digits and tops.
-/
import Derived.Test.YtbgpdhnfaacenabRgtI
import Derived.Test.YtbgpdhnfaacenabEq
import Derived.Test.YtbgpdhnfaacenabStepA
import Derived.Test.YtbgpdhnfaacenabLeaf
import Derived.RegionTactic
import Derived.BigRegion
import Derived.Deep.QuietTactic
import Derived.BigQuiet
namespace Go.Proofs.Ytbgpdhnfaacenab
open Go.RowKit

theorem owns_beside {base k : Nat} {W W' : World} {v : Value} {vs : List Value} {row : Option Nat} (h : W.ownsRow base 3 1 v k vs) (hg : W.grownBy W' row) (hne : ∀ g, v.ownBlock = some g → row ≠ some g) : W'.ownsRow base 3 1 v k vs := by
  rcases h with ⟨hl, ⟨rfl, hn⟩ | ⟨g, cap, cur, rfl, hb, hh, r⟩⟩
  · exact ⟨hl, .inl ⟨rfl, hn⟩⟩
  · exact ⟨hl, .inr ⟨g, cap, cur, rfl, hb, (hg.block g (Array.getElem?_eq_some_iff.1 hh).1 (fun e => hne g rfl e.symm)).trans hh, r⟩⟩
theorem owns_in {base k : Nat} {W : World} {v : Value} {vs : List Value} (h : W.ownsRow base 3 1 v k vs) : ∀ g, v.ownBlock = some g → base ≤ g ∧ g < W.heap.size := by
  rcases h with ⟨hl, ⟨rfl, hn⟩ | ⟨g, cap, cur, rfl, hb, hh, r⟩⟩
  · intro g e; cases e
  · intro g' e; cases e; exact ⟨hb, (Array.getElem?_eq_some_iff.1 hh).1⟩

set_option maxHeartbeats 1000000 in
theorem l8Given_any (b t n : Int) (w : World) :
    Calls Try.prog 30 #[.int .i64 b, .int .i64 t, .int .i64 n] w fun e w' => e = .returned (.bool (vlB b t n)) ∧ w = w' := by
  by_cases h1 : 2 ≤ b ∧ b ≤ 16
  · have h1' : decide (2 ≤ b ∧ b ≤ 16) = true := by simpa using h1
    by_cases h2 : -10000 ≤ t ∧ t ≤ 10000
    · have h2' : decide (-10000 ≤ t ∧ t ≤ 10000) = true := by simpa using h2
      by_cases h3 : 1 ≤ n ∧ n ≤ 1000
      · have h3' : decide (1 ≤ n ∧ n ≤ 1000) = true := by simpa using h3
        have HF : Hid (vlB b t n = (gcdI b n == 1)) := by unfold Hid vlB; rw [h1', h2', h3', Bool.true_and, Bool.true_and, Bool.true_and]; rfl
        obtain ⟨a1, a2⟩ := h1
        obtain ⟨a3, a4⟩ := h3
        clear h2
        go_enter Try.func30, Try.ntmps30
        go_wp2_with (first | (go_at_call 35; refine (l6In_any _ _ _ _).mono ?_; rintro e w' ⟨rfl, rfl⟩) | (go_at_call 23; refine (l1Gcd_any _ _ _ (by omega) (by omega) (by omega) (by omega)).mono ?_; rintro e w' ⟨rfl, rfl⟩))
        go_ret
        exact ⟨ret_bool (by rw [HF.out]), rfl⟩
      · have h3' : decide (1 ≤ n ∧ n ≤ 1000) = false := by simpa using h3
        have HF : Hid (vlB b t n = false) := by unfold Hid vlB; rw [h3', Bool.false_and, Bool.and_false, Bool.and_false]
        clear h1 h2 h3
        go_enter Try.func30, Try.ntmps30
        go_wp2_with (go_at_call 35; refine (l6In_any _ _ _ _).mono ?_; rintro e w' ⟨rfl, rfl⟩)
        go_ret
        exact ⟨ret_bool (by rw [HF.out]), rfl⟩
    · have h2' : decide (-10000 ≤ t ∧ t ≤ 10000) = false := by simpa using h2
      have HF : Hid (vlB b t n = false) := by unfold Hid vlB; rw [h2', Bool.false_and, Bool.and_false]
      clear h1 h2
      go_enter Try.func30, Try.ntmps30
      go_wp2_with (go_at_call 35; refine (l6In_any _ _ _ _).mono ?_; rintro e w' ⟨rfl, rfl⟩)
      go_ret
      exact ⟨ret_bool (by rw [HF.out]), rfl⟩
  · have h1' : decide (2 ≤ b ∧ b ≤ 16) = false := by simpa using h1
    have HF : Hid (vlB b t n = false) := by unfold Hid vlB; rw [h1', Bool.false_and]
    clear h1
    go_enter Try.func30, Try.ntmps30
    go_wp2_with (go_at_call 35; refine (l6In_any _ _ _ _).mono ?_; rintro e w' ⟨rfl, rfl⟩)
    go_ret
    exact ⟨ret_bool (by rw [HF.out]), rfl⟩

theorem tmod_zero {x b : Int} : x.tmod b = 0 ↔ x % b = 0 := by
  exact ⟨fun h => Int.emod_eq_zero_of_dvd (Int.dvd_of_tmod_eq_zero h), fun h => Int.tmod_eq_zero_of_dvd (Int.dvd_of_emod_eq_zero h)⟩

set_option maxHeartbeats 1000000 in
theorem l8Digit_any (b B : Nat) (x : Int) (w : World) (h : Rgb b B) (hx : -10000 ≤ x) (hx2 : x ≤ 10000) :
    Calls Try.prog 45 #[.int .i64 b, .int .i64 x, .int .i64 B] w fun e w' => e = .returned (.int .i64 (rgD b B x)) ∧ w = w' := by
  have hb := h.b2; have hb16 := h.b16; have hB := h.B2
  obtain ⟨hd1, hd2⟩ := rgD_spec (by omega) h.cop x
  have HU : Hid (∀ a : Nat, a < b → (x - (a : Int) * B) % b = 0 → rgD b B x = a) := fun a ha e => rgD_unique h.cop ha e
  obtain ⟨D, hD⟩ : ∃ D, rgD b B x = D := ⟨_, rfl⟩
  rw [hD] at hd1 hd2 HU ⊢
  have HD2 := Lib.hid hd2
  clear h hd2 hD
  go_enter Try.func45, Try.ntmps45
  go_wp2_with fail
  go_loop [7] (fun a' => ∃ a : Nat, a ≤ D ∧ a' = .int .i64 a) (fun a' => D - (intOf a').toNat)
  case atStart => exact ⟨0, Nat.zero_le _, rfl⟩
  case round =>
    obtain ⟨a, ha, rfl⟩ := hrel
    obtain ⟨p, hp⟩ : ∃ p, a * B = p := ⟨_, rfl⟩
    have hp2 : p ≤ 16000 := by
      have : a * B ≤ 16 * 1000 := Nat.mul_le_mul (by omega) hB
      omega
    have hc : ((a : Int) * (B : Int)) = (p : Int) := by rw [← hp, Int.natCast_mul]
    have w1' : IntKind.i64.wrap ((a : Int) * (B : Int)) = (p : Int) := by rw [hc]; exact IntWalk.i64_in _ (by omega)
    have m0 : 0 ≤ (a : Int) * (B : Int) := by omega
    have m1 : (a : Int) * (B : Int) ≤ 16000 := by omega
    have hb0 : ¬ b = 0 := by omega
    have hb1 : ¬ (b : Int) = 0 := by omega
    obtain ⟨y, hy⟩ : ∃ y : Int, x - p = y := ⟨_, rfl⟩
    obtain ⟨r, hr⟩ : ∃ r : Int, y.tmod b = r := ⟨_, rfl⟩
    have hy1 : -30000 ≤ y := by omega
    have hy2 : y ≤ 30000 := by omega
    have hr1 : -16 ≤ r ∧ r ≤ 16 := by
      have h1 := Int.tmod_lt_of_pos y (show (0 : Int) < b by omega)
      have h2 := Int.lt_tmod_of_pos y (show (0 : Int) < b by omega)
      omega
    have w2' : IntKind.i64.wrap r = r := IntWalk.i64_in _ (by omega)
    have HC := Lib.hid hc; have HY := Lib.hid hy; have HR := Lib.hid hr; have HP := Lib.hid hp
    clear hc hp
    by_cases h0 : r = 0
    · have haD : a = D := by
        refine (HU.out a (by omega) ?_).symm
        rw [HC.out, HY.out]
        exact tmod_zero.1 (HR.out.trans h0)
      subst haD
      subst h0
      go_wp2_with fail
      go_ret
      exact ⟨rfl, rfl⟩
    · have haD : a < D := by
        refine Nat.lt_of_le_of_ne ha fun e => h0 ?_
        subst e
        rw [← HR.out, ← HY.out]
        refine tmod_zero.2 ?_
        have := HD2.out
        rwa [HC.out] at this
      have h0' : (r != 0) = true := by simpa using h0
      have h0'' : (r == 0) = false := by simpa using h0
      go_wp2_with fail
      go_round
      case rel => exact ⟨a + 1, haD, rfl⟩
      case measure => simp [intOf]; omega

/-- One step of a top, as the machine reckons it. -/
theorem rgN_tdiv {b B : Nat} (h : Rgb b B) (x : Int) : (x - (rgD b B x : Int) * B).tdiv b = (x - (rgD b B x : Int) * B) / b :=
  Int.tdiv_eq_ediv_of_dvd (Int.dvd_of_emod_eq_zero (rgD_spec (by have := h.b2; omega) h.cop x).2)

set_option maxRecDepth 100000 in
set_option maxHeartbeats 2000000 in
theorem l8Walk_any (b B K : Nat) (t : Int) (w : World) (h : Rgv b B t) (hK : K ≤ 20000) :
    Calls Try.prog 36 #[.int .i64 b, .int .i64 t, .int .i64 B, .int .i64 K] w fun e w' =>
      ∃ u v, e = .returned (.tuple #[u, v]) ∧ Slc w.heap.size w' u (rgL b B t K) ∧ Slc w.heap.size w' v (tpL b B t K) ∧ Below w.heap.size w w' := by
  obtain ⟨i0, hi, hz0, hz1, hz2⟩ := info_parts infoInt
  have HBIG := Lib.hid (fun i => h.big i)
  have HDIG := Lib.hid (fun x => h.dig x)
  have hb := h.r.b2; have hb16 := h.r.b16; have hB2 := h.r.B2
  have HR := Lib.hid h.r
  clear h
  go_enter Try.func36, Try.ntmps36
  go_wp2_with fail
  go_loopw [1, 10, 11, 12] (fun t' u v i' wr => ∃ k : Nat, k ≤ K ∧ t' = .int .i64 (rgT b B t k) ∧ i' = .int .i64 k ∧ wr.ownsRow w.heap.size 3 1 u k ((rgL b B t k).map (Value.int .i64)) ∧ wr.ownsRow w.heap.size 3 1 v k ((tpL b B t k).map (Value.int .i64)) ∧
      Hid (∀ g, v.ownBlock = some g → u.ownBlock ≠ some g) ∧ Below w.heap.size w wr) (fun _ _ _ i' _ => K - (intOf i').toNat)
  case atStart =>
    refine ⟨0, Nat.zero_le _, rfl, rfl, ?_, ?_, ?_, ?_⟩
    · have := (World.ownsRow_made (base := w.heap.size) (e := 3) (size := 1) w #[] 0 (by simp) (by simp) (by simp)).alloc (.cells #[] 3)
      simpa [rgL] using this
    · have := World.ownsRow_made (base := w.heap.size) (e := 3) (size := 1) (w.alloc (.cells #[] 3)) #[] 0 (by simp) (by simp) (by simp)
      simpa [tpL] using this
    · intro g e1 e2
      simp [Value.ownBlock] at e1 e2
      omega
    · exact ((Below.refl _ _).alloc (Nat.le_refl _) _).alloc (by simp) _
  case round =>
    obtain ⟨k, hk, rfl, rfl, hu, hv, HNE, hbel⟩ := hrel
    by_cases hlt : k < K
    · obtain ⟨x1, x2⟩ := HBIG.out k
      have hd := HDIG.out (rgT b B t k)
      obtain ⟨y1, y2⟩ := HBIG.out (k + 1)
      have HT : Hid (rgT b B t (k + 1) = (rgT b B t k - (rgD b B (rgT b B t k) : Int) * B) / b) := rfl
      have HTD := Lib.hid (rgN_tdiv HR.out (rgT b B t k))
      have HRS := Lib.hid (rgL_succ b B t k); have HTS := Lib.hid (tpL_succ b B t k)
      rw [HT.out] at y1 y2
      have DG := Lib.hid (l8Digit_any b B (rgT b B t k) wr HR.out x1 x2)
      revert HT HTD HRS HTS DG x1 x2 y1 y2 hd
      generalize rgT b B t k = x
      generalize rgD b B x = a
      intro x1 x2 hd y1 y2 HT HTD HRS HTS DG
      obtain ⟨p, hp⟩ : ∃ p, a * B = p := ⟨_, rfl⟩
      have hp2 : p ≤ 16000 := by
        have : a * B ≤ 16 * 1000 := Nat.mul_le_mul (by omega) hB2
        omega
      have hc : ((a : Int) * (B : Int)) = (p : Int) := by rw [← hp, Int.natCast_mul]
      rw [hc] at y1 y2
      have hT' := HT.out
      have hTD' := HTD.out
      rw [hc] at hT' hTD'
      clear HT HTD
      obtain ⟨y, hy⟩ : ∃ y : Int, x - (p : Int) = y := ⟨_, rfl⟩
      rw [hy] at hT' hTD' y1 y2
      have hy1 : -30000 ≤ y := by omega
      have hy2 : y ≤ 30000 := by omega
      obtain ⟨z, hz⟩ : ∃ z : Int, y / (b : Int) = z := ⟨_, rfl⟩
      rw [hz] at hT' hTD' y1 y2
      have w1' : IntKind.i64.wrap ((a : Int) * (B : Int)) = (p : Int) := by rw [hc]; exact IntWalk.i64_in _ (by omega)
      have w2' : IntKind.i64.wrap z = z := IntWalk.i64_in _ (by omega)
      have m0 : 0 ≤ (a : Int) * (B : Int) := by omega
      have m1 : (a : Int) * (B : Int) ≤ 16000 := by omega
      have hb0 : ¬ b = 0 := by omega
      have hb1 : ¬ (b : Int) = 0 := by omega
      have HTT := Lib.hid hT'
      have HC := Lib.hid hc
      clear hT' hz hc hp
      have hvin := owns_in hv
      have huin := owns_in hu
      have HU := Lib.hid hu; have HV := Lib.hid hv
      clear hu hv
      go_wp2_with fail
      refine DG.out.mono ?_
      rintro e w0 ⟨rfl, rfl⟩
      go_wp2_with (at_builtin; refine wpList_append_own_at _ rfl _ _ 24 rfl w.heap.size 3 i0 (.int .i64 0) 1 8 Try.underlying24 hi hz0 hz1 hz2 rfl (by decide) _ _ _ rfl (HU.out.alloc _) ⟨wr.heap.size, 0, none⟩ 1 1 [.int .i64 a] rfl rfl ?c1 ?c2 ?c3 ?c4 ?c5 ?_)
      case c1 => exact cell_one_new _ _ _
      case c2 => simp [Value.oneCell']
      case c3 => unfold maxLen; omega
      case c4 => omega
      case c5 => have := hbel.size; simp; omega
      intro u' w1 hu' hgrow _ hat
      have hs1 := hgrow.size
      simp only [World.size_alloc] at hs1 hat
      have hv1 := owns_beside (HV.out.alloc (.cells #[.int .i64 a] 3)) hgrow (fun g e1 e2 => HNE.out g e1 e2)
      have hb1 : Below w.heap.size w w1 := (hbel.alloc hbel.size _).grown hgrow (by have := hbel.size; simp; omega) (fun q e => row_ge HU.out e)
      have hne1 : Hid (∀ g, u11.ownBlock = some g → u'.ownBlock ≠ some g) := by
        intro g e1 e2
        rcases hat with e | e
        · exact HNE.out g e1 (e ▸ e2)
        · rw [e] at e2
          have := (hvin g e1).2
          simp at e2; omega
      clear hgrow hat HU HV HNE hbel
      go_wp2_with (at_builtin; refine wpList_append_own_at _ rfl _ _ 24 rfl w.heap.size 3 i0 (.int .i64 0) 1 8 Try.underlying24 hi hz0 hz1 hz2 rfl (by decide) _ _ _ rfl (hv1.alloc _) ⟨w1.heap.size, 0, none⟩ 1 1 [.int .i64 x] rfl rfl ?d1 ?d2 ?d3 ?d4 ?d5 ?_)
      case d1 => exact cell_one_new _ _ _
      case d2 => simp [Value.oneCell']
      case d3 => unfold maxLen; omega
      case d4 => omega
      case d5 => have := hb1.size; simp; omega
      intro v' w2 hv' hgrow2 _ hat2
      have huin' := owns_in hu'
      have hs2 := hgrow2.size
      simp only [World.size_alloc] at hs2 hat2
      have hu2 := owns_beside (hu'.alloc (.cells #[.int .i64 x] 3)) hgrow2 (fun g e1 e2 => hne1.out g e2 e1)
      have hb2 : Below w.heap.size w w2 := (hb1.alloc hb1.size _).grown hgrow2 (by have := hb1.size; simp; omega) (fun q e => row_ge hv1 e)
      have hne2 : Hid (∀ g, v'.ownBlock = some g → u'.ownBlock ≠ some g) := by
        intro g e1 e2
        rcases hat2 with e | e
        · exact hne1.out g (e ▸ e1) e2
        · rw [e] at e1
          have := (huin' g e2).2
          simp at e1; omega
      have hru : w2.ownsRow w.heap.size 3 1 u' (k + 1) ((rgL b B t (k + 1)).map (Value.int .i64)) := by
        rw [HRS.out, List.map_append]; exact hu2
      have hrv : w2.ownsRow w.heap.size 3 1 v' (k + 1) ((tpL b B t (k + 1)).map (Value.int .i64)) := by
        rw [HTS.out, List.map_append]; exact hv'
      clear hu2 hv' hgrow2 hat2 hv1 hu' hs1 hs2 hne1 hb1 hvin huin huin'
      have hb1 : ¬ (b : Int) = 0 := by omega
      go_wp2_with fail
      go_roundw
      case rel => exact ⟨k + 1, hlt, by rw [HTT.out], by go_num, hru, hrv, hne2, hb2⟩
      case measure => simp [intOf]; omega
    · obtain rfl : k = K := by omega
      go_wp2_with fail
      go_ret2
      have h1 := Slc.of_owns (n₀ := w.heap.size) (xs := rgL b B t k) (by rw [rgL_len]; exact hu)
      have h2 := Slc.of_owns (n₀ := w.heap.size) (xs := tpL b B t k) (by rw [tpL_len]; exact hv)
      exact ⟨_, _, rfl, h1, h2, hbel⟩

set_option maxHeartbeats 1000000 in
theorem specRightDigits_no (b t n k : Int) (h : (vlB b t n && decide (0 ≤ k ∧ k ≤ 200)) = false) : Gives 17 #[.int .i64 b, .int .i64 t, .int .i64 n, .int .i64 k] [] false := by
  intro w
  cases hv : vlB b t n with
  | false =>
    clear h
    go_enter Try.func17, Try.ntmps17
    go_wp2_with fail
    refine (l8Given_any _ _ _ _).mono ?_
    rintro e w1 ⟨rfl, rfl⟩
    rw [hv]
    go_wp2_with fail
    go_ret2
    exact ⟨_, rfl, Slc.empty (Nat.le_refl _), (Below.refl _ _).alloc (Nat.le_refl _) _⟩
  | true =>
    rw [hv, Bool.true_and] at h
    go_enter Try.func17, Try.ntmps17
    go_wp2_with fail
    refine (l8Given_any _ _ _ _).mono ?_
    rintro e w1 ⟨rfl, rfl⟩
    rw [hv]
    go_wp2_with fail
    refine (l6In_any _ _ _ _).mono ?_
    rintro e w1 ⟨rfl, rfl⟩
    rw [h]
    go_wp2_with fail
    go_ret2
    exact ⟨_, rfl, Slc.empty (Nat.le_refl _), (Below.refl _ _).alloc (Nat.le_refl _) _⟩

set_option maxHeartbeats 1000000 in
theorem specRightDigits_yes (b B k : Nat) (t : Int) (h : Rgv b B t) (hk : k ≤ 200) : Gives 17 #[.int .i64 b, .int .i64 t, .int .i64 B, .int .i64 k] (rgL b B t k) true := by
  intro w
  have hv := h.told
  have hkd : decide ((0 : Int) ≤ (k : Int) ∧ (k : Int) ≤ 200) = true := by rw [decide_eq_true_eq]; omega
  have HW := Lib.hid h
  clear h
  go_enter Try.func17, Try.ntmps17
  go_wp2_with fail
  refine (l8Given_any _ _ _ _).mono ?_
  rintro e w1 ⟨rfl, rfl⟩
  rw [hv]
  go_wp2_with fail
  refine (l6In_any _ _ _ _).mono ?_
  rintro e w1 ⟨rfl, rfl⟩
  rw [hkd]
  go_wp2_with fail
  refine (l8Walk_any b B k t _ HW.out (by omega)).mono ?_
  rintro e w1 ⟨u, v, rfl, hu, hv1, hb⟩
  go_wp2_with fail
  go_ret2
  exact ⟨_, rfl, hu, hb⟩

set_option maxHeartbeats 1000000 in
theorem specRightTops_no (b t n k : Int) (h : (vlB b t n && decide (0 ≤ k ∧ k ≤ 200)) = false) : Gives 21 #[.int .i64 b, .int .i64 t, .int .i64 n, .int .i64 k] [] false := by
  intro w
  cases hv : vlB b t n with
  | false =>
    clear h
    go_enter Try.func21, Try.ntmps21
    go_wp2_with fail
    refine (l8Given_any _ _ _ _).mono ?_
    rintro e w1 ⟨rfl, rfl⟩
    rw [hv]
    go_wp2_with fail
    go_ret2
    exact ⟨_, rfl, Slc.empty (Nat.le_refl _), (Below.refl _ _).alloc (Nat.le_refl _) _⟩
  | true =>
    rw [hv, Bool.true_and] at h
    go_enter Try.func21, Try.ntmps21
    go_wp2_with fail
    refine (l8Given_any _ _ _ _).mono ?_
    rintro e w1 ⟨rfl, rfl⟩
    rw [hv]
    go_wp2_with fail
    refine (l6In_any _ _ _ _).mono ?_
    rintro e w1 ⟨rfl, rfl⟩
    rw [h]
    go_wp2_with fail
    go_ret2
    exact ⟨_, rfl, Slc.empty (Nat.le_refl _), (Below.refl _ _).alloc (Nat.le_refl _) _⟩

set_option maxHeartbeats 1000000 in
theorem specRightTops_yes (b B k : Nat) (t : Int) (h : Rgv b B t) (hk : k ≤ 200) : Gives 21 #[.int .i64 b, .int .i64 t, .int .i64 B, .int .i64 k] (tpL b B t k) true := by
  intro w
  have hv := h.told
  have hkd : decide ((0 : Int) ≤ (k : Int) ∧ (k : Int) ≤ 200) = true := by rw [decide_eq_true_eq]; omega
  have HW := Lib.hid h
  clear h
  go_enter Try.func21, Try.ntmps21
  go_wp2_with fail
  refine (l8Given_any _ _ _ _).mono ?_
  rintro e w1 ⟨rfl, rfl⟩
  rw [hv]
  go_wp2_with fail
  refine (l6In_any _ _ _ _).mono ?_
  rintro e w1 ⟨rfl, rfl⟩
  rw [hkd]
  go_wp2_with fail
  refine (l8Walk_any b B k t _ HW.out (by omega)).mono ?_
  rintro e w1 ⟨u, v, rfl, hu, hv1, hb⟩
  go_wp2_with fail
  go_ret2
  exact ⟨_, rfl, hv1, hb⟩

end Go.Proofs.Ytbgpdhnfaacenab
