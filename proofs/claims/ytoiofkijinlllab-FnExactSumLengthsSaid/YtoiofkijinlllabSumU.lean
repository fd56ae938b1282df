/-
  Two rings added round: the model's side.
-/
import Derived.Test.YtoiofkijinlllabSumT
namespace Go.Proofs.Ytoiofkijinlllab
open Go.RowKit

/-- What the sum's list holds while the first i digits are still to come. -/
def adZ (b : Nat) (c : Int) (Z X Y : List Int) (i : Nat) : List Int := Z.take i ++ (adC b c (X.drop i) (Y.drop i)).2

theorem adC_step {b : Nat} {c : Int} {X Y : List Int} {i : Nat} (hx : i < X.length) (hy : i < Y.length) :
    adC b c (X.drop i) (Y.drop i) = ((X[i]?.getD 0 + Y[i]?.getD 0 + (adC b c (X.drop (i + 1)) (Y.drop (i + 1))).1) / b,
      (X[i]?.getD 0 + Y[i]?.getD 0 + (adC b c (X.drop (i + 1)) (Y.drop (i + 1))).1) % b :: (adC b c (X.drop (i + 1)) (Y.drop (i + 1))).2) := by
  rw [List.drop_eq_getElem_cons hx, List.drop_eq_getElem_cons hy, List.getElem?_eq_getElem hx, List.getElem?_eq_getElem hy]
  rfl

theorem adZ_set {b : Nat} {c : Int} {Z X Y : List Int} {i : Nat} (hz : i < Z.length) (hx : i < X.length) (hy : i < Y.length) :
    (adZ b c Z X Y (i + 1)).set i ((X[i]?.getD 0 + Y[i]?.getD 0 + (adC b c (X.drop (i + 1)) (Y.drop (i + 1))).1) % b) = adZ b c Z X Y i := by
  unfold adZ
  rw [adC_step hx hy, List.take_succ_eq_append_getElem hz, List.append_assoc]
  rw [List.set_append_right _ _ (by rw [List.length_take]; omega)]
  congr 1
  have : i - (Z.take i).length = 0 := by rw [List.length_take]; omega
  rw [this]
  rfl

theorem adZ_len {b : Nat} {c : Int} {Z X Y : List Int} {i : Nat} (hz : Z.length = X.length) (hy : X.length = Y.length) (hi : i ≤ X.length) : (adZ b c Z X Y i).length = X.length := by
  unfold adZ
  rw [List.length_append, adC_len b c (by rw [List.length_drop, List.length_drop, hy]), List.length_take, List.length_drop]
  omega

theorem adZ_end {b : Nat} {c : Int} {Z X Y : List Int} (hz : Z.length = X.length) (hy : X.length = Y.length) : adZ b c Z X Y X.length = Z := by
  unfold adZ
  rw [List.take_of_length_le (by omega), List.drop_eq_nil_of_le (Nat.le_refl _), List.drop_eq_nil_of_le (by omega)]
  show Z ++ [] = Z
  rw [List.append_nil]

theorem adZ_zero (b : Nat) (c : Int) (Z X Y : List Int) : adZ b c Z X Y 0 = (adC b c X Y).2 := by unfold adZ; simp

theorem adZ_get {b : Nat} {c : Int} {Z X Y : List Int} {i : Nat} (hz : i < Z.length) : (adZ b c Z X Y (i + 1))[i]?.getD 0 = Z[i]?.getD 0 := by
  unfold adZ
  rw [List.getElem?_append_left (by rw [List.length_take]; omega), List.getElem?_take_of_lt (by omega)]

theorem row_slc' {W : World} {g n₀ : Nat} {zs : List Int} (h : RowI W g zs) (hg : n₀ ≤ g) (hm : zs.length ≤ maxLen) : Slc n₀ W (.slice (some ⟨g, 0, none⟩) zs.length zs.length) zs := by
  obtain ⟨cur, h1, h2⟩ := h
  have hl : cur.size = zs.length := by rw [← Array.length_toList, h2, List.length_map]
  refine .inr ⟨g, 0, zs.length, cur, rfl, hg, h1, Nat.le_refl _, hm, by omega, ?_⟩
  rw [List.drop_zero, h2]
  exact List.take_of_length_le (by simp)

/-- All of the first ones are nines. -/
def ninB (L : List Int) (m : Int) (i : Nat) : Bool := decide (∀ j, j < i → L[j]?.getD 0 = m)
theorem ninB_zero (L : List Int) (m : Int) : ninB L m 0 = true := decide_eq_true fun j h => by omega
theorem ninB_succ (L : List Int) (m : Int) (i : Nat) : ninB L m (i + 1) = (ninB L m i && (L[i]?.getD 0 == m)) := by
  by_cases h1 : ninB L m i = true
  · rw [h1, Bool.true_and]
    have h1' := of_decide_eq_true h1
    by_cases h2 : L[i]?.getD 0 = m
    · rw [beq_iff_eq.2 h2]
      refine decide_eq_true fun j hj => ?_
      by_cases hji : j = i
      · subst hji; exact h2
      · exact h1' j (by omega)
    · rw [beq_eq_false_iff_ne.2 h2]
      exact decide_eq_false fun h => h2 (h i (by omega))
  · rw [Bool.not_eq_true] at h1
    rw [h1, Bool.false_and]
    exact decide_eq_false fun h => of_decide_eq_false h1 fun j hj => h j (by omega)
theorem ninB_all (L : List Int) (m : Int) : ninB L m L.length = decide (L = List.replicate L.length m) := by
  by_cases h : L = List.replicate L.length m
  · rw [decide_eq_true h]
    refine decide_eq_true fun j hj => ?_
    conv => lhs; rw [h]
    rw [List.getElem?_replicate, if_pos hj]; rfl
  · rw [decide_eq_false h]
    refine decide_eq_false fun h' => h ?_
    refine List.eq_replicate_iff.2 ⟨rfl, fun z hz => ?_⟩
    obtain ⟨j, hj, e⟩ := List.getElem_of_mem hz
    have := h' j hj
    rw [List.getElem?_eq_getElem hj, e] at this
    exact this

set_option maxHeartbeats 2000000 in
theorem specSumRound_no (b : Int) (x y : List Int) (hx : x.length ≤ 1048576) (hy : y.length ≤ 1048576) (h : twoB b x y = false) : GivesDD 7 (fun v u => #[.int .i64 b, v, u]) x y [] false := by
  intro n₀ n₁ v u w hv hu
  have R1 := Lib.hid (l5Ring_any n₀ b v x w hv hx)
  have R2 := Lib.hid (l5Ring_any n₁ b u y w hu hy)
  obtain ⟨a, c, rfl⟩ := slc_form hv
  obtain ⟨a', c', rfl⟩ := slc_form hu
  unfold twoB at h
  have hA : Below w.heap.size w (w.alloc (.cells #[] 3)) := (Below.refl _ _).alloc (Nat.le_refl _) _
  cases h1 : rngB b x with
  | false =>
    rw [h1] at R1
    clear h h1 hv hu
    go_enter Try.func7, Try.ntmps7
    go_wp2_with fail
    refine R1.out.mono ?_
    rintro e w' ⟨rfl, rfl⟩
    go_wp2_with fail
    go_ret2
    exact ⟨_, rfl, Slc.empty (Nat.le_refl _), hA⟩
  | true =>
    rw [h1] at R1 h
    rw [Bool.true_and] at h
    cases h2 : rngB b y with
    | false =>
      rw [h2] at R2
      clear h h1 h2 hv hu
      go_enter Try.func7, Try.ntmps7
      go_wp2_with fail
      refine R1.out.mono ?_
      rintro e w' ⟨rfl, rfl⟩
      go_wp2_with fail
      refine R2.out.mono ?_
      rintro e w' ⟨rfl, rfl⟩
      go_wp2_with fail
      go_ret2
      exact ⟨_, rfl, Slc.empty (Nat.le_refl _), hA⟩
    | true =>
      rw [h2] at R2 h
      rw [Bool.true_and] at h
      have hne := of_decide_eq_false h
      have hne' : ((x.length : Int) != (y.length : Int)) = true := by simp; omega
      clear h h1 h2 hv hu
      go_enter Try.func7, Try.ntmps7
      go_wp2_with fail
      refine R1.out.mono ?_
      rintro e w' ⟨rfl, rfl⟩
      go_wp2_with fail
      refine R2.out.mono ?_
      rintro e w' ⟨rfl, rfl⟩
      go_wp2_with fail
      go_ret2
      exact ⟨_, rfl, Slc.empty (Nat.le_refl _), hA⟩

/-- The carries and lists behind the passes. -/
def pasS (b : Nat) (x y : List Int) : Nat → Int × List Int
  | 0 => (0, List.replicate x.length 0)
  | 1 => adC b 0 x y
  | _ => adC b (adC b 0 x y).1 (adC b 0 x y).2 (List.replicate x.length 0)

set_option maxRecDepth 100000 in
set_option maxHeartbeats 4000000 in
theorem specSumRound_yes (b : Nat) (x y : List Int) (h : Rng b x) (h' : Rng b y) (hl : x.length = y.length) : GivesDD 7 (fun v u => #[.int .i64 b, v, u]) x y (addL b x y) true := by
  intro n₀ n₁ v u w hv hu
  have h2 := h.b2; have h16 := h.b16; have hl1 := h.l1; have hl2 := h.l2
  have R1 := Lib.hid (l5Ring_any n₀ b v x w hv (by omega))
  have R2 := Lib.hid (l5Ring_any n₁ b u y w hu (by omega))
  rw [h.told] at R1
  rw [h'.told] at R2
  have hat := add_two h2 hl1 hl h.dg h'.dg
  have hc1 := adC_bd (b := b) (by omega) (c := 0) (by omega) (by omega) h.dg h'.dg
  have hd1 := adC_dgt (b := b) (by omega) 0 x y
  have hlo := adC_len b 0 hl
  have bX : ∀ i, i < x.length → 0 ≤ x[i]?.getD 0 ∧ x[i]?.getD 0 < b := fun i hi => by rw [List.getElem?_eq_getElem hi]; exact h.dg _ (List.getElem_mem hi)
  have bY : ∀ i, i < x.length → 0 ≤ y[i]?.getD 0 ∧ y[i]?.getD 0 < b := fun i hi => by rw [List.getElem?_eq_getElem (by omega)]; exact h'.dg _ (List.getElem_mem (by omega))
  have bC1 : ∀ i, 0 ≤ (adC b 0 (x.drop i) (y.drop i)).1 ∧ (adC b 0 (x.drop i) (y.drop i)).1 ≤ 1 := fun i =>
    adC_bd (by omega) (by omega) (by omega) (fun z hz => h.dg z (List.mem_of_mem_drop hz)) (fun z hz => h'.dg z (List.mem_of_mem_drop hz))
  have bO : ∀ i, i < x.length → 0 ≤ (adC b 0 x y).2[i]?.getD 0 ∧ (adC b 0 x y).2[i]?.getD 0 < b := fun i hi => by
    rw [List.getElem?_eq_getElem (by rw [hlo]; exact hi)]; exact hd1 _ (List.getElem_mem _)
  have bC2 : ∀ i, 0 ≤ (adC b (adC b 0 x y).1 ((adC b 0 x y).2.drop i) ((List.replicate x.length (0 : Int)).drop i)).1 ∧ (adC b (adC b 0 x y).1 ((adC b 0 x y).2.drop i) ((List.replicate x.length (0 : Int)).drop i)).1 ≤ 1 := fun i =>
    adC_bd (by omega) hc1.1 hc1.2 (fun z hz => hd1 z (List.mem_of_mem_drop hz)) (fun z hz => zeros_dgt (b := b) (by omega) x.length z (List.mem_of_mem_drop hz))
  obtain ⟨g, o, c, rfl, _, _, _, _⟩ := slc_some hv (by omega)
  obtain ⟨g', o', c', rfl, _, _, _, _⟩ := slc_some hu (by omega)
  obtain ⟨n, hn⟩ : ∃ n, x.length = n := ⟨_, rfl⟩
  have hny : y.length = n := by omega
  have hmk := run_make_row' (P := Try.prog) 22 3 (.int .i64 0) 8 Try.underlying22 infoInt rfl .i64 .i64 n (by omega) (by omega)
  rw [hn] at hv R1 hl1 hl2 hat hlo bX bY bO bC2
  rw [hny] at hu R2
  rw [hn, hny]
  have HNX := Lib.hid hn; have HNY := Lib.hid hny; have HO := Lib.hid hlo; have HAT := Lib.hid hat
  have BX := Lib.hid bX; have BY := Lib.hid bY; have BC1 := Lib.hid bC1; have BO := Lib.hid bO; have BC2 := Lib.hid bC2
  have hb0 : ¬ b = 0 := by omega
  clear h h' hl hat hc1 hd1 hlo bX bY bC1 bO bC2 hn hny
  go_enter Try.func7, Try.ntmps7
  go_wp2_with fail
  refine R1.out.mono ?_
  rintro e w' ⟨rfl, rfl⟩
  go_wp2_with fail
  refine R2.out.mono ?_
  rintro e w' ⟨rfl, rfl⟩
  go_wp2_with fail
  have hR0 : RowI (w.alloc (.cells (madeCells #[.int .i64 0] n) 3)) w.heap.size (List.replicate n 0) := RowI.made (W := w) (g := w.heap.size) n rfl
  have hB0 : Below w.heap.size w (w.alloc (.cells (madeCells #[.int .i64 0] n) 3)) := (Below.refl _ _).alloc (Nat.le_refl _) _
  go_loopw [9, 10] (fun c' s' wr => ∃ s : Nat, s ≤ 2 ∧ s' = .int .i64 s ∧ c' = .int .i64 (pasS b x y s).1 ∧ RowI wr w.heap.size (pasS b x y s).2 ∧ Below w.heap.size w wr) (fun _ s' _ => 2 - (intOf s').toNat)
  case atStart =>
    refine ⟨0, Nat.zero_le _, rfl, rfl, ?_, hB0⟩
    show RowI _ _ (List.replicate x.length 0)
    rw [HNX.out]; exact hR0
  case round =>
    clear hR0 hB0
    obtain ⟨s, hs, rfl, rfl, hR, hb⟩ := hrel
    have hs3 : s = 0 ∨ s = 1 ∨ s = 2 := by omega
    rcases hs3 with rfl | rfl | rfl
    · have hR0 : RowI wr w.heap.size (List.replicate n 0) := by
        have : RowI wr w.heap.size (List.replicate x.length 0) := hR
        rwa [HNX.out] at this
      clear hR
      have hR := hR0
      clear hR0
      rw [show (pasS b x y 0).1 = 0 from rfl, show ((0 : Nat) : Int) = 0 from rfl]
      go_wp2_with fail
      go_loopw [9, 11] (fun c' i' wr => ∃ i : Nat, i ≤ n ∧ i' = .int .i64 ((i : Int) - 1) ∧ c' = .int .i64 (adC b 0 (List.drop i x) (List.drop i y)).1 ∧ RowI wr w.heap.size (adZ b 0 (List.replicate n 0) x y i) ∧ Below w.heap.size w wr) (fun _ i' _ => (intOf i' + 1).toNat)
      case atStart =>
        refine ⟨n, Nat.le_refl _, rfl, ?_, ?_, hb⟩
        · rw [show List.drop n x = [] from List.drop_eq_nil_of_le (by rw [HNX.out]; exact Nat.le_refl _), show List.drop n y = [] from List.drop_eq_nil_of_le (by rw [HNY.out]; exact Nat.le_refl _)]; rfl
        · have e := adZ_end (b := b) (c := 0) (Z := (List.replicate n 0)) (X := x) (Y := y) (by rw [HNX.out, List.length_replicate]) (by rw [HNX.out, HNY.out])
          rw [HNX.out] at e
          rw [e]; exact hR
      case round =>
        clear hR hb
        obtain ⟨i, hin, rfl, rfl, hR, hb⟩ := hrel
        cases i with
        | zero =>
          have hneg : ¬ (((0 : Nat) : Int) - 1) ≥ 0 := by omega
          rw [adZ_zero] at hR
          rw [List.drop_zero, List.drop_zero]
          go_wp2_with fail
          exact ⟨⟨1, by omega, rfl, rfl, hR, hb⟩, by simp [intOf]⟩
        | succ i =>
          have e1 : (((i + 1 : Nat) : Int) - 1) = (i : Int) := by omega
          rw [e1]
          clear e1
          have hst := adC_step (b := b) (c := 0) (X := x) (Y := y) (i := i) (by rw [HNX.out]; omega) (by rw [HNY.out]; omega)
          have hset0 := adZ_set (b := b) (c := 0) (Z := (List.replicate n 0)) (X := x) (Y := y) (i := i) (by rw [List.length_replicate]; omega) (by rw [HNX.out]; omega) (by rw [HNY.out]; omega)
          have hT1 := congrArg Prod.fst hst
          have hBi := BC1.out i
          have hB := BC1.out (i + 1)
          have hlen := adZ_len (b := b) (c := 0) (Z := (List.replicate n 0)) (X := x) (Y := y) (i := i + 1) (by rw [HNX.out, List.length_replicate]) (by rw [HNX.out, HNY.out]) (by rw [HNX.out]; omega)
          have hget := adZ_get (b := b) (c := 0) (Z := (List.replicate n 0)) (X := x) (Y := y) (i := i) (by rw [List.length_replicate]; omega)
          have hfz := hR.frozen i
          have hcz := hR.cell i (by rw [hlen, HNX.out]; omega)
          rw [hT1] at hBi
          have HT1 := Lib.hid hT1
          clear hst hT1 hlen
          have kc1 := Slc.cell HNX.out (hv.later hb) i (by omega)
          have kc2 := Slc.cell HNY.out (hu.later hb) i (by omega)
          have hX := BX.out i (by omega)
          have hY := BY.out i (by omega)
          have hset : ∀ nn, RowI ((wr.drewN nn).setCell ⟨w.heap.size, i, none⟩ (.int .i64 ((x[i]?.getD 0 + y[i]?.getD 0 + (adC b 0 (List.drop (i + 1) x) (List.drop (i + 1) y)).1) % b))) w.heap.size (adZ b 0 (List.replicate n 0) x y i) := fun nn => by
            have := (hR.later (below_drewN (Below.refl _ _) nn)).set i ((x[i]?.getD 0 + y[i]?.getD 0 + (adC b 0 (List.drop (i + 1) x) (List.drop (i + 1) y)).1) % b)
            rw [hset0] at this
            exact this
          obtain ⟨xi, hxi⟩ : ∃ xi, x[i]?.getD 0 = xi := ⟨_, rfl⟩
          obtain ⟨yi, hyi⟩ : ∃ yi, y[i]?.getD 0 = yi := ⟨_, rfl⟩
          obtain ⟨cc, hcc⟩ : ∃ cc, (adC b 0 (List.drop (i + 1) x) (List.drop (i + 1) y)).1 = cc := ⟨_, rfl⟩
          rw [hxi, hyi, hcc] at hset HT1 hBi
          rw [hxi] at kc1 hX
          rw [hyi] at kc2 hY
          rw [hcc] at hB ⊢
          rw [show xi + yi + cc = cc + xi + yi by omega] at hset HT1 hBi
          clear hxi hyi hcc hset0 hget
          have hq : (cc + xi + yi) / (b : Int) ≤ 1 := hBi.2
          have i1 : (i : Int) < (n : Int) := by omega
          have i2 : IntKind.i64.wrap (cc + xi) = cc + xi := IntWalk.i64_in _ (by omega)
          have i3 : IntKind.i64.wrap (cc + xi + yi) = cc + xi + yi := IntWalk.i64_in _ (by omega)
          have i4 : (0 : Int) ≤ (i : Int) := by omega
          have i5 : IntKind.i64.wrap (i : Int) = i := IntWalk.i64_in _ (by omega)
          have hq0 := hBi.1
          have hq1 := hBi.2
          have DZ : ∀ nn, (wr.drewN nn).cell? ⟨w.heap.size, i, none⟩ = wr.cell? ⟨w.heap.size, i, none⟩ := fun nn => (below_drewN (Below.refl _ wr) nn).cell (p := ⟨w.heap.size, i, none⟩) hR.lt
          have DF : ∀ nn, (wr.drewN nn).frozen? ⟨w.heap.size, i, none⟩ = false := fun nn => (hR.later (below_drewN (Below.refl _ _) nn)).frozen i
          have HS := Lib.hid hset
          have DB : Hid (∀ nn, Below w.heap.size w ((wr.drewN nn).setCell ⟨w.heap.size, i, none⟩ (.int .i64 ((cc + xi + yi) % b)))) := fun nn => (below_drewN hb nn).setCell (p := ⟨w.heap.size, i, none⟩) (Nat.le_refl _) _
          clear hset hBi hfz hR
          go_wp2_with fail
          go_quiet (fail)
          go_wp2
          go_roundw
          case rel => refine ⟨i, by omega, by go_num, ?_, by with_reducible exact HS.out _, by with_reducible exact DB.out _⟩; rw [HT1.out]
          case measure => simp [intOf]
    · have hR0 : RowI wr w.heap.size (adC b 0 x y).2 := hR
      clear hR
      have hR := hR0
      clear hR0
      rw [show (pasS b x y 1).1 = (adC b 0 x y).1 from rfl, show ((1 : Nat) : Int) = 1 from rfl]
      go_wp2_with fail
      go_loopw [9, 11] (fun c' i' wr => ∃ i : Nat, i ≤ n ∧ i' = .int .i64 ((i : Int) - 1) ∧ c' = .int .i64 (adC b (adC b 0 x y).1 (List.drop i (adC b 0 x y).2) (List.drop i (List.replicate n 0))).1 ∧ RowI wr w.heap.size (adZ b (adC b 0 x y).1 (adC b 0 x y).2 (adC b 0 x y).2 (List.replicate n 0) i) ∧ Below w.heap.size w wr) (fun _ i' _ => (intOf i' + 1).toNat)
      case atStart =>
        refine ⟨n, Nat.le_refl _, rfl, ?_, ?_, hb⟩
        · rw [show List.drop n (adC b 0 x y).2 = [] from List.drop_eq_nil_of_le (by rw [HO.out]; exact Nat.le_refl _), show List.drop n (List.replicate n (0 : Int)) = [] from List.drop_eq_nil_of_le (by rw [List.length_replicate]; exact Nat.le_refl _)]; rfl
        · have e := adZ_end (b := b) (c := (adC b 0 x y).1) (Z := (adC b 0 x y).2) (X := (adC b 0 x y).2) (Y := (List.replicate n 0)) (by rw [HO.out]) (by rw [HO.out, List.length_replicate])
          rw [HO.out] at e
          rw [e]; exact hR
      case round =>
        clear hR hb
        obtain ⟨i, hin, rfl, rfl, hR, hb⟩ := hrel
        cases i with
        | zero =>
          have hneg : ¬ (((0 : Nat) : Int) - 1) ≥ 0 := by omega
          rw [adZ_zero] at hR
          rw [List.drop_zero, List.drop_zero]
          go_wp2_with fail
          exact ⟨⟨2, by omega, rfl, by show _ = Value.int .i64 (adC b _ _ (List.replicate x.length 0)).1; rw [HNX.out], by show RowI _ _ (adC b _ _ (List.replicate x.length 0)).2; rw [HNX.out]; exact hR, hb⟩, by simp [intOf]⟩
        | succ i =>
          have e1 : (((i + 1 : Nat) : Int) - 1) = (i : Int) := by omega
          rw [e1]
          clear e1
          have hst := adC_step (b := b) (c := (adC b 0 x y).1) (X := (adC b 0 x y).2) (Y := (List.replicate n 0)) (i := i) (by rw [HO.out]; omega) (by rw [List.length_replicate]; omega)
          have hset0 := adZ_set (b := b) (c := (adC b 0 x y).1) (Z := (adC b 0 x y).2) (X := (adC b 0 x y).2) (Y := (List.replicate n 0)) (i := i) (by rw [HO.out]; omega) (by rw [HO.out]; omega) (by rw [List.length_replicate]; omega)
          have hT1 := congrArg Prod.fst hst
          have hBi := BC2.out i
          have hB := BC2.out (i + 1)
          have hlen := adZ_len (b := b) (c := (adC b 0 x y).1) (Z := (adC b 0 x y).2) (X := (adC b 0 x y).2) (Y := (List.replicate n 0)) (i := i + 1) (by rw [HO.out]) (by rw [HO.out, List.length_replicate]) (by rw [HO.out]; omega)
          have hget := adZ_get (b := b) (c := (adC b 0 x y).1) (Z := (adC b 0 x y).2) (X := (adC b 0 x y).2) (Y := (List.replicate n 0)) (i := i) (by rw [HO.out]; omega)
          have hfz := hR.frozen i
          have hcz := hR.cell i (by rw [hlen, HO.out]; omega)
          rw [hT1] at hBi
          have HT1 := Lib.hid hT1
          clear hst hT1 hlen
          have hO := BO.out i (by omega)
          have hz0 : (List.replicate n (0 : Int))[i]?.getD 0 = 0 := by rw [List.getElem?_replicate]; split <;> rfl
          have hset := hR.set i (((adC b 0 x y).2[i]?.getD 0 + (List.replicate n (0 : Int))[i]?.getD 0 + (adC b (adC b 0 x y).1 (List.drop (i + 1) (adC b 0 x y).2) (List.drop (i + 1) (List.replicate n 0))).1) % b)
          rw [hset0] at hset
          rw [hget] at hcz
          rw [hz0] at hset HT1 hBi
          obtain ⟨xi, hxi⟩ : ∃ xi, (adC b 0 x y).2[i]?.getD 0 = xi := ⟨_, rfl⟩
          obtain ⟨cc, hcc⟩ : ∃ cc, (adC b (adC b 0 x y).1 (List.drop (i + 1) (adC b 0 x y).2) (List.drop (i + 1) (List.replicate n 0))).1 = cc := ⟨_, rfl⟩
          rw [hxi, hcc] at hset HT1 hBi
          rw [hxi] at hO hcz
          rw [hcc] at hB ⊢
          rw [show xi + 0 + cc = cc + xi by omega] at hset HT1 hBi
          clear hxi hcc hset0 hget hz0
          have hq : (cc + xi) / (b : Int) ≤ 1 := hBi.2
          have i1 : (i : Int) < (n : Int) := by omega
          have hq0 := hBi.1
          have hq1 := hBi.2
          have HS := Lib.hid hset
          have DB : Hid (Below w.heap.size w (wr.setCell ⟨w.heap.size, i, none⟩ (.int .i64 ((cc + xi) % b)))) := hb.setCell (p := ⟨w.heap.size, i, none⟩) (Nat.le_refl _) _
          clear hset hBi hR
          go_wp2_with fail
          refine ⟨⟨i, by omega, rfl, by rw [HT1.out], HS.out, DB.out⟩, by simp [intOf]⟩
    · have hR0 : RowI wr w.heap.size (adC b (adC b 0 x y).1 (adC b 0 x y).2 (List.replicate n 0)).2 := by
        have : RowI wr w.heap.size (adC b (adC b 0 x y).1 (adC b 0 x y).2 (List.replicate x.length 0)).2 := hR
        rwa [HNX.out] at this
      clear hR
      have hL2 : (adC b (adC b 0 x y).1 (adC b 0 x y).2 (List.replicate n 0)).2.length = n := by rw [adC_len b _ (by rw [HO.out, List.length_replicate]), HO.out]
      have hat := HAT.out
      have hnin := ninB_all (adC b (adC b 0 x y).1 (adC b 0 x y).2 (List.replicate n 0)).2 ((b : Int) - 1)
      rw [hL2] at hnin
      rw [show ((2 : Nat) : Int) = 2 from rfl]
      generalize (pasS b x y 2).1 = c2
      revert hR0 hL2 hat hnin
      generalize (adC b (adC b 0 x y).1 (adC b 0 x y).2 (List.replicate n 0)).2 = L2
      intro hR hL2 hat hnin
      have HL := Lib.hid hL2; have HA := Lib.hid hat; have HNI := Lib.hid hnin
      clear hL2 hat hnin
      go_wp2_with fail
      go_loop [12, 13] (fun f i' => ∃ i : Nat, i ≤ n ∧ i' = .int .i64 i ∧ f = .bool (ninB L2 ((b : Int) - 1) i)) (fun _ i' => n - (intOf i').toNat)
      case atStart => exact ⟨0, Nat.zero_le _, rfl, by rw [ninB_zero]⟩
      case round =>
        obtain ⟨i, hin, rfl, rfl⟩ := hrel
        have hsu := ninB_succ L2 ((b : Int) - 1) i
        by_cases hit : i < n
        · have j1 : (i : Int) < (n : Int) := by omega
          have kc := hR.cell i (by rw [HL.out]; exact hit)
          cases hh : ninB L2 ((b : Int) - 1) i with
          | false =>
            rw [hh, Bool.false_and] at hsu
            have HSU := Lib.hid hsu
            clear hsu hh
            go_wp2_with fail
            exact ⟨⟨i + 1, hit, rfl, by rw [HSU.out]⟩, by simp [intOf]; omega⟩
          | true =>
            rw [hh, Bool.true_and] at hsu
            have HSU := Lib.hid hsu
            clear hsu hh
            revert kc HSU
            generalize L2[i]?.getD 0 = xv
            intro kc HSU
            go_wp2_with fail
            exact ⟨⟨i + 1, hit, rfl, by rw [HSU.out]⟩, by simp [intOf]; omega⟩
        · obtain rfl : i = n := by omega
          have j1 : ¬ (i : Int) < (i : Int) := by omega
          clear hsu
          cases hh : ninB L2 ((b : Int) - 1) i with
          | true =>
            have hE : L2 = List.replicate i ((b : Int) - 1) := of_decide_eq_true (HNI.out.symm.trans hh)
            have hAD := Lib.hid (HA.out.2 hE)
            have hN := hb.size
            have hRz : RowI (wr.alloc (.cells (madeCells #[.int .i64 0] i) 3)) wr.heap.size (List.replicate i 0) := RowI.made (W := wr) (g := wr.heap.size) i rfl
            have hBz := hb.alloc hN (.cells (madeCells #[.int .i64 0] i) 3)
            clear hE hh
            go_wp2_with fail
            go_ret2
            refine ⟨_, rfl, ?_, hBz⟩
            rw [hAD.out]
            have := row_slc' hRz hN (by rw [List.length_replicate]; unfold maxLen; omega)
            rw [List.length_replicate] at this
            exact this
          | false =>
            have hE : ¬ L2 = List.replicate i ((b : Int) - 1) := of_decide_eq_false (HNI.out.symm.trans hh)
            have hAD := Lib.hid (HA.out.1.trans (if_neg hE))
            clear hE hh
            go_wp2_with fail
            go_ret2
            refine ⟨_, rfl, ?_, hb⟩
            rw [← hAD.out]
            have := row_slc' hR (Nat.le_refl _) (by rw [HL.out]; unfold maxLen; omega)
            rw [HL.out] at this
            exact this

end Go.Proofs.Ytoiofkijinlllab
