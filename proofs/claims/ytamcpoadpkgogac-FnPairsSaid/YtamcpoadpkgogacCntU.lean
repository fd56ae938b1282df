/-
  Greatest differences of counts, longest pieces: the model's side.
-/
import Derived.Test.YtamcpoadpkgogacCntS
namespace Go.Proofs.Ytamcpoadpkgogac
open Go.RowKit

/-- The greatest difference so far: of all pairs with the first one below i, and those with i and the second one below k. -/
structure MxS (c : Nat → Nat) (b i k M : Nat) : Prop where
  le : ∀ x y, (x < i ∧ y < b) ∨ (x = i ∧ y < k) → c x ≤ c y + M
  at_ : M = 0 ∨ ∃ x y, ((x < i ∧ y < b) ∨ (x = i ∧ y < k)) ∧ c x = c y + M
theorem MxS.zero (c : Nat → Nat) (b : Nat) : MxS c b 0 0 0 := ⟨fun x y h => by omega, .inl rfl⟩
theorem MxS.step {c : Nat → Nat} {b i k M : Nat} (h : MxS c b i k M) : MxS c b i (k + 1) (Nat.max M (c i - c k)) := by
  have h1 : M ≤ Nat.max M (c i - c k) := Nat.le_max_left _ _
  have h2 : c i - c k ≤ Nat.max M (c i - c k) := Nat.le_max_right _ _
  refine ⟨fun x y hxy => ?_, ?_⟩
  · by_cases e : x = i ∧ y = k
    · obtain ⟨rfl, rfl⟩ := e; omega
    · have := h.le x y (by omega); omega
  · rcases Nat.le_total (c i - c k) M with h3 | h3
    · rw [show Nat.max M (c i - c k) = M from Nat.max_eq_left h3]
      rcases h.at_ with h4 | ⟨x, y, h4, h5⟩
      · exact .inl h4
      · exact .inr ⟨x, y, by omega, h5⟩
    · rw [show Nat.max M (c i - c k) = c i - c k from Nat.max_eq_right h3]
      by_cases h4 : c i - c k = 0
      · exact .inl h4
      · exact .inr ⟨i, k, by omega, by omega⟩
theorem MxS.next {c : Nat → Nat} {b i M : Nat} (h : MxS c b i b M) : MxS c b (i + 1) 0 M :=
  ⟨fun x y hxy => h.le x y (by omega), by
    rcases h.at_ with h1 | ⟨x, y, h1, h2⟩
    · exact .inl h1
    · exact .inr ⟨x, y, by omega, h2⟩⟩
theorem MxS.most {c : Nat → Nat} {b M : Nat} (hb : 0 < b) (h : MxS c b b 0 M) : IsMost c b M :=
  ⟨fun i k hi hk => h.le i k (.inl ⟨hi, hk⟩), by
    rcases h.at_ with rfl | ⟨x, y, h1, h2⟩
    · exact ⟨0, 0, hb, hb, rfl⟩
    · exact ⟨x, y, by omega, by omega, h2⟩⟩

set_option maxHeartbeats 1000000 in
theorem specCountMost_no (b t n : Int) (h : tldB b t n = false) : GivesI 9 #[.int .i64 b, .agg #[.int .i64 t, .int .i64 n]] 0 false := by
  intro w
  have CD := Lib.hid (specCountDigits_no b t n h)
  clear h
  go_enter Try.func9, Try.ntmps9
  go_wp2_with fail
  refine (CD.out _).mono ?_
  rintro e w1 ⟨v, rfl, hv, hb1⟩
  obtain ⟨a, c, rfl⟩ := slc_form hv
  have hb := bel1C hb1
  rw [show ([] : List Int).length = 0 from rfl]
  clear hv hb1
  go_wp2_with fail
  go_loop [8, 9] (fun s i' => s = .int .i64 0 ∧ i' = .int .i64 0) (fun _ _ => 0)
  case atStart => exact ⟨rfl, rfl⟩
  case round =>
    obtain ⟨rfl, rfl⟩ := hrel
    go_wp2_with fail
    go_ret2
    exact ⟨rfl, hb⟩

set_option maxHeartbeats 4000000 in
theorem specCountMost_yes (b T B n m M : Nat) (h : Frd b T B n m) (hM : IsMost (fun v => dgC (rdg b T B n) v m) b M) : GivesI 9 #[.int .i64 b, .agg #[.int .i64 T, .int .i64 B]] M true := by
  intro w
  have CD := Lib.hid (specCountDigits_yes b T B n m h)
  have hb2 := h.b2; have hb16 := h.b16; have hm2 := h.le
  obtain ⟨C, hC⟩ : ∃ C : Nat → Nat, (fun v => dgC (rdg b T B n) v m) = C := ⟨_, rfl⟩
  have hCm : ∀ v, C v ≤ 1000 := fun v => by rw [← hC]; have := dgC_le (rdg b T B n) v m; show dgC _ v m ≤ 1000; omega
  have hget : ∀ v, v < b → (cntL b (rdg b T B n) m)[v]?.getD 0 = (C v : Int) := fun v hv => by rw [← hC]; exact cntL_get hv
  have hlen := cntL_len b (rdg b T B n) m
  rw [hC] at hM
  have HM := Lib.hid hM; have HG := Lib.hid hget; have HL := Lib.hid hlen; have HCM := Lib.hid hCm
  clear h hM hC hget hlen hCm
  generalize cntL b (rdg b T B n) m = L at *
  go_enter Try.func9, Try.ntmps9
  go_wp2_with fail
  refine (CD.out _).mono ?_
  rintro e w1 ⟨v, rfl, hv, hb1⟩
  obtain ⟨g, o, c, rfl, _, _, _, _⟩ := slc_some hv (by rw [HL.out]; omega)
  have hb := bel1C hb1
  rw [HL.out] at hv ⊢
  clear hb1 CD
  go_wp2_with fail
  go_loopw [8, 9] (fun s i' wr => ∃ i S : Nat, i ≤ b ∧ i' = .int .i64 i ∧ s = .int .i64 S ∧ S ≤ 1000 ∧ MxS C b i 0 S ∧ Slc 0 wr (.slice (some ⟨g, o, none⟩) b c) L ∧ Below w.heap.size w wr) (fun _ i' _ => b - (intOf i').toNat)
  case atStart => exact ⟨0, 0, Nat.zero_le _, rfl, rfl, by omega, MxS.zero C b, hv.mono (Nat.zero_le _), hb⟩
  case round =>
    obtain ⟨i, S, hi, rfl, rfl, hS, hmx, hv, hb⟩ := hrel
    by_cases hlt : i < b
    · have j1 : (i : Int) < (b : Int) := by omega
      go_wp2_with fail
      go_loopw [8, 10] (fun s k' wr => ∃ k S : Nat, k ≤ b ∧ k' = .int .i64 k ∧ s = .int .i64 S ∧ S ≤ 1000 ∧ MxS C b i k S ∧ Slc 0 wr (.slice (some ⟨g, o, none⟩) b c) L ∧ Below w.heap.size w wr) (fun _ k' _ => b - (intOf k').toNat)
      case atStart => exact ⟨0, S, by omega, rfl, rfl, hS, hmx, hv, hb⟩
      case round =>
        clear hv hb hmx hS
        obtain ⟨k, S, hk, rfl, rfl, hS, hmx, hv, hb⟩ := hrel
        by_cases hkl : k < b
        · have k1 : (k : Int) < (b : Int) := by omega
          have k2 : (0 : Int) ≤ (k : Int) := by omega
          have k3 : (0 : Int) ≤ (i : Int) := by omega
          have c1 := Slc.cell HL.out hv i hlt
          have c2 := Slc.cell HL.out hv k hkl
          rw [HG.out i hlt] at c1
          rw [HG.out k hkl] at c2
          have m1 := HCM.out i
          have m2 := HCM.out k
          have hst := hmx.step
          have HV : Hid (∀ nn, Slc 0 (wr.drewN nn) (.slice (some ⟨g, o, none⟩) b c) L) := fun nn => hv.later (below_drewN (Below.refl _ _) nn)
          by_cases hgt : S < C i - C k
          · have hst' : MxS C b i (k + 1) (C i - C k) := by rwa [show Nat.max S (C i - C k) = C i - C k from Nat.max_eq_right (by omega)] at hst
            have e1 : ((C i - C k : Nat) : Int) = (C i : Int) - C k := by omega
            have HST := Lib.hid hst'; have HE1 := Lib.hid e1
            have hle : C i - C k ≤ 1000 := by omega
            clear hst hst' hmx e1 hv
            revert c1 c2 m1 m2 hgt HST HE1 hle
            generalize C i = ci
            generalize C k = ck
            intro c1 c2 m1 m2 hgt HST HE1 hle
            have i3 : IntKind.i64.wrap ((ci : Int) - (ck : Int)) = (ci : Int) - ck := IntWalk.i64_in _ (by omega)
            have i4 : (S : Int) < (ci : Int) - ck := by omega
            go_wp2_with fail
            go_quiet (fail)
            go_wp2
            go_roundw
            case rel => exact ⟨k + 1, ci - ck, by omega, by go_num, by rw [HE1.out], hle, HST.out, HV.out _, below_drewN hb _⟩
            case measure => simp [intOf]; omega
          · have hst' : MxS C b i (k + 1) S := by rwa [show Nat.max S (C i - C k) = S from Nat.max_eq_left (by omega)] at hst
            have HST := Lib.hid hst'
            clear hst hst' hmx hv
            revert c1 c2 m1 m2 hgt HST
            generalize C i = ci
            generalize C k = ck
            intro c1 c2 m1 m2 hgt HST
            have i3 : IntKind.i64.wrap ((ci : Int) - (ck : Int)) = (ci : Int) - ck := IntWalk.i64_in _ (by omega)
            have i4 : ¬ (S : Int) < (ci : Int) - ck := by omega
            go_wp2_with fail
            go_quiet (fail)
            go_wp2
            go_roundw
            case rel => exact ⟨k + 1, S, by omega, by go_num, rfl, hS, HST.out, HV.out _, below_drewN hb _⟩
            case measure => simp [intOf]; omega
        · obtain rfl : k = b := by omega
          have k1 : ¬ (k : Int) < (k : Int) := by omega
          have hnx := hmx.next
          clear hmx
          go_wp2_with fail
          exact ⟨⟨i + 1, S, by omega, rfl, rfl, hS, hnx, hv, hb⟩, by simp [intOf]; omega⟩
    · obtain rfl : i = b := by omega
      have j1 : ¬ (i : Int) < (i : Int) := by omega
      have hfin := HM.out.unique (hmx.most (by omega))
      subst hfin
      go_wp2_with fail
      go_ret2
      exact ⟨rfl, hb⟩

theorem ret_intb {k : IntKind} {a b : Int} {p : Bool} (h : a = b) : Ending.returned (.tuple #[.int k a, .bool p]) = .returned (.tuple #[.int k b, .bool p]) := by rw [h]

set_option maxHeartbeats 1000000 in
theorem specCountRuns_no (b t n : Int) (h : tldB b t n = false) : GivesI 19 #[.int .i64 b, .agg #[.int .i64 t, .int .i64 n]] 0 false := by
  intro w
  go_enter Try.func19, Try.ntmps19
  go_wp2_with (go_at_call 33; refine (l1Given_any _ _ _ _).mono ?_; rintro e w1 ⟨rfl, hb1⟩)
  go_ret2
  exact ⟨rfl, bel1C hb1⟩

set_option maxHeartbeats 8000000 in
theorem specCountRuns_yes (b T B n m r : Nat) (h : Frd b T B n m) (hr : IsRun (rdg b T B n) m r) : GivesI 19 #[.int .i64 b, .agg #[.int .i64 T, .int .i64 B]] r true := by
  intro w
  have ht := h.told
  have RN := Lib.hid (fun wx => l1Round_any b T B wx h.lt h.bot h.b2 h.b16)
  have HM := Lib.hid h.len
  have hm1 := h.pos; have hm2 := h.le
  have hrl := rndL_len b T B n m
  have HG := Lib.hid (fun i (hi : i < m) => rndL_get b T B n m i hi)
  have HB := Lib.hid (fun i => h.dig i)
  have hb16 := h.b16
  have HR := Lib.hid hr; have HRL := Lib.hid hrl
  clear h hr hrl
  obtain ⟨D, hD⟩ : ∃ D, rdg b T B n = D := ⟨_, rfl⟩
  have HG' : Hid (∀ i, i < m → (rndL b T B n m)[i]?.getD 0 = (D i : Int)) := fun i hi => by rw [← hD]; exact HG.out i hi
  rw [hD] at HR HB
  obtain ⟨L, hL⟩ : ∃ L, rndL b T B n m = L := ⟨_, rfl⟩
  rw [hL] at HG' HRL
  have HLE := Lib.hid hL
  clear HG hD hL
  go_enter Try.func19, Try.ntmps19
  go_wp2_with fail
  refine (l1Given_any _ _ _ _).mono ?_
  rintro e w1 ⟨rfl, hb1⟩
  rw [ht]
  have q1 := (Box2.newAt (W := w) (T := 24) (x := .int .i64 T) (y := .int .i64 B) rfl).later hb1
  have k0 := q1.cell0
  have k1 := q1.cell1
  have hb := bel1C hb1
  clear hb1 ht
  go_wp2_with fail
  refine (RN.out _).mono ?_
  rintro e w2 ⟨v, n', m', hm', rfl, hv, hb2⟩
  obtain ⟨rfl, rfl⟩ := HM.out.unique hm'
  obtain ⟨g, o, c, rfl, _, _, _, _⟩ := slc_some hv (by rw [rndL_len]; omega)
  rw [HLE.out] at hv ⊢
  rw [HRL.out] at hv ⊢
  have hv0 := hv.mono (Nat.zero_le _)
  have hbb := hb.trans (hb2.mono hb.size)
  clear hm' hb2 hb q1 k0 k1 hv RN
  have m0 : ¬ m = 0 := by omega
  go_wp2_with fail
  go_loopw [7, 8, 9] (fun R' k' i' wr => ∃ i k R : Nat, i ≤ 2 * m ∧ i' = .int .i64 i ∧ k' = .int .i64 k ∧ R' = .int .i64 R ∧ IsLin (fun j => D (j % m)) i k R ∧ Slc 0 wr (.slice (some ⟨g, o, none⟩) m c) L ∧ Below w.heap.size w wr) (fun _ _ i' _ => 2 * m - (intOf i').toNat)
  case atStart => exact ⟨0, 0, 0, Nat.zero_le _, rfl, rfl, rfl, IsLin.zero _, hv0, hbb⟩
  case round =>
    clear hv0 hbb
    obtain ⟨i, k, R, hi, rfl, rfl, rfl, hlin, hv, hb⟩ := hrel
    have hk2 := hlin.le
    have hR2 := hlin.best.1
    by_cases hlt : i < 2 * m
    · have j1 : (i : Int) < 2 * (m : Int) := by omega
      have HV : Hid (∀ nn, Slc 0 (wr.drewN nn) (.slice (some ⟨g, o, none⟩) m c) L) := fun nn => hv.later (below_drewN (Below.refl _ _) nn)
      rcases Nat.eq_zero_or_pos i with h0 | h0
      · have g1 : decide ((0 : Int) < (i : Int)) = false := by simp; omega
        have hst := hlin.step (k := k + 1) (.inl ⟨rfl, fun h => by omega⟩)
        clear hlin hv
        by_cases hgt : (R < k + 1)
        · have e2 : (R : Int) < (k : Int) + 1 := by omega
          have hst' := hst
          rw [show Nat.max R (k + 1) = (k + 1) from Nat.max_eq_right (by omega)] at hst'
          have HST := Lib.hid hst'
          clear hst hst' hgt
          go_wp2_with fail
          go_quiet (fail)
          go_wp2
          go_roundw
          case rel => exact ⟨i + 1, (k + 1), (k + 1), by omega, by go_num, by go_num, by go_num, HST.out, HV.out _, below_drewN hb _⟩
          case measure => simp [intOf]; omega
        · omega
      · obtain ⟨p, hp⟩ : ∃ p, i = p + 1 := ⟨i - 1, by omega⟩
        have g1 : (0 : Int) < (i : Int) := by omega
        have x1l : i % m < m := Nat.mod_lt _ (by omega)
        have x2l : p % m < m := Nat.mod_lt _ (by omega)
        have c1 := Slc.cell HRL.out hv (i % m) x1l
        have c2 := Slc.cell HRL.out hv (p % m) x2l
        rw [HG'.out _ x1l] at c1
        rw [HG'.out _ x2l] at c2
        have hE : D (i % m) = D (p % m) ∨ D (i % m) ≠ D (p % m) := by omega
        have t1 : ((i : Int)).tmod (m : Int) = ((i % m : Nat) : Int) := by rw [Int.tmod_eq_emod_of_nonneg (by omega)]; rfl
        have t2 : ((p : Int)).tmod (m : Int) = ((p % m : Nat) : Int) := by rw [Int.tmod_eq_emod_of_nonneg (by omega)]; rfl
        have t3 : IntKind.i64.wrap ((i : Int) - 1) = (p : Int) := by rw [show (i : Int) - 1 = (p : Int) by omega]; exact IntWalk.i64_in _ (by omega)
        have hpm : i - 1 = p := by omega
        rcases hE with hE | hE
        · have hst := hlin.step (k := k + 1) (.inl ⟨rfl, fun _ => by rw [hpm]; exact hE⟩)
          rw [← hE] at c2
          clear hlin hv hE hpm hp
          revert c1 c2 x1l x2l t1 t2
          generalize D (i % m) = dv
          generalize i % m = x1
          generalize p % m = x2
          intro c1 c2 x1l x2l t1 t2
          have t4 : IntKind.i64.wrap (x1 : Int) = x1 := IntWalk.i64_in _ (by omega)
          have t5 : IntKind.i64.wrap (x2 : Int) = x2 := IntWalk.i64_in _ (by omega)
          have i1 : (x1 : Int) < (m : Int) := by omega
          have i2 : (x2 : Int) < (m : Int) := by omega
          have i3 : (0 : Int) ≤ (x1 : Int) := by omega
          have i4 : (0 : Int) ≤ (x2 : Int) := by omega
          by_cases hgt : (R < k + 1)
          · have e2 : (R : Int) < (k : Int) + 1 := by omega
            have hst' := hst
            rw [show Nat.max R (k + 1) = (k + 1) from Nat.max_eq_right (by omega)] at hst'
            have HST := Lib.hid hst'
            clear hst hst' hgt
            go_wp2_with fail
            go_quiet (fail)
            go_wp2
            go_roundw
            case rel => exact ⟨i + 1, (k + 1), (k + 1), by omega, by go_num, by go_num, by go_num, HST.out, HV.out _, below_drewN hb _⟩
            case measure => simp [intOf]; omega
          · have e2 : ¬ (R : Int) < (k : Int) + 1 := by omega
            have hst' := hst
            rw [show Nat.max R (k + 1) = R from Nat.max_eq_left (by omega)] at hst'
            have HST := Lib.hid hst'
            clear hst hst' hgt
            go_wp2_with fail
            go_quiet (fail)
            go_wp2
            go_roundw
            case rel => exact ⟨i + 1, (k + 1), R, by omega, by go_num, by go_num, by go_num, HST.out, HV.out _, below_drewN hb _⟩
            case measure => simp [intOf]; omega
        · have hst := hlin.step (k := 1) (.inr ⟨rfl, h0, by rw [hpm]; exact hE⟩)
          have e5 : ((D (i % m) : Int) != (D (p % m) : Int)) = true := by simp; omega
          have e6 : ((D (i % m) : Int) == (D (p % m) : Int)) = false := by simp; omega
          clear hlin hv hE hpm hp
          revert c1 c2 x1l x2l t1 t2 e5 e6
          generalize D (i % m) = dv
          generalize D (p % m) = du
          generalize i % m = x1
          generalize p % m = x2
          intro x1l x2l c1 c2 t1 t2 e5 e6
          have t4 : IntKind.i64.wrap (x1 : Int) = x1 := IntWalk.i64_in _ (by omega)
          have t5 : IntKind.i64.wrap (x2 : Int) = x2 := IntWalk.i64_in _ (by omega)
          have i1 : (x1 : Int) < (m : Int) := by omega
          have i2 : (x2 : Int) < (m : Int) := by omega
          have i3 : (0 : Int) ≤ (x1 : Int) := by omega
          have i4 : (0 : Int) ≤ (x2 : Int) := by omega
          by_cases hgt : (R < 1)
          · have e2 : (R : Int) < 1 := by omega
            have hst' := hst
            rw [show Nat.max R 1 = 1 from Nat.max_eq_right (by omega)] at hst'
            have HST := Lib.hid hst'
            clear hst hst' hgt
            go_wp2_with fail
            go_quiet (fail)
            go_wp2
            go_roundw
            case rel => exact ⟨i + 1, 1, 1, by omega, by go_num, by go_num, by go_num, HST.out, HV.out _, below_drewN hb _⟩
            case measure => simp [intOf]; omega
          · have e2 : ¬ (R : Int) < 1 := by omega
            have hst' := hst
            rw [show Nat.max R 1 = R from Nat.max_eq_left (by omega)] at hst'
            have HST := Lib.hid hst'
            clear hst hst' hgt
            go_wp2_with fail
            go_quiet (fail)
            go_wp2
            go_roundw
            case rel => exact ⟨i + 1, 1, R, by omega, by go_num, by go_num, by go_num, HST.out, HV.out _, below_drewN hb _⟩
            case measure => simp [intOf]; omega
    · obtain rfl : i = 2 * m := by omega
      have j1 : ¬ ((2 * m : Nat) : Int) < 2 * (m : Int) := by omega
      have hfin := HR.out.unique (hlin.round (by omega))
      clear hlin
      rcases Nat.lt_or_ge m R with h5 | h5
      · rw [show Nat.min R m = m from Nat.min_eq_right (by omega)] at hfin
        have j2 : (m : Int) < (R : Int) := by omega
        go_wp2_with fail
        go_ret2
        exact ⟨ret_intb (by omega), hb⟩
      · rw [show Nat.min R m = R from Nat.min_eq_left h5] at hfin
        have j2 : ¬ (m : Int) < (R : Int) := by omega
        go_wp2_with fail
        go_ret2
        exact ⟨ret_intb (by omega), hb⟩

end Go.Proofs.Ytamcpoadpkgogac
