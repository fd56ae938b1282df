/-
  Pairs of digits: the model's side.
-/
import Derived.Test.YtamcpoadpkgogacCntU
import Derived.Deep.OwnRows
namespace Go.Proofs.Ytamcpoadpkgogac
open Go.RowKit

/-- What stood ahead of place i. -/
def hadC (P : Nat → Nat) (i x : Nat) : Bool := decide (0 < dgC P x i)
theorem hadC_zero (P : Nat → Nat) (x : Nat) : hadC P 0 x = false := rfl
theorem hadC_skip {P : Nat → Nat} {i : Nat} (h : hadC P i (P i) = true) (x : Nat) : hadC P (i + 1) x = hadC P i x := by
  unfold hadC at *
  rw [decide_eq_true_eq] at h
  show decide (0 < dgC P x i + one (P i = x)) = _
  by_cases e : P i = x
  · subst e; rw [one_yes rfl, decide_eq_true h, decide_eq_true (by omega)]
  · rw [one_no e, Nat.add_zero]
theorem hadC_add (P : Nat → Nat) (i x : Nat) : hadC P (i + 1) x = if x = P i then true else hadC P i x := by
  unfold hadC
  show decide (0 < dgC P x i + one (P i = x)) = _
  split
  · rename_i e; subst e; rw [one_yes rfl, decide_eq_true (by omega)]
  · rename_i e; rw [one_no (fun h => e h.symm), Nat.add_zero]
theorem frs_skip {P : Nat → Nat} {i : Nat} (h : hadC P i (P i) = true) : frs P (i + 1) = frs P i := by
  show frs P i + one (∀ j, j < i → P j ≠ P i) = _
  rw [one_no, Nat.add_zero]
  intro h1
  have := dgC_zero.2 h1
  unfold hadC at h
  rw [decide_eq_true_eq] at h
  omega
theorem frs_add {P : Nat → Nat} {i : Nat} (h : hadC P i (P i) = false) : frs P (i + 1) = frs P i + 1 := by
  show frs P i + one (∀ j, j < i → P j ≠ P i) = _
  rw [one_yes]
  apply dgC_zero.1
  unfold hadC at h
  rw [decide_eq_false_iff_not] at h
  omega

theorem slc_blockC {W W' : World} {g o l c : Nat} {L : List Int} (h : Slc 0 W (.slice (some ⟨g, o, none⟩) l c) L) (hb : W'.heap[g]? = W.heap[g]?) : Slc 0 W' (.slice (some ⟨g, o, none⟩) l c) L := by
  rcases h with ⟨h, _⟩ | ⟨g', off, cap, cur, hv, hg, hh, r⟩
  · cases h
  · cases hv
    exact .inr ⟨g, o, c, cur, rfl, hg, hb.trans hh, r⟩

theorem infoBoolC : (Try.prog.info? 4).map (fun i => (i.zero, i.size, i.bytes)) = some (some (.bool false), 1, 1) := by kernel_rfl

set_option maxHeartbeats 1000000 in
theorem specCountPairs_no (b t n : Int) (h : tldB b t n = false) : GivesI 22 #[.int .i64 b, .agg #[.int .i64 t, .int .i64 n]] 0 false := by
  intro w
  go_enter Try.func22, Try.ntmps22
  go_wp2_with (go_at_call 33; refine (l1Given_any _ _ _ _).mono ?_; rintro e w1 ⟨rfl, hb1⟩)
  go_ret2
  exact ⟨rfl, bel1C hb1⟩

set_option maxHeartbeats 8000000 in
theorem specCountPairs_yes (b T B n m : Nat) (h : Frd b T B n m) : GivesI 22 #[.int .i64 b, .agg #[.int .i64 T, .int .i64 B]] (frs (prP b (rdg b T B n) m) m : Nat) true := by
  intro w
  have ht := h.told
  have RN := Lib.hid (fun wx => l1Round_any b T B wx h.lt h.bot h.b2 h.b16)
  have HM := Lib.hid h.len
  have hm1 := h.pos; have hm2 := h.le
  have hrl := rndL_len b T B n m
  have HG := Lib.hid (fun i (hi : i < m) => rndL_get b T B n m i hi)
  have hdd := fun i => h.dig i
  have hb16 := h.b16
  have hb2 := h.b2
  have HRL := Lib.hid hrl
  clear h hrl
  obtain ⟨D, hD⟩ : ∃ D, rdg b T B n = D := ⟨_, rfl⟩
  have HG' : Hid (∀ i, i < m → (rndL b T B n m)[i]?.getD 0 = (D i : Int)) := fun i hi => by rw [← hD]; exact HG.out i hi
  rw [hD] at hdd ⊢
  have HP : Hid (∀ i, i < m → prP b D m i < b * b) := fun i hi => prP_lt (by omega) (fun i _ => hdd i) hi
  have HPE : Hid (∀ i, prP b D m i = b * D i + D ((i + 1) % m)) := fun i => rfl
  have HB := Lib.hid hdd
  obtain ⟨P, hP⟩ : ∃ P, prP b D m = P := ⟨_, rfl⟩
  rw [hP] at HP HPE ⊢
  have HF0 : Hid (∀ x, hadC P 0 x = false) := hadC_zero P
  obtain ⟨L, hL⟩ : ∃ L, rndL b T B n m = L := ⟨_, rfl⟩
  rw [hL] at HG' HRL
  have HLE := Lib.hid hL
  have hbb0 : b * b ≤ 256 := Nat.mul_le_mul hb16 hb16
  have hmk := run_make_row' (P := Try.prog) 52 4 (.bool false) 1 Try.underlying52 infoBoolC rfl .i64 .i64 (b * b) (by omega) (by omega)
  rw [Int.natCast_mul] at hmk
  obtain ⟨mb1, mb2⟩ : (0 : Int) ≤ (b : Int) * (b : Int) ∧ (b : Int) * (b : Int) ≤ 256 := by
    have : ((b * b : Nat) : Int) = (b : Int) * b := Int.natCast_mul b b
    omega
  clear HG hD hL hP hdd
  go_enter Try.func22, Try.ntmps22
  go_wp2_with fail
  refine (l1Given_any _ _ _ _).mono ?_
  rintro e w1 ⟨rfl, hb1⟩
  rw [ht]
  have q1 := (Box2.newAt (W := w) (T := 24) (x := .int .i64 T) (y := .int .i64 B) rfl).later hb1
  have k0 := q1.cell0
  have k1 := q1.cell1
  have hb := bel1C hb1
  clear hb1 ht
  go_wp2_with fail
  refine (RN.out _).mono ?_
  rintro e w2 ⟨v, n', m', hm', rfl, hv, hb2⟩
  obtain ⟨rfl, rfl⟩ := HM.out.unique hm'
  obtain ⟨g, o, c, rfl, _, _, _, _⟩ := slc_some hv (by rw [rndL_len]; omega)
  rw [HLE.out] at hv ⊢
  rw [HRL.out] at hv ⊢
  have hv0 := hv.mono (Nat.zero_le _)
  have hbb := hb.trans (hb2.mono hb.size)
  have hg0 : g < w2.heap.size := by assumption
  have hv1 : Slc 0 (w2.alloc (.cells (madeCells #[.bool false] (b * b)) 4)) (.slice (some ⟨g, o, none⟩) m c) L := hv0.later ((Below.refl _ _).alloc (Nat.le_refl _) _)
  have hS1 := (World.rowIs_made w2 (.bool false) (b * b) 4).congr (g := fun x => .bool (hadC P 0 x)) (fun x _ => by rw [HF0.out])
  have hB1 := hbb.alloc hbb.size (.cells (madeCells #[.bool false] (b * b)) 4)
  have hsz : w.heap.size ≤ w2.heap.size := hbb.size
  clear hm' hb2 hb q1 k0 k1 hv RN hv0 hbb
  go_wp2_with fail
  clear hmk
  revert hv1 hS1 hB1 hg0 hsz
  generalize w2.alloc (.cells (madeCells #[.bool false] (b * b)) 4) = w3
  generalize w2.heap.size = S0
  intro hg0 hv1 hS1 hB1 hsz
  go_loopw [8, 9] (fun n' i' wr => ∃ i C : Nat, i ≤ m ∧ C ≤ i ∧ i' = .int .i64 i ∧ n' = .int .i64 C ∧ C = frs P i ∧ wr.rowIs S0 4 (b * b) (fun x => .bool (hadC P i x)) ∧ Slc 0 wr (.slice (some ⟨g, o, none⟩) m c) L ∧ Below w.heap.size w wr) (fun _ i' _ => m - (intOf i').toNat)
  case atStart => exact ⟨0, 0, Nat.zero_le _, Nat.le_refl _, rfl, rfl, rfl, hS1, hv1, hB1⟩
  case round =>
    clear hv1 hS1 hB1
    obtain ⟨i, C, hi, hCi, rfl, rfl, hC, hS, hv, hb⟩ := hrel
    by_cases hlt : i < m
    · have j1 : (i : Int) < (m : Int) := by omega
      have x2l : (i + 1) % m < m := Nat.mod_lt _ (by omega)
      have c1 := Slc.cell HRL.out hv i hlt
      have c2 := Slc.cell HRL.out hv ((i + 1) % m) x2l
      rw [HG'.out _ hlt] at c1
      rw [HG'.out _ x2l] at c2
      have d1 := HB.out i
      have d2 := HB.out ((i + 1) % m)
      have hpl := HP.out i hlt
      have hpe := HPE.out i
      have t2 : ((i : Int) + 1).tmod (m : Int) = (((i + 1) % m : Nat) : Int) := by rw [Int.tmod_eq_emod_of_nonneg (by omega)]; simp
      have cs := hS.cell hpl
      have HV : Hid (∀ nn, Slc 0 (wr.drewN nn) (.slice (some ⟨g, o, none⟩) m c) L) := fun nn => hv.later (below_drewN (Below.refl _ _) nn)
      have HS : Hid (∀ nn, (wr.drewN nn).rowIs S0 4 (b * b) (fun x => .bool (hadC P i x))) := fun nn => hS.of_block ((below_drewN (Below.refl _ _) nn).block _ hS.lt)
      have hfz := hS.frozen (P i)
      cases hh : hadC P i (P i) with
      | true =>
        have HST := Lib.hid (frs_skip hh)
        have HSK := Lib.hid (hadC_skip hh)
        rw [hh] at cs
        clear hv hS hh
        revert c1 c2 x2l d1 d2 hpl hpe t2 cs hfz HST HSK HS hC
        generalize D i = dv
        generalize D ((i + 1) % m) = du
        generalize (i + 1) % m = x2
        generalize hPi : P i = pv
        intro hC x2l c1 c2 d1 d2 hpl hpe t2 cs HS hfz HST HSK
        have HPI := Lib.hid hPi
        clear hPi
        have t5 : IntKind.i64.wrap (x2 : Int) = x2 := IntWalk.i64_in _ (by omega)
        have i2 : (x2 : Int) < (m : Int) := by omega
        have i3 : (0 : Int) ≤ (x2 : Int) := by omega
        have i4 : (0 : Int) ≤ (i : Int) := by omega
        have i5 : ¬ (m : Int) = 0 := by omega
        obtain ⟨m1, m2⟩ := mul_bd b dv 17 (by omega) (by omega) (by omega) (by omega) (by omega)
        have t6 : IntKind.i64.wrap ((b : Int) * (dv : Int)) = (b : Int) * dv := IntWalk.i64_in _ (by omega)
        have t7 : (b : Int) * (dv : Int) + (du : Int) = (pv : Int) := by rw [hpe]; simp
        have t8 : IntKind.i64.wrap (pv : Int) = pv := IntWalk.i64_in _ (by omega)
        have i6 : (pv : Int) < (b : Int) * b := by have := Int.ofNat_lt.2 hpl; rwa [Int.natCast_mul] at this
        have i7 : (0 : Int) ≤ (pv : Int) := by omega
        clear hpe
        go_wp2_with fail
        go_quiet (fail)
        go_wp2
        exact ⟨⟨i + 1, C, by omega, by omega, by go_num, rfl, hC.trans HST.out.symm, (HS.out nq).congr (fun x _ => by rw [HSK.out]), HV.out _, below_drewN hb _⟩, by simp [intOf]; omega⟩
      | false =>
        have HST := Lib.hid (frs_add hh)
        have HAD := Lib.hid (hadC_add P i)
        rw [hh] at cs
        clear hv hS hh
        revert c1 c2 x2l d1 d2 hpl hpe t2 cs hfz HST HAD HS hC
        generalize D i = dv
        generalize D ((i + 1) % m) = du
        generalize (i + 1) % m = x2
        generalize hPi : P i = pv
        intro hC x2l c1 c2 d1 d2 hpl hpe t2 cs HS hfz HST HAD
        have HPI := Lib.hid hPi
        clear hPi
        have t5 : IntKind.i64.wrap (x2 : Int) = x2 := IntWalk.i64_in _ (by omega)
        have i2 : (x2 : Int) < (m : Int) := by omega
        have i3 : (0 : Int) ≤ (x2 : Int) := by omega
        have i4 : (0 : Int) ≤ (i : Int) := by omega
        have i5 : ¬ (m : Int) = 0 := by omega
        obtain ⟨m1, m2⟩ := mul_bd b dv 17 (by omega) (by omega) (by omega) (by omega) (by omega)
        have t6 : IntKind.i64.wrap ((b : Int) * (dv : Int)) = (b : Int) * dv := IntWalk.i64_in _ (by omega)
        have t7 : (b : Int) * (dv : Int) + (du : Int) = (pv : Int) := by rw [hpe]; simp
        have t8 : IntKind.i64.wrap (pv : Int) = pv := IntWalk.i64_in _ (by omega)
        have i6 : (pv : Int) < (b : Int) * b := by have := Int.ofNat_lt.2 hpl; rwa [Int.natCast_mul] at this
        have i7 : (0 : Int) ≤ (pv : Int) := by omega
        clear hpe
        go_wp2_with fail
        go_quiet (fail)
        go_wp2
        have hbn := below_drewN hb nq
        refine ⟨⟨i + 1, frs P i + 1, by omega, by omega, by go_num, by go_num, HST.out.symm, ?_, ?_, hbn.setCell (p := ⟨S0, pv, none⟩) hsz _⟩, by simp [intOf]; omega⟩
        · refine ((HS.out nq).set pv (.bool true)).congr fun x _ => ?_
          rw [HAD.out]
          show (if x = pv then Value.bool true else _) = _
          split <;> rfl
        · exact slc_blockC (HV.out nq) (Go.Deep.blk_setCell_other _ _ _ _ (by show g ≠ S0; omega))
    · obtain rfl : i = m := by omega
      have j1 : ¬ (i : Int) < (i : Int) := by omega
      have HC := Lib.hid hC
      clear hC
      go_wp2_with fail
      go_ret2
      exact ⟨ret_intb (by rw [HC.out]), hb⟩

end Go.Proofs.Ytamcpoadpkgogac
