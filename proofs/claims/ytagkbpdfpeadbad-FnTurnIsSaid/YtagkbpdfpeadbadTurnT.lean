/-
  Rings: the model's side: products.
-/
import Derived.Test.YtagkbpdfpeadbadTurnS
import Derived.Test.YtagkbpdfpeadbadRow
import Derived.Test.YtagkbpdfpeadbadEqL
namespace Go.Proofs.Ytagkbpdfpeadbad
open Go.RowKit

/-- What the product's list holds while the first i digits are still to come. -/
def timZ (b k : Nat) (d : List Int) (i : Nat) : List Int := List.replicate i 0 ++ (tim b k (d.drop i)).2

theorem timZ_set {b k i : Nat} {d : List Int} (hi : i < d.length) :
    (timZ b k d (i + 1)).set i (((tim b k (d.drop (i + 1))).1 + (d[i]?.getD 0) * k) % b) = timZ b k d i ∧
    (tim b k (d.drop i)).1 = ((tim b k (d.drop (i + 1))).1 + (d[i]?.getD 0) * k) / b := by
  have hd : d.drop i = d[i]?.getD 0 :: d.drop (i + 1) := by
    rw [List.drop_eq_getElem_cons hi, List.getElem?_eq_getElem hi]; rfl
  unfold timZ
  rw [hd]
  constructor
  · show (List.replicate (i + 1) 0 ++ (tim b k (d.drop (i + 1))).2).set i _ = List.replicate i 0 ++ (_ :: (tim b k (d.drop (i + 1))).2)
    simp [List.replicate_succ']
  · rfl

theorem timZ_len {b k i : Nat} {d : List Int} (hi : i ≤ d.length) : (timZ b k d i).length = d.length := by
  unfold timZ; rw [List.length_append, tim_len, List.length_replicate, List.length_drop]; omega

theorem row_slc {W : World} {g n₀ : Nat} {zs : List Int} (h : RowI W g zs) (hg : n₀ ≤ g) (hm : zs.length ≤ maxLen) : Slc n₀ W (.slice (some ⟨g, 0, none⟩) zs.length zs.length) zs := by
  obtain ⟨cur, h1, h2⟩ := h
  have hl : cur.size = zs.length := by rw [← Array.length_toList, h2, List.length_map]
  refine .inr ⟨g, 0, zs.length, cur, rfl, hg, h1, Nat.le_refl _, hm, by omega, ?_⟩
  rw [List.drop_zero, h2]
  exact List.take_of_length_le (by simp)

set_option maxHeartbeats 1000000 in
theorem l5Times_any (n₀ : Nat) (b k : Nat) (v : Value) (d : List Int) (w : World) (hv : Slc n₀ w v d) (h : Rng b d) (hk : k ≤ 100) :
    Calls Try.prog 30 #[.int .i64 b, v, .int .i64 k] w fun e w' => ∃ u, e = .returned (.tuple #[u, .bool (decide ((tim b k d).1 = 0))]) ∧ Slc w.heap.size w' u (tim b k d).2 ∧ Below w.heap.size w w' := by
  obtain ⟨n, hn⟩ : ∃ n, d.length = n := ⟨_, rfl⟩
  have hb2 := h.b2; have hb16 := h.b16; have hl1 := h.l1; have hl2 := h.l2
  have hmk := run_make_row' (P := Try.prog) 23 3 (.int .i64 0) 8 Try.underlying23 infoInt rfl .i64 .i64 n (by omega) (by omega)
  obtain ⟨g, o, c, rfl, _, hg, hc1, hc2⟩ := slc_some hv (by omega)
  have hbd : ∀ i, 0 ≤ (tim b k (d.drop i)).1 ∧ (tim b k (d.drop i)).1 ≤ k := fun i => tim_bd (by omega) (by omega) fun x hx => h.dg x (List.mem_of_mem_drop hx)
  have hdg : ∀ i, i < n → 0 ≤ d[i]?.getD 0 ∧ d[i]?.getD 0 < b := fun i hi => by
    rw [List.getElem?_eq_getElem (by omega)]
    exact h.dg _ (List.getElem_mem (by omega))
  rw [hn] at hv hl1 hl2 hc1 ⊢
  have HN := Lib.hid hn; have HB := Lib.hid hbd; have HD := Lib.hid hdg
  have hb0 : ¬ b = 0 := by omega
  clear h hn hbd hdg
  go_enter Try.func30, Try.ntmps30
  go_wp2_with fail
  clear hmk
  have hR0 : RowI (w.alloc (.cells (madeCells #[.int .i64 0] n) 3)) w.heap.size (timZ b k d n) := by
    have := RowI.made (W := w) (g := w.heap.size) n rfl
    unfold timZ
    rw [show d.drop n = [] from List.drop_eq_nil_of_le (by rw [HN.out]; exact Nat.le_refl _)]
    simpa [tim] using this
  have hB0 : Below w.heap.size w (w.alloc (.cells (madeCells #[.int .i64 0] n) 3)) := (Below.refl _ _).alloc (Nat.le_refl _) _
  go_loopw [9, 10] (fun c' i' wr => ∃ i : Nat, i ≤ n ∧ i' = .int .i64 ((i : Int) - 1) ∧ c' = .int .i64 (tim b k (d.drop i)).1 ∧ RowI wr w.heap.size (timZ b k d i) ∧ Below w.heap.size w wr) (fun _ i' _ => (intOf i' + 1).toNat)
  case atStart =>
    refine ⟨n, Nat.le_refl _, rfl, ?_, hR0, hB0⟩
    rw [show d.drop n = [] from List.drop_eq_nil_of_le (by rw [HN.out]; exact Nat.le_refl _)]; rfl
  case round =>
    clear hR0 hB0
    obtain ⟨i, hin, rfl, rfl, hR, hb⟩ := hrel
    cases i with
    | zero =>
      have hneg : ¬ (((0 : Nat) : Int) - 1) ≥ 0 := by omega
      have hz : timZ b k d 0 = (tim b k d).2 := by unfold timZ; rw [List.drop_zero]; rfl
      have hlz : (tim b k d).2.length = n := by rw [tim_len, HN.out]
      rw [hz] at hR
      have hs := row_slc hR (Nat.le_refl _) (by rw [hlz]; unfold maxLen; omega)
      rw [hlz] at hs
      rw [show d.drop 0 = d from List.drop_zero]
      go_wp2_with fail
      refine bodyPost_ret (v := .tuple #[.slice (some ⟨w.heap.size, 0, none⟩) n n, .bool ((tim b k d).1 == 0)]) (by simp [results, Try.results30, go_sem]) rfl ?_
      exact ⟨_, rfl, hs, hb⟩
    | succ i =>
      have e1 : (((i + 1 : Nat) : Int) - 1) = (i : Int) := by omega
      rw [e1]
      clear e1
      have hts := timZ_set (b := b) (k := k) (i := i) (d := d) (by rw [HN.out]; omega)
      have hB := HB.out (i + 1)
      have hBi := HB.out i
      have hD := HD.out i (by omega)
      have hcell := Slc.cell HN.out (hv.later hb) i (by omega)
      have hfz := hR.frozen i
      have hcz := hR.cell i (by rw [timZ_len (by rw [HN.out]; exact hin), HN.out]; omega)
      have hset := hR.set i (((tim b k (d.drop (i + 1))).1 + (d[i]?.getD 0) * k) % b)
      rw [hts.1] at hset
      have HT2 := Lib.hid hts.2
      rw [hts.2] at hBi
      clear hts hR
      obtain ⟨x, hx⟩ : ∃ x, d[i]?.getD 0 = x := ⟨_, rfl⟩
      obtain ⟨cc, hcc⟩ : ∃ cc, (tim b k (d.drop (i + 1))).1 = cc := ⟨_, rfl⟩
      rw [hx, hcc] at HT2 hset hBi
      rw [hx] at hcell hD
      rw [hcc] at hB ⊢
      clear hx hcc
      have m1 : 0 ≤ x * (k : Int) := Int.mul_nonneg hD.1 (by omega)
      have m2 : x * (k : Int) ≤ 16 * 100 := Int.mul_le_mul (by omega) (by omega) (by omega) (by omega)
      have i1 : (i : Int) < (n : Int) := by omega
      have hq0 := hBi.1
      have hq1 : (cc + x * (k : Int)) / (b : Int) ≤ 100 := by have := hBi.2; omega
      have HS := Lib.hid hset
      clear hset hBi
      go_wp2_with fail
      refine ⟨⟨i, by omega, rfl, by rw [HT2.out], HS.out, hb.setCell (p := ⟨w.heap.size, i, none⟩) (Nat.le_refl _) _⟩, by simp [intOf]⟩

set_option maxHeartbeats 1000000 in
theorem specTurnTimes_no (b k : Int) (d : List Int) (hl : d.length ≤ 1048576) (h : (rngB b d && decide (0 ≤ k ∧ k ≤ 100)) = false) : GivesD 23 (fun v => #[.int .i64 b, v, .int .i64 k]) d [] false := by
  intro n₀ v w hv
  have RG := Lib.hid (l5Ring_any n₀ b v d w hv hl)
  cases hr : rngB b d with
  | false =>
    rw [hr] at RG
    clear h hr
    go_enter Try.func23, Try.ntmps23
    go_wp2_with (go_at_call 29; refine RG.out.mono ?_; rintro e w' ⟨rfl, rfl⟩)
    go_ret2
    exact ⟨_, rfl, Slc.empty (Nat.le_refl _), (Below.refl _ _).alloc (Nat.le_refl _) _⟩
  | true =>
    rw [hr, Bool.true_and] at h
    rw [hr] at RG
    clear hr
    go_enter Try.func23, Try.ntmps23
    go_wp2_with (first | (go_at_call 29; refine RG.out.mono ?_; rintro e w' ⟨rfl, rfl⟩) | (go_at_call 31; refine (l6In_any _ _ _ _).mono ?_; rintro e w' ⟨rfl, rfl⟩))
    go_ret2
    exact ⟨_, rfl, Slc.empty (Nat.le_refl _), (Below.refl _ _).alloc (Nat.le_refl _) _⟩

set_option maxHeartbeats 1000000 in
theorem specTurnTimes_off (b k : Nat) (d : List Int) (h : Rng b d) (hk : k ≤ 100) (h0 : (tim b k d).1 ≠ 0) : GivesD 23 (fun v => #[.int .i64 b, v, .int .i64 k]) d [] false := by
  intro n₀ v w hv
  have h2 := h.l2
  have RG := Lib.hid (l5Ring_any n₀ b v d w hv (by omega))
  have TT := Lib.hid (l5Times_any n₀ b k v d w hv h hk)
  rw [h.told] at RG
  rw [decide_eq_false h0] at TT
  have j1 : (k : Int) ≤ 100 := by omega
  clear h0
  go_enter Try.func23, Try.ntmps23
  go_wp2_with (first | (go_at_call 29; refine RG.out.mono ?_; rintro e w' ⟨rfl, rfl⟩) | (go_at_call 31; refine (l6In_any _ _ _ _).mono ?_; rintro e w' ⟨rfl, rfl⟩))
  refine TT.out.mono ?_
  rintro e w1 ⟨u, rfl, hu, hb⟩
  go_wp2_with fail
  go_ret2
  exact ⟨_, rfl, Slc.empty hb.size, hb.alloc hb.size _⟩

set_option maxHeartbeats 1000000 in
theorem specTurnTimes_yes (b k : Nat) (d : List Int) (h : Rng b d) (hk : k ≤ 100) (h0 : (tim b k d).1 = 0) : GivesD 23 (fun v => #[.int .i64 b, v, .int .i64 k]) d (tim b k d).2 true := by
  intro n₀ v w hv
  have h2 := h.l2
  have RG := Lib.hid (l5Ring_any n₀ b v d w hv (by omega))
  have TT := Lib.hid (l5Times_any n₀ b k v d w hv h hk)
  rw [h.told] at RG
  rw [decide_eq_true h0] at TT
  have j1 : (k : Int) ≤ 100 := by omega
  clear h0
  go_enter Try.func23, Try.ntmps23
  go_wp2_with (first | (go_at_call 29; refine RG.out.mono ?_; rintro e w' ⟨rfl, rfl⟩) | (go_at_call 31; refine (l6In_any _ _ _ _).mono ?_; rintro e w' ⟨rfl, rfl⟩))
  refine TT.out.mono ?_
  rintro e w1 ⟨u, rfl, hu, hb⟩
  go_wp2_with fail
  go_ret2
  exact ⟨_, rfl, hu, hb⟩

set_option maxHeartbeats 1000000 in
theorem specTurnIs_no (b k : Int) (d : List Int) (hl : d.length ≤ 1048576) (h : (rngB b d && decide (0 ≤ k ∧ k ≤ 100)) = false) : GivesDB 7 (fun v => #[.int .i64 b, v, .int .i64 k]) d false := by
  intro n₀ v w hv
  have TN := Lib.hid (specTurnTimes_no b k d hl h n₀ v w hv)
  clear h
  go_enter Try.func7, Try.ntmps7
  go_wp2_with fail
  refine TN.out.mono ?_
  rintro e w1 ⟨u, rfl, hu, hb⟩
  go_wp2_with fail
  go_ret
  exact ⟨rfl, hb⟩

set_option maxHeartbeats 1000000 in
theorem specTurnIs_yes (b k : Nat) (d : List Int) (h : Rng b d) (hk : k ≤ 100) : GivesDB 7 (fun v => #[.int .i64 b, v, .int .i64 k]) d (isB b d k) := by
  intro n₀ v w hv
  have h1 := h.l1; have h2 := h.l2
  by_cases h0 : (tim b k d).1 = 0
  · have TY := Lib.hid (specTurnTimes_yes b k d h hk h0 n₀ v w hv)
    have HI : Hid (isB b d k = decide ((tim b k d).2 = rotL d (d.length - 1))) := by
      unfold Hid isB
      rw [decide_eq_decide]
      exact ⟨fun h => h.2, fun h => ⟨h0, h⟩⟩
    have TD := Lib.hid (fun (w1 : World) (h' : Below w.heap.size w w1) => l5Turned_any n₀ v d (d.length - 1) w1 (hv.later h') h1 (by omega))
    obtain ⟨a, c, rfl⟩ := slc_form hv
    have elm : (d.length - 1) % d.length = d.length - 1 := Nat.mod_eq_of_lt (by omega)
    have hlt := tim_len b k d
    obtain ⟨n, hn⟩ : ∃ n, d.length = n := ⟨_, rfl⟩
    rw [elm] at TD
    rw [hn] at TD TY HI h1 h2 hlt ⊢
    have hrl : (rotL d (n - 1)).length = n := by rw [rotL_len, hn]
    have hn1 : ((n - 1 : Nat) : Int) = (n : Int) - 1 := by omega
    rw [hn1] at TD
    clear h0 h hv hn hn1 elm
    go_enter Try.func7, Try.ntmps7
    go_wp2_with fail
    refine TY.out.mono ?_
    rintro e w1 ⟨u, rfl, hu, hb⟩
    go_wp2_with fail
    refine (TD.out w1 hb).mono ?_
    rintro e w2 ⟨x, rfl, hx, hb2⟩
    go_wp2_with fail
    refine (l2Equal_any _ _ _ _ _ _ _ (hu.later hb2) hx (by omega) (by omega)).mono ?_
    rintro e w3 ⟨rfl, hb3⟩
    go_wp2_with fail
    go_ret
    exact ⟨ret_bool HI.out.symm, (hb.trans (hb2.mono hb.size)).trans (hb3.mono (Nat.le_trans hb.size hb2.size))⟩
  · have TN := Lib.hid (specTurnTimes_off b k d h hk h0 n₀ v w hv)
    have HI : Hid (isB b d k = false) := by unfold Hid isB; exact decide_eq_false fun h => h0 h.1
    clear h0 h
    go_enter Try.func7, Try.ntmps7
    go_wp2_with fail
    refine TN.out.mono ?_
    rintro e w1 ⟨u, rfl, hu, hb⟩
    go_wp2_with fail
    go_ret
    exact ⟨ret_bool HI.out.symm, hb⟩

end Go.Proofs.Ytagkbpdfpeadbad
