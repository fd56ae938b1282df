/-
  Chapter 6, the program's side: times, other rings, lengths, which fraction is less.
-/
import Derived.Test.YtoiofkijinlllaaSumI
import Derived.Test.YtoiofkijinlllaaSumL
import Derived.Test.YtoiofkijinlllaaOther
import Derived.Test.YtoiofkijinlllaaPower
import Derived.Test.YtoiofkijinlllaaNext
import Derived.Test.YtoiofkijinlllaaTurnX
import Derived.Test.YtoiofkijinlllaaPMath
import Derived.Deep.RegionWith
import Derived.Deep.RegionHeld3
import Derived.Deep.LoopGhost
import Derived.Deep.QuietTactic
import Derived.BigQuiet
namespace Go.Proofs.Ytoiofkijinlllaa
open Go.RowKit

theorem lowest_red (t n : Nat) (w : World) (hn : 0 < n) (ht : t ≤ 100000000000) (hn2 : n ≤ 100000000000) :
    Calls Try.prog 26 #[.int .i64 t, .int .i64 n] w fun e w' => e = .returned (.agg #[.int .i64 (redT t n : Nat), .int .i64 (redN t n : Nat)]) ∧ Below w.heap.size w w' := lowest_any t n w hn ht hn2

set_option maxHeartbeats 2000000 in
theorem implSumTimes_no (t n k : Int) (h : (finB t n && decide (0 ≤ k ∧ k ≤ 1000)) = false) : GivesF 12 #[.agg #[.int .i64 t, .int .i64 n], .int .i64 k] 0 0 false := by
  intro w
  cases h1 : finB t n with
  | false =>
    clear h
    go_enter Try.func12, Try.ntmps12
    go_wp2_with fail
    refine (implFracIn_any _ _ _).mono ?_
    rintro e w1 ⟨rfl, hb1⟩
    rw [h1]
    have z1 : Box2 w1 (w.heap.size + 1) 24 (.int .i64 0) (.int .i64 0) := (Box2.newAt (by simp)).later hb1
    have k0 := z1.cell0
    have k1 := z1.cell1
    have f0 := z1.frozen0
    have f1 := z1.frozen1
    have hb := bel2' hb1
    clear hb1
    go_wp2_with fail
    refine bodyPost_ret (v := .tuple #[.agg #[.int .i64 0, .int .i64 0], .bool false]) (by simp [results, Try.results12, go_sem, (z1.set' _ _).cell0, (z1.set' _ _).cell1]) rfl ⟨rfl, ?_⟩
    exact (hb.setCell (p := ⟨w.heap.size + 1, 0, none⟩) (by simp) _).setCell (p := ⟨w.heap.size + 1, 1, none⟩) (by simp) _
  | true =>
    rw [h1, Bool.true_and, decide_eq_false_iff_not] at h
    by_cases hk : k < 0
    · clear h
      go_enter Try.func12, Try.ntmps12
      go_wp2_with fail
      refine (implFracIn_any _ _ _).mono ?_
      rintro e w1 ⟨rfl, hb1⟩
      rw [h1]
      have z1 : Box2 w1 (w.heap.size + 1) 24 (.int .i64 0) (.int .i64 0) := (Box2.newAt (by simp)).later hb1
      have k0 := z1.cell0
      have k1 := z1.cell1
      have f0 := z1.frozen0
      have f1 := z1.frozen1
      have hb := bel2' hb1
      clear hb1
      go_wp2_with fail
      refine bodyPost_ret (v := .tuple #[.agg #[.int .i64 0, .int .i64 0], .bool false]) (by simp [results, Try.results12, go_sem, (z1.set' _ _).cell0, (z1.set' _ _).cell1]) rfl ⟨rfl, ?_⟩
      exact (hb.setCell (p := ⟨w.heap.size + 1, 0, none⟩) (by simp) _).setCell (p := ⟨w.heap.size + 1, 1, none⟩) (by simp) _
    · have hk2 : 1000 < k := by omega
      clear h
      go_enter Try.func12, Try.ntmps12
      go_wp2_with fail
      refine (implFracIn_any _ _ _).mono ?_
      rintro e w1 ⟨rfl, hb1⟩
      rw [h1]
      have z1 : Box2 w1 (w.heap.size + 1) 24 (.int .i64 0) (.int .i64 0) := (Box2.newAt (by simp)).later hb1
      have k0 := z1.cell0
      have k1 := z1.cell1
      have f0 := z1.frozen0
      have f1 := z1.frozen1
      have hb := bel2' hb1
      clear hb1
      go_wp2_with fail
      refine bodyPost_ret (v := .tuple #[.agg #[.int .i64 0, .int .i64 0], .bool false]) (by simp [results, Try.results12, go_sem, (z1.set' _ _).cell0, (z1.set' _ _).cell1]) rfl ⟨rfl, ?_⟩
      exact (hb.setCell (p := ⟨w.heap.size + 1, 0, none⟩) (by simp) _).setCell (p := ⟨w.heap.size + 1, 1, none⟩) (by simp) _

set_option maxHeartbeats 2000000 in
theorem implSumTimes_yes (T B k : Nat) (h : FOk T B) (hk : k ≤ 1000) : GivesF 12 #[.agg #[.int .i64 T, .int .i64 B], .int .i64 k] (tmsT T B k) (tmsN T B k) true := by
  intro w
  have h1 := h.fin
  have hT := h.lt; have hB := h.bot
  have hk0 : ¬ (k : Int) < 0 := by omega
  have hk1 : ¬ (1000 : Int) < k := by omega
  have htk : T * k ≤ 1000 * 1000 := Nat.mul_le_mul (by omega) hk
  have i2 : ((T * k : Nat) : Int) = (T : Int) * k := by simp
  have hmod : T * k % B < B := Nat.mod_lt _ (by omega)
  have HR : Hid (∀ wx, Calls Try.prog 26 #[.int .i64 ((T * k % B : Nat) : Int), .int .i64 B] wx fun e w' => e = .returned (.agg #[.int .i64 (tmsT T B k : Nat), .int .i64 (tmsN T B k : Nat)]) ∧ Below wx.heap.size wx w') := fun wx =>
    lowest_red _ _ wx (by omega) (by omega) (by omega)
  have j1 : IntKind.i64.wrap ((T : Int) * k) = (T : Int) * k := IntWalk.i64_in _ (by omega)
  have j2 : ((T : Int) * k).tmod B = (T * k % B : Nat) := by
    rw [← i2, Int.tmod_eq_emod_of_nonneg (by omega)]; rfl
  have j3 : IntKind.i64.wrap ((T * k % B : Nat) : Int) = (T * k % B : Nat) := IntWalk.i64_in _ (by omega)
  have hB0 : ¬ B = 0 := by omega
  revert HR j2 j3
  generalize T * k % B = x at *
  intro HR j2 j3
  clear h i2 htk
  go_enter Try.func12, Try.ntmps12
  go_wp2_with fail
  refine (implFracIn_any _ _ _).mono ?_
  rintro e w1 ⟨rfl, hb1⟩
  rw [h1]
  have z1 : Box2 w1 (w.heap.size + 1) 24 (.int .i64 0) (.int .i64 0) := (Box2.newAt (by simp)).later hb1
  have x1 : Box2 w1 w.heap.size 24 (.int .i64 T) (.int .i64 B) := ((Box2.newAt rfl).alloc _).later hb1
  have hb := bel2' hb1
  clear hb1 h1
  have dx : Box2 w1.drew w.heap.size 24 (.int .i64 T) (.int .i64 B) := x1
  have dz : Box2 w1.drew (w.heap.size + 1) 24 (.int .i64 0) (.int .i64 0) := z1
  have x0 := dx.cell0
  have x1' := dx.cell1
  clear x1 z1
  go_wp2_with fail
  go_region_with (go_at_call 26; with_reducible refine Calls.mono (HR.out _) ?_; rintro e w4 ⟨rfl, hb4⟩; have z4 := Box2.later dz hb4; have x4 := Box2.later dx hb4; have hz0 := z4.cell0; have hz1 := z4.cell1; have hf0 := z4.frozen0; have hf1 := z4.frozen1; have hx0 := x4.cell0; have hx1 := x4.cell1)
  all_goals (
    go_wp2
    refine bodyPost_ret (v := .tuple #[.agg #[.int .i64 (tmsT T B k), .int .i64 (tmsN T B k)], .bool true]) (by simp [results, Try.results12, go_sem, (z4.set' _ _).cell0, (z4.set' _ _).cell1]) rfl ⟨rfl, ?_⟩
    have hbx : Below w.heap.size w w4 := hb.drew.trans (hb4.mono hb.size)
    exact (hbx.setCell (p := ⟨w.heap.size + 1, 0, none⟩) (by simp) _).setCell (p := ⟨w.heap.size + 1, 1, none⟩) (by simp) _)

theorem imSumTimes : ImSumTimes := ⟨implSumTimes_no, implSumTimes_yes⟩

set_option maxHeartbeats 1000000 in
theorem implSumOther_no (b : Int) (x : List Int) (hl : x.length ≤ 1048576) (h : rngB b x = false) : GivesD 15 (fun v => #[.int .i64 b, v]) x [] false := by
  intro n₀ v w hv
  have RG := Lib.hid (ringIn_any n₀ b v x w hv hl)
  rw [h] at RG
  go_enter Try.func15, Try.ntmps15
  go_wp2_with (go_at_call 28; refine RG.out.mono ?_; rintro e w' ⟨rfl, rfl⟩)
  go_ret2
  exact ⟨_, rfl, Slc.nil _ _, Below.refl _ _⟩

/-- The other ring as far as it is written. -/
def othZ (b : Nat) (x : List Int) (p : Nat) : List Int := (othL b x).take p ++ List.replicate (x.length - p) 0
theorem othZ_len {b : Nat} {x : List Int} {p : Nat} (hp : p ≤ x.length) : (othZ b x p).length = x.length := by
  unfold othZ; rw [List.length_append, List.length_take, othL_len, List.length_replicate]; omega
theorem othZ_set {b : Nat} {x : List Int} {p : Nat} (hp : p < x.length) : (othZ b x p).set p ((b : Int) - 1 - x[p]?.getD 0) = othZ b x (p + 1) := by
  unfold othZ
  have hl : ((othL b x).take p).length = p := by rw [List.length_take, othL_len]; omega
  rw [List.set_append_right _ _ (by omega), hl, Nat.sub_self]
  obtain ⟨k, hk⟩ : ∃ k, x.length - p = k + 1 := ⟨x.length - p - 1, by omega⟩
  rw [hk, List.replicate_succ, List.set_cons_zero, List.take_succ_eq_append_getElem (by rw [othL_len]; exact hp), List.append_assoc, List.getElem?_eq_getElem hp, show x.length - (p + 1) = k by omega]
  simp [othL]
theorem othZ_zero (b : Nat) (x : List Int) : othZ b x 0 = List.replicate x.length 0 := by unfold othZ; simp
theorem othZ_all (b : Nat) (x : List Int) : othZ b x x.length = othL b x := by
  unfold othZ; rw [List.take_of_length_le (by rw [othL_len]; exact Nat.le_refl _), Nat.sub_self]; simp

theorem row_slcX {W : World} {g n₀ : Nat} {zs : List Int} (h : RowI W g zs) (hg : n₀ ≤ g) (hm : zs.length ≤ maxLen) : Slc n₀ W (.slice (some ⟨g, 0, none⟩) zs.length zs.length) zs := by
  obtain ⟨cur, h1, h2⟩ := h
  have hl : cur.size = zs.length := by rw [← Array.length_toList, h2, List.length_map]
  refine .inr ⟨g, 0, zs.length, cur, rfl, hg, h1, Nat.le_refl _, hm, by omega, ?_⟩
  rw [List.drop_zero, h2]
  exact List.take_of_length_le (by simp)

set_option maxHeartbeats 2000000 in
theorem other_any (n₀ b : Nat) (v : Value) (x : List Int) (w : World) (hv : Slc n₀ w v x) (h : Rng b x) :
    Calls Try.prog 29 #[v, .int .i64 b] w fun e w' => ∃ u, e = .returned u ∧ Slc w.heap.size w' u (othL b x) ∧ Below w.heap.size w w' := by
  have h2 := h.b2; have h16 := h.b16; have hl1 := h.l1; have hl2 := h.l2
  obtain ⟨g, o, c, rfl, _, hgl, _, _⟩ := slc_some hv (by omega)
  have hdg : ∀ i, i < x.length → 0 ≤ x[i]?.getD 0 ∧ x[i]?.getD 0 < b := fun i hi => by
    rw [List.getElem?_eq_getElem hi]
    exact h.dg _ (List.getElem_mem hi)
  have hset : ∀ p, p < x.length → (othZ b x p).set p ((b : Int) - 1 - x[p]?.getD 0) = othZ b x (p + 1) := fun p hp => othZ_set hp
  have hzl : ∀ p, p ≤ x.length → (othZ b x p).length = x.length := fun p hp => othZ_len hp
  have hz0 := othZ_zero b x
  have hza := othZ_all b x
  obtain ⟨n, hn⟩ : ∃ n, x.length = n := ⟨_, rfl⟩
  rw [hn] at hv hl1 hl2 hdg hset hzl hz0 hza ⊢
  have hmk := run_make_row' (P := Try.prog) 43 3 (.int .i64 0) 8 Try.underlying43 infoInt rfl .i64 .i64 n (by omega) (by omega)
  have HN := Lib.hid hn; have HD := Lib.hid hdg; have HS := Lib.hid hset; have HL := Lib.hid hzl; have HZ := Lib.hid hz0; have HA := Lib.hid hza
  clear h hn hdg hset hzl hz0 hza
  have hR0 := RowI.made (W := w) (g := w.heap.size) n rfl
  have hB0 : Below w.heap.size w (w.alloc (.cells (madeCells #[.int .i64 0] n) 3)) := (Below.refl _ _).alloc (Nat.le_refl _) _
  go_enter Try.func29, Try.ntmps29
  go_wp2_with fail
  go_loopw [13] (fun i' wr => ∃ p : Nat, p ≤ n ∧ i' = .int .i64 p ∧ RowI wr w.heap.size (othZ b x p) ∧ Below w.heap.size w wr) (fun i' _ => n - (intOf i').toNat)
  case atStart => exact ⟨0, Nat.zero_le _, rfl, by rw [HZ.out]; exact hR0, hB0⟩
  case round =>
    clear hR0 hB0 hmk
    obtain ⟨p, hp, rfl, hR, hb⟩ := hrel
    by_cases hlt : p < n
    · have j1 : (p : Int) < (n : Int) := by omega
      have kc := Slc.cell HN.out (hv.later hb) p hlt
      have hD := HD.out p hlt
      have hzl := HL.out p (by omega)
      have hfz := hR.frozen p
      have hcz := hR.cell p (by rw [hzl]; exact hlt)
      have hset := hR.set p ((b : Int) - 1 - x[p]?.getD 0)
      rw [HS.out p hlt] at hset
      have hbs : Below w.heap.size w (wr.setCell ⟨w.heap.size, p, none⟩ (.int .i64 ((b : Int) - 1 - x[p]?.getD 0))) := hb.setCell (p := ⟨w.heap.size, p, none⟩) (Nat.le_refl _) _
      obtain ⟨xp, hxp⟩ : ∃ xp, x[p]?.getD 0 = xp := ⟨_, rfl⟩
      rw [hxp] at kc hD hset hbs
      have HSS := Lib.hid hset; have HBS := Lib.hid hbs
      clear hxp hR hset hbs hzl
      go_wp2_with fail
      exact ⟨⟨p + 1, hlt, rfl, HSS.out, HBS.out⟩, by simp [intOf]; omega⟩
    · obtain rfl : p = n := by omega
      have j1 : ¬ (p : Int) < (p : Int) := by omega
      go_wp2_with fail
      go_ret
      rw [HA.out] at hR
      have := row_slcX hR (Nat.le_refl _) (by rw [othL_len, HN.out]; unfold maxLen; omega)
      rw [othL_len, HN.out] at this
      exact ⟨_, rfl, this, hb⟩

theorem implSumOther_yes (b : Nat) (x : List Int) (h : Rng b x) : GivesD 15 (fun v => #[.int .i64 b, v]) x (othL b x) true := by
  intro n₀ v w hv
  have hl2 := h.l2
  have RG := Lib.hid (ringIn_any n₀ b v x w hv (by omega))
  rw [h.told] at RG
  have OT := Lib.hid (other_any n₀ b v x w hv h)
  go_enter Try.func15, Try.ntmps15
  go_wp2_with fail
  refine RG.out.mono ?_
  rintro e w' ⟨rfl, rfl⟩
  go_wp2_with fail
  refine OT.out.mono ?_
  rintro e w1 ⟨u, rfl, hu, hb⟩
  go_wp2_with fail
  go_ret2
  exact ⟨_, rfl, hu, hb⟩

theorem imSumOther : ImSumOther := ⟨implSumOther_no, implSumOther_yes⟩


set_option maxHeartbeats 2000000 in
theorem implSumLess_no (b t n u m : Int) (h : (tldB b t n && tldB b u m) = false) : GivesB 20 #[.int .i64 b, .agg #[.int .i64 t, .int .i64 n], .agg #[.int .i64 u, .int .i64 m]] false := by
  intro w
  cases h1 : tldB b t n with
  | false =>
    clear h
    go_enter Try.func20, Try.ntmps20
    go_wp2_with fail
    refine (fracTold_any _ _ _ _).mono ?_
    rintro e w1 ⟨rfl, hb1⟩
    rw [h1]
    have hb := bel2' hb1
    go_wp2_with fail
    go_ret
    exact ⟨rfl, hb⟩
  | true =>
    rw [h1, Bool.true_and] at h
    go_enter Try.func20, Try.ntmps20
    go_wp2_with fail
    refine (fracTold_any _ _ _ _).mono ?_
    rintro e w1 ⟨rfl, hb1⟩
    rw [h1]
    have y1 : Box2 w1 (w.heap.size + 1) 24 (.int .i64 u) (.int .i64 m) := (Box2.newAt (by simp)).later hb1
    have y0 := y1.cell0
    have y1' := y1.cell1
    have hb := bel2' hb1
    clear hb1
    go_wp2_with fail
    refine (fracTold_any _ _ _ _).mono ?_
    rintro e w2 ⟨rfl, hb2⟩
    rw [h]
    have hbb := hb.trans (hb2.mono hb.size)
    go_wp2_with fail
    go_ret
    exact ⟨rfl, hbb⟩

set_option maxHeartbeats 4000000 in
theorem implSumLess_same (b T B : Nat) (h3 : 2 ≤ b) (h4 : b ≤ 16) (h : FOk T B) :
    GivesB 20 #[.int .i64 b, .agg #[.int .i64 T, .int .i64 B], .agg #[.int .i64 T, .int .i64 B]] false := by
  intro w
  have t1 := h.told h3 h4
  clear h
  go_enter Try.func20, Try.ntmps20
  go_wp2_with fail
  refine (fracTold_any _ _ _ _).mono ?_
  rintro e w1 ⟨rfl, hb1⟩
  rw [t1]
  have x1 : Box2 w1 w.heap.size 24 (.int .i64 T) (.int .i64 B) := ((Box2.newAt rfl).alloc _).later hb1
  have y1 : Box2 w1 (w.heap.size + 1) 24 (.int .i64 T) (.int .i64 B) := (Box2.newAt (by simp)).later hb1
  have y0 := y1.cell0
  have y1' := y1.cell1
  have hb := bel2' hb1
  clear hb1
  go_wp2_with fail
  refine (fracTold_any _ _ _ _).mono ?_
  rintro e w2 ⟨rfl, hb2⟩
  rw [t1]
  have x2 := x1.later hb2
  have y2 := y1.later hb2
  have d0 := x2.cell0
  have d1 := x2.cell1
  have d2 := y2.cell0
  have d3 := y2.cell1
  have hbb := hb.trans (hb2.mono hb.size)
  clear hb2 hb t1 x1 y1 y0 y1'
  go_wp2_with fail
  go_loopg [6] 0 (fun k s wr => s = .bool false ∧ wr = w2)
  case atStart => exact ⟨rfl, rfl⟩
  case round =>
    obtain ⟨rfl, rfl⟩ := hrel
    go_wp2_with fail
    go_ret
    exact ⟨rfl, hbb⟩

set_option maxHeartbeats 4000000 in
theorem implSumLess_off (b T B U C N : Nat) (p : Bool) (h3 : 2 ≤ b) (h4 : b ≤ 16) (h : FOk T B) (h' : FOk U C) (hN : dig b T B N ≠ dig b U C N) (he : ∀ j, j < N → dig b T B j = dig b U C j) (hp : decide (dig b T B N < dig b U C N) = p) :
    GivesB 20 #[.int .i64 b, .agg #[.int .i64 T, .int .i64 B], .agg #[.int .i64 U, .int .i64 C]] p := by
  intro w
  have t1 := h.told h3 h4
  have t2 := h'.told h3 h4
  have hT := h.lt; have hB := h.bot; have hU := h'.lt; have hC := h'.bot
  have X1 := Lib.hid (fun i wx => next_fr b T B i wx hT h.cop hB h3 h4)
  have X2 := Lib.hid (fun i wx => next_fr b U C i wx hU h'.cop hC h3 h4)
  have HO := Lib.hid (fun i (hi : i ≤ N) => fr_off h h' hi hN)
  have HN := Lib.hid hN; have HE := Lib.hid he; have HP := Lib.hid hp
  clear h h' hN he hp
  go_enter Try.func20, Try.ntmps20
  go_wp2_with fail
  refine (fracTold_any _ _ _ _).mono ?_
  rintro e w1 ⟨rfl, hb1⟩
  rw [t1]
  have x1 : Box2 w1 w.heap.size 24 (.int .i64 T) (.int .i64 B) := ((Box2.newAt rfl).alloc _).later hb1
  have y1 : Box2 w1 (w.heap.size + 1) 24 (.int .i64 U) (.int .i64 C) := (Box2.newAt (by simp)).later hb1
  have y0 := y1.cell0
  have y1' := y1.cell1
  have hb := bel2' hb1
  clear hb1
  go_wp2_with fail
  refine (fracTold_any _ _ _ _).mono ?_
  rintro e w2 ⟨rfl, hb2⟩
  rw [t2]
  have x2 := x1.later hb2
  have y2 := y1.later hb2
  have hbb := hb.trans (hb2.mono hb.size)
  clear hb2 hb t1 t2 x1 y1 y0 y1'
  go_wp2_with fail
  go_loopg [6] N (fun k s wr => ∃ i, i + k = N ∧ s = .bool false ∧ Box2 wr w.heap.size 24 (.int .i64 (frT b T B i).1) (.int .i64 (frT b T B i).2) ∧ Box2 wr (w.heap.size + 1) 24 (.int .i64 (frT b U C i).1) (.int .i64 (frT b U C i).2) ∧ Below w.heap.size w wr)
  case atStart => exact ⟨0, by omega, rfl, x2, y2, hbb⟩
  case round =>
    clear x2 y2 hbb
    obtain ⟨i, hi, rfl, x, y, hb⟩ := hrel
    have hO := HO.out i (by omega)
    have NX := Lib.hid (X1.out i); have NY := Lib.hid (X2.out i)
    obtain ⟨t1, ht1⟩ : ∃ t1, (frT b T B i).1 = t1 := ⟨_, rfl⟩
    obtain ⟨n1, hn1⟩ : ∃ n1, (frT b T B i).2 = n1 := ⟨_, rfl⟩
    obtain ⟨t2, ht2⟩ : ∃ t2, (frT b U C i).1 = t2 := ⟨_, rfl⟩
    obtain ⟨n2, hn2⟩ : ∃ n2, (frT b U C i).2 = n2 := ⟨_, rfl⟩
    rw [ht1, hn1] at x NX
    rw [ht2, hn2] at y NY
    have hor : t1 = t2 → ¬ n1 = n2 := fun e1 e2 => hO (Prod.ext (by rw [ht1, ht2, e1]) (by rw [hn1, hn2, e2]))
    have x0 := x.cell0; have x1 := x.cell1; have y0 := y.cell0; have y1 := y.cell1
    obtain ⟨dx, hdx⟩ : ∃ dx, dig b T B i = dx := ⟨_, rfl⟩
    obtain ⟨dy, hdy⟩ : ∃ dy, dig b U C i = dy := ⟨_, rfl⟩
    have hst := HE.out i
    have hend : i = N → dx ≠ dy ∧ decide (dx < dy) = p := fun e => by
      have h1 := HN.out; have h2 := HP.out
      rw [← e, hdx, hdy] at h1 h2
      exact ⟨h1, h2⟩
    rw [hdx, hdy] at hst
    rw [hdx] at NX
    rw [hdy] at NY
    have HF1 := Lib.hid (show (frT b T B (i + 1)).1 = (frT b T B (i + 1)).1 from rfl)
    obtain ⟨t3, ht3⟩ : ∃ t3, (frT b T B (i + 1)).1 = t3 := ⟨_, rfl⟩
    obtain ⟨n3, hn3⟩ : ∃ n3, (frT b T B (i + 1)).2 = n3 := ⟨_, rfl⟩
    obtain ⟨t4, ht4⟩ : ∃ t4, (frT b U C (i + 1)).1 = t4 := ⟨_, rfl⟩
    obtain ⟨n4, hn4⟩ : ∃ n4, (frT b U C (i + 1)).2 = n4 := ⟨_, rfl⟩
    rw [ht3, hn3] at NX
    rw [ht4, hn4] at NY
    have K3 := Lib.hid ht3; have K4 := Lib.hid hn3; have K5 := Lib.hid ht4; have K6 := Lib.hid hn4
    clear hO ht1 hn1 ht2 hn2 hdx hdy ht3 hn3 ht4 hn4 HF1
    by_cases h1 : t1 = t2
    case' pos => have e1 : ((t1 : Int) == (t2 : Int)) = true := by simp; omega
    case' pos => have e2 : ((n1 : Int) == (n2 : Int)) = false := by have := hor h1; simp; omega
    case' neg => have e1 : ((t1 : Int) == (t2 : Int)) = false := by simp; omega
    all_goals (
      clear hor h1
      go_wp2_with fail
      refine (NX.out _).mono ?_
      rintro e w3 ⟨rfl, hb3⟩
      have xa := (x.later hb3).alloc (.cells #[.int .i64 t3, .int .i64 n3] 24)
      have ya := (y.later hb3).alloc (.cells #[.int .i64 t3, .int .i64 n3] 24)
      have fa := Box2.new w3 24 (.int .i64 t3) (.int .i64 n3)
      have hb4 := (hb.trans (hb3.mono hb.size)).alloc (hb.trans (hb3.mono hb.size)).size (.cells #[.int .i64 t3, .int .i64 n3] 24)
      have l3 := (y.later hb3).lt
      clear x0 x1 y0 y1 x y hb hb3 e1
      have y0 := ya.cell0; have y1 := ya.cell1
      go_wp2_with fail
      refine (NY.out _).mono ?_
      rintro e w5 ⟨rfl, hb5⟩
      have xb := (xa.later hb5).alloc (.cells #[.int .i64 t4, .int .i64 n4] 24)
      have yb := (ya.later hb5).alloc (.cells #[.int .i64 t4, .int .i64 n4] 24)
      have fb := (fa.later hb5).alloc (.cells #[.int .i64 t4, .int .i64 n4] 24)
      have gb := Box2.new w5 24 (.int .i64 t4) (.int .i64 n4)
      have hb6 := (hb4.trans (hb5.mono hb4.size)).alloc (hb4.trans (hb5.mono hb4.size)).size (.cells #[.int .i64 t4, .int .i64 n4] 24)
      have l5 := (fa.later hb5).lt
      clear y0 y1 xa ya fa hb4 hb5 NX NY
      by_cases hiN : i = N
      · obtain ⟨h5, h6⟩ := hend hiN
        have j1 : ((dx : Int) == (dy : Int)) = false := by simp; omega
        cases p with
        | true =>
          have j2 : (dx : Int) < (dy : Int) := by have := of_decide_eq_true h6; omega
          go_wp2_with fail
          go_ret
          exact ⟨rfl, hb6⟩
        | false =>
          have j2 : ¬ (dx : Int) < (dy : Int) := by have := of_decide_eq_false h6; omega
          go_wp2_with fail
          go_ret
          exact ⟨rfl, hb6⟩
      · have h5 := hst (by omega)
        subst h5
        clear hst hend
        go_wp2_with fail
        revert xb yb fb gb hb6
        generalize w5.alloc (.cells #[.int .i64 t4, .int .i64 n4] 24) = w6
        intro xb yb fb gb hb6
        have xD : Box2 w6.drew w.heap.size 24 _ _ := xb
        have yD : Box2 w6.drew (w.heap.size + 1) 24 _ _ := yb
        have fD : Box2 w6.drew w3.heap.size 24 _ _ := fb
        have gD : Box2 w6.drew w5.heap.size 24 _ _ := gb
        have k0 := xD.cell0; have k1 := xD.cell1; have k2 := yD.cell0; have k3 := yD.cell1; have k4 := fD.cell0; have k5 := fD.cell1; have k6 := gD.cell0; have k7 := gD.cell1
        have m0 := xD.frozen0; have m1 := xD.frozen1; have m2 := yD.frozen0; have m3 := yD.frozen1
        have r0 := xb.cell0; have r1 := xb.cell1; have r2 := yb.cell0; have r3 := yb.cell1; have r4 := fb.cell0; have r5 := fb.cell1; have r6 := gb.cell0; have r7 := gb.cell1
        have s0 := xb.frozen0; have s1 := xb.frozen1; have s2 := yb.frozen0; have s3 := yb.frozen1
        have v1 : ¬ w3.heap.size = w.heap.size := by omega
        have v2 : ¬ w3.heap.size = w.heap.size + 1 := by omega
        have v3 : ¬ w5.heap.size = w.heap.size := by omega
        have v4 : ¬ w5.heap.size = w.heap.size + 1 := by omega
        have v5 : ¬ w.heap.size = w3.heap.size := by omega
        have v6 : ¬ w.heap.size + 1 = w3.heap.size := by omega
        have v7 : ¬ w.heap.size = w5.heap.size := by omega
        have v8 : ¬ w.heap.size + 1 = w5.heap.size := by omega
        go_region
        all_goals (
          go_wp2
          go_roundg (N - (i + 1))
          case measure => omega
          case rel =>
            refine ⟨i + 1, by omega, rfl, ?_, ?_, ?_⟩
            · rw [K3.out, K4.out]
              exact ((xb.set (.int .i64 t3) (.int .i64 n3)).other (B' := w.heap.size + 1) (o := 0) (by omega) (.int .i64 t4)).other (B' := w.heap.size + 1) (o := 1) (by omega) (.int .i64 n4)
            · rw [K5.out, K6.out]
              exact ((yb.other (B' := w.heap.size) (o := 0) (by omega) (.int .i64 t3)).other (B' := w.heap.size) (o := 1) (by omega) (.int .i64 n3)).set (.int .i64 t4) (.int .i64 n4)
            · exact (((hb6.drew.setCell (p := ⟨w.heap.size, 0, none⟩) (Nat.le_refl _) _).setCell (p := ⟨w.heap.size, 1, none⟩) (Nat.le_refl _) _).setCell (p := ⟨w.heap.size + 1, 0, none⟩) (Nat.le_succ _) _).setCell (p := ⟨w.heap.size + 1, 1, none⟩) (Nat.le_succ _) _))

theorem imSumLess : ImSumLess := ⟨implSumLess_no, fun b T B U C h3 h4 h h' => by
  by_cases e : T * C = U * B
  · obtain ⟨rfl, rfl⟩ := frac_same h h' e
    rw [decide_eq_false (Nat.lt_irrefl _)]
    exact implSumLess_same b T B h3 h4 h
  · obtain ⟨N, h5, h6, h7⟩ := place_some h3 h h' e
    exact implSumLess_off b T B U C N _ h3 h4 h h' h5 h6 (by rw [decide_eq_decide]; exact h7.symm)⟩

end Go.Proofs.Ytoiofkijinlllaa
