/-
  Parts of rounds: the model's list of parts.
-/
import Derived.Test.YtehpgcgdcoahnacDoorPartS
import Derived.Test.YtehpgcgdcoahnacDoorStepA
import Derived.Deep.RegionLaw
import Derived.BigRegion
namespace Go.Proofs.YtehpgcgdcoahnacDoor
open Go.RowKit

set_option maxHeartbeats 1000000 in
theorem specPartList_no (b t n k : Int) (h : NoPrt b t n k) : GivesSR 19 #[.int .i64 b, .agg #[.int .i64 t, .int .i64 n], .int .i64 k] [] false := by
  intro w
  go_enter Tryd.func19, Tryd.ntmps19
  go_wp2_with fail
  refine (l4Given_no b t n k _ h).mono ?_
  rintro e w1 ⟨rfl, hb1⟩
  have h0 : RowSS w.heap.size ((w.alloc (.cells #[.int .i64 t, .int .i64 n] 30)).alloc (.cells #[] 22)) (.slice (some ⟨w.heap.size + 1, 0, none⟩) 0 0) [] := by
    have := RowSS.zero w.heap.size (w.alloc (.cells #[.int .i64 t, .int .i64 n] 30)) (by simp)
    simpa using this
  have hb0 : Below w.heap.size w ((w.alloc (.cells #[.int .i64 t, .int .i64 n] 30)).alloc (.cells #[] 22)) := ((Below.refl _ _).alloc (Nat.le_refl _) _).alloc (by simp) _
  have h1 := h0.later hb1
  have hb := hb0.trans (hb1.mono hb0.size)
  go_wp2_with fail
  go_ret2
  exact ⟨_, rfl, h1.toR, hb⟩

theorem owns_one {n₀ k : Nat} {W : World} {T : TypeId} {v : Value} {xs : List Value} (h : W.ownsRow n₀ T 1 v k xs) : ∀ u ∈ [v], u.oneCell' = true := by
  intro u hu
  rcases List.mem_singleton.1 hu with rfl
  rcases h.2 with ⟨rfl, _⟩ | ⟨g, cap, cur, rfl, _⟩ <;> simp [Value.oneCell']

theorem cut_get {xs : List Int} {lo n : Nat} : ∀ (j : Nat) (v : Int), ((xs.drop lo).take n)[j]? = some v → xs[lo + j]? = some v := by
  intro j v hj
  rw [List.getElem?_take] at hj
  split at hj
  · rw [List.getElem?_drop] at hj; exact hj
  · cases hj

theorem infoRowP : (Tryd.prog.info? 22).map (fun i => (i.zero, i.size, i.bytes)) = some (some (.slice none 0 0), 1, 24) := by kernel_rfl

theorem Prt.frame {b T B k m : Nat} (h : Prt b T B k m) {p : Nat} (hp : p < k) : ∃ lo hi : Nat, lo = p * (m / k) ∧ hi = (p + 1) * (m / k) ∧ lo < hi ∧ hi ≤ m ∧ hi - lo = m / k ∧ ((p : Int) * m) / k = lo ∧ (((p : Int) + 1) * m) / k = hi := by
  have h1 := h.place_lt hp
  have h2 := h.place (i := p)
  have h3 := h.place (i := p + 1)
  have h4 := h.div.2.1
  have h5 : (p + 1) * (m / k) = p * (m / k) + m / k := Nat.succ_mul _ _
  refine ⟨_, _, rfl, rfl, by omega, h1.2, by omega, h2, ?_⟩
  rw [← h3]; rfl

set_option maxRecDepth 100000 in
set_option maxHeartbeats 4000000 in
theorem specPartList_yes (b T B k m : Nat) (h : Prt b T B k m) : GivesSR 19 #[.int .i64 b, .agg #[.int .i64 T, .int .i64 B], .int .i64 k] (ptsL b T B k (m / k)) true := by
  intro w
  obtain ⟨i0, hi, hz0, hz1, hz2⟩ := info_parts infoInt
  obtain ⟨j0, hj, hy0, hy1, hy2⟩ := info_parts infoRowP
  have hm : ¬ m = 0 := by have := h.len.pos; omega
  have h3 := h.b2; have h4 := h.b16; have hT := h.lt; have hB := h.bot
  obtain ⟨hd1, hd2, hd3, hd4, hd5⟩ := h.div
  have hk0 : ¬ k = 0 := by have := h.k1; omega
  have HP := Lib.hid h
  clear h hd1
  go_enter Tryd.func19, Tryd.ntmps19
  go_wp2_with fail
  refine (l4Given_yes b T B k m _ HP.out).mono ?_
  rintro e w1 ⟨rfl, hb1⟩
  have h0 : RowSS w.heap.size ((w.alloc (.cells #[.int .i64 T, .int .i64 B] 30)).alloc (.cells #[] 22)) (.slice (some ⟨w.heap.size + 1, 0, none⟩) 0 0) [] := by
    have := RowSS.zero w.heap.size (w.alloc (.cells #[.int .i64 T, .int .i64 B] 30)) (by simp)
    simpa using this
  have hb0 : Below w.heap.size w ((w.alloc (.cells #[.int .i64 T, .int .i64 B] 30)).alloc (.cells #[] 22)) := ((Below.refl _ _).alloc (Nat.le_refl _) _).alloc (by simp) _
  have q1 := ((Box2.newAt (W := w) (T := 30) (x := .int .i64 T) (y := .int .i64 B) rfl).alloc (.cells #[] 22)).later hb1
  have k0 := q1.cell0
  have k1 := q1.cell1
  have h1 := h0.later hb1
  have hb := hb0.trans (hb1.mono hb0.size)
  clear h0 hb0 hb1
  go_wp2_with fail
  refine (l1Round_any b T B _ hT hB h3 h4).mono ?_
  rintro e w2 ⟨v, n', m', hm', rfl, hv, hb2⟩
  obtain ⟨rfl, rfl⟩ := HP.out.len.unique hm'
  have hl := rndL_len b T B 0 m
  obtain ⟨g, off, cap, rfl, _, hg, hc1, hc2⟩ := slc_some hv (by rw [hl]; omega)
  rw [hl] at hv hc1 ⊢
  rw [rndL_zero] at hv
  have hbb := hb.trans (hb2.mono hb.size)
  have h2 := h1.later hb2
  clear hb2 hb hm' k0 k1 q1 hl h1
  have HL := Lib.hid (digL_len b T B m)
  go_wp2_with fail
  go_loopw [8, 11] (fun u i wr => ∃ p : Nat, p ≤ k ∧ i = .int .i64 p ∧ RowSS w.heap.size wr u (ptsL b T B p (m / k)) ∧ Slc w1.heap.size wr (.slice (some ⟨g, off, none⟩) m cap) (digL b T B m) ∧ Below w.heap.size w wr) (fun _ i _ => k - (intOf i).toNat)
  case atStart => exact ⟨0, Nat.zero_le _, rfl, h2, hv, hbb⟩
  case round =>
    clear h2 hbb hv
    obtain ⟨p, hp, rfl, hrow, hv, hbb⟩ := hrel
    by_cases hlt : p < k
    · obtain ⟨lo, hi', e1, e2, hlh, him, hdj, hq1, hq2⟩ := HP.out.frame hlt
      obtain ⟨vs, hvl, hV, hA⟩ := hrow
      have hfar := hV.far
      have i1 : (p : Int) < k := by omega
      have hpm0 : 0 ≤ (p : Int) * m := Int.mul_nonneg (by omega) (by omega)
      have hpm1 : (p : Int) * m ≤ 1000 * 1000 := Int.mul_le_mul (by omega) (by omega) (by omega) (by omega)
      have hpn0 : 0 ≤ ((p : Int) + 1) * m := Int.mul_nonneg (by omega) (by omega)
      have hpn1 : ((p : Int) + 1) * m ≤ 1000 * 1000 := Int.mul_le_mul (by omega) (by omega) (by omega) (by omega)
      have a1 : IntKind.i64.wrap ((p : Int) * m) = (p : Int) * m := IntWalk.i64_in _ (by omega)
      have a2 : IntKind.i64.wrap ((p : Int) + 1) = (p : Int) + 1 := IntWalk.i64_in _ (by omega)
      have a3 : IntKind.i64.wrap (((p : Int) + 1) * m) = ((p : Int) + 1) * m := IntWalk.i64_in _ (by omega)
      have a4 : IntKind.i64.wrap (lo : Int) = lo := IntWalk.i64_in _ (by omega)
      have a5 : IntKind.i64.wrap (hi' : Int) = hi' := IntWalk.i64_in _ (by omega)
      have t1 : IntKind.i64.wrap (((p : Int) * m).tdiv k) = lo := by rw [Int.tdiv_eq_ediv_of_nonneg hpm0, hq1]; exact a4
      have t2 : IntKind.i64.wrap ((((p : Int) + 1) * m).tdiv k) = hi' := by rw [Int.tdiv_eq_ediv_of_nonneg hpn0, hq2]; exact a5
      have E1 := Lib.hid e1; have E2 := Lib.hid e2; have E3 := Lib.hid hdj
      clear e1 e2 hdj
      have b1 : (0 : Int) ≤ (lo : Int) := by omega
      have b5 : (lo : Int) ≤ max (hi' : Int) 0 := by omega
      have b6 : (0 : Int) ≤ (hi' : Int) := by omega
      have b2 : (lo : Int) ≤ (hi' : Int) := by omega
      have b3 : (hi' : Int) ≤ (cap : Int) := by omega
      have b4 : ¬ cap = lo := by omega
      have hown0 : (wr.alloc (.cells #[] 3)).drew.ownsRow wr.heap.size 3 1 (.slice (some ⟨wr.heap.size, 0, none⟩) 0 0) 0 [] :=
        World.ownsRow.drew (World.ownsRow_made wr #[] 0 (Nat.le_refl _) (by simp) (by simp))
      have hbr0 : Below wr.heap.size wr (wr.alloc (.cells #[] 3)).drew := ((Below.refl _ _).alloc (Nat.le_refl _) _).drew
      have hpl : ((digL b T B m).drop lo).take (hi' - lo) = ptL b T B (m / k) p := by
        have := ptL_cut b T B (m / k) p m (by rw [← E2.out]; exact him)
        rw [← E1.out, ← E3.out] at this
        rw [this]; rw [E3.out]
      have HPL := Lib.hid hpl
      clear hpl
      have hn1 := slc_news HL.out hv hbr0 (((digL b T B m).drop lo).take (hi' - lo)) lo cut_get
      have hl1 : ((((digL b T B m).drop lo).take (hi' - lo)).map (Value.int .i64)).length = (hi' - lo) * 1 := by simp [HL.out]; omega
      have ho1 : ∀ u ∈ (((digL b T B m).drop lo).take (hi' - lo)).map (Value.int .i64), u.oneCell' = true := by
        intro u hu; obtain ⟨x, _, rfl⟩ := List.mem_map.1 hu; simp [Value.oneCell']
      have hmx : hi' - lo ≤ 1000 := by omega
      go_wp2_with fail
      go_region_law? (first
        | ((refine step_append_own _ (by rfl) _ _ _ (by rfl) wr.heap.size 3 i0 (.int .i64 0) 1 8 Tryd.underlying22 hi hz0 hz1 hz2 rfl (by omega) (.slice (some ⟨wr.heap.size, 0, none⟩) 0 0) 0 [] (by rfl) hown0 ⟨g, off + lo, none⟩ (hi' - lo) (cap - lo) ((((digL b T B m).drop lo).take (hi' - lo)).map (Value.int .i64)) (by rfl) hl1 hn1 ho1 (by simp [maxLen]; omega) (by omega) (by simp) ?_; intro v1 w5 hown1 hgrow1; rw [Nat.zero_add] at hown1; obtain ⟨a1, c1, rfl⟩ := row_form hown1))
        | ((have hbr5 := Below.grown hbr0 hgrow1 hbr0.size (fun r e => by cases e; exact Nat.le_refl _); have hV5 := hV.later hbr5; refine step_append_own _ (by rfl) _ _ _ (by rfl) w.heap.size 22 j0 (.slice none 0 0) 1 24 Tryd.underlying38 hj hy0 hy1 hy2 rfl (by omega) u8 _ _ (by rfl) (hV5.1.alloc _) ⟨w5.heap.size, 0, none⟩ 1 1 [.slice a1 (hi' - lo) c1] (by rfl) (by rfl) (cell_one_new _ _ _) (owns_one hown1) (by rw [ptsL_len]; unfold maxLen; omega) (by rw [ptsL_len]; omega) (by have := hbr5.size; have := hbb.size; simp; omega) ?_; intro v2 w6 hown2 hgrow2)))
      have hbr5 := Below.grown hbr0 hgrow1 hbr0.size (fun r e => by cases e; exact Nat.le_refl _)
      have hV5 := hV.later hbr5
      have hS5 : Slc wr.heap.size w5 (.slice a1 (hi' - lo) c1) (ptL b T B (m / k) p) := by
        have hlp := ptL_len b T B (m / k) p
        rw [← HPL.out] at hlp ⊢
        refine Slc.of_owns ?_
        rw [hlp, ← E3.out]
        simpa using hown1
      have hL6 := RowSS.append hvl hV5 hA hS5 hbb.size hfar hgrow2 (by simpa using hown2)
      rw [← ptsL_succ] at hL6
      have hb5w := hbb.trans (hbr5.mono hbb.size)
      have hB6 := (hb5w.alloc hb5w.size (.cells #[.slice a1 (hi' - lo) c1] 22)).grown hgrow2 (by have := hb5w.size; simp; omega) (fun q e => (row_ge3 hV5.1 e).1)
      have hv6 := ((hv.later hbr5).later ((Below.refl _ _).alloc (Nat.le_refl _) (.cells #[.slice a1 (hi' - lo) c1] 22))).kept hgrow2 (fun g' e1 e2 => slc_not_row (hv.later hbr5) hV5.1 g' e1 e2)
      clear hown1 hgrow1 hown2 hgrow2 hV5 hS5 hbr5 hb5w hV hA hfar hv
      go_wp2_with fail
      go_roundw
      case rel => exact ⟨p + 1, by omega, by go_num, hL6, hv6, hB6⟩
      case measure => simp [intOf]; omega
    · obtain rfl : p = k := by omega
      have i1 : ¬ (p : Int) < p := by omega
      go_wp2_with fail
      go_ret2
      exact ⟨_, rfl, hrow.toR, hbb⟩

end Go.Proofs.YtehpgcgdcoahnacDoor
