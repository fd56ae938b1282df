/-
  Chapter 4, the program's side: the digits of the sum of parts.
-/
import Derived.Test.YtehpgcgdcoahnabPartX
import Derived.Test.YtehpgcgdcoahnabPartU
namespace Go.Proofs.Ytehpgcgdcoahnab
open Go.RowKit

/-- A list turned about from both ends, p of them. -/
structure Rvd (xs ys : List Int) (p : Nat) : Prop where
  len : ys.length = xs.length
  out : ∀ q, q < xs.length → (q < p ∨ xs.length ≤ q + p) → ys[q]?.getD 0 = xs[xs.length - 1 - q]?.getD 0
  mid : ∀ q, q < xs.length → ¬ (q < p ∨ xs.length ≤ q + p) → ys[q]?.getD 0 = xs[q]?.getD 0

theorem Rvd.zero (xs : List Int) : Rvd xs xs 0 := ⟨rfl, fun q hq h => by omega, fun _ _ _ => rfl⟩

theorem Rvd.step {xs ys : List Int} {p : Nat} (h : Rvd xs ys p) (hp : p + p + 1 < xs.length) : Rvd xs ((ys.set p (ys[xs.length - 1 - p]?.getD 0)).set (xs.length - 1 - p) (ys[p]?.getD 0)) (p + 1) := by
  have hl := h.len
  have e1 := h.mid p (by omega) (by omega)
  have e2 := h.mid (xs.length - 1 - p) (by omega) (by omega)
  refine ⟨by simp [hl], fun q hq hc => ?_, fun q hq hc => ?_⟩
  · rw [List.getElem?_set]
    by_cases h1 : xs.length - 1 - p = q
    · subst h1
      rw [if_pos rfl, if_pos (by simp; omega)]
      rw [e1, show xs.length - 1 - (xs.length - 1 - p) = p by omega]
      rfl
    · rw [if_neg h1, List.getElem?_set]
      by_cases h2 : p = q
      · subst h2
        rw [if_pos rfl, if_pos (by omega), e2]
        rfl
      · rw [if_neg h2]
        exact h.out q hq (by omega)
  · rw [List.getElem?_set_ne (by omega), List.getElem?_set_ne (by omega)]
    exact h.mid q hq (by omega)

theorem Rvd.all {xs ys : List Int} {p : Nat} (h : Rvd xs ys p) (hp : ¬ p + p + 1 < xs.length) : ys = xs.reverse := by
  refine List.ext_getElem? fun q => ?_
  rcases Nat.lt_or_ge q xs.length with hq | hq
  · have hv : ys[q]?.getD 0 = xs[xs.length - 1 - q]?.getD 0 := by
      by_cases hc : q < p ∨ xs.length ≤ q + p
      · exact h.out q hq hc
      · rw [h.mid q hq hc]
        rw [show xs.length - 1 - q = q by omega]
    rw [List.getElem?_reverse hq]
    have hl := h.len
    rw [List.getElem?_eq_getElem (by omega), List.getElem?_eq_getElem (by omega)] at hv ⊢
    simpa using hv
  · rw [List.getElem?_eq_none (by rw [h.len]; exact hq), List.getElem?_eq_none (by simpa using hq)]

set_option maxHeartbeats 1000000 in
theorem reverse_any (n₀ : Nat) (v : Value) (xs : List Int) (w : World) (hv : Slc n₀ w v xs) (hx : xs.length ≤ 10000) (h0 : 0 < xs.length) :
    Calls Try.prog 48 #[v] w fun e w' => e = .returned (.tuple #[]) ∧ Slc n₀ w' v xs.reverse ∧ w.grownBy w' v.ownBlock := by
  obtain ⟨g, off, cap, rfl, hg1, hg2, hc1, hc2⟩ := slc_some hv h0
  obtain ⟨n, hn⟩ : ∃ n, xs.length = n := ⟨_, rfl⟩
  rw [hn] at hv hx h0 hc1 ⊢
  have HN := Lib.hid hn; clear hn
  have hr0 := Rvd.zero xs
  go_enter Try.func48, Try.ntmps48
  go_wp2_with fail
  go_loopw [2, 3] (fun i i' wr => ∃ (p : Nat) (ys : List Int), p ≤ n ∧ i = .int .i64 p ∧ i' = .int .i64 ((n : Int) - 1 - p) ∧ Hid (Rvd xs ys p) ∧ Slc n₀ wr (.slice (some ⟨g, off, none⟩) n cap) ys ∧ w.grownBy wr (some g)) (fun i _ _ => n - (intOf i).toNat)
  case atStart => exact ⟨0, xs, Nat.zero_le _, rfl, by simp, hr0, hv, ⟨rfl, rfl, rfl, Nat.le_refl _, fun _ _ _ => rfl⟩⟩
  case round =>
    clear hr0 hv
    obtain ⟨p, ys, hp, rfl, rfl, hr, hs, hgr⟩ := hrel
    by_cases hlt : p + p + 1 < n
    · obtain ⟨q, hq⟩ : ∃ q, q + 1 + p = n := ⟨n - 1 - p, by omega⟩
      have eq : (n : Int) - 1 - p = q := by omega
      rw [eq]
      clear eq
      have hyl : ys.length = n := hr.out.len.trans HN.out
      have HY := Lib.hid hyl; clear hyl
      have kc1 := Slc.cell HY.out hs p (by omega)
      have kc2 := Slc.cell HY.out hs q (by omega)
      have kf1 := hs.frozen (off + p)
      have kf2 := hs.frozen (off + q)
      have i1 : (p : Int) < (q : Int) := by omega
      have i2 : (q : Int) < (n : Int) := by omega
      have i3 : (p : Int) < (n : Int) := by omega
      have i4 : (0 : Int) ≤ (p : Int) := by omega
      have i5 : (0 : Int) ≤ (q : Int) := by omega
      have i6 : ¬ off + q = off + p := by omega
      have i7 : ¬ off + p = off + q := by omega
      have hd : (⟨g, off + p, none⟩ : Addr) ≠ ⟨g, off + q, none⟩ := fun e => i7 (congrArg Addr.off e)
      have hd' : (⟨g, off + q, none⟩ : Addr) ≠ ⟨g, off + p, none⟩ := fun e => i6 (congrArg Addr.off e)
      go_wp2_with fail
      go_region
      have hs1 := Slc.set HY.out hs p (ys[q]?.getD 0) (by omega)
      have hs2 := Slc.set (by rw [List.length_set]; exact HY.out) hs1 q (ys[p]?.getD 0) (by omega)
      have hs3 := hs2.later ((Below.refl _ _).drew)
      have hgr3 : w.grownBy ((wr.setCell ⟨g, off + p, none⟩ (.int .i64 (ys[q]?.getD 0))).setCell ⟨g, off + q, none⟩ (.int .i64 (ys[p]?.getD 0))).drew (some g) := by
        refine ⟨hgr.os, hgr.tape, hgr.output, by simpa using hgr.size, fun k hk hne => ?_⟩
        show ((wr.setCell _ _).setCell _ _).heap[k]? = _
        rw [Below.heap_setCell _ ⟨g, off + q, none⟩ _ k (fun e => hne (by rw [e])), Below.heap_setCell _ ⟨g, off + p, none⟩ _ k (fun e => hne (by rw [e]))]
        exact hgr.block k hk hne
      have hr3 : Hid (Rvd xs ((ys.set p (ys[q]?.getD 0)).set q (ys[p]?.getD 0)) (p + 1)) := by
        have h1 := hr.out.step (by rw [HN.out]; exact hlt)
        rw [HN.out, show n - 1 - p = q by omega] at h1
        exact h1
      clear hs1 hs2 hs hgr kc1 kc2 kf1 kf2
      go_wp2_with fail
      go_roundw
      case rel => exact ⟨p + 1, _, by omega, by go_num, by go_num, hr3, hs3, hgr3⟩
      case measure => simp [intOf]; omega
    · have hall := hr.out.all (by rw [HN.out]; exact hlt)
      have i1 : ¬ (p : Int) < (n : Int) - 1 - p := by omega
      subst hall
      go_wp2_with fail
      go_end0
      exact ⟨rfl, hs, hgr⟩

set_option maxRecDepth 100000 in
set_option maxHeartbeats 2000000 in
/-- The digits of the sum of the parts. -/
theorem sumDigits_any (n₀ b T B k m : Nat) (v : Value) (w : World) (h : Prt b T B k m) (hv : RowSR n₀ w v (ptsL b T B k (m / k))) :
    Calls Try.prog 30 #[.int .i64 b, v] w fun e w' => ∃ u, e = .returned u ∧ ∃ L : List Int, L.length ≤ 3000 ∧ IsDgs b (ptS b T B k (m / k)) L ∧ Slc w.heap.size w' u L ∧ Below w.heap.size w w' := by
  obtain ⟨i0, hi, hz0, hz1, hz2⟩ := info_parts infoInt
  have h3 := h.b2; have h4 := h.b16; have hT := h.lt; have hB := h.bot
  obtain ⟨hd1, hd2, hd3, hd4, hd5⟩ := h.div
  have hk1 := h.k1
  have hjm : m / k ≤ m := Nat.div_le_self _ _
  have hspos := h.sum_pos
  have hcol := fun c => colS_le (b := b) (T := T) (B := B) (k := k) (j := m / k) (c := c) hT (by omega)
  clear h hd1
  obtain ⟨j, hj⟩ : ∃ j, m / k = j := ⟨_, rfl⟩
  rw [hj] at hd2 hjm hspos hcol hv ⊢
  clear hj
  have hb0 : ¬ b = 0 := by omega
  have HC := Lib.hid hcol; have HS := Lib.hid hspos
  clear hcol hspos
  obtain ⟨gp, cp, rfl, hP⟩ := pcells_of hv.s0 (by omega) hd2
  clear hv
  obtain ⟨g0, o0, c0, hc0, _⟩ := hP 0 (by omega)
  have hgp : gp < w.heap.size := by have := cell_lt hc0; simpa using this
  have hc0' : (w.alloc (.cells #[] 3)).cell? ⟨gp, 0, none⟩ = some (.slice (some ⟨g0, o0, none⟩) j c0) := by
    rw [World.cell?_alloc_lt _ _ ⟨gp, 0, none⟩ hgp]; exact hc0
  have hkI : (0 : Int) < (k : Int) := by omega
  have HPC := Lib.hid hP
  clear hP hc0
  go_enter Try.func30, Try.ntmps30
  go_wp2_with fail
  have hbA : Below w.heap.size w (w.alloc (.cells #[] 3)) := (Below.refl _ _).alloc (Nat.le_refl _) _
  have hOA : (w.alloc (.cells #[] 3)).ownsRow w.heap.size 3 1 (.slice (some ⟨w.heap.size, 0, none⟩) 0 0) 0 (([] : List Int).reverse.map (Value.int .i64)) :=
    World.ownsRow_made (base := w.heap.size) (e := 3) (size := 1) w #[] 0 (Nat.le_refl _) (by simp) (by simp)
  clear hc0' hkI
  go_loopw [5, 6, 7] (fun u c' i' wr => ∃ (d c : Nat) (L : List Int), d ≤ j ∧ L.length = d ∧ i' = .int .i64 ((j : Int) - 1 - d) ∧ c' = .int .i64 c ∧ c ≤ k ∧ wr.ownsRow w.heap.size 3 1 u d (L.reverse.map (Value.int .i64)) ∧
      Hid (colV b T B k j (j - d) d = (c : Int) * (b : Int) ^ d + hor b L) ∧ Hid (∀ x ∈ L, 0 ≤ x ∧ x < (b : Int)) ∧ Below w.heap.size w wr) (fun _ _ i' _ => (intOf i' + 1).toNat)
  case atStart =>
    refine ⟨0, 0, [], Nat.zero_le _, rfl, by simp, rfl, Nat.zero_le _, hOA, ?_, fun x hx => by simp at hx, hbA⟩
    show colV b T B k j (j - 0) 0 = _
    simp [colV, hor]
  case round =>
    clear hbA hOA
    obtain ⟨d, c, L, hdj, hLd, rfl, rfl, hck, hO, hV, hD, hb⟩ := hrel
    by_cases hlt : d < j
    · obtain ⟨ii, hii⟩ : ∃ ii, ii + 1 + d = j := ⟨j - 1 - d, by omega⟩
      have eii : (j : Int) - 1 - d = ii := by omega
      rw [eii]
      have hiij : (ii : Int) < (j : Int) := by omega
      have HI := Lib.hid hii
      clear hii eii
      have hP := HPC.out.later hb
      go_wp2_with fail
      go_loop [6, 22] (fun c' p' => ∃ q : Nat, q ≤ k ∧ p' = .int .i64 q ∧ c' = .int .i64 ((c : Int) + (sumN (fun p => dig b T B (p * j + ii)) q : Nat))) (fun _ p' => k - (intOf p').toNat)
      case atStart => exact ⟨0, Nat.zero_le _, rfl, by simp [sumN]⟩
      case round =>
        obtain ⟨q, hq, rfl, rfl⟩ := hrel
        by_cases hqk : q < k
        · obtain ⟨g, o, c1, hc1, hc2⟩ := hP q hqk
          have hc3 : wr.cell? ⟨g, o + ii, none⟩ = some (.int .i64 (dig b T B (q * j + ii) : Nat)) := hc2 ii (by have := HI.out; omega)
          have q1 : (q : Int) < k := by omega
          have hdl := dig_lt (b := b) hT (q * j + ii) (by omega)
          have hsl : sumN (fun p => dig b T B (p * j + ii)) q ≤ q * (b - 1) := sumN_le q fun p _ => by have := dig_lt (b := b) hT (p * j + ii) (by omega); omega
          have hql : q * (b - 1) ≤ 1000 * 15 := Nat.mul_le_mul (by omega) (by omega)
          have HS1 : Hid (((sumN (fun p => dig b T B (p * j + ii)) (q + 1) : Nat) : Int) = (sumN (fun p => dig b T B (p * j + ii)) q : Nat) + (dig b T B (q * j + ii) : Nat)) := by
            show ((sumN (fun p => dig b T B (p * j + ii)) q + dig b T B (q * j + ii) : Nat) : Int) = _
            omega
          clear hc2
          revert hc3 hdl hsl HS1
          generalize dig b T B (q * j + ii) = x
          generalize sumN (fun p => dig b T B (p * j + ii)) q = s
          intro hc3 hdl hsl HS1
          go_wp2_with fail
          exact ⟨⟨q + 1, by omega, rfl, by rw [HS1.out, Int.add_assoc]⟩, by simp [intOf]; omega⟩
        · obtain rfl : q = k := by omega
          have q1 : ¬ (q : Int) < q := by omega
          have hC := col_bound (j := j) hck (HC.out ii) h3
          have hqb : q * b ≤ 1000 * 16 := Nat.mul_le_mul (by omega) (by omega)
          have hV2 := col_step hV.out HI.out
          have ec : (c : Int) + (sumN (fun p => dig b T B (p * j + ii)) q : Nat) = ((c + colS b T B q j ii : Nat) : Int) := by
            show (c : Int) + (colS b T B q j ii : Nat) = _
            omega
          rw [ec]
          revert hV2 hC
          clear ec hV
          generalize c + colS b T B q j ii = C
          intro hC hV2
          have hCd : C / b ≤ q := Nat.div_le_of_le_mul (by rw [Nat.mul_comm]; exact hC)
          have hHS := hor_step (b := b) (c := (C : Int)) (L := L) (S := colV b T B q j ii (d + 1)) (by rw [hLd]; exact hV2)
          have hCm : C % b < b := Nat.mod_lt _ (by omega)
          have hq1 : (C : Int) / (b : Int) ≤ 1000 := by have : ((C / b : Nat) : Int) ≤ 1000 := by omega
                                                        exact this
          have hq0 : (0 : Int) ≤ (C : Int) / (b : Int) := Int.ediv_nonneg (by omega) (by omega)
          have HH := Lib.hid hHS
          have hN := hb.size
          have HO := Lib.hid hO
          clear hHS hV2 hO hP
          go_wp2_with (at_builtin; refine wpList_append_own_at _ rfl _ _ 31 rfl w.heap.size 3 i0 (.int .i64 0) 1 8 Try.underlying31 hi hz0 hz1 hz2 rfl (by decide) _ _ _ rfl (HO.out.alloc _) ⟨wr.heap.size, 0, none⟩ 1 1 [.int .i64 ((C : Int) % b)] rfl rfl (cell_one_new _ _ _) ?c2 ?c3 ?c4 ?c5 ?_)
          case c2 => simp [Value.oneCell']
          case c3 => unfold maxLen; omega
          case c4 => omega
          case c5 => (try simp); omega
          intro v' w3 hown' hgrow _ _
          have hB3 := (hb.alloc hb.size (.cells #[.int .i64 ((C : Int) % b)] 3)).grown hgrow (by simp; omega) (fun q e => (row_ge3 HO.out e).1)
          have hO3 : Hid (w3.ownsRow w.heap.size 3 1 v' (d + 1) ((((C : Int) % b) :: L).reverse.map (Value.int .i64))) := by
            show w3.ownsRow _ _ _ _ _ _
            simpa using hown'
          clear hown' hgrow HO hb
          go_wp2_with fail
          refine ⟨⟨d + 1, C / b, _, by omega, by rw [List.length_cons, hLd], ?_, by simp, hCd, hO3.out, ?_, ?_, hB3⟩, by simp [intOf] <;> omega⟩
          · show Value.int .i64 _ = Value.int .i64 _
            have := HI.out
            congr 1
            omega
          · have h5 := HH.out
            have h6 := HI.out
            rw [List.length_cons, hLd] at h5
            rw [show j - (d + 1) = ii by omega, ← h5]
            rfl
          · intro x hx
            rcases List.mem_cons.1 hx with rfl | hx
            · omega
            · exact hD.out x hx
    · obtain rfl : d = j := by omega
      have hneg : ¬ ((d : Int) - 1 - d) ≥ 0 := by omega
      rw [Nat.sub_self, ← hLd] at hV
      have HV := Lib.hid (show (c : Int) * (b : Int) ^ L.length + hor b L = ptS b T B k d from hV.out.symm.trans (by rw [hLd]; rfl))
      clear hV
      have hcL : L.length + c ≤ 2000 := by omega
      have HL := Lib.hid (show wr.ownsRow w.heap.size 3 1 u5 L.length (L.reverse.map (Value.int .i64)) by rw [hLd]; exact hO)
      have hL1 : 1 ≤ L.length := by omega
      clear hO
      go_wp2_with fail
      clear hck hneg hd2 hdj hlt HC
      go_loopw [5, 6] (fun u c' wr => ∃ (c : Nat) (L : List Int), c' = .int .i64 c ∧ L.length + c ≤ 2000 ∧ 1 ≤ L.length ∧ Hid (wr.ownsRow w.heap.size 3 1 u L.length (L.reverse.map (Value.int .i64))) ∧ Hid ((c : Int) * (b : Int) ^ L.length + hor b L = ptS b T B k d) ∧ Hid (∀ x ∈ L, 0 ≤ x ∧ x < (b : Int)) ∧ Below w.heap.size w wr) (fun _ c' _ => (intOf c').toNat)
      case atStart => exact ⟨c, L, rfl, hcL, hL1, HL, HV, hD, hb⟩
      case round =>
        clear HL HV hD hb hLd hcL hL1
        obtain ⟨c, L, rfl, hcL, hL1, hO, hV, hD, hb⟩ := hrel
        by_cases hc0 : 0 < c
        · have hc1 : (0 : Int) < (c : Int) := by omega
          have hN := hb.size
          have HH := Lib.hid (hor_step hV.out)
          have hcd : c / b < c := Nat.div_lt_self hc0 (by omega)
          have hq1 : (c : Int) / (b : Int) ≤ 2000 := by have : ((c / b : Nat) : Int) ≤ 2000 := by omega
                                                        exact this
          have hq0 : (0 : Int) ≤ (c : Int) / (b : Int) := Int.ediv_nonneg (by omega) (by omega)
          go_wp2_with (at_builtin; refine wpList_append_own_at _ rfl _ _ 31 rfl w.heap.size 3 i0 (.int .i64 0) 1 8 Try.underlying31 hi hz0 hz1 hz2 rfl (by decide) _ _ _ rfl (hO.out.alloc _) ⟨wr.heap.size, 0, none⟩ 1 1 [.int .i64 ((c : Int) % b)] rfl rfl (cell_one_new _ _ _) ?e2 ?e3 ?e4 ?e5 ?_)
          case e2 => simp [Value.oneCell']
          case e3 => unfold maxLen; omega
          case e4 => omega
          case e5 => (try simp); omega
          intro v' w3 hown' hgrow _ _
          have hB3 := (hb.alloc hb.size (.cells #[.int .i64 ((c : Int) % b)] 3)).grown hgrow (by simp; omega) (fun q e => (row_ge3 hO.out e).1)
          have hO3 : Hid (w3.ownsRow w.heap.size 3 1 v' (((c : Int) % b) :: L).length ((((c : Int) % b) :: L).reverse.map (Value.int .i64))) := by
            show w3.ownsRow _ _ _ _ _ _
            simpa using hown'
          clear hown' hgrow hO hb
          go_wp2_with fail
          refine ⟨⟨c / b, _, by simp, by rw [List.length_cons]; omega, by simp, hO3, HH.out, fun x hx => ?_, hB3⟩, by simp [intOf] <;> omega⟩
          rcases List.mem_cons.1 hx with rfl | hx
          · exact ⟨Int.emod_nonneg _ (by omega), Int.emod_lt_of_pos _ (by omega)⟩
          · exact hD.out x hx
        · obtain rfl : c = 0 := by omega
          have HS2 := Lib.hid (show hor b L = ptS b T B k d by have := hV.out; rw [show ((0 : Nat) : Int) = 0 from rfl, Int.zero_mul, Int.zero_add] at this; exact this)
          have hL2 : L.length ≤ 2000 := by omega
          have hSl : Slc w.heap.size wr u5 L.reverse := Slc.of_owns (by rw [List.length_reverse]; exact hO.out)
          have HSL := Lib.hid hSl
          clear hV hcL hc0 hO hSl
          go_wp2_with fail
          refine (reverse_any w.heap.size u5 L.reverse wr HSL.out (by rw [List.length_reverse]; omega) (by rw [List.length_reverse]; omega)).mono ?_
          rintro e w4 ⟨rfl, hs4, hgr4⟩
          rw [List.reverse_reverse] at hs4
          have hb4 := hb.grown hgr4 hb.size (fun q e => (HSL.out.own q e).1)
          clear HSL hgr4 hb
          go_wp2_with fail
          clear hL1
          go_loop [5] (fun u => ∃ L : List Int, L.length ≤ 2000 ∧ Slc w.heap.size w4 u L ∧ Hid (hor b L = ptS b T B k d) ∧ Hid (∀ x ∈ L, 0 ≤ x ∧ x < (b : Int))) (fun u => lenV u)
          case atStart => exact ⟨L, hL2, hs4, HS2, hD⟩
          case round =>
            clear hs4 HS2 hD hL2
            obtain ⟨L, hL2, hsl, hV, hD⟩ := hrel
            cases L with
            | nil =>
              exfalso
              have h1 := hV.out
              have h2 := HS.out
              rw [← h1] at h2
              simp [hor] at h2
            | cons x r =>
              obtain ⟨g, o, c1, rfl, _, _, hcap, _⟩ := slc_some hsl (by simp)
              have hc : w4.cell? ⟨g, o + 0, none⟩ = some (.int .i64 x) := Slc.cell (l := (x :: r).length) rfl hsl 0 (by simp)
              rw [Nat.add_zero] at hc
              obtain ⟨l, hl⟩ : ∃ l, r.length = l := ⟨_, rfl⟩
              have hll : (x :: r).length = l + 1 := by rw [List.length_cons, hl]
              rw [hll] at hsl hcap hL2 ⊢
              have HLL := Lib.hid hll; have HR := Lib.hid hl
              clear hll hl
              have i1 : (0 : Int) < ((l + 1 : Nat) : Int) := by omega
              by_cases hx : x = 0
              · subst hx
                have hV2 : hor b r = ptS b T B k d := by
                  have := hV.out
                  rw [hor_cons, Int.zero_mul, Int.zero_add] at this
                  exact this
                have hl1 : 1 ≤ l := by
                  rcases Nat.eq_zero_or_pos l with h0 | h0
                  · have h1 := HR.out
                    rw [h0] at h1
                    rw [List.length_eq_zero_iff.1 h1] at hV2
                    have := HS.out
                    rw [← hV2] at this
                    simp [hor] at this
                  · exact h0
                have hV3 := Lib.hid hV2
                clear hV2 hV
                have hdr := Slc.drop (n := 1) HLL.out hsl (by omega)
                have j1 : (1 : Int) ≤ (c1 : Int) := by omega
                have j2 : (1 : Int) ≤ ((l + 1 : Nat) : Int) := by omega
                have j3 : ¬ c1 = 1 := by omega
                go_wp2_with fail
                exact ⟨⟨r, by rw [HR.out]; omega, hdr, hV3, fun x hx => hD.out x (List.mem_cons_of_mem _ hx)⟩, by simp [lenV]⟩
              · have HX := Lib.hid hx
                have hx' : (x == 0) = false := by simpa using hx
                clear hx
                go_wp2_with fail
                go_ret
                refine ⟨_, rfl, x :: r, by rw [HLL.out]; omega, ⟨hD.out, hV.out, fun y s e => ?_⟩, hsl, hb4⟩
                cases e; exact HX.out

set_option maxHeartbeats 1000000 in
theorem imPartSum : ImPartSum := by
  constructor
  · intro b t n k h w
    go_enter Try.func17, Try.ntmps17
    go_wp2_with fail
    refine (partsTold_no b t n k _ h).mono ?_
    rintro e w1 ⟨rfl, hb1⟩
    have hb := bel1 hb1
    go_wp2_with fail
    go_ret2
    exact ⟨_, rfl, Slc.nil _ _, hb⟩
  · intro b T B k m L h _ hL w
    have HP := Lib.hid h; have HL := Lib.hid hL
    have h3 := h.b2; have h4 := h.b16; have hT := h.lt; have hB := h.bot
    clear h hL
    go_enter Try.func17, Try.ntmps17
    go_wp2_with fail
    refine (partsTold_yes b T B k m _ HP.out).mono ?_
    rintro e w1 ⟨rfl, hb1⟩
    have q1 := (Box2.newAt (W := w) (T := 24) (x := .int .i64 T) (y := .int .i64 B) rfl).later hb1
    have k0 := q1.cell0
    have k1 := q1.cell1
    have hb := bel1 hb1
    clear hb1
    go_wp2_with fail
    refine (round_any b T B _ hT HP.out.gT hB h3 h4).mono ?_
    rintro e w2 ⟨v, n', m', hm, rfl, hv, hb2⟩
    obtain ⟨rfl, rfl⟩ := HP.out.len.unique hm
    rw [rndL_zero] at hv
    have hbb := hb.trans (hb2.mono hb.size)
    clear hm hb2 hb
    go_wp2_with fail
    refine (partsRound_any _ b T B k m v _ HP.out hv).mono ?_
    rintro e w3 ⟨u, rfl, hu, hb3⟩
    have hb4 := hbb.trans (hb3.mono hbb.size)
    clear hb3 hv
    go_wp2_with fail
    refine (sumDigits_any _ b T B k m u _ HP.out hu).mono ?_
    rintro e w5 ⟨u', rfl, L', _, hL', hs, hb5⟩
    obtain rfl := HL.out.unique h3 _ (Nat.le_refl _) hL'
    have hb6 := hb4.trans (hb5.mono hb4.size)
    have hs6 := hb4.size
    go_wp2_with fail
    go_ret2
    exact ⟨_, rfl, hs.mono hs6, hb6⟩

end Go.Proofs.Ytehpgcgdcoahnab
