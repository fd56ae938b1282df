/-
  Parts of rounds: the model's digits of their sum.
-/
import Derived.Test.YtehpgcgdcoahnabPartC
import Derived.Test.YtehpgcgdcoahnabPartL
namespace Go.Proofs.Ytehpgcgdcoahnab
open Go.RowKit

set_option maxHeartbeats 1000000 in
theorem specPartSum_no (b t n k : Int) (h : NoPrt b t n k) : Gives 18 #[.int .i64 b, .agg #[.int .i64 t, .int .i64 n], .int .i64 k] [] false := by
  intro w
  go_enter Try.func18, Try.ntmps18
  go_wp2_with fail
  refine (specPartList_no b t n k h _).mono ?_
  rintro e w1 ⟨v, rfl, hv, hb1⟩
  have hb := bel1 hb1
  go_wp2_with fail
  go_ret2
  exact ⟨_, rfl, Slc.empty hb.size, hb.alloc hb.size _⟩

set_option maxRecDepth 100000 in
set_option maxHeartbeats 1000000 in
theorem specPartSum_yes (b T B k m : Nat) (h : Prt b T B k m) : ∀ w : World, Calls Try.prog 18 #[.int .i64 b, .agg #[.int .i64 T, .int .i64 B], .int .i64 k] w fun e w' =>
    ∃ v L, L.length ≤ 3000 ∧ IsDgs b (ptS b T B k (m / k)) L ∧ e = .returned (.tuple #[v, .bool true]) ∧ Slc w.heap.size w' v L ∧ Below w.heap.size w w' := by
  intro w
  obtain ⟨i0, hi, hz0, hz1, hz2⟩ := info_parts infoInt
  have h3 := h.b2; have h4 := h.b16; have hT := h.lt; have hB := h.bot
  obtain ⟨hd1, hd2, hd3, hd4, hd5⟩ := h.div
  have hk1 := h.k1
  have hjm : m / k ≤ m := Nat.div_le_self _ _
  have hspos := h.sum_pos
  have hlist := specPartList_yes b T B k m h
  have hcol := fun c => colS_le (b := b) (T := T) (B := B) (k := k) (j := m / k) (c := c) hT (by omega)
  clear h hd1
  obtain ⟨j, hj⟩ : ∃ j, m / k = j := ⟨_, rfl⟩
  rw [hj] at hd2 hjm hspos hlist hcol ⊢
  clear hj
  have hb0 : ¬ b = 0 := by omega
  have HL := Lib.hid hlist; have HC := Lib.hid hcol; have HS := Lib.hid hspos
  clear hlist hcol hspos
  go_enter Try.func18, Try.ntmps18
  go_wp2_with fail
  refine (HL.out _).mono ?_
  rintro e w1 ⟨v, rfl, hv, hb1⟩
  have hb := bel1 hb1
  obtain ⟨gp, cp, rfl, hP⟩ := pcells_of hv.s0 (by omega) hd2
  clear hv hb1 HL
  obtain ⟨g0, o0, c0, hc0, _⟩ := hP 0 (by omega)
  have hc0' : (w1.alloc (.cells #[] 3)).cell? ⟨gp, 0, none⟩ = some (.slice (some ⟨g0, o0, none⟩) j c0) := by
    rw [World.cell?_alloc_past]
    · exact hc0
    · have := cell_lt hc0; simp at this; simp; omega
  have hkI : (0 : Int) < (k : Int) := by omega
  go_wp2_with fail
  have hPA : PCells (w1.alloc (.cells #[] 3)) gp k j (fun p c => dig b T B (p * j + c)) := hP.later ((Below.refl _ _).alloc (Nat.le_refl _) _)
  have hbA := hb.alloc hb.size (.cells #[] 3)
  have hOA : SlA w.heap.size (w1.alloc (.cells #[] 3)) (.slice (some ⟨w1.heap.size, 0, none⟩) 0 0) [] := SlA.made hb.size
  clear hP hb hc0 hc0' hkI
  revert hPA hbA hOA
  generalize w1.alloc (.cells #[] 3) = wa
  generalize w1.heap.size = N1
  intro hPA hbA hOA
  go_loopw [10, 11, 12] (fun u c' i' wr => ∃ (d c : Nat) (L : List Int), d ≤ j ∧ L.length = d ∧ i' = .int .i64 ((j : Int) - 1 - d) ∧ c' = .int .i64 c ∧ c ≤ k ∧ SlA w.heap.size wr u L ∧ PCells wr gp k j (fun p c => dig b T B (p * j + c)) ∧
      Hid (colV b T B k j (j - d) d = (c : Int) * (b : Int) ^ d + hor b L) ∧ Hid (∀ x ∈ L, 0 ≤ x ∧ x < (b : Int)) ∧ Below w.heap.size w wr) (fun _ _ i' _ => (intOf i' + 1).toNat)
  case atStart =>
    refine ⟨0, 0, [], Nat.zero_le _, rfl, by simp, rfl, Nat.zero_le _, hOA, hPA, ?_, fun x hx => by simp at hx, hbA⟩
    show colV b T B k j (j - 0) 0 = _
    simp [colV, hor]
  case round =>
    clear hPA hbA hOA
    obtain ⟨d, c, L, hdj, hLd, rfl, rfl, hck, hO, hP, hV, hD, hb⟩ := hrel
    by_cases hlt : d < j
    · obtain ⟨ii, hii⟩ : ∃ ii, ii + 1 + d = j := ⟨j - 1 - d, by omega⟩
      have eii : (j : Int) - 1 - d = ii := by omega
      rw [eii]
      have hiij : (ii : Int) < (j : Int) := by omega
      have HI := Lib.hid hii
      clear hii eii
      go_wp2_with fail
      go_loop [11, 13] (fun c' p' => ∃ q : Nat, q ≤ k ∧ p' = .int .i64 q ∧ c' = .int .i64 ((c : Int) + (sumN (fun p => dig b T B (p * j + ii)) q : Nat))) (fun _ p' => k - (intOf p').toNat)
      case atStart => exact ⟨0, Nat.zero_le _, rfl, by simp [sumN]⟩
      case round =>
        obtain ⟨q, hq, rfl, rfl⟩ := hrel
        by_cases hqk : q < k
        · obtain ⟨g, o, c1, hc1, hc2⟩ := hP q hqk
          have hc3 : wr.cell? ⟨g, o + ii, none⟩ = some (.int .i64 (dig b T B (q * j + ii) : Nat)) := hc2 ii (by have := HI.out; omega)
          have q1 : (q : Int) < k := by omega
          have hdl := dig_lt (b := b) hT (q * j + ii) (by omega)
          have hsl : sumN (fun p => dig b T B (p * j + ii)) q ≤ q * (b - 1) := sumN_le q fun p _ => by have := dig_lt (b := b) hT (p * j + ii) (by omega); omega
          have hql : q * (b - 1) ≤ 1000 * 15 := Nat.mul_le_mul (by omega) (by omega)
          have HS1 : Hid (((sumN (fun p => dig b T B (p * j + ii)) (q + 1) : Nat) : Int) = (sumN (fun p => dig b T B (p * j + ii)) q : Nat) + (dig b T B (q * j + ii) : Nat)) := by
            show ((sumN (fun p => dig b T B (p * j + ii)) q + dig b T B (q * j + ii) : Nat) : Int) = _
            omega
          clear hc2
          revert hc3 hdl hsl HS1
          generalize dig b T B (q * j + ii) = x
          generalize sumN (fun p => dig b T B (p * j + ii)) q = s
          intro hc3 hdl hsl HS1
          go_wp2_with fail
          exact ⟨⟨q + 1, by omega, rfl, by rw [HS1.out, Int.add_assoc]⟩, by simp [intOf]; omega⟩
        · obtain rfl : q = k := by omega
          have q1 : ¬ (q : Int) < q := by omega
          have hC := col_bound (j := j) hck (HC.out ii) h3
          have hqb : q * b ≤ 1000 * 16 := Nat.mul_le_mul (by omega) (by omega)
          have hV2 := col_step hV.out HI.out
          have ec : (c : Int) + (sumN (fun p => dig b T B (p * j + ii)) q : Nat) = ((c + colS b T B q j ii : Nat) : Int) := by
            show (c : Int) + (colS b T B q j ii : Nat) = _
            omega
          rw [ec]
          revert hV2 hC
          clear ec hV
          generalize c + colS b T B q j ii = C
          intro hC hV2
          have hCd : C / b ≤ q := Nat.div_le_of_le_mul (by rw [Nat.mul_comm]; exact hC)
          have hHS := hor_step (b := b) (c := (C : Int)) (L := L) (S := colV b T B q j ii (d + 1)) (by rw [hLd]; exact hV2)
          have hCm : C % b < b := Nat.mod_lt _ (by omega)
          have hq1 : (C : Int) / (b : Int) ≤ 1000 := by have : ((C / b : Nat) : Int) ≤ 1000 := by omega
                                                        exact this
          have hq0 : (0 : Int) ≤ (C : Int) / (b : Int) := Int.ediv_nonneg (by omega) (by omega)
          obtain ⟨g, o, c1, rfl, hsl⟩ := hO
          have HH := Lib.hid hHS
          have hN := hb.size
          have HNW := Lib.hid (sla_news hsl ((Below.refl _ _).alloc (Nat.le_refl _) (.cells #[.int .i64 ((C : Int) % b)] 3)))
          clear hHS hV2
          go_wp2_with (at_builtin; refine wpList_append_own_at _ rfl _ _ 31 rfl wr.heap.size 3 i0 (.int .i64 0) 1 8 Try.underlying31 hi hz0 hz1 hz2 rfl (by decide) _ 1 _ rfl (owns_cell _ _ _) ⟨g, o, none⟩ L.length c1 (L.map (Value.int .i64)) rfl (by simp) HNW.out (ints_one L) ?c3 ?c4 (by simp) ?_)
          case c3 => unfold maxLen; omega
          case c4 => omega
          intro v' w3 hown' hgrow _ _
          have hO3 : SlA w.heap.size w3 v' (((C : Int) % b) :: L) := SlA.of_owns hN (by rw [hLd]; exact hown')
          have hb3' := (Below.refl wr.heap.size wr).alloc (Nat.le_refl _) (.cells #[.int .i64 ((C : Int) % b)] 3)
          have hb3 := hb3'.grown hgrow hb3'.size (fun r e => by cases e; exact Nat.le_refl _)
          have hP3 := hP.later hb3
          have hB3 := hb.trans (hb3.mono hb.size)
          have HO3 := Lib.hid hO3
          clear hO3 hown' hgrow hb3 hb3' HNW hsl hP hb
          go_wp2_with fail
          refine ⟨⟨d + 1, C / b, _, by omega, by rw [List.length_cons, hLd], ?_, by simp, hCd, HO3.out, hP3, ?_, ?_, hB3⟩, by simp [intOf] <;> omega⟩
          · show Value.int .i64 _ = Value.int .i64 _
            have := HI.out
            congr 1
            omega
          · have h5 := HH.out
            have h6 := HI.out
            rw [List.length_cons, hLd] at h5
            rw [show j - (d + 1) = ii by omega, ← h5]
            rfl
          · intro x hx
            rcases List.mem_cons.1 hx with rfl | hx
            · omega
            · exact hD.out x hx
    · obtain rfl : d = j := by omega
      have hneg : ¬ ((d : Int) - 1 - d) ≥ 0 := by omega
      rw [Nat.sub_self, ← hLd] at hV
      have HV := Lib.hid (show (c : Int) * (b : Int) ^ L.length + hor b L = ptS b T B k d from hV.out.symm.trans (by rw [hLd]; rfl))
      clear hV hP
      go_wp2_with fail
      have hcL : L.length + c ≤ 2000 := by omega
      clear hck hneg hd2 hdj hlt HC
      go_loopw [10, 11] (fun u c' wr => ∃ (c : Nat) (L : List Int), c' = .int .i64 c ∧ L.length + c ≤ 2000 ∧ SlA w.heap.size wr u L ∧ Hid ((c : Int) * (b : Int) ^ L.length + hor b L = ptS b T B k d) ∧ Hid (∀ x ∈ L, 0 ≤ x ∧ x < (b : Int)) ∧ Below w.heap.size w wr) (fun _ c' _ => (intOf c').toNat)
      case atStart => exact ⟨c, L, rfl, hcL, hO, HV, hD, hb⟩
      case round =>
        clear hO HV hD hb hLd hcL
        obtain ⟨c, L, rfl, hcL, hO, hV, hD, hb⟩ := hrel
        by_cases hc0 : 0 < c
        · have hc1 : (0 : Int) < (c : Int) := by omega
          obtain ⟨g, o, c1, rfl, hsl⟩ := hO
          have hN := hb.size
          have HNW := Lib.hid (sla_news hsl ((Below.refl _ _).alloc (Nat.le_refl _) (.cells #[.int .i64 ((c : Int) % b)] 3)))
          have HH := Lib.hid (hor_step hV.out)
          have hcd : c / b < c := Nat.div_lt_self hc0 (by omega)
          have hq1 : (c : Int) / (b : Int) ≤ 2000 := by have : ((c / b : Nat) : Int) ≤ 2000 := by omega
                                                        exact this
          have hq0 : (0 : Int) ≤ (c : Int) / (b : Int) := Int.ediv_nonneg (by omega) (by omega)
          go_wp2_with (at_builtin; refine wpList_append_own_at _ rfl _ _ 31 rfl wr.heap.size 3 i0 (.int .i64 0) 1 8 Try.underlying31 hi hz0 hz1 hz2 rfl (by decide) _ 1 _ rfl (owns_cell _ _ _) ⟨g, o, none⟩ L.length c1 (L.map (Value.int .i64)) rfl (by simp) HNW.out (ints_one L) ?e3 ?e4 (by simp) ?_)
          case e3 => unfold maxLen; omega
          case e4 => omega
          intro v' w3 hown' hgrow _ _
          have hO3 : SlA w.heap.size w3 v' (((c : Int) % b) :: L) := SlA.of_owns hN hown'
          have hb3' := (Below.refl wr.heap.size wr).alloc (Nat.le_refl _) (.cells #[.int .i64 ((c : Int) % b)] 3)
          have hb3 := hb3'.grown hgrow hb3'.size (fun r e => by cases e; exact Nat.le_refl _)
          have hB3 := hb.trans (hb3.mono hb.size)
          have HO3 := Lib.hid hO3
          clear hO3 hown' hgrow hb3 hb3' HNW hsl hb
          go_wp2_with fail
          refine ⟨⟨c / b, _, by simp, by rw [List.length_cons]; omega, HO3.out, HH.out, fun x hx => ?_, hB3⟩, by simp [intOf] <;> omega⟩
          rcases List.mem_cons.1 hx with rfl | hx
          · exact ⟨Int.emod_nonneg _ (by omega), Int.emod_lt_of_pos _ (by omega)⟩
          · exact hD.out x hx
        · obtain rfl : c = 0 := by omega
          have HS2 := Lib.hid (show hor b L = ptS b T B k d by have := hV.out; rw [show ((0 : Nat) : Int) = 0 from rfl, Int.zero_mul, Int.zero_add] at this; exact this)
          have hL2 : L.length ≤ 2000 := by omega
          clear hV hcL hc0
          go_wp2_with fail
          go_loopw [10] (fun u wr => ∃ L : List Int, L.length ≤ 2000 ∧ SlA w.heap.size wr u L ∧ Hid (hor b L = ptS b T B k d) ∧ Hid (∀ x ∈ L, 0 ≤ x ∧ x < (b : Int)) ∧ Below w.heap.size w wr) (fun u _ => lenV u)
          case atStart => exact ⟨L, hL2, hO, HS2, hD, hb⟩
          case round =>
            clear hO HS2 hD hb hL2
            obtain ⟨L, hL2, ⟨g, o, c1, rfl, hsl⟩, hV, hD, hb⟩ := hrel
            cases L with
            | nil =>
              exfalso
              have h1 := hV.out
              have h2 := HS.out
              rw [← h1] at h2
              simp [hor] at h2
            | cons x r =>
              have hc : wr.cell? ⟨g, o + 0, none⟩ = some (.int .i64 x) := Slc.cell (l := (x :: r).length) rfl hsl 0 (by simp)
              rw [Nat.add_zero] at hc
              have hcap : (x :: r).length ≤ c1 := by
                rcases hsl with ⟨h, _⟩ | ⟨g', o', c', cur, e, _, _, h5, _⟩
                · cases h
                · cases e; exact h5
              obtain ⟨l, hl⟩ : ∃ l, r.length = l := ⟨_, rfl⟩
              have hll : (x :: r).length = l + 1 := by rw [List.length_cons, hl]
              rw [hll] at hsl hcap hL2 ⊢
              have HLL := Lib.hid hll; have HR := Lib.hid hl
              clear hll hl
              have i1 : (0 : Int) < ((l + 1 : Nat) : Int) := by omega
              by_cases hx : x = 0
              · subst hx
                have hV2 : hor b r = ptS b T B k d := by
                  have := hV.out
                  rw [hor_cons, Int.zero_mul, Int.zero_add] at this
                  exact this
                have hl1 : 1 ≤ l := by
                  rcases Nat.eq_zero_or_pos l with h0 | h0
                  · have h1 := HR.out
                    rw [h0] at h1
                    rw [List.length_eq_zero_iff.1 h1] at hV2
                    have := HS.out
                    rw [← hV2] at this
                    simp [hor] at this
                  · exact h0
                have hV3 := Lib.hid hV2
                clear hV2 hV
                have hdr := Slc.drop (n := 1) HLL.out hsl (by omega)
                have j1 : (1 : Int) ≤ (c1 : Int) := by omega
                have j2 : (1 : Int) ≤ ((l + 1 : Nat) : Int) := by omega
                have j3 : ¬ c1 = 1 := by omega
                go_wp2_with fail
                refine ⟨⟨r, by rw [HR.out]; omega, ⟨g, o + 1, c1 - 1, by rw [HR.out], ?_⟩, hV3, fun x hx => hD.out x (List.mem_cons_of_mem _ hx), hb⟩, by simp [lenV]⟩
                exact hdr
              · have HX := Lib.hid hx
                have hx' : (x == 0) = false := by simpa using hx
                clear hx
                go_wp2_with fail
                go_ret2
                refine ⟨_, x :: r, by rw [HLL.out]; omega, ⟨hD.out, hV.out, fun y s e => ?_⟩, rfl, ?_, hb⟩
                · cases e; exact HX.out
                · exact hsl

end Go.Proofs.Ytehpgcgdcoahnab
