/-
  Chapter 4, the program's side: what parts are asked for, the list of parts, their rests.
-/
import Derived.Test.YtamcpoadpkgogacPartB
import Derived.Test.YtamcpoadpkgogacGOrx
import Derived.Test.YtamcpoadpkgogacPartL
import Derived.Laws.CopyOwn
namespace Go.Proofs.Ytamcpoadpkgogac
open Go.RowKit

set_option maxHeartbeats 1000000 in
theorem partsTold_no (b t n k : Int) (w : World) (h : NoPrt b t n k) :
    Calls Try.prog 36 #[.int .i64 b, .agg #[.int .i64 t, .int .i64 n], .int .i64 k] w fun e w' => e = .returned (.bool false) ∧ Below w.heap.size w w' := by
  have HN := Lib.hid h; clear h
  cases ht : tldB b t n with
  | false =>
    go_enter Try.func36, Try.ntmps36
    go_wp2_with fail
    refine (fracTold_any _ _ _ _).mono ?_
    rintro e w1 ⟨rfl, hb1⟩
    rw [ht]
    have hb := bel1 hb1
    go_wp2_with fail
    go_ret
    exact ⟨rfl, hb⟩
  | true =>
    have HT := Lib.hid ht
    have hnat := tld_nat ht
    go_enter Try.func36, Try.ntmps36
    go_wp2_with fail
    refine (fracTold_any _ _ _ _).mono ?_
    rintro e w1 ⟨rfl, hb1⟩
    rw [ht]
    have q1 := (Box2.newAt (W := w) (T := 24) (x := .int .i64 t) (y := .int .i64 n) rfl).later hb1
    have k0 := q1.cell0
    have k1 := q1.cell1
    have hb := bel1 hb1
    obtain ⟨b, T, B, rfl, rfl, rfl, h3, h4, hT, hB, hgT⟩ := hnat
    clear ht hb1
    by_cases hT0 : T = 0
    · subst hT0
      go_wp2_with fail
      go_ret
      exact ⟨rfl, hb⟩
    · have hT0' : ((T : Int) == 0) = false := by simp; omega
      have hT0'' : ¬ (T : Int) = 0 := by omega
      go_wp2_with fail
      refine (turns_any _ _ _ _ hB h4).mono ?_
      rintro e w2 ⟨rfl, hb2⟩
      have hbb := hb.trans (hb2.mono hb.size)
      have q2 := q1.later hb2
      have k0 := q2.cell0
      have k1 := q2.cell1
      by_cases hg : Nat.gcd b B = 1
      case neg =>
        have hg' : decide (Nat.gcd b B = 1) = false := by simpa using hg
        rw [hg']
        go_wp2_with fail
        go_ret
        exact ⟨rfl, hbb⟩
      case pos =>
        have hg' : decide (Nat.gcd b B = 1) = true := by simpa using hg
        rw [hg']
        clear hg'
        by_cases hk : 1 ≤ k
        case neg =>
          have hk' : k < 1 := by omega
          go_wp2_with fail
          go_ret
          exact ⟨rfl, hbb⟩
        case pos =>
          obtain ⟨k, rfl⟩ := Int.eq_ofNat_of_zero_le (show 0 ≤ k by omega)
          have hk' : ¬ ((k : Int) < 1) := by omega
          obtain ⟨m, hm⟩ := len_zero (b := b) hg hT hgT
          have hmk : ¬ m % k = 0 := fun e => HN.out b T B k m rfl rfl rfl rfl ⟨h3, h4, hT, hB, hgT, hg, by omega, by omega, hm, e⟩
          have hmk' : ¬ (m : Int) % k = 0 := by omega
          have hmk2 : Hid (((m : Int) % k == 0) = false) := beq_eq_false_iff_ne.2 hmk'
          have hm1 : IsLen b 1 B 0 m := (len_same (by omega) hT hgT).1 hm
          have hml := hm.le hT
          have hk0 : ¬ k = 0 := by omega
          have HM := Lib.hid hm1
          clear hm HN hm1
          go_wp2_with fail
          refine (order_ord b B m _ (by omega) (by omega) hB HM.out).mono ?_
          rintro e w3 ⟨rfl, hb3⟩
          have hb5 := hbb.trans (hb3.mono hbb.size)
          go_wp2_with fail
          go_ret
          exact ⟨congrArg (fun x => Ending.returned (Value.bool x)) hmk2.out, hb5⟩

set_option maxHeartbeats 1000000 in
theorem partsTold_yes (b T B k m : Nat) (w : World) (h : Prt b T B k m) :
    Calls Try.prog 36 #[.int .i64 b, .agg #[.int .i64 T, .int .i64 B], .int .i64 k] w fun e w' => e = .returned (.bool true) ∧ Below w.heap.size w w' := by
  have HP := Lib.hid h
  have ht := h.told
  have h3 := h.b2; have h4 := h.b16; have hT := h.lt; have hB := h.bot; have hT0 := h.top; have hk := h.k1
  have hT0' : ((T : Int) == 0) = false := by simp; omega
  have hT0'' : ¬ (T : Int) = 0 := by omega
  have hk' : ¬ ((k : Int) < 1) := by omega
  have hmk : (m : Int) % k = 0 := by have := h.dvd; omega
  have hml := h.div.2.2.2.1
  have hk0 : ¬ k = 0 := by omega
  have hg' : decide (Nat.gcd b B = 1) = true := by simpa using h.gb
  have HM := Lib.hid ((len_same (by omega) hT h.gT).1 h.len)
  clear h
  go_enter Try.func36, Try.ntmps36
  go_wp2_with fail
  refine (fracTold_any _ _ _ _).mono ?_
  rintro e w1 ⟨rfl, hb1⟩
  rw [ht]
  have q1 := (Box2.newAt (W := w) (T := 24) (x := .int .i64 T) (y := .int .i64 B) rfl).later hb1
  have k0 := q1.cell0
  have k1 := q1.cell1
  have hb := bel1 hb1
  clear ht hb1
  go_wp2_with fail
  refine (turns_any _ _ _ _ hB h4).mono ?_
  rintro e w2 ⟨rfl, hb2⟩
  have hbb := hb.trans (hb2.mono hb.size)
  have q2 := q1.later hb2
  have k0 := q2.cell0
  have k1 := q2.cell1
  rw [hg']
  clear hg'
  go_wp2_with fail
  refine (order_ord b B m _ (by omega) (by omega) hB HM.out).mono ?_
  rintro e w3 ⟨rfl, hb3⟩
  have hb5 := hbb.trans (hb3.mono hbb.size)
  go_wp2_with fail
  go_ret
  exact ⟨rfl, hb5⟩

theorem infoRowQ : (Try.prog.info? 33).map (fun i => (i.zero, i.size, i.bytes)) = some (some (.slice none 0 0), 1, 24) := by kernel_rfl
theorem infoIntSize : (Try.prog.info? 3).map (·.size) = some 1 := by kernel_rfl

/-- Parts in one block. -/
def cutV (G j p : Nat) : List Value := (List.range p).map fun i => .slice (some ⟨G, i * j, none⟩) j j

theorem cutV_succ (G j p : Nat) : cutV G j (p + 1) = cutV G j p ++ [.slice (some ⟨G, p * j, none⟩) j j] := by simp [cutV, List.range_succ]
theorem cutV_len (G j p : Nat) : (cutV G j p).length = p := by simp [cutV]

theorem rowI_beside {n₀ k G : Nat} {W W' : World} {v : Value} {vs : List Value} {zs : List Int} (h : RowI W G zs) (hv : W.ownsRow n₀ 33 1 v k vs) (hg : W.grownBy W' v.ownBlock) : RowI W' G zs := by
  obtain ⟨cur, hh, hc⟩ := h
  refine ⟨cur, ?_, hc⟩
  rw [← hh]
  refine hg.block G (Array.getElem?_eq_some_iff.1 hh).1 fun e => ?_
  rcases ownsRow_block hv with e' | ⟨g, c', e', _, hh'⟩
  · rw [e'] at e; cases e
  · rw [e'] at e; cases e
    rw [hh] at hh'
    simp at hh'

/-- The parts of a list, as a list of lists. -/
def cutL (xs : List Int) (k j : Nat) : List (List Int) := (List.range k).map fun i => (xs.drop (i * j)).take j

theorem cutL_len (xs : List Int) (k j : Nat) : (cutL xs k j).length = k := by simp [cutL]

theorem cut_slc {n₀ G k j : Nat} {W : World} {xs : List Int} (h : RowI W G xs) (hn : n₀ ≤ G) (hl : xs.length = k * j) (hx : xs.length ≤ 1000) (i : Nat) (hi : i < k) :
    Slc n₀ W (.slice (some ⟨G, i * j, none⟩) j j) ((xs.drop (i * j)).take j) := by
  obtain ⟨cur, hh, hc⟩ := h
  have h1 : (i + 1) * j ≤ k * j := Nat.mul_le_mul_right _ hi
  rw [Nat.succ_mul] at h1
  have hs : cur.size = xs.length := by rw [← Array.length_toList, hc, List.length_map]
  have hlen : ((xs.drop (i * j)).take j).length = j := by rw [List.length_take, List.length_drop]; omega
  refine .inr ⟨G, i * j, j, cur, by rw [hlen], hn, hh, by omega, by unfold maxLen; omega, by omega, ?_⟩
  rw [hc, hlen, ← List.map_drop, ← List.map_take]

theorem cut_rows {n₀ G k j : Nat} {W : World} {u : Value} {xs : List Int} (hown : W.ownsRow n₀ 33 1 u k (cutV G j k)) (h : RowI W G xs) (hn : n₀ ≤ G) (hl : xs.length = k * j) (hx : xs.length ≤ 1000) :
    RowVs n₀ W u (cutL xs k j) (cutV G j k) ∧ RowSR n₀ W u (cutL xs k j) := by
  have hV : RowVs n₀ W u (cutL xs k j) (cutV G j k) := by
    refine ⟨by rw [cutL_len]; exact hown, fun i u' e => ?_⟩
    have hi : i < k := by have := (List.getElem?_eq_some_iff.1 e).1; rwa [cutV_len] at this
    simp [cutV, hi] at e
    subst e
    simp [cutL, hi]
    exact cut_slc h hn hl hx i hi
  refine ⟨hV, _, by rw [cutV_len, cutL_len], hV, fun i i' g o l c o' l' c' hij e1 e2 => ?_⟩
  have hi : i' < k := by have := (List.getElem?_eq_some_iff.1 e2).1; rwa [cutV_len] at this
  have hi0 : i < k := by omega
  simp [cutV, hi] at e2
  simp [cutV, hi0] at e1
  obtain ⟨⟨rfl, rfl⟩, rfl, rfl⟩ := e1
  obtain ⟨⟨_, rfl⟩, rfl, rfl⟩ := e2
  have : (i + 1) * j ≤ i' * j := Nat.mul_le_mul_right _ hij
  rw [Nat.succ_mul] at this
  exact this

set_option maxRecDepth 100000 in
set_option maxHeartbeats 2000000 in
/-- The list of parts: they stand in one block. -/
theorem parts_any (n₀ k j : Nat) (v : Value) (xs : List Int) (w : World) (hv : Slc n₀ w v xs) (hk : 1 ≤ k) (hj : 1 ≤ j) (hl : xs.length = k * j) (hx : xs.length ≤ 1000) :
    Calls Try.prog 37 #[v, .int .i64 k] w fun e w' => ∃ u, e = .returned u ∧ ∃ G, w'.ownsRow w.heap.size 33 1 u k (cutV G j k) ∧ w.heap.size ≤ G ∧ RowI w' G xs ∧ Below w.heap.size w w' := by
  obtain ⟨j0, hji, hy0, hy1, hy2⟩ := info_parts infoRowQ
  have hkj : k * 1 ≤ k * j := Nat.mul_le_mul_left k hj
  have hjk : 1 * j ≤ k * j := Nat.mul_le_mul_right j hk
  obtain ⟨g, off, cap, rfl, _, hg, hc1, hc2⟩ := slc_some hv (by omega)
  have hcells := fun i hi => Slc.cell rfl hv i hi
  have hqn : k * j / k = j := Nat.mul_div_cancel_left j (by omega)
  obtain ⟨n, hn⟩ : ∃ n, k * j = n := ⟨_, rfl⟩
  rw [hn] at hl hkj hjk hqn
  rw [hl] at hx hc1 hcells hv ⊢
  have hq : (n : Int) / (k : Int) = (j : Int) := by rw [← hqn]; rfl
  have hk0 : ¬ k = 0 := by omega
  have HN := Lib.hid hn; have HL := Lib.hid hl; have HC := Lib.hid hcells
  clear hn hl hqn hcells
  have hmx : n ≤ maxLen := by unfold maxLen; omega
  have hmk := run_make_row' (P := Try.prog) 33 3 (.int .i64 0) 8 Try.underlying33 infoInt rfl .i64 .i64 n (by omega) (by omega)
  obtain ⟨cur0, hh0, hc0⟩ := RowI.made (W := w) (g := w.heap.size) n rfl
  go_enter Try.func37, Try.ntmps37
  go_wp2_with (with_reducible refine wpList_copy_splice rfl (.tmp 13) (.tmp 14) 33 33 rfl 3 Try.underlying33 infoIntSize (some ⟨w.heap.size, 0, none⟩) (some ⟨g, off, none⟩) n n n cap rfl rfl w.heap.size 0 cur0.toList 3 (by rw [Array.toArray_toList]; exact hh0) (xs.map (Value.int .i64)) ?d1 ?d2 ?d3 ?d4 w.heap.size w ((Below.refl _ _).alloc (Nat.le_refl _) _) (Nat.le_refl _) ?_)
  case d1 => simp [HL.out]
  case d2 =>
    intro _ q u hu
    have hq' : q < n := by rw [← HL.out]; exact (List.getElem?_eq_some_iff.1 hu).1
    rw [HC.out q hq', hu]
    rfl
  case d3 => rw [hc0]; simp [HL.out]
  case d4 => intro u hu; obtain ⟨x, _, rfl⟩ := List.mem_map.1 hu; simp [Value.oneCell']
  intro w2 HG2 hB2
  have hR2 : RowI w2 w.heap.size xs := by
    refine ⟨_, HG2.out, ?_⟩
    rw [splice]
    simp [HL.out]
  clear HG2 hv HC hh0 hc0
  have hN2 := hB2.size
  go_wp2_with fail
  have hR3 : RowI (w2.alloc (.cells #[] 33)) w.heap.size xs := hR2.later ((Below.refl _ _).alloc (Nat.le_refl _) _)
  have hB3 : Below w.heap.size w (w2.alloc (.cells #[] 33)) := hB2.alloc hN2 _
  have hO3 : (w2.alloc (.cells #[] 33)).ownsRow w.heap.size 33 1 (.slice (some ⟨w2.heap.size, 0, none⟩) 0 0) 0 (cutV w.heap.size j 0) :=
    World.ownsRow_made (base := w.heap.size) (e := 33) (size := 1) w2 #[] 0 hN2 (by simp) (by simp)
  clear hR2 hB2
  go_loopw [7, 8] (fun u i wr => ∃ p : Nat, p ≤ k ∧ i = .int .i64 (p * j : Nat) ∧ wr.ownsRow w.heap.size 33 1 u p (cutV w.heap.size j p) ∧ RowI wr w.heap.size xs ∧ Below w.heap.size w wr) (fun _ i _ => n - (intOf i).toNat)
  case atStart => exact ⟨0, Nat.zero_le _, by simp, hO3, hR3, hB3⟩
  case round =>
    clear hO3 hR3 hB3
    obtain ⟨p, hp, rfl, hown, hrow, hb⟩ := hrel
    by_cases hlt : p < k
    · have hsm : (p + 1) * j = p * j + j := Nat.succ_mul _ _
      have hle : (p + 1) * j ≤ k * j := Nat.mul_le_mul_right j hlt
      rw [HN.out, hsm] at hle
      have hcs := cutV_succ w.heap.size j p
      have HCS := Lib.hid hcs; have HSM := Lib.hid hsm
      clear hcs hsm
      generalize p * j = pj at hle HSM HCS
      have i1 : (pj : Int) < (n : Int) := by omega
      have i2 : IntKind.i64.wrap ((pj : Int) + j) = (pj : Int) + j := IntWalk.i64_in _ (by omega)
      have i3 : (0 : Int) ≤ (pj : Int) := by omega
      have i4 : (pj : Int) ≤ (pj : Int) + j := by omega
      have i5 : (pj : Int) + j ≤ (n : Int) := by omega
      have i6 : ¬ n = pj := by omega
      have hnw := hb.size
      go_wp2_with (at_builtin; refine wpList_append_own_at _ rfl _ _ 47 rfl w.heap.size 33 j0 (.slice none 0 0) 1 24 Try.underlying47 hji hy0 hy1 hy2 rfl (by decide) _ _ _ rfl (hown.alloc _) ⟨wr.heap.size, 0, none⟩ 1 1 [.slice (some ⟨w.heap.size, pj, none⟩) j j] rfl rfl ?c1 ?c2 ?c3 ?c4 ?c5 ?_)
      case c1 => exact cell_one_new _ _ _
      case c2 => simp [Value.oneCell']
      case c3 => unfold maxLen; omega
      case c4 => omega
      case c5 => simp; omega
      intro v' w4 hown' hgrow _ _
      have ha : Below wr.heap.size wr (wr.alloc (.cells #[.slice (some ⟨w.heap.size, pj, none⟩) j j] 33)) := (Below.refl _ _).alloc (Nat.le_refl _) _
      have hrow4 := rowI_beside (hrow.later ha) (hown.alloc _) hgrow
      have hb4 := (hb.alloc hb.size (.cells #[.slice (some ⟨w.heap.size, pj, none⟩) j j] 33)).grown hgrow (by simp; omega) (fun q e => (row_ge3 hown e).1)
      rw [← HCS.out] at hown'
      clear hrow hown hgrow ha hb
      go_wp2_with fail
      refine ⟨⟨p + 1, hlt, ?_, hown', hrow4, hb4⟩, by simp [intOf]; omega⟩
      rw [HSM.out]
      rfl
    · obtain rfl : p = k := by omega
      rw [HN.out]
      have i1 : ¬ (n : Int) < (n : Int) := by omega
      go_wp2_with fail
      go_ret
      exact ⟨_, rfl, _, hown, Nat.le_refl _, hrow, hb⟩

theorem RowSR.mono {n₀ n₁ : Nat} {W : World} {v : Value} {L : List (List Int)} (h : RowSR n₀ W v L) (hn : n₁ ≤ n₀) : RowSR n₁ W v L := by
  obtain ⟨vs, h1, ⟨h2, h3⟩, h4⟩ := h
  refine ⟨vs, h1, ⟨⟨h2.1, ?_⟩, fun i u e => (h3 i u e).mono hn⟩, h4⟩
  rcases h2.2 with h | ⟨g, cap, cur, hv, hb, r⟩
  · exact .inl h
  · exact .inr ⟨g, cap, cur, hv, by omega, r⟩

theorem cut_pts {b T B k m : Nat} (h : Prt b T B k m) : cutL (digL b T B m) k (m / k) = ptsL b T B k (m / k) := by
  unfold cutL ptsL
  refine List.map_congr_left fun i hi => ?_
  exact ptL_cut b T B (m / k) i m (h.place_lt (List.mem_range.1 hi)).2



end Go.Proofs.Ytamcpoadpkgogac
