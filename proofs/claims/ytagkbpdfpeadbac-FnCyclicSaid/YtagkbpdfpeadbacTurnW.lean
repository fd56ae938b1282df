/-
  Chapter 5, the program's side: products of rings; rings that turn by a product; all numbers for which a ring turns.
-/
import Derived.Test.YtagkbpdfpeadbacTurnZ
import Derived.Test.YtagkbpdfpeadbacTurnV
namespace Go.Proofs.Ytagkbpdfpeadbac
open Go.RowKit

set_option maxHeartbeats 1000000 in
theorem timesTold_any (n₀ : Nat) (b k : Int) (v : Value) (d : List Int) (w : World) (hv : Slc n₀ w v d) (hl : d.length ≤ 1048576) :
    Calls Try.prog 45 #[.int .i64 b, v, .int .i64 k] w fun e w' => e = .returned (.bool (rngB b d && decide (0 ≤ k ∧ k ≤ 100))) ∧ w = w' := by
  have RG := Lib.hid (ringIn_any n₀ b v d w hv hl)
  cases hr : rngB b d with
  | false =>
    rw [hr] at RG
    rw [Bool.false_and]
    clear hr
    go_enter Try.func45, Try.ntmps45
    go_wp2_with (go_at_call 27; refine RG.out.mono ?_; rintro e w' ⟨rfl, rfl⟩)
    go_ret
    exact ⟨rfl, rfl⟩
  | true =>
    rw [hr] at RG
    rw [Bool.true_and]
    clear hr
    by_cases h1 : 0 ≤ k
    · have j1 : decide (0 ≤ k) = true := by simpa using h1
      by_cases h2 : k ≤ 100
      · have j2 : decide (k ≤ 100) = true := by simpa using h2
        have HF : Hid (decide (0 ≤ k ∧ k ≤ 100) = true) := decide_eq_true ⟨h1, h2⟩
        rw [HF.out]
        go_enter Try.func45, Try.ntmps45
        go_wp2_with (go_at_call 27; refine RG.out.mono ?_; rintro e w' ⟨rfl, rfl⟩)
        go_ret
        exact ⟨rfl, rfl⟩
      · have j2 : decide (k ≤ 100) = false := by simpa using h2
        have HF : Hid (decide (0 ≤ k ∧ k ≤ 100) = false) := decide_eq_false fun h => h2 h.2
        rw [HF.out]
        go_enter Try.func45, Try.ntmps45
        go_wp2_with (go_at_call 27; refine RG.out.mono ?_; rintro e w' ⟨rfl, rfl⟩)
        go_ret
        exact ⟨rfl, rfl⟩
    · have j1 : decide (0 ≤ k) = false := by simpa using h1
      have HF : Hid (decide (0 ≤ k ∧ k ≤ 100) = false) := decide_eq_false fun h => h1 h.1
      rw [HF.out]
      go_enter Try.func45, Try.ntmps45
      go_wp2_with (go_at_call 27; refine RG.out.mono ?_; rintro e w' ⟨rfl, rfl⟩)
      go_ret
      exact ⟨rfl, rfl⟩

theorem told_times {b k : Nat} {d : List Int} (h : Rng b d) (hk : k ≤ 100) : (rngB b d && decide (0 ≤ (k : Int) ∧ (k : Int) ≤ 100)) = true := by
  rw [h.told, Bool.true_and]; exact decide_eq_true (by omega)

set_option maxHeartbeats 1000000 in
theorem imTurnTimes : ImTurnTimes := by
  refine ⟨?_, ?_, ?_⟩
  · intro b k d hl h n₀ v w hv
    have TT := Lib.hid (timesTold_any n₀ b k v d w hv hl)
    rw [h] at TT
    clear h
    go_enter Try.func19, Try.ntmps19
    go_wp2_with (go_at_call 45; refine TT.out.mono ?_; rintro e w' ⟨rfl, rfl⟩)
    go_ret2
    exact ⟨_, rfl, Slc.nil _ _, Below.refl _ _⟩
  · intro b k d h hk h0 n₀ v w hv
    have TT := Lib.hid (timesTold_any n₀ b k v d w hv (by have := h.l2; omega))
    rw [told_times h hk] at TT
    have TM := Lib.hid (times_any n₀ b k v d w hv h hk)
    rw [decide_eq_false h0] at TM
    clear h h0
    go_enter Try.func19, Try.ntmps19
    go_wp2_with (go_at_call 45; refine TT.out.mono ?_; rintro e w' ⟨rfl, rfl⟩)
    refine TM.out.mono ?_
    rintro e w1 ⟨u, rfl, hu, hb⟩
    go_wp2_with fail
    go_ret2
    exact ⟨_, rfl, Slc.nil _ _, hb⟩
  · intro b k d h hk h0 n₀ v w hv
    have TT := Lib.hid (timesTold_any n₀ b k v d w hv (by have := h.l2; omega))
    rw [told_times h hk] at TT
    have TM := Lib.hid (times_any n₀ b k v d w hv h hk)
    rw [decide_eq_true h0] at TM
    clear h h0
    go_enter Try.func19, Try.ntmps19
    go_wp2_with (go_at_call 45; refine TT.out.mono ?_; rintro e w' ⟨rfl, rfl⟩)
    refine TM.out.mono ?_
    rintro e w1 ⟨u, rfl, hu, hb⟩
    go_wp2_with fail
    go_ret2
    exact ⟨_, rfl, hu, hb⟩

set_option maxHeartbeats 1000000 in
theorem imTurnIs : ImTurnIs := by
  constructor
  · intro b k d hl h n₀ v w hv
    have TT := Lib.hid (timesTold_any n₀ b k v d w hv hl)
    rw [h] at TT
    clear h
    go_enter Try.func23, Try.ntmps23
    go_wp2_with (go_at_call 45; refine TT.out.mono ?_; rintro e w' ⟨rfl, rfl⟩)
    go_ret
    exact ⟨rfl, Below.refl _ _⟩
  · intro b k d h hk n₀ v w hv
    have h1 := h.l1; have h2 := h.l2
    have TT := Lib.hid (timesTold_any n₀ b k v d w hv (by omega))
    rw [told_times h hk] at TT
    have TM := Lib.hid (times_any n₀ b k v d w hv h hk)
    by_cases h0 : (tim b k d).1 = 0
    · have HI : Hid (isB b d k = decide ((tim b k d).2 = rotL d (d.length - 1))) := by
        unfold Hid isB
        rw [decide_eq_decide]
        exact ⟨fun h => h.2, fun h => ⟨h0, h⟩⟩
      have TD := Lib.hid (fun (w1 : World) (h' : Below w.heap.size w w1) => turned_any n₀ v d (d.length - 1) w1 (hv.later h') h1 (by omega))
      rw [decide_eq_true h0] at TM
      obtain ⟨a, c, rfl⟩ := slc_form hv
      have elm : (d.length - 1) % d.length = d.length - 1 := Nat.mod_eq_of_lt (by omega)
      have hlt := tim_len b k d
      obtain ⟨n, hn⟩ : ∃ n, d.length = n := ⟨_, rfl⟩
      rw [elm] at TD
      rw [hn] at TD TM TT HI h1 h2 hlt ⊢
      have hrl : (rotL d (n - 1)).length = n := by rw [rotL_len, hn]
      have hn1 : ((n - 1 : Nat) : Int) = (n : Int) - 1 := by omega
      rw [hn1] at TD
      clear h0 h hv hn hn1 elm
      go_enter Try.func23, Try.ntmps23
      go_wp2_with (go_at_call 45; refine TT.out.mono ?_; rintro e w' ⟨rfl, rfl⟩)
      refine TM.out.mono ?_
      rintro e w1 ⟨u, rfl, hu, hb⟩
      go_wp2_with fail
      refine (TD.out w1 hb).mono ?_
      rintro e w2 ⟨x, rfl, hx, hb2⟩
      go_wp2_with fail
      refine (ringEq_any _ _ _ _ _ _ _ (hu.later hb2) hx (by omega) (by omega)).mono ?_
      rintro e w3 ⟨rfl, hb3⟩
      go_wp2_with fail
      go_ret
      exact ⟨ret_bool HI.out.symm, (hb.trans (hb2.mono hb.size)).trans (hb3.mono (Nat.le_trans hb.size hb2.size))⟩
    · have HI : Hid (isB b d k = false) := by unfold Hid isB; exact decide_eq_false fun h => h0 h.1
      rw [decide_eq_false h0] at TM
      clear h0 h
      go_enter Try.func23, Try.ntmps23
      go_wp2_with (go_at_call 45; refine TT.out.mono ?_; rintro e w' ⟨rfl, rfl⟩)
      refine TM.out.mono ?_
      rintro e w1 ⟨u, rfl, hu, hb⟩
      go_wp2_with fail
      go_ret
      exact ⟨ret_bool HI.out.symm, hb⟩

theorem rot_twice {d : List Int} {k : Nat} (hk : k ≤ d.length) : ((d ++ d).drop k).take d.length = rotL d k := by
  rw [List.drop_append_of_le_length hk, List.take_append]
  unfold rotL
  rw [List.take_of_length_le (by rw [List.length_drop]; omega), List.length_drop, show d.length - (d.length - k) = k by omega]

set_option maxHeartbeats 2000000 in
theorem turnsInto_any (n₀ n₁ : Nat) (v u : Value) (d xs : List Int) (w : World) (hv : Slc n₀ w v d) (hu : Slc n₁ w u xs) (h1 : 1 ≤ d.length) (h2 : d.length ≤ 250) (hx : xs.length ≤ 1000) :
    Calls Try.prog 44 #[v, u] w fun e w' => e = .returned (.bool (decide (∃ j, j < d.length ∧ xs = rotL d j))) ∧ Below w.heap.size w w' := by
  obtain ⟨gx, ox, cx, rfl, _, hg, hc1, hc2⟩ := slc_some hv (by omega)
  obtain ⟨n, hn⟩ : ∃ n, d.length = n := ⟨_, rfl⟩
  have hA : Below w.heap.size w (w.alloc (.cells #[.slice (some ⟨gx, ox, none⟩) d.length cx, .slice (some ⟨gx, ox, none⟩) d.length cx] 49)) := (Below.refl _ _).alloc (Nat.le_refl _) _
  have CC := Lib.hid (concat_two n₀ n₀ w.heap.size 2 gx ox d.length cx gx ox d.length cx d d _ rfl rfl (hv.later hA) (hv.later hA) (by simp) (Nat.le_refl _) (by simp only [World.cell?, heap_alloc_new]; rfl) (by simp only [World.cell?, heap_alloc_new]; rfl) (by omega) (by omega))
  rw [hn] at hv h1 h2 hc1 CC hA ⊢
  have HN := Lib.hid hn
  have EQ := Lib.hid (fun (a : Value) (n₂ j : Nat) (w1 : World) (h' : Below w.heap.size w w1) (ha : Slc n₂ w1 a (rotL d j)) => ringEq_any n₂ n₁ a u (rotL d j) xs w1 ha (hu.later h') (by rw [rotL_len, hn]; omega) (by omega))
  clear hn hv hu
  go_enter Try.func44, Try.ntmps44
  go_wp2_with fail
  refine CC.out.mono ?_
  rintro e w1 ⟨t, rfl, ht, hb1⟩
  have hB1 := hA.trans (hb1.mono hA.size)
  have hl2 : (d ++ d).length = n + n := by rw [List.length_append, HN.out]
  obtain ⟨gt, ot, ct, rfl, _, hgt, hct1, hct2⟩ := slc_some ht (by omega)
  rw [hl2] at ht hct1 ⊢
  have HL := Lib.hid hl2
  have hgt' : gt < w1.heap.size := hgt
  clear hA hb1 hl2 CC
  go_wp2_with fail
  go_loopw [6, 13] (fun _ i wr => ∃ k : Nat, k ≤ n ∧ i = .int .i64 k ∧ Hid (∀ j, j < k → xs ≠ rotL d j) ∧ Slc 0 wr (.slice (some ⟨gt, ot, none⟩) (n + n) ct) (d ++ d) ∧ Below w.heap.size w wr) (fun _ i _ => n - (intOf i).toNat)
  case atStart => exact ⟨0, Nat.zero_le _, rfl, fun j hj => by omega, ht.mono (Nat.zero_le _), hB1⟩
  case round =>
    clear ht hB1
    obtain ⟨k, hk, rfl, hno, ht, hb⟩ := hrel
    by_cases hlt : k < n
    · have hs := Slc.front (by rw [List.length_drop, HL.out]) (Slc.drop HL.out ht (show k ≤ n + n by omega)) (show n ≤ n + n - k by omega)
      have hrt := rot_twice (d := d) (k := k) (by rw [HN.out]; omega)
      rw [HN.out] at hrt
      rw [hrt] at hs
      have i1 : (k : Int) < (n : Int) := by omega
      have i2 : (0 : Int) ≤ (k : Int) := by omega
      have i3 : (k : Int) ≤ (k : Int) + (n : Int) := by omega
      have i4 : (k : Int) + (n : Int) ≤ (ct : Int) := by omega
      have i5 : ¬ ct = k := by omega
      have i6 : k + n ≤ ct := by omega
      have QE := Lib.hid (EQ.out _ _ k wr hb hs)
      clear hrt hs
      go_wp2_with fail
      refine QE.out.mono ?_
      rintro e w2 ⟨rfl, hb2⟩
      have hB2 := hb.trans (hb2.mono hb.size)
      have ht2 := ht.later hb2
      clear hb hb2 QE ht
      by_cases he : rotL d k = xs
      · have HE : Hid (decide (∃ j, j < n ∧ xs = rotL d j) = true) := decide_eq_true ⟨k, hlt, he.symm⟩
        rw [decide_eq_true he]
        clear he
        go_wp2_with fail
        go_ret
        exact ⟨ret_bool HE.out.symm, hB2⟩
      · rw [decide_eq_false he]
        have HE := Lib.hid he
        clear he
        go_wp2_with fail
        go_roundw
        case rel =>
          refine ⟨k + 1, hlt, by go_num, fun j hj e => ?_, ht2, hB2⟩
          rcases Nat.lt_or_ge j k with h | h
          · exact hno.out j h e
          · obtain rfl : j = k := by omega
            exact HE.out e.symm
        case measure => simp [intOf]; omega
    · obtain rfl : k = n := by omega
      have i1 : ¬ (k : Int) < (k : Int) := by omega
      have HE : Hid (decide (∃ j, j < k ∧ xs = rotL d j) = false) := decide_eq_false fun ⟨j, hj, e⟩ => hno.out j hj e
      go_wp2_with fail
      go_ret
      exact ⟨ret_bool HE.out.symm, hb⟩

set_option maxRecDepth 100000 in
set_option maxHeartbeats 2000000 in
theorem imTurnAll : ImTurnAll := by
  constructor
  · intro b d hl h n₀ v w hv
    have RG := Lib.hid (ringIn_any n₀ b v d w hv hl)
    rw [h] at RG
    go_enter Try.func18, Try.ntmps18
    go_wp2_with (go_at_call 27; refine RG.out.mono ?_; rintro e w' ⟨rfl, rfl⟩)
    go_ret2
    exact ⟨_, rfl, Slc.nil _ _, Below.refl _ _⟩
  · intro b d h n₀ v w hv
    have h1 := h.l1; have h2 := h.l2
    obtain ⟨i0, hi, hz0, hz1, hz2⟩ := info_parts infoInt
    obtain ⟨n, hn⟩ : ∃ n, d.length = n := ⟨_, rfl⟩
    have RG := Lib.hid (ringIn_any n₀ b v d w hv (by omega))
    rw [h.told] at RG
    have TM := Lib.hid (fun (k : Nat) (hk : k ≤ 100) (w1 : World) (h' : Below w.heap.size w w1) => times_any n₀ b k v d w1 (hv.later h') h hk)
    have TI := Lib.hid (fun (n₁ : Nat) (u : Value) (xs : List Int) (w1 : World) (h' : Below w.heap.size w w1) (hu : Slc n₁ w1 u xs) (hx : xs.length ≤ 1000) => turnsInto_any n₀ n₁ v u d xs w1 (hv.later h') hu h1 h2 hx)
    obtain ⟨a, c0, rfl⟩ := slc_form hv
    have HN := Lib.hid hn
    have hA := (Below.refl w.heap.size w).alloc (Nat.le_refl _) (.cells #[] 3)
    have hO0 : (w.alloc (.cells #[] 3)).ownsRow w.heap.size 3 1 (.slice (some ⟨w.heap.size, 0, none⟩) 0 0) 0 [] := World.ownsRow_made (base := w.heap.size) (e := 3) (size := 1) w #[] 0 (Nat.le_refl _) (by simp) (by simp)
    have ht1 := turA_one b d
    clear h hn hv
    go_enter Try.func18, Try.ntmps18
    go_wp2_with (go_at_call 27; refine RG.out.mono ?_; rintro e w' ⟨rfl, rfl⟩)
    go_loopw [6, 7] (fun u x wr => ∃ c : Nat, 1 ≤ c ∧ c ≤ 101 ∧ x = .int .i64 c ∧ wr.ownsRow w.heap.size 3 1 u (turA b d c).length ((turA b d c).map (Value.int .i64)) ∧ Below w.heap.size w wr) (fun _ x _ => 101 - (intOf x).toNat)
    case atStart => exact ⟨1, Nat.le_refl _, by omega, rfl, by rw [ht1]; exact hO0, hA⟩
    case round =>
      clear hO0 hA ht1 RG
      obtain ⟨c, hc1, hc2, rfl, hown, hb⟩ := hrel
      have htl := turA_len b d c
      by_cases hlt : c ≤ 100
      · have j1 : (c : Int) ≤ 100 := by omega
        have hs : turA b d (c + 1) = if inB b d c = true then turA b d c ++ [(c : Int)] else turA b d c := rfl
        have T1 := Lib.hid (TM.out c hlt wr hb)
        have HO := Lib.hid hown
        clear hown
        by_cases h0 : (tim b c d).1 = 0
        · have hin := inB_on hc1 h0
          have HIN := Lib.hid hin; have HS := Lib.hid hs
          rw [decide_eq_true h0] at T1
          have htl2 := tim_len b c d
          clear hin hs h0
          go_wp2_with fail
          refine T1.out.mono ?_
          rintro e w1 ⟨t, rfl, ht, hb1⟩
          have hB1 := hb.trans (hb1.mono hb.size)
          have hO1 := owns_lat HO.out hb1
          have T2 := Lib.hid (TI.out _ t _ w1 hB1 ht (by omega))
          have HKK : Hid (decide (∃ j, j < d.length ∧ (tim b c d).2 = rotL d j) = inB b d c) := HIN.out.symm
          rw [HKK.out] at T2
          clear T1 HO ht hb1 hb HKK HIN
          go_wp2_with fail
          refine T2.out.mono ?_
          rintro e w2 ⟨rfl, hb2⟩
          have hB2 := hB1.trans (hb2.mono hB1.size)
          have hO2 := owns_lat hO1 hb2
          clear hO1 hB1 hb2 T2
          cases hin : inB b d c with
          | false =>
            have hs := HS.out
            rw [hin, if_neg (by simp)] at hs
            have HS2 := Lib.hid hs
            clear hs hin
            go_wp2_with fail
            exact ⟨⟨c + 1, by omega, by omega, rfl, by rw [HS2.out]; exact hO2, hB2⟩, by simp [intOf]; omega⟩
          | true =>
            have hs := HS.out
            rw [hin, if_pos rfl] at hs
            have HS2 := Lib.hid hs; have HO := Lib.hid hO2
            clear hs hin hO2
            go_wp2_with (at_builtin; refine wpList_append_own_at _ rfl _ _ 23 rfl w.heap.size 3 i0 (.int .i64 0) 1 8 Try.underlying23 hi hz0 hz1 hz2 rfl (by decide) _ _ _ rfl (HO.out.alloc _) ⟨w2.heap.size, 0, none⟩ 1 1 [.int .i64 c] rfl rfl (cell_one_new _ _ _) (by simp [Value.oneCell']) ?c3 ?c4 ?c5 ?_)
            case c3 => unfold maxLen; omega
            case c4 => omega
            case c5 => have := hB2.size; (try simp); omega
            intro v' w5 hown' hgrow _ _
            have hb5 := (hB2.alloc hB2.size (.cells #[.int .i64 c] 3)).grown hgrow (by have := hB2.size; simp; omega) (fun q e => owns_ge HO.out e)
            clear HO hgrow
            go_wp2_with fail
            refine ⟨⟨c + 1, by omega, by omega, rfl, ?_, hb5⟩, by simp [intOf]; omega⟩
            rw [HS2.out, List.length_append, List.map_append]
            simpa using hown'
        · have hin := inB_off h0
          rw [hin, if_neg (by simp)] at hs
          rw [decide_eq_false h0] at T1
          have HS := Lib.hid hs
          clear hin hs h0
          go_wp2_with fail
          refine T1.out.mono ?_
          rintro e w1 ⟨t, rfl, ht, hb1⟩
          have hB1 := hb.trans (hb1.mono hb.size)
          have hO1 := owns_lat HO.out hb1
          clear T1 HO ht hb1 hb
          go_wp2_with fail
          exact ⟨⟨c + 1, by omega, by omega, rfl, by rw [HS.out]; exact hO1, hB1⟩, by simp [intOf]; omega⟩
      · obtain rfl : c = 101 := by omega
        go_wp2_with fail
        go_ret2
        exact ⟨_, rfl, Slc.of_owns hown, hb⟩

end Go.Proofs.Ytagkbpdfpeadbac
