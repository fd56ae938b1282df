/-
  Chapter 7, the program's side: CountRuns, CountPairs, CountFull.
-/
import Derived.Test.YtamcpoadpkgogacCntY
import Derived.Test.YtamcpoadpkgogacCntX
import Derived.Test.YtamcpoadpkgogacCntW
import Derived.Test.YtamcpoadpkgogacTold
import Derived.Test.YtamcpoadpkgogacPMath
import Derived.Test.YtamcpoadpkgogacGWlk
import Derived.Test.YtamcpoadpkgogacGRnd
import Derived.BigQuiet
import Derived.Deep.MidRow
import Derived.Deep.RegionHeld3
namespace Go.Proofs.Ytamcpoadpkgogac
open Go.RowKit

theorem twice_get {m : Nat} {L : List Int} {D : Nat → Nat} (hl : L.length = m) (hd : ∀ i, i < m → L[i]?.getD 0 = (D i : Int)) {j : Nat} (hj : j < 2 * m) : (L ++ L)[j]?.getD 0 = (D (j % m) : Int) := by
  rcases Nat.lt_or_ge j m with h | h
  · rw [List.getElem?_append_left (by omega), Nat.mod_eq_of_lt h, hd j h]
  · rw [List.getElem?_append_right (by omega), hl, Nat.mod_eq_sub_mod h, Nat.mod_eq_of_lt (by omega), hd _ (by omega)]

theorem max_if (a b : Nat) : (if (a : Int) < (b : Int) then (b : Int) else (a : Int)) = ((Nat.max a b : Nat) : Int) := by
  by_cases h : a < b
  · rw [if_pos (by omega), show Nat.max a b = b from Nat.max_eq_right (by omega)]
  · rw [if_neg (by omega), show Nat.max a b = a from Nat.max_eq_left (by omega)]
theorem min_if (a b : Nat) : (if (b : Int) < (a : Int) then (b : Int) else (a : Int)) = ((Nat.min a b : Nat) : Int) := by
  by_cases h : b < a
  · rw [if_pos (by omega), show Nat.min a b = b from Nat.min_eq_right (by omega)]
  · rw [if_neg (by omega), show Nat.min a b = a from Nat.min_eq_left (by omega)]

set_option maxRecDepth 100000 in
set_option maxHeartbeats 4000000 in
theorem imCountRuns : ImCountRuns := by
  constructor
  · intro b t n h w
    go_enter Try.func18, Try.ntmps18
    go_wp2_with fail
    refine (fracTold_any b t n _).mono ?_
    rintro e w1 ⟨rfl, hb1⟩
    have hb := bel1 hb1
    rw [h]
    go_wp2_with fail
    go_ret2
    exact ⟨rfl, hb⟩
  · intro b T B n m r hf hr w
    have h3 := hf.b2; have h4 := hf.b16; have hT := hf.lt; have hB := hf.bot; have hm1 := hf.pos; have hm2 := hf.le
    have HF := Lib.hid hf
    have HR := Lib.hid hr
    have told := hf.told
    clear hf hr
    go_enter Try.func18, Try.ntmps18
    go_wp2_with fail
    refine (fracTold_any b T B _).mono ?_
    rintro e w1 ⟨rfl, hb1⟩
    have q1 := (Box2.newAt (W := w) (T := 24) (x := .int .i64 T) (y := .int .i64 B) rfl).later hb1
    have k0 := q1.cell0
    have k1 := q1.cell1
    have hb := bel1 hb1
    rw [told]
    clear hb1
    go_wp2_with fail
    refine (round_any b T B _ hT HF.out.cop hB h3 h4).mono ?_
    rintro e w2 ⟨v, n', m', hm, rfl, hv, hb2⟩
    obtain ⟨rfl, rfl⟩ := HF.out.len.unique hm
    obtain ⟨g, o, c, rfl, _, hgl, _, _⟩ := slc_some hv (by rw [rndL_len]; omega)
    have hlen := rndL_len b T B n m
    rw [hlen] at hv ⊢
    have hbb := hb.trans (hb2.mono hb.size)
    have HD := Lib.hid (fun (i : Nat) (hi : i < m) => show (rndL b T B n m)[i]?.getD 0 = (rdg b T B n i : Int) from rndL_get b T B n m i hi)
    have c0 := Slc.cell hlen hv 0 (by omega)
    rw [HD.out 0 (by omega)] at c0
    have HLEN := Lib.hid hlen
    clear hb2 hb k0 k1 q1 hm hlen
    rw [Nat.add_zero] at c0
    go_wp2_with fail
    have i1 : (0 : Int) < (m : Int) := by omega
    go_quiet (fail)
    have hvd : ∀ k, Slc w1.heap.size (w2.drewN k) (.slice (some ⟨g, o, none⟩) m c) (rndL b T B n m) := fun _ => hv
    have hbd := fun k => below_drewN hbb k
    clear c0 hv hbb
    go_wp2_with fail
    have hA : ((w2.drewN nq).alloc (.cells #[.slice (some ⟨g, o, none⟩) m c, .slice (some ⟨g, o, none⟩) m c] 33)).heap[w2.heap.size]? = some (.cells #[.slice (some ⟨g, o, none⟩) m c, .slice (some ⟨g, o, none⟩) m c] 33) := heap_alloc_new (w2.drewN nq) _
    have hbA : Below (w2.drewN nq).heap.size (w2.drewN nq) ((w2.drewN nq).alloc (.cells #[.slice (some ⟨g, o, none⟩) m c, .slice (some ⟨g, o, none⟩) m c] 33)) := (Below.refl _ _).alloc (Nat.le_refl _) _
    have hsA := (hvd nq).later hbA
    have hBA := (hbd nq).trans (hbA.mono (hbd nq).size)
    clear hvd hbd hbA
    revert hA hsA hBA
    generalize (w2.drewN nq).alloc (.cells #[.slice (some ⟨g, o, none⟩) m c, .slice (some ⟨g, o, none⟩) m c] 33) = w3
    intro hA hsA hBA
    refine (concatI_two _ _ w2.heap.size 2 g o m c g o m c (rndL b T B n m) (rndL b T B n m) w3 HLEN.out HLEN.out hsA hsA (Array.getElem?_eq_some_iff.1 hA).1 (Nat.le_refl _) ((cell_of_row _ _ 0 _ _ _ hA).trans rfl) ((cell_of_row _ _ 1 _ _ _ hA).trans rfl) (by omega) (by omega)).mono ?_
    rintro e w4 ⟨u, rfl, hu, hb4⟩
    have hB4 := hBA.trans (hb4.mono hBA.size)
    have hul : (rndL b T B n m ++ rndL b T B n m).length = 2 * m := by rw [List.length_append, HLEN.out]; omega
    have HUD := Lib.hid (fun j (hj : j < 2 * m) => twice_get HLEN.out HD.out hj)
    obtain ⟨g2, o2, c2, rfl, _, _, _, _⟩ := slc_some hu (by rw [hul]; omega)
    rw [hul] at hu ⊢
    have HUL := Lib.hid hul
    clear hA hsA hBA hb4 hul
    obtain ⟨M2, hM2⟩ : ∃ M2, 2 * m = M2 := ⟨_, rfl⟩
    rw [hM2] at hu HUD HUL ⊢
    have hM3 : M2 ≤ 2000 := by omega
    have hM4 : 0 < M2 := by omega
    have HM2 := Lib.hid hM2
    clear hM2
    obtain ⟨D, hD⟩ : ∃ D, rdg b T B n = D := ⟨_, rfl⟩
    rw [hD] at HUD HR ⊢
    have hd0 : Hid (D ((0 - 1) % m) = D 0) := by rw [show (0 - 1) % m = 0 from Nat.zero_mod m]; rfl
    go_wp2_with fail
    go_loopw [7, 8, 9, 27] (fun B' n' l' i' wr => ∃ i N BB : Nat, i ≤ M2 ∧ IsLin (fun i => D (i % m)) i N BB ∧ B' = .int .i64 BB ∧ n' = .int .i64 N ∧ l' = .int .i64 (D ((i - 1) % m)) ∧ i' = .int .i64 i ∧ Below w.heap.size w wr ∧ Slc w3.heap.size wr (.slice (some ⟨g2, o2, none⟩) M2 c2) (rndL b T B n m ++ rndL b T B n m)) (fun _ _ _ i' _ => M2 - (intOf i').toNat)
    case atStart => exact ⟨0, 0, 0, Nat.zero_le _, IsLin.zero _, rfl, rfl, by rw [hd0.out], rfl, hB4, hu⟩
    case round =>
      clear hu hB4
      obtain ⟨i, N, BB, hi, hlin, rfl, rfl, rfl, rfl, hbr, hu⟩ := hrel
      have hNle := hlin.le
      have hBle := hlin.best.1
      by_cases hlt : i < M2
      · have kc := Slc.cell HUL.out hu i hlt
        rw [HUD.out i hlt] at kc
        have HLIN := Lib.hid hlin; have HU := Lib.hid hu
        have j1 : (i : Int) < (M2 : Int) := by omega
        have j2 : (0 : Int) ≤ (i : Int) := by omega
        clear hlin hu
        by_cases he : D (i % m) = D ((i - 1) % m)
        · have HE := Lib.hid he
          have HX : Hid (D ((i + 1 - 1) % m) = D (i % m)) := rfl
          have hne : ((D (i % m) : Int) != (D ((i - 1) % m) : Int)) = false := by rw [he]; simp
          rw [← he] at hne ⊢
          clear he
          have STEP := Lib.hid (HLIN.out.step (k := N + 1) (.inl ⟨rfl, fun _ => HE.out⟩))
          clear HE
          revert kc hne HX
          generalize D (i % m) = x
          intro kc HX hne
          go_wp2_with fail
          go_roundw
          case rel => exact ⟨i + 1, N + 1, Nat.max BB (N + 1), hlt, STEP.out, by rw [← max_if]; go_num, by go_num, by rw [HX.out], by go_num, hbr, HU.out⟩
          case measure => simp [intOf]; omega
        · have hi0 : 0 < i := by
            refine Nat.pos_of_ne_zero fun e => he ?_
            subst e; rfl
          have HX : Hid (D ((i + 1 - 1) % m) = D (i % m)) := rfl
          have hne : ((D (i % m) : Int) == (D ((i - 1) % m) : Int)) = false := by simp; omega
          have hne2 : ((D (i % m) : Int) != (D ((i - 1) % m) : Int)) = true := by simp; omega
          have STEP := Lib.hid (HLIN.out.step (k := 1) (.inr ⟨rfl, hi0, he⟩))
          clear he
          revert kc hne hne2 HX
          generalize D (i % m) = x
          generalize D ((i - 1) % m) = y
          intro kc HX hne hne2
          go_wp2_with fail
          go_roundw
          case rel => exact ⟨i + 1, 1, Nat.max BB 1, hlt, STEP.out, by rw [← max_if]; go_num, by go_num, by rw [HX.out], by go_num, hbr, HU.out⟩
          case measure => simp [intOf]; omega
      · obtain rfl : i = M2 := by omega
        have hRUN : r = Nat.min BB m := by
          have hl := hlin
          rw [← HM2.out] at hl
          exact HR.out.unique (hl.round (by omega))
        have j1 : ¬ (i : Int) < (i : Int) := by omega
        clear hlin hu
        by_cases hmb : m < BB
        · obtain rfl : r = m := by rw [hRUN]; exact Nat.min_eq_right (by omega)
          have j2 : (r : Int) < (BB : Int) := by omega
          clear hRUN
          go_wp2_with fail
          go_ret2
          exact ⟨rfl, hbr⟩
        · obtain rfl : r = BB := by rw [hRUN]; exact Nat.min_eq_left (by omega)
          have j2 : ¬ (m : Int) < (r : Int) := by omega
          clear hRUN
          go_wp2_with fail
          go_ret2
          exact ⟨rfl, hbr⟩

theorem frs_ext {P Q : Nat → Nat} {m : Nat} (h : ∀ i, i < m → P i = Q i) : frs P m = frs Q m := by
  unfold frs
  refine smC_congr fun i hi => ?_
  have e : (∀ j, j < i → P j ≠ P i) ↔ (∀ j, j < i → Q j ≠ Q i) := by
    constructor
    · intro h1 j hj; rw [← h j (by omega), ← h i hi]; exact h1 j hj
    · intro h1 j hj; rw [h j (by omega), h i hi]; exact h1 j hj
  by_cases h1 : ∀ j, j < i → P j ≠ P i
  · rw [one_yes h1, one_yes (e.1 h1)]
  · rw [one_no h1, one_no fun h2 => h1 (e.2 h2)]

theorem ret_i64 {a b : Int} (h : a = b) : Ending.returned (.int .i64 a) = .returned (.int .i64 b) := by rw [h]

/-- The closure that tells the pairs of a round. -/
theorem pairAt_any (B C n₀ b m i : Nat) (v : Value) (L : List Int) (D : Nat → Nat) (w : World) (hc : w.cell? ⟨B, 0, none⟩ = some v) (hcb : w.cell? ⟨C, 0, none⟩ = some (.int .i64 b)) (hv : Slc n₀ w v L) (hl : L.length = m) (hi : i < m) (hm : m ≤ 1000)
    (hd : ∀ i, i < m → L[i]?.getD 0 = (D i : Int)) (hD : ∀ i, D i < b) (hb : b ≤ 16) :
    Calls Try.prog 40 #[.int .i64 i, .pointer (some ⟨B, 0, none⟩), .pointer (some ⟨C, 0, none⟩)] w fun e w' => e = .returned (.int .i64 ((prP b D m i : Nat) : Int)) ∧ Below w.heap.size w w' := by
  obtain ⟨g, o, c, rfl, _, hgl, _, _⟩ := slc_some hv (by omega)
  rw [hl] at hv hc
  have h2 : (i + 1) % m < m := Nat.mod_lt _ (by omega)
  have k0 := Slc.cell hl hv i hi
  have k1 := Slc.cell hl hv ((i + 1) % m) h2
  rw [hd i hi] at k0
  rw [hd _ h2] at k1
  have d0 := hD i
  have d1 := hD ((i + 1) % m)
  have HP : Hid (prP b D m i = b * D i + D ((i + 1) % m)) := rfl
  have hmod : (((i : Int) + 1) % (m : Int)) = (((i + 1) % m : Nat) : Int) := by simp
  have ht : ((i : Int) + 1).tmod (m : Int) = (((i + 1) % m : Nat) : Int) := by rw [Int.tmod_eq_emod_of_nonneg (by omega)]; exact hmod
  have HM := Lib.hid hmod
  clear hmod hv hd hD hl
  revert k0 k1 d0 d1 HP h2 ht HM
  generalize D i = x
  generalize (i + 1) % m = q
  generalize D q = y
  intro h2 k0 k1 d0 d1 HP ht HM
  obtain ⟨z, hz⟩ : ∃ z, b * x = z := ⟨_, rfl⟩
  have hz2 : (x : Int) * (b : Int) = (z : Int) := by rw [← hz, Int.natCast_mul, Int.mul_comm]
  have hz3 : z ≤ 256 := by
    have : b * x ≤ 16 * 16 := Nat.mul_le_mul hb (by omega)
    omega
  rw [hz] at HP
  clear hz
  have w1' : IntKind.i64.wrap ((x : Int) * (b : Int)) = (z : Int) := by rw [hz2]; exact IntWalk.i64_in _ (by omega)
  have m0 : 0 ≤ (x : Int) * (b : Int) := by omega
  have m1 : (x : Int) * (b : Int) ≤ 256 := by omega
  have HZ := Lib.hid hz2
  clear hz2
  have i1 : (i : Int) < (m : Int) := by omega
  have i2 : (0 : Int) ≤ (i : Int) := by omega
  have i3 : (q : Int) < (m : Int) := by omega
  have i4 : (0 : Int) ≤ (q : Int) := by omega
  have i5 : ¬ (m : Int) = 0 := by omega
  have i6 : ¬ m = 0 := by omega
  have i7 : ((m : Int) == 0) = false := by simp; omega
  go_enter Try.func40, Try.ntmps40
  go_wp2_with fail
  go_quiet (fail)
  go_wp2_with fail
  go_ret
  exact ⟨ret_i64 (by rw [HP.out]; omega), below_drewN (Below.refl _ _) _⟩

set_option maxRecDepth 100000 in
set_option maxHeartbeats 2000000 in
theorem imCountPairs : ImCountPairs := by
  constructor
  · intro b t n h w
    go_enter Try.func21, Try.ntmps21
    go_wp2_with fail
    refine (fracTold_any b t n _).mono ?_
    rintro e w1 ⟨rfl, hb1⟩
    have hb := (((Below.refl w.heap.size w).alloc (Nat.le_refl _) (.cells #[.int .i64 b] 3)).alloc (by simp) (.cells #[.int .i64 t, .int .i64 n] 24)).trans (hb1.mono (by simp; omega))
    rw [h]
    go_wp2_with fail
    go_ret2
    exact ⟨rfl, hb⟩
  · intro b T B n m hf w
    have h3 := hf.b2; have h4 := hf.b16; have hT := hf.lt; have hB := hf.bot; have hm1 := hf.pos; have hm2 := hf.le
    have HF := Lib.hid hf
    obtain ⟨hz0, hz1⟩ := zero_of_info infoCnt
    obtain ⟨Z, hZ⟩ : ∃ Z : Array Value, ((List.replicate 256 (0 : Int)).map (Value.int .i64)).toArray = Z := ⟨_, rfl⟩
    have hz2 : ∀ wx, (zeroValue 39).run Try.prog wx = .ok (.agg Z) wx := fun wx => by rw [hz0, cntV, hZ]
    have HZ1 := Lib.hid hz1; have HZZ := Lib.hid hZ
    have told := hf.told
    have hP : ∀ i, i < m → prP b (rdg b T B n) m i < 256 := fun i hi => by
      have h5 := prP_lt (b := b) (D := rdg b T B n) hm1 (fun i _ => hf.dig i) hi
      have h6 : b * b ≤ 16 * 16 := Nat.mul_le_mul h4 h4
      omega
    have hhit := hits hP
    have HP := Lib.hid hP; have HHIT := Lib.hid hhit
    have HDG := Lib.hid (fun i => hf.dig i)
    clear hf hz0 hz1 hZ hP hhit
    go_enter Try.func21, Try.ntmps21
    go_wp2_with fail
    refine (fracTold_any b T B _).mono ?_
    rintro e w1 ⟨rfl, hb1⟩
    have hb := (((Below.refl w.heap.size w).alloc (Nat.le_refl _) (.cells #[.int .i64 b] 3)).alloc (by simp) (.cells #[.int .i64 T, .int .i64 B] 24)).trans (hb1.mono (by simp; omega))
    have q1 := (Box2.newAt (W := w.alloc (.cells #[.int .i64 b] 3)) (B := w.heap.size + 1) (T := 24) (x := .int .i64 T) (y := .int .i64 B) (by simp)).later hb1
    have k0 := q1.cell0
    have k1 := q1.cell1
    have kB0 : Boxed ((w.alloc (.cells #[.int .i64 b] 3)).alloc (.cells #[.int .i64 T, .int .i64 B] 24)) w.heap.size 3 (.int .i64 b) := (Boxed.new w _ _).alloc _
    have kB1 : Boxed w1 w.heap.size 3 (.int .i64 b) := (hb1.block _ kB0.lt).trans kB0
    have kb := kB1.cell
    rw [told]
    clear hb1
    go_wp2_with fail
    refine (round_any b T B _ hT HF.out.cop hB h3 h4).mono ?_
    rintro e w2 ⟨v, n', m', hm, rfl, hv, hb2⟩
    obtain ⟨rfl, rfl⟩ := HF.out.len.unique hm
    obtain ⟨g, o, c, rfl, _, hgl, _, _⟩ := slc_some hv (by rw [rndL_len]; omega)
    have hlen := rndL_len b T B n m
    rw [hlen] at hv ⊢
    have hbb := hb.trans (hb2.mono hb.size)
    have kB2 : Boxed w2 w.heap.size 3 (.int .i64 b) := (hb2.block _ kB1.lt).trans kB1
    have HD := Lib.hid (fun (i : Nat) (hi : i < m) => show (rndL b T B n m)[i]?.getD 0 = (rdg b T B n i : Int) from rndL_get b T B n m i hi)
    have HLEN := Lib.hid hlen
    have hR3 : Boxed (w2.alloc (.cells #[.slice (some ⟨g, o, none⟩) m c] 33)) w2.heap.size 33 (.slice (some ⟨g, o, none⟩) m c) := Boxed.new w2 _ _
    have hB3 : Boxed (w2.alloc (.cells #[.slice (some ⟨g, o, none⟩) m c] 33)) w.heap.size 3 (.int .i64 b) := kB2.alloc _
    have hb3 : Below w2.heap.size w2 (w2.alloc (.cells #[.slice (some ⟨g, o, none⟩) m c] 33)) := (Below.refl _ _).alloc (Nat.le_refl _) _
    have hv3 := hv.later hb3
    have hbw := hbb.trans (hb3.mono hbb.size)
    have hsz3 : (w2.alloc (.cells #[.slice (some ⟨g, o, none⟩) m c] 33)).heap.size = w2.heap.size + 1 := by simp
    clear hb2 hb k0 k1 q1 hm hlen kb kB0 kB1 kB2 hb3 hv hbb
    go_wp2_with fail
    revert hR3 hB3 hv3 hbw hsz3
    generalize w2.alloc (.cells #[.slice (some ⟨g, o, none⟩) m c] 33) = w3
    intro hR3 hB3 hv3 hbw hsz3
    refine (countedP_any m w2.heap.size w.heap.size (prP b (rdg b T B n) m) w3 hm2 HP.out (fun i W hi hbW => ?call)).mono ?_
    case call => exact pairAt_any _ _ _ b m i _ (rndL b T B n m) (rdg b T B n) W (cell_later hbW hR3.cell) (cell_later hbW hB3.cell) (hv3.later hbW) HLEN.out hi hm2 HD.out HDG.out h4
    rintro e w4 ⟨rfl, hb4⟩
    have hbb := hbw.trans (hb4.mono hbw.size)
    have hR0 : RowZ (w4.alloc (.cells Z 39)) w4.heap.size 39 (List.replicate 256 0) := by
      rw [← HZZ.out]; exact RowZ.new rfl
    have hbA : Below w.heap.size w (w4.alloc (.cells Z 39)) := hbb.alloc hbb.size _
    have hRR := hR0.put (cntL 256 (prP b (rdg b T B n) m) m)
    have hbR := below_put hbA hbb.size (((cntL 256 (prP b (rdg b T B n) m) m).map (Value.int .i64)).toArray)
    clear hb4 hR3 hB3 hv3 hbw hsz3 hbA hbb
    go_wp2_with (first | (refine wpList_store_rowZ rfl 39 _ _ rfl w4.heap.size rfl (cntL 256 (prP b (rdg b T B n) m) m) rfl (List.replicate 256 0) hR0 (by rw [cntL_len, List.length_replicate]) (by rw [cntL_len]; exact HZ1.out) ?_) | (refine wpList_load_rowZ rfl 39 3 _ rfl w4.heap.size 256 rfl (cntL 256 (prP b (rdg b T B n) m) m) hRR Try.underlying39 (by rw [cntL_len]; exact HZ1.out) ?_))
    have HIX : Hid (∀ (k : Nat) wx, k < 256 → (Instr.index 39 (cntV (cntL 256 (prP b (rdg b T B n) m) m)) (.int .i64 k)).run Try.prog wx = .ok (.int .i64 (dgC (prP b (rdg b T B n) m) k m)) wx) := fun k wx hk => by
      rw [run_index_cnt _ k hk (cntL_len _ _ _), cntL_get hk]
    clear hR0 hRR
    revert HIX hbR
    generalize (w4.alloc (.cells Z 39)).setRow w4.heap.size (((cntL 256 (prP b (rdg b T B n) m) m).map (Value.int .i64)).toArray) = w5
    generalize cntV (cntL 256 (prP b (rdg b T B n) m) m) = V
    intro hbR HIX
    have HCL := Lib.hid (fun v => dgC_le (prP b (rdg b T B n) m) v m)
    have HST : Hid (∀ k, smC (fun v => one (0 < dgC (prP b (rdg b T B n) m) v m)) k ≤ k) := fun k => by
      have := smC_le (f := fun v => one (0 < dgC (prP b (rdg b T B n) m) v m)) (g := fun _ => 1) (n := k) fun i _ => by show one _ ≤ 1; unfold one; split <;> omega
      rwa [smC_one] at this
    go_loop [8, 23] (fun s k' => ∃ k : Nat, k ≤ 256 ∧ s = .int .i64 ((smC (fun v => one (0 < dgC (prP b (rdg b T B n) m) v m)) k : Nat) : Int) ∧ k' = .int .i64 k) (fun _ k' => 256 - (intOf k').toNat)
    case atStart => exact ⟨0, by omega, rfl, rfl⟩
    case round =>
      obtain ⟨k, hk, rfl, rfl⟩ := hrel
      by_cases hlt : k < 256
      · have j1 : (k : Int) < 256 := by omega
        have hix := fun wx => HIX.out k wx hlt
        have h6 := HST.out k
        have h7 := HCL.out k
        have HE : Hid (smC (fun v => one (0 < dgC (prP b (rdg b T B n) m) v m)) (k + 1) = smC (fun v => one (0 < dgC (prP b (rdg b T B n) m) v m)) k + one (0 < dgC (prP b (rdg b T B n) m) k m)) := rfl
        revert hix h6 h7 HE
        generalize dgC (prP b (rdg b T B n) m) k m = c
        generalize smC (fun v => one (0 < dgC (prP b (rdg b T B n) m) v m)) k = s
        intro hix h6 h7 HE
        by_cases hc : 0 < c
        · have j2 : (c : Int) > 0 := by omega
          have HE2 : Hid (smC (fun v => one (0 < dgC (prP b (rdg b T B n) m) v m)) (k + 1) = s + 1) := by unfold Hid; rw [HE.out, one_yes hc]
          clear hc HE
          go_wp2_with fail
          go_round
          case rel => exact ⟨k + 1, hlt, by rw [HE2.out]; go_num, by go_num⟩
          case measure => simp [intOf]; omega
        · have j2 : ¬ (c : Int) > 0 := by omega
          have HE2 : Hid (smC (fun v => one (0 < dgC (prP b (rdg b T B n) m) v m)) (k + 1) = s) := by unfold Hid; rw [HE.out, one_no hc]; rfl
          clear hc HE
          go_wp2_with fail
          go_round
          case rel => exact ⟨k + 1, hlt, by rw [HE2.out], by go_num⟩
          case measure => simp [intOf]; omega
      · obtain rfl : k = 256 := by omega
        rw [HHIT.out]
        go_wp2_with fail
        go_ret2
        exact ⟨rfl, hbR⟩


end Go.Proofs.Ytamcpoadpkgogac
