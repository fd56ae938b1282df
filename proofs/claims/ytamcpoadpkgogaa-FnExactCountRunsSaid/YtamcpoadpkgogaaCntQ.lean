/-
  Chapter 7, the program's side: CountRuns, CountPairs, CountFull.
-/
import Derived.Test.YtamcpoadpkgogaaCntY
import Derived.Test.YtamcpoadpkgogaaCntX
import Derived.Test.YtamcpoadpkgogaaCntW
import Derived.Test.YtamcpoadpkgogaaTold
import Derived.Test.YtamcpoadpkgogaaPMath
import Derived.Test.YtamcpoadpkgogaaGWlk
import Derived.Test.YtamcpoadpkgogaaGRnd
import Derived.BigQuiet
namespace Go.Proofs.Ytamcpoadpkgogaa
open Go.RowKit

theorem twice_get {m : Nat} {L : List Int} {D : Nat → Nat} (hl : L.length = m) (hd : ∀ i, i < m → L[i]?.getD 0 = (D i : Int)) {j : Nat} (hj : j < 2 * m) : (L ++ L)[j]?.getD 0 = (D (j % m) : Int) := by
  rcases Nat.lt_or_ge j m with h | h
  · rw [List.getElem?_append_left (by omega), Nat.mod_eq_of_lt h, hd j h]
  · rw [List.getElem?_append_right (by omega), hl, Nat.mod_eq_sub_mod h, Nat.mod_eq_of_lt (by omega), hd _ (by omega)]

theorem max_if (a b : Nat) : (if (a : Int) < (b : Int) then (b : Int) else (a : Int)) = ((Nat.max a b : Nat) : Int) := by
  by_cases h : a < b
  · rw [if_pos (by omega), show Nat.max a b = b from Nat.max_eq_right (by omega)]
  · rw [if_neg (by omega), show Nat.max a b = a from Nat.max_eq_left (by omega)]
theorem min_if (a b : Nat) : (if (b : Int) < (a : Int) then (b : Int) else (a : Int)) = ((Nat.min a b : Nat) : Int) := by
  by_cases h : b < a
  · rw [if_pos (by omega), show Nat.min a b = b from Nat.min_eq_right (by omega)]
  · rw [if_neg (by omega), show Nat.min a b = a from Nat.min_eq_left (by omega)]

set_option maxRecDepth 100000 in
set_option maxHeartbeats 4000000 in
theorem imCountRuns : ImCountRuns := by
  constructor
  · intro b t n h w
    go_enter Try.func18, Try.ntmps18
    go_wp2_with fail
    refine (fracTold_any b t n _).mono ?_
    rintro e w1 ⟨rfl, hb1⟩
    have hb := bel1 hb1
    rw [h]
    go_wp2_with fail
    go_ret2
    exact ⟨rfl, hb⟩
  · intro b T B n m r hf hr w
    have h3 := hf.b2; have h4 := hf.b16; have hT := hf.lt; have hB := hf.bot; have hm1 := hf.pos; have hm2 := hf.le
    have HF := Lib.hid hf
    have HR := Lib.hid hr
    have told := hf.told
    clear hf hr
    go_enter Try.func18, Try.ntmps18
    go_wp2_with fail
    refine (fracTold_any b T B _).mono ?_
    rintro e w1 ⟨rfl, hb1⟩
    have q1 := (Box2.newAt (W := w) (T := 27) (x := .int .i64 T) (y := .int .i64 B) rfl).later hb1
    have k0 := q1.cell0
    have k1 := q1.cell1
    have hb := bel1 hb1
    rw [told]
    clear hb1
    go_wp2_with fail
    refine (round_any b T B _ hT HF.out.cop hB h3 h4).mono ?_
    rintro e w2 ⟨v, n', m', hm, rfl, hv, hb2⟩
    obtain ⟨rfl, rfl⟩ := HF.out.len.unique hm
    obtain ⟨g, o, c, rfl, _, hgl, _, _⟩ := slc_some hv (by rw [rndL_len]; omega)
    have hlen := rndL_len b T B n m
    rw [hlen] at hv ⊢
    have hbb := hb.trans (hb2.mono hb.size)
    have HD := Lib.hid (fun (i : Nat) (hi : i < m) => show (rndL b T B n m)[i]?.getD 0 = (rdg b T B n i : Int) from rndL_get b T B n m i hi)
    have c0 := Slc.cell hlen hv 0 (by omega)
    rw [HD.out 0 (by omega)] at c0
    have HLEN := Lib.hid hlen
    clear hb2 hb k0 k1 q1 hm hlen
    rw [Nat.add_zero] at c0
    go_wp2_with fail
    have i1 : (0 : Int) < (m : Int) := by omega
    go_quiet (fail)
    have hvd : ∀ k, Slc w1.heap.size (w2.drewN k) (.slice (some ⟨g, o, none⟩) m c) (rndL b T B n m) := fun _ => hv
    have hbd := fun k => below_drewN hbb k
    clear c0 hv hbb
    go_wp2_with fail
    have hA : ((w2.drewN nq).alloc (.cells #[.slice (some ⟨g, o, none⟩) m c, .slice (some ⟨g, o, none⟩) m c] 24)).heap[w2.heap.size]? = some (.cells #[.slice (some ⟨g, o, none⟩) m c, .slice (some ⟨g, o, none⟩) m c] 24) := heap_alloc_new (w2.drewN nq) _
    have hbA : Below (w2.drewN nq).heap.size (w2.drewN nq) ((w2.drewN nq).alloc (.cells #[.slice (some ⟨g, o, none⟩) m c, .slice (some ⟨g, o, none⟩) m c] 24)) := (Below.refl _ _).alloc (Nat.le_refl _) _
    have hsA := (hvd nq).later hbA
    have hBA := (hbd nq).trans (hbA.mono (hbd nq).size)
    clear hvd hbd hbA
    revert hA hsA hBA
    generalize (w2.drewN nq).alloc (.cells #[.slice (some ⟨g, o, none⟩) m c, .slice (some ⟨g, o, none⟩) m c] 24) = w3
    intro hA hsA hBA
    refine (concatI_two _ _ w2.heap.size 2 g o m c g o m c (rndL b T B n m) (rndL b T B n m) w3 HLEN.out HLEN.out hsA hsA (Array.getElem?_eq_some_iff.1 hA).1 (Nat.le_refl _) ((cell_of_row _ _ 0 _ _ _ hA).trans rfl) ((cell_of_row _ _ 1 _ _ _ hA).trans rfl) (by omega) (by omega)).mono ?_
    rintro e w4 ⟨u, rfl, hu, hb4⟩
    have hB4 := hBA.trans (hb4.mono hBA.size)
    have hul : (rndL b T B n m ++ rndL b T B n m).length = 2 * m := by rw [List.length_append, HLEN.out]; omega
    have HUD := Lib.hid (fun j (hj : j < 2 * m) => twice_get HLEN.out HD.out hj)
    obtain ⟨g2, o2, c2, rfl, _, _, _, _⟩ := slc_some hu (by rw [hul]; omega)
    rw [hul] at hu ⊢
    have HUL := Lib.hid hul
    clear hA hsA hBA hb4 hul
    obtain ⟨M2, hM2⟩ : ∃ M2, 2 * m = M2 := ⟨_, rfl⟩
    rw [hM2] at hu HUD HUL ⊢
    have hM3 : M2 ≤ 2000 := by omega
    have hM4 : 0 < M2 := by omega
    have HM2 := Lib.hid hM2
    clear hM2
    obtain ⟨D, hD⟩ : ∃ D, rdg b T B n = D := ⟨_, rfl⟩
    rw [hD] at HUD HR ⊢
    have hd0 : Hid (D ((0 - 1) % m) = D 0) := by rw [show (0 - 1) % m = 0 from Nat.zero_mod m]; rfl
    go_wp2_with fail
    go_loopw [7, 8, 9, 27] (fun B' n' l' i' wr => ∃ i N BB : Nat, i ≤ M2 ∧ IsLin (fun i => D (i % m)) i N BB ∧ B' = .int .i64 BB ∧ n' = .int .i64 N ∧ l' = .int .i64 (D ((i - 1) % m)) ∧ i' = .int .i64 i ∧ Below w.heap.size w wr ∧ Slc w3.heap.size wr (.slice (some ⟨g2, o2, none⟩) M2 c2) (rndL b T B n m ++ rndL b T B n m)) (fun _ _ _ i' _ => M2 - (intOf i').toNat)
    case atStart => exact ⟨0, 0, 0, Nat.zero_le _, IsLin.zero _, rfl, rfl, by rw [hd0.out], rfl, hB4, hu⟩
    case round =>
      clear hu hB4
      obtain ⟨i, N, BB, hi, hlin, rfl, rfl, rfl, rfl, hbr, hu⟩ := hrel
      have hNle := hlin.le
      have hBle := hlin.best.1
      by_cases hlt : i < M2
      · have kc := Slc.cell HUL.out hu i hlt
        rw [HUD.out i hlt] at kc
        have HLIN := Lib.hid hlin; have HU := Lib.hid hu
        have j1 : (i : Int) < (M2 : Int) := by omega
        have j2 : (0 : Int) ≤ (i : Int) := by omega
        clear hlin hu
        by_cases he : D (i % m) = D ((i - 1) % m)
        · have HE := Lib.hid he
          have HX : Hid (D ((i + 1 - 1) % m) = D (i % m)) := rfl
          have hne : ((D (i % m) : Int) != (D ((i - 1) % m) : Int)) = false := by rw [he]; simp
          rw [← he] at hne ⊢
          clear he
          have STEP := Lib.hid (HLIN.out.step (k := N + 1) (.inl ⟨rfl, fun _ => HE.out⟩))
          clear HE
          revert kc hne HX
          generalize D (i % m) = x
          intro kc HX hne
          go_wp2_with fail
          go_roundw
          case rel => exact ⟨i + 1, N + 1, Nat.max BB (N + 1), hlt, STEP.out, by rw [← max_if]; go_num, by go_num, by rw [HX.out], by go_num, hbr, HU.out⟩
          case measure => simp [intOf]; omega
        · have hi0 : 0 < i := by
            refine Nat.pos_of_ne_zero fun e => he ?_
            subst e; rfl
          have HX : Hid (D ((i + 1 - 1) % m) = D (i % m)) := rfl
          have hne : ((D (i % m) : Int) == (D ((i - 1) % m) : Int)) = false := by simp; omega
          have hne2 : ((D (i % m) : Int) != (D ((i - 1) % m) : Int)) = true := by simp; omega
          have STEP := Lib.hid (HLIN.out.step (k := 1) (.inr ⟨rfl, hi0, he⟩))
          clear he
          revert kc hne hne2 HX
          generalize D (i % m) = x
          generalize D ((i - 1) % m) = y
          intro kc HX hne hne2
          go_wp2_with fail
          go_roundw
          case rel => exact ⟨i + 1, 1, Nat.max BB 1, hlt, STEP.out, by rw [← max_if]; go_num, by go_num, by rw [HX.out], by go_num, hbr, HU.out⟩
          case measure => simp [intOf]; omega
      · obtain rfl : i = M2 := by omega
        have hRUN : r = Nat.min BB m := by
          have hl := hlin
          rw [← HM2.out] at hl
          exact HR.out.unique (hl.round (by omega))
        have j1 : ¬ (i : Int) < (i : Int) := by omega
        clear hlin hu
        by_cases hmb : m < BB
        · obtain rfl : r = m := by rw [hRUN]; exact Nat.min_eq_right (by omega)
          have j2 : (r : Int) < (BB : Int) := by omega
          clear hRUN
          go_wp2_with fail
          go_ret2
          exact ⟨rfl, hbr⟩
        · obtain rfl : r = BB := by rw [hRUN]; exact Nat.min_eq_left (by omega)
          have j2 : ¬ (m : Int) < (r : Int) := by omega
          clear hRUN
          go_wp2_with fail
          go_ret2
          exact ⟨rfl, hbr⟩


end Go.Proofs.Ytamcpoadpkgogaa
