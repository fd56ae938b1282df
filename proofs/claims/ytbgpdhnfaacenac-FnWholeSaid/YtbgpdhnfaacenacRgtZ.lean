/-
  Chapter 8, the program's side: what its six functions answer.
-/
import Derived.Test.YtbgpdhnfaacenacRgtX
import Derived.Test.YtbgpdhnfaacenacOfTool
import Derived.Test.YtbgpdhnfaacenacRev
namespace Go.Proofs.Ytbgpdhnfaacenac
open Go.RowKit Go.Maps

theorem way_len {b B n m : Nat} {t : Int} (h : Rgv b B t) (hm : IsRg b B t n m) : n ≤ 14 ∧ m ≤ 1001 ∧ 0 < m := by
  obtain ⟨_, _, h1, h2⟩ := rg_facts h.r h.lo h.hi hm
  have := h.r.B2
  exact ⟨h1, by omega, hm.pos⟩

set_option maxHeartbeats 1000000 in
theorem imRightDigits : ImRightDigits := by
  constructor
  · intro b t n k h w
    have hs : Slc w.heap.size w (.slice none 0 0) [] := Slc.nil _ _
    cases hv : vlB b t n with
    | false =>
      clear h
      go_enter Try.func10, Try.ntmps10
      go_wp2_with fail
      refine (rightTold_any _ _ _ _).mono ?_
      rintro e w1 ⟨rfl, rfl⟩
      rw [hv]
      go_wp2_with fail
      go_ret2
      exact ⟨_, rfl, hs, Below.refl _ _⟩
    | true =>
      rw [hv, Bool.true_and] at h
      by_cases h0 : 0 ≤ k
      · have h1 : decide (k < 0) = false := by simp; omega
        have h2 : decide (k > 200) = true := by
          rw [decide_eq_false_iff_not] at h; simp; omega
        clear h
        go_enter Try.func10, Try.ntmps10
        go_wp2_with fail
        refine (rightTold_any _ _ _ _).mono ?_
        rintro e w1 ⟨rfl, rfl⟩
        rw [hv]
        go_wp2_with fail
        go_ret2
        exact ⟨_, rfl, hs, Below.refl _ _⟩
      · have h1 : decide (k < 0) = true := by simp; omega
        clear h
        go_enter Try.func10, Try.ntmps10
        go_wp2_with fail
        refine (rightTold_any _ _ _ _).mono ?_
        rintro e w1 ⟨rfl, rfl⟩
        rw [hv]
        go_wp2_with fail
        go_ret2
        exact ⟨_, rfl, hs, Below.refl _ _⟩
  · intro b B k t hv hk w
    obtain ⟨n, m, hm⟩ := hv.some
    have told := hv.told
    have h1 : decide ((k : Int) > 200) = false := by simp; omega
    have h2 : decide ((k : Int) < 0) = false := by simp
    have HV := Lib.hid hv; have HM := Lib.hid hm
    clear hv hm
    go_enter Try.func10, Try.ntmps10
    go_wp2_with fail
    refine (rightTold_any _ _ _ _).mono ?_
    rintro e w1 ⟨rfl, rfl⟩
    rw [told]
    go_wp2_with fail
    refine (rightValues_any b B n m t _ HV.out HM.out).mono ?_
    rintro e w1 ⟨rfl, hway, hb1⟩
    have HWAY := Lib.hid hway; clear hway
    go_wp2_with fail
    refine (wdigits_any b B n m w.heap.size k 0 t _ HV.out HM.out HWAY.out (by have := (way_len HV.out HM.out).2.2; omega) (by omega)).mono ?_
    rintro e w2 ⟨v, rfl, hs, hb2⟩
    rw [Nat.zero_add, List.drop_zero] at hs
    go_wp2_with fail
    go_ret2
    exact ⟨_, rfl, hs.mono hb1.size, hb1.trans (hb2.mono hb1.size)⟩


set_option maxHeartbeats 1000000 in
theorem imRightLengths : ImRightLengths := by
  constructor
  · intro b t n hv w
    go_enter Try.func8, Try.ntmps8
    go_wp2_with fail
    refine (rightTold_any _ _ _ _).mono ?_
    rintro e w1 ⟨rfl, rfl⟩
    rw [hv]
    go_wp2_with fail
    go_ret3
    exact ⟨rfl, Below.refl _ _⟩
  · intro b B n m t hv hm w
    have told := hv.told
    obtain ⟨hn, hm2, hpos⟩ := way_len hv hm
    have HV := Lib.hid hv; have HM := Lib.hid hm
    clear hv hm
    go_enter Try.func8, Try.ntmps8
    go_wp2_with fail
    refine (rightTold_any _ _ _ _).mono ?_
    rintro e w1 ⟨rfl, rfl⟩
    rw [told]
    go_wp2_with fail
    refine (rightValues_any b B n m t _ HV.out HM.out).mono ?_
    rintro e w1 ⟨rfl, hway, hb1⟩
    have HWAY := Lib.hid hway; clear hway
    go_wp2_with fail
    refine (stepsTo_any b B n m w.heap.size n (fun s => s) t _ HWAY.out (fun s hs => by unfold nxt; rw [if_neg (by omega)]) (fun s hs => by omega) (fun s hs => by omega) (by omega)).mono ?_
    rintro e w2 ⟨rfl, rfl⟩
    go_wp2_with fail
    refine (wturn_any b B n m w.heap.size t _ HWAY.out hpos hm2).mono ?_
    rintro e w3 ⟨rfl, rfl⟩
    go_wp2_with fail
    go_ret3
    exact ⟨rfl, hb1⟩

set_option maxHeartbeats 2000000 in
theorem imRightWhole : ImRightWhole := by
  constructor
  · intro b t n hv w
    go_enter Try.func15, Try.ntmps15
    go_wp2_with fail
    refine (rightTold_any _ _ _ _).mono ?_
    rintro e w1 ⟨rfl, rfl⟩
    rw [hv]
    go_wp2_with fail
    go_ret
    exact ⟨rfl, Below.refl _ _⟩
  · intro b B t hv w
    obtain ⟨n, m, hm⟩ := hv.some
    have told := hv.told
    obtain ⟨hn, hm2, hpos⟩ := way_len hv hm
    obtain ⟨hin, _, _, _⟩ := rg_facts hv.r hv.lo hv.hi hm
    have hwh := rg_whole hv.r hm hin
    have hb2 := hv.r.b2; have hb16 := hv.r.b16; have hB1 := hv.r.B1
    have hdig := hv.dig (rgT b B t n)
    have HWH : Hid (decide (t % B = 0) = (decide (m = 1) && (decide (rgD b B (rgT b B t n) = 0) || decide (rgD b B (rgT b B t n) = b - 1)))) := by
      unfold Hid
      rw [Bool.eq_iff_iff]
      simp only [Bool.and_eq_true, Bool.or_eq_true, decide_eq_true_eq]
      rw [hwh]
      exact ⟨Int.dvd_of_emod_eq_zero, Int.emod_eq_zero_of_dvd⟩
    have HV := Lib.hid hv; have HM := Lib.hid hm
    clear hv hm hin hwh
    go_enter Try.func15, Try.ntmps15
    go_wp2_with fail
    refine (rightTold_any _ _ _ _).mono ?_
    rintro e w1 ⟨rfl, rfl⟩
    rw [told]
    go_wp2_with fail
    refine (rightValues_any b B n m t _ HV.out HM.out).mono ?_
    rintro e w1 ⟨rfl, hway, hb1⟩
    have node := hway.node n (by omega)
    have node2 := hway.node (nxt n m n) (nxt_lt hpos (by omega))
    have hrun := (eqlN node2 node).1
    have c1 := node.c1
    have c2 := node.c2
    revert c1 HWH hdig
    generalize rgD b B (rgT b B t n) = d
    intro hdig HWH c1
    clear hway node node2
    by_cases h1 : m = 1
    · rw [show decide (wq w.heap.size (nxt n m n) = wq w.heap.size n) = true from decide_eq_true (by unfold nxt; rw [if_pos (by omega)])] at hrun
      have HM1 := Lib.hid h1
      clear h1 hm2 hpos
      by_cases h0 : d = 0
      · subst h0
        go_wp2_with fail
        go_ret
        exact ⟨ret_bool (by rw [HWH.out, HM1.out]; rfl), hb1⟩
      · have h0' : ((d : Int) == 0) = false := by simp; omega
        have w1' : IntKind.i64.wrap ((b : Int) - 1) = (b : Int) - 1 := IntWalk.i64_in _ (by omega)
        have HE : Hid (((d : Int) == (b : Int) - 1) = decide (t % B = 0)) := by
          unfold Hid
          rw [HWH.out, decide_eq_true HM1.out, decide_eq_false h0, Bool.true_and, Bool.false_or, Bool.eq_iff_iff]
          simp
          omega
        go_wp2_with fail
        go_ret
        exact ⟨ret_bool (by first | exact HE.out | (rw [← HE.out]; simp) | (rw [← HE.out])), hb1⟩
    · rw [show decide (wq w.heap.size (nxt n m n) = wq w.heap.size n) = false from decide_eq_false (fun e => by have := wq_inj e; unfold nxt at this; rw [if_neg (by omega)] at this; omega)] at hrun
      have HF : Hid (decide (t % B = 0) = false) := by unfold Hid; rw [HWH.out, decide_eq_false h1, Bool.false_and]
      clear hdig
      go_wp2_with fail
      go_ret
      exact ⟨ret_bool (by rw [HF.out]), hb1⟩

theorem numI_from (b : Nat) (xs : List Int) : ∀ a : Int, xs.foldl (fun n d => (b : Int) * n + d) a = a * ((b ^ xs.length : Nat) : Int) + numI b xs := by
  induction xs with
  | nil => intro a; simp [numI]
  | cons x xs ih =>
    intro a
    have e : numI b (x :: xs) = xs.foldl (fun n d => (b : Int) * n + d) ((b : Int) * 0 + x) := rfl
    rw [e, List.foldl_cons, ih, ih, List.length_cons, Nat.pow_succ, Int.natCast_mul]
    grind
theorem numI_rev (b B : Nat) (t : Int) (k : Nat) : numI b (rgL b B t k).reverse = rgV b B t k := by
  induction k with
  | zero => rfl
  | succ k ih =>
    rw [rgL_succ, List.reverse_append]
    have e : numI b ([(rgD b B (rgT b B t k) : Int)].reverse ++ (rgL b B t k).reverse) = (rgL b B t k).reverse.foldl (fun n d => (b : Int) * n + d) ((b : Int) * 0 + (rgD b B (rgT b B t k) : Int)) := rfl
    rw [e, numI_from, ih, List.length_reverse, rgL_len]
    show _ = rgV b B t k + (rgD b B (rgT b B t k) : Int) * ((b ^ k : Nat) : Int)
    rw [Int.mul_zero, Int.zero_add]; omega
theorem digB_rev {b B : Nat} {t : Int} (h : Rgv b B t) (k : Nat) : digB b (rgL b B t k).reverse = true := by
  unfold digB
  rw [List.all_eq_true]
  intro x hx
  rw [List.mem_reverse] at hx
  unfold rgL at hx
  obtain ⟨i, _, rfl⟩ := List.mem_map.1 hx
  have := h.dig (rgT b B t i)
  simp
  omega

theorem revAny {n₀ : Nat} (v : Value) (xs : List Int) (w : World) (hv : Slc n₀ w v xs) (hx : xs.length ≤ 10000) :
    Calls Try.prog 28 #[v] w fun e w' => e = .returned (.tuple #[]) ∧ Slc n₀ w' v xs.reverse ∧ w.grownBy w' v.ownBlock := by
  cases xs with
  | nil => exact reverse0_any n₀ v w hv
  | cons x xs => exact reverse_any n₀ v _ w hv hx (by simp)

set_option maxHeartbeats 1000000 in
theorem imRightRest : ImRightRest := by
  constructor
  · intro b t n k h w
    cases hv : vlB b t n with
    | false =>
      clear h
      go_enter Try.func13, Try.ntmps13
      go_wp2_with fail
      refine (rightTold_any _ _ _ _).mono ?_
      rintro e w1 ⟨rfl, rfl⟩
      rw [hv]
      go_wp2_with fail
      go_ret2
      exact ⟨rfl, Below.refl _ _⟩
    | true =>
      rw [hv, Bool.true_and] at h
      by_cases h0 : 0 ≤ k
      · have h1 : decide (k < 0) = false := by simp; omega
        have h2 : decide (k > 4) = true := by
          rw [decide_eq_false_iff_not] at h; simp; omega
        clear h
        go_enter Try.func13, Try.ntmps13
        go_wp2_with fail
        refine (rightTold_any _ _ _ _).mono ?_
        rintro e w1 ⟨rfl, rfl⟩
        rw [hv]
        go_wp2_with fail
        go_ret2
        exact ⟨rfl, Below.refl _ _⟩
      · have h1 : decide (k < 0) = true := by simp; omega
        clear h
        go_enter Try.func13, Try.ntmps13
        go_wp2_with fail
        refine (rightTold_any _ _ _ _).mono ?_
        rintro e w1 ⟨rfl, rfl⟩
        rw [hv]
        go_wp2_with fail
        go_ret2
        exact ⟨rfl, Below.refl _ _⟩
  · intro b B k t hv hk w
    obtain ⟨n, m, hm⟩ := hv.some
    have told := hv.told
    have hb16 := hv.r.b16
    have h1 : decide ((k : Int) > 4) = false := by simp; omega
    have h2 : decide ((k : Int) < 0) = false := by simp
    have HV := Lib.hid hv; have HM := Lib.hid hm
    clear hv hm
    go_enter Try.func13, Try.ntmps13
    go_wp2_with fail
    refine (rightTold_any _ _ _ _).mono ?_
    rintro e w1 ⟨rfl, rfl⟩
    rw [told]
    go_wp2_with fail
    refine (rightValues_any b B n m t _ HV.out HM.out).mono ?_
    rintro e w1 ⟨rfl, hway, hb1⟩
    have HWAY := Lib.hid hway; clear hway
    go_wp2_with fail
    refine (wdigits_any b B n m w.heap.size k 0 t _ HV.out HM.out HWAY.out (by have := (way_len HV.out HM.out).2.2; omega) (by omega)).mono ?_
    rintro e w2 ⟨v, rfl, hs, hb2⟩
    rw [Nat.zero_add, List.drop_zero] at hs
    have HS := Lib.hid (hs.mono hb1.size)
    have HB2 : Hid (Below w.heap.size w w2) := hb1.trans (hb2.mono hb1.size)
    clear hs hb2 hb1
    go_wp2_with fail
    refine (revAny v _ _ HS.out (by rw [rgL_len]; omega)).mono ?_
    rintro e w3 ⟨rfl, hs3, hg3⟩
    have HB3 : Hid (Below w.heap.size w w3) := HB2.out.grown hg3 HB2.out.size (fun g e => (HS.out.own g e).1)
    have HS3 := Lib.hid hs3
    clear hs3 hg3
    go_wp2_with fail
    refine (numberOf_any w.heap.size b v _ _ HS3.out hb16 (by rw [List.length_reverse, rgL_len]; omega) (digB_rev HV.out k)).mono ?_
    rintro e w4 ⟨rfl, rfl⟩
    go_wp2_with fail
    go_ret2
    exact ⟨by rw [numI_rev]; rfl, HB3.out⟩


end Go.Proofs.Ytbgpdhnfaacenac
