/-
  The law FnExactFracEnds: both tests answer alike.
-/
import Derived.Test.YtppdhnndklpdmaaEnds
namespace Go.Proofs.Ytppdhnndklpdmaa
open Go.RowKit

set_option maxHeartbeats 1000000 in
theorem implFracEnds_no (b t n : Int) (w : World) (h : tldB b t n = false) :
    Calls Try.prog 16 #[.int .i64 b, .agg #[.int .i64 t, .int .i64 n]] w fun e w' => e = .returned (.bool false) ∧ Below w.heap.size w w' := by
  go_enter Try.func16, Try.ntmps16
  go_wp2_with (go_at_call 32; refine (fracTold_any _ _ _ _).mono ?_; rintro e w1 ⟨rfl, hb1⟩)
  go_ret
  exact ⟨rfl, ((Below.refl w.heap.size w).alloc (Nat.le_refl _) _).trans (hb1.mono (by simp))⟩

set_option maxHeartbeats 1000000 in
theorem implFracEnds_yes (b T B : Nat) (w : World) (h : tldB b T B = true) (hT : T < B) (hg : Nat.gcd T B = 1) (hB : B ≤ 1000) (h3 : 2 ≤ b) (h4 : b ≤ 16) :
    Calls Try.prog 16 #[.int .i64 b, .agg #[.int .i64 T, .int .i64 B]] w fun e w' =>
      ∃ n, (trn b T B n ∧ ∀ i, i < n → ¬ trn b T B i) ∧ e = .returned (.bool (decide ((frT b T B n).1 = 0 ∧ (frT b T B n).2 = 1))) ∧ Below w.heap.size w w' := by
  have HG := Lib.hid hg; clear hg
  go_enter Try.func16, Try.ntmps16
  go_wp2_with fail
  refine (fracTold_any _ _ _ _).mono ?_
  rintro e w1 ⟨rfl, hb1⟩
  have q1 := (Box2.newAt (W := w) (T := 25) (x := .int .i64 T) (y := .int .i64 B) rfl).later hb1
  have k0 := q1.cell0
  have k1 := q1.cell1
  have hs1 := hb1.size
  go_wp2_with fail
  refine (behindBegin_any b T B _ hT HG.out hB h3 h4).mono ?_
  rintro e w2 ⟨n, hn, rfl, hb2⟩
  have hbb := (((Below.refl w.heap.size w).alloc (Nat.le_refl _) (.cells #[.int .i64 T, .int .i64 B] 25)).trans (hb1.mono (by simp))).trans (hb2.mono (by simp at hs1; omega))
  unfold frV
  generalize hx : (frT b T B n).1 = x
  generalize hy : (frT b T B n).2 = y
  have HX := Lib.hid hx; have HY := Lib.hid hy; clear hx hy
  by_cases h1 : x = 0
  · subst h1
    by_cases h2 : y = 1
    · subst h2
      go_wp2_with fail
      go_ret
      exact ⟨n, hn, ret_bool (by rw [HX.out, HY.out]; simp), hbb⟩
    · have h2' : ((y : Int) == 1) = false := by simp; omega
      have H2 := Lib.hid h2; clear h2
      go_wp2_with fail
      go_ret
      exact ⟨n, hn, ret_bool (by rw [HX.out, HY.out]; simp [H2.out]), hbb⟩
  · have h1' : ((x : Int) == 0) = false := by simp; omega
    have H1 := Lib.hid h1; clear h1
    go_wp2_with fail
    go_ret
    exact ⟨n, hn, ret_bool (by rw [HX.out, HY.out]; simp [H1.out]), hbb⟩

set_option maxHeartbeats 1000000 in
theorem lawFracEnds_any (b t n : Int) (w : World) (_wb : (Lit.int .i64 b).wf = true) (_wt : (Lit.int .i64 t).wf = true) (_wn : (Lit.int .i64 n).wf = true) :
    Calls Try.prog 5 #[.int .i64 b, .agg #[.int .i64 t, .int .i64 n]] w fun e w' => e = .returned (.bool true) ∧ Below w.heap.size w w' := by
  have q0 := Box2.new w 23 (.int .i64 t) (.int .i64 n)
  have hb0 := (Below.refl w.heap.size w).alloc (Nat.le_refl _) (.cells #[.int .i64 t, .int .i64 n] 23)
  cases h : tldB b t n with
  | false =>
    go_enter Try.func5, Try.ntmps5
    go_wp2_with fail
    refine (toFrac_any _ _ _).mono ?_
    rintro e w1 ⟨rfl, hb1⟩
    have q1 := q0.later hb1
    go_wp2_with fail
    refine (specFracEnds_no _ _ _ _ h).mono ?_
    rintro e w2 ⟨rfl, hb2⟩
    have q2 := q1.later hb2
    have k0 := q2.cell0
    have k1 := q2.cell1
    go_wp2_with fail
    refine (toFrac_any _ _ _).mono ?_
    rintro e w3 ⟨rfl, hb3⟩
    go_wp2_with fail
    refine (implFracEnds_no _ _ _ _ h).mono ?_
    rintro e w4 ⟨rfl, hb4⟩
    go_wp2_with fail
    go_ret
    have hs := q1.lt
    have hs2 := q2.lt
    exact ⟨rfl, hb0.trans ((hb1.mono (by simp)).trans ((hb2.mono (by omega)).trans ((hb3.mono (by omega)).trans (hb4.mono (by have := hb3.size; omega)))))⟩
  | true =>
    have h' := h
    obtain ⟨b', T, B, rfl, rfl, rfl, h3, h4, hT, hB, hg⟩ := tld_nat h'
    clear h'
    have HG := Lib.hid hg; clear hg
    go_enter Try.func5, Try.ntmps5
    go_wp2_with fail
    refine (toFrac_any _ _ _).mono ?_
    rintro e w1 ⟨rfl, hb1⟩
    have q1 := q0.later hb1
    go_wp2_with fail
    refine (specFracEnds_yes _ _ _ _ h hT hB h3 h4).mono ?_
    rintro e w2 ⟨n, m, hnm, rfl, hb2⟩
    have q2 := q1.later hb2
    have k0 := q2.cell0
    have k1 := q2.cell1
    go_wp2_with fail
    refine (toFrac_any _ _ _).mono ?_
    rintro e w3 ⟨rfl, hb3⟩
    go_wp2_with fail
    refine (implFracEnds_yes _ _ _ _ h hT HG.out hB h3 h4).mono ?_
    rintro e w4 ⟨n', hn', rfl, hb4⟩
    obtain ⟨m', hm', _⟩ := len_of_begin hT HG.out hn'.1 hn'.2
    obtain ⟨rfl, rfl⟩ := hnm.unique hm'
    have he : decide ((frT b' T B n).1 = 0 ∧ (frT b' T B n).2 = 1) = decide (m = 1 ∧ dig b' T B n = 0) := by
      rw [decide_eq_decide]; exact ends_iff hT HG.out h3 hnm
    rw [he]
    clear he
    go_wp2_with fail
    go_ret
    have hs := q1.lt
    have hs2 := q2.lt
    exact ⟨rfl, hb0.trans ((hb1.mono (by simp)).trans ((hb2.mono (by omega)).trans ((hb3.mono (by omega)).trans (hb4.mono (by have := hb3.size; omega)))))⟩

end Go.Proofs.Ytppdhnndklpdmaa
