/-
  The law FnExactFracEnds: both tests answer alike.
-/
import Derived.Test.YtamcpoadpkgogacEnds
import Derived.Test.YtamcpoadpkgogacTold
namespace Go.Proofs.Ytamcpoadpkgogac
open Go.RowKit

set_option maxHeartbeats 1000000 in
theorem implFracEnds_no (b t n : Int) (w : World) (h : tldB b t n = false) :
    Calls Try.prog 11 #[.int .i64 b, .agg #[.int .i64 t, .int .i64 n]] w fun e w' => e = .returned (.bool false) ∧ Below w.heap.size w w' := by
  go_enter Try.func11, Try.ntmps11
  go_wp2_with (go_at_call 25; refine (fracTold_any _ _ _ _).mono ?_; rintro e w1 ⟨rfl, hb1⟩)
  go_ret
  exact ⟨rfl, ((Below.refl w.heap.size w).alloc (Nat.le_refl _) _).trans (hb1.mono (by simp))⟩

set_option maxHeartbeats 1000000 in
theorem implFracEnds_yes (b T B : Nat) (w : World) (h : tldB b T B = true) (hT : T < B) (hg : Nat.gcd T B = 1) (hB : B ≤ 1000) (h3 : 2 ≤ b) (h4 : b ≤ 16) :
    Calls Try.prog 11 #[.int .i64 b, .agg #[.int .i64 T, .int .i64 B]] w fun e w' =>
      ∃ n, (trn b T B n ∧ ∀ i, i < n → ¬ trn b T B i) ∧ e = .returned (.bool (decide ((frT b T B n).1 = 0 ∧ (frT b T B n).2 = 1))) ∧ Below w.heap.size w w' := by
  have HG := Lib.hid hg; clear hg
  go_enter Try.func11, Try.ntmps11
  go_wp2_with fail
  refine (fracTold_any _ _ _ _).mono ?_
  rintro e w1 ⟨rfl, hb1⟩
  have q1 := (Box2.newAt (W := w) (T := 24) (x := .int .i64 T) (y := .int .i64 B) rfl).later hb1
  have k0 := q1.cell0
  have k1 := q1.cell1
  have hs1 := hb1.size
  go_wp2_with fail
  refine (behindBegin_any b T B _ hT HG.out hB h3 h4).mono ?_
  rintro e w2 ⟨n, hn, rfl, hb2⟩
  have hbb := (((Below.refl w.heap.size w).alloc (Nat.le_refl _) (.cells #[.int .i64 T, .int .i64 B] 24)).trans (hb1.mono (by simp))).trans (hb2.mono (by simp at hs1; omega))
  unfold frV
  generalize hx : (frT b T B n).1 = x
  generalize hy : (frT b T B n).2 = y
  have HX := Lib.hid hx; have HY := Lib.hid hy; clear hx hy
  by_cases h1 : x = 0
  · subst h1
    by_cases h2 : y = 1
    · subst h2
      go_wp2_with fail
      go_ret
      exact ⟨n, hn, ret_bool (by rw [HX.out, HY.out]; simp), hbb⟩
    · have h2' : ((y : Int) == 1) = false := by simp; omega
      have H2 := Lib.hid h2; clear h2
      go_wp2_with fail
      go_ret
      exact ⟨n, hn, ret_bool (by rw [HX.out, HY.out]; simp [H2.out]), hbb⟩
  · have h1' : ((x : Int) == 0) = false := by simp; omega
    have H1 := Lib.hid h1; clear h1
    go_wp2_with fail
    go_ret
    exact ⟨n, hn, ret_bool (by rw [HX.out, HY.out]; simp [H1.out]), hbb⟩

theorem implFracEnds_is (b T B n m : Nat) (w : World) (h : tldB b T B = true) (hT : T < B) (hg : Nat.gcd T B = 1) (hB : B ≤ 1000) (h3 : 2 ≤ b) (h4 : b ≤ 16) (hnm : IsLen b T B n m) {q : Bool} (hq : decide (m = 1 ∧ dig b T B n = 0) = q) :
    Calls Try.prog 11 #[.int .i64 b, .agg #[.int .i64 T, .int .i64 B]] w fun e w' => e = .returned (.bool q) ∧ Below w.heap.size w w' := by
  refine (implFracEnds_yes b T B w h hT hg hB h3 h4).mono ?_
  rintro e w' ⟨k, ⟨hk1, hk2⟩, rfl, hb⟩
  obtain ⟨m', hm', _⟩ := len_of_begin hT hg hk1 hk2
  obtain ⟨rfl, rfl⟩ := hnm.unique hm'
  refine ⟨?_, hb⟩
  rw [← hq]
  exact congrArg (fun x => Ending.returned (.bool x)) (decide_eq_decide.2 (ends_iff hT hg h3 hnm))



end Go.Proofs.Ytamcpoadpkgogac
