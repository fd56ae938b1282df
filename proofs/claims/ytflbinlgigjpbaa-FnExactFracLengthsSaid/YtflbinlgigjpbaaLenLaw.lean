/-
  The law FnExactFracLengths's walk.
-/
import Derived.Test.YtflbinlgigjpbaaLists
import Derived.Test.YtflbinlgigjpbaaIn
import Derived.Deep.RegionHeld3
namespace Go.Proofs.Ytflbinlgigjpbaa
open Go.RowKit

set_option maxHeartbeats 1000000 in
theorem specFracLengths_no (b t n : Int) (w : World) (h : tldB b t n = false) :
    Calls Try.prog 17 #[.int .i64 b, .agg #[.int .i64 t, .int .i64 n]] w fun e w' => e = .returned (.tuple #[.int .i64 0, .int .i64 0, .bool false]) ∧ Below w.heap.size w w' := by
  go_enter Try.func17, Try.ntmps17
  go_wp2_with (go_at_call 19; refine (l1Given_any _ _ _ _).mono ?_; rintro e w1 ⟨rfl, hb1⟩)
  go_ret3
  exact ⟨rfl, bel1 hb1⟩

set_option maxHeartbeats 1000000 in
theorem specFracLengths_yes (b T B n m : Nat) (w : World) (h : tldB b T B = true) (hT : T < B) (hB : B ≤ 1000) (h3 : 2 ≤ b) (h4 : b ≤ 16) (hnm : IsLen b T B n m) :
    Calls Try.prog 17 #[.int .i64 b, .agg #[.int .i64 T, .int .i64 B]] w fun e w' => e = .returned (.tuple #[.int .i64 n, .int .i64 m, .bool true]) ∧ Below w.heap.size w w' := by
  go_enter Try.func17, Try.ntmps17
  go_wp2_with fail
  refine (l1Given_any _ _ _ _).mono ?_
  rintro e w1 ⟨rfl, hb1⟩
  have q1 := (Box2.newAt (W := w) (T := 27) (x := .int .i64 T) (y := .int .i64 B) rfl).later hb1
  have k0 := q1.cell0
  have k1 := q1.cell1
  have hb := bel1 hb1
  go_wp2_with fail
  refine (l1Lengths_any b T B _ hT hB h3 h4).mono ?_
  rintro e w2 ⟨n', m', hnm', rfl, hb2⟩
  obtain ⟨rfl, rfl⟩ := hnm.unique hnm'
  go_wp2_with fail
  go_ret3
  exact ⟨rfl, hb.trans (hb2.mono hb.size)⟩

set_option maxHeartbeats 1000000 in
theorem implFracLengths_no (b t n : Int) (w : World) (h : tldB b t n = false) :
    Calls Try.prog 18 #[.int .i64 b, .agg #[.int .i64 t, .int .i64 n]] w fun e w' => e = .returned (.tuple #[.int .i64 0, .int .i64 0, .bool false]) ∧ Below w.heap.size w w' := by
  go_enter Try.func18, Try.ntmps18
  go_wp2_with (go_at_call 22; refine (fracTold_any _ _ _ _).mono ?_; rintro e w1 ⟨rfl, hb1⟩)
  go_ret3
  exact ⟨rfl, bel1 hb1⟩

/-- A beginning's and a round's answer: a slice of a known length, the world below as it was. -/
def AnsL (w : World) (k : Nat) (e : Ending) (w' : World) : Prop := ∃ a c, e = .returned (.slice a k c) ∧ Below w.heap.size w w'

theorem begin_len (b T B n m : Nat) (w : World) (hT : T < B) (hg : Nat.gcd T B = 1) (hB : B ≤ 1000) (h3 : 2 ≤ b) (h4 : b ≤ 16) (hnm : IsLen b T B n m) :
    Calls Try.prog 25 #[.agg #[.int .i64 T, .int .i64 B], .int .i64 b] w (AnsL w n) :=
  (begin_any b T B w hT hg hB h3 h4).mono fun e w' ⟨v, n', m', h', he, hs, hb⟩ => by
    obtain ⟨rfl, rfl⟩ := hnm.unique h'
    obtain ⟨a, c, hv⟩ := slc_form hs
    rw [digL_len] at hv
    exact ⟨a, c, by rw [he, hv], hb⟩

theorem round_len (b T B n m : Nat) (w : World) (hT : T < B) (hg : Nat.gcd T B = 1) (hB : B ≤ 1000) (h3 : 2 ≤ b) (h4 : b ≤ 16) (hnm : IsLen b T B n m) :
    Calls Try.prog 27 #[.agg #[.int .i64 T, .int .i64 B], .int .i64 b] w (AnsL w m) :=
  (round_any b T B w hT hg hB h3 h4).mono fun e w' ⟨v, n', m', h', he, hs, hb⟩ => by
    obtain ⟨rfl, rfl⟩ := hnm.unique h'
    obtain ⟨a, c, hv⟩ := slc_form hs
    rw [rndL_len] at hv
    exact ⟨a, c, by rw [he, hv], hb⟩

set_option maxHeartbeats 1000000 in
theorem implFracLengths_yes (b T B n m : Nat) (w : World) (h : tldB b T B = true) (hT : T < B) (hg : Nat.gcd T B = 1) (hB : B ≤ 1000) (h3 : 2 ≤ b) (h4 : b ≤ 16) (hnm : IsLen b T B n m) :
    Calls Try.prog 18 #[.int .i64 b, .agg #[.int .i64 T, .int .i64 B]] w fun e w' => e = .returned (.tuple #[.int .i64 n, .int .i64 m, .bool true]) ∧ Below w.heap.size w w' := by
  have HG := Lib.hid hg; clear hg
  go_enter Try.func18, Try.ntmps18
  go_wp2_with fail
  refine (fracTold_any _ _ _ _).mono ?_
  rintro e w1 ⟨rfl, hb1⟩
  have q1 := (Box2.newAt (W := w) (T := 27) (x := .int .i64 T) (y := .int .i64 B) rfl).later hb1
  have k0 := q1.cell0
  have k1 := q1.cell1
  have hb := bel1 hb1
  go_wp2_with fail
  have d0 : w1.drew.cell? ⟨w.heap.size, 0, none⟩ = some (.int .i64 T) := k0
  have d1 : w1.drew.cell? ⟨w.heap.size, 1, none⟩ = some (.int .i64 B) := k1
  have db : Below w.heap.size w w1.drew := hb.drew
  have dx : Box2 w1.drew w.heap.size 27 (.int .i64 T) (.int .i64 B) := q1
  go_region_held3 (fun w' => (w'.cell? ⟨w.heap.size, 0, none⟩ = some (.int .i64 T) ∧ w'.cell? ⟨w.heap.size, 1, none⟩ = some (.int .i64 B)) ∧ Below w.heap.size w w' ∧ Box2 w' w.heap.size 27 (.int .i64 T) (.int .i64 B)) (exact ⟨⟨by assumption, by assumption⟩, by assumption, by assumption⟩)
    (first | (go_at_call 25; refine (begin_len b T B n m _ hT HG.out hB h3 h4 hnm).mono ?_; rintro e w2 ⟨a2, c2, rfl, hb2⟩; have x2 := Box2.later (by assumption) hb2; have e0 := x2.cell0; have e1 := x2.cell1; have hbw : Below w.heap.size w w2 := Below.trans (by assumption) (hb2.mono (Below.size (by assumption)))) | (go_at_call 27; refine (round_len b T B n m _ hT HG.out hB h3 h4 hnm).mono ?_; rintro e w2 ⟨a2, c2, rfl, hb2⟩; have x2 := Box2.later (by assumption) hb2; have e0 := x2.cell0; have e1 := x2.cell1; have hbw : Below w.heap.size w w2 := Below.trans (by assumption) (hb2.mono (Below.size (by assumption)))))
  all_goals (go_wp2_with fail; go_ret3; exact ⟨rfl, hbw⟩)

set_option maxHeartbeats 1000000 in
theorem lawFracLengths_any (b t n : Int) (w : World) (_wb : (Lit.int .i64 b).wf = true) (_wt : (Lit.int .i64 t).wf = true) (_wn : (Lit.int .i64 n).wf = true) :
    Calls Try.prog 6 #[.int .i64 b, .agg #[.int .i64 t, .int .i64 n]] w fun e w' => e = .returned (.bool true) ∧ Below w.heap.size w w' := by
  have main : ∃ (x y : Int) (p : Bool), (∀ w, Calls Try.prog 17 #[.int .i64 b, .agg #[.int .i64 t, .int .i64 n]] w fun e w' => e = .returned (.tuple #[.int .i64 x, .int .i64 y, .bool p]) ∧ Below w.heap.size w w') ∧
      (∀ w, Calls Try.prog 18 #[.int .i64 b, .agg #[.int .i64 t, .int .i64 n]] w fun e w' => e = .returned (.tuple #[.int .i64 x, .int .i64 y, .bool p]) ∧ Below w.heap.size w w') := by
    cases h : tldB b t n with
    | false => exact ⟨0, 0, false, fun w => specFracLengths_no _ _ _ w h, fun w => implFracLengths_no _ _ _ w h⟩
    | true =>
      have h' := h
      obtain ⟨b', T, B, rfl, rfl, rfl, h3, h4, hT, hB, hg⟩ := tld_nat h'
      obtain ⟨n, m, hnm⟩ := len_some (b := b') hT hg
      exact ⟨_, _, true, fun w => specFracLengths_yes _ _ _ _ _ w h hT hB h3 h4 hnm, fun w => implFracLengths_yes _ _ _ _ _ w h hT hg hB h3 h4 hnm⟩
  obtain ⟨x, y, p, hs, hi⟩ := main
  have q0 := Box2.new w 23 (.int .i64 t) (.int .i64 n)
  have hb0 := (Below.refl w.heap.size w).alloc (Nat.le_refl _) (.cells #[.int .i64 t, .int .i64 n] 23)
  go_enter Try.func6, Try.ntmps6
  go_wp2_with fail
  refine (toFrac_any _ _ _).mono ?_
  rintro e w1 ⟨rfl, hb1⟩
  have q1 := q0.later hb1
  have hbb1 := hb0.trans (hb1.mono (by simp))
  go_wp2_with fail
  refine (hs _).mono ?_
  rintro e w2 ⟨rfl, hb2⟩
  have q2 := q1.later hb2
  have hbb2 := hbb1.trans (hb2.mono hbb1.size)
  have k0 := q2.cell0
  have k1 := q2.cell1
  go_wp2_with fail
  refine (toFrac_any _ _ _).mono ?_
  rintro e w3 ⟨rfl, hb3⟩
  have hbb3 := hbb2.trans (hb3.mono hbb2.size)
  go_wp2_with fail
  refine (hi _).mono ?_
  rintro e w4 ⟨rfl, hb4⟩
  have hbb4 := hbb3.trans (hb4.mono hbb3.size)
  clear hs hi
  cases p <;> (go_wp2_with fail; go_ret; exact ⟨rfl, hbb4⟩)

end Go.Proofs.Ytflbinlgigjpbaa
