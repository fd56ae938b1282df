/-
  Digits, beginning and round as lists: the program's functions and the model's answer alike.
-/
import Derived.Test.YtkhhkfdplbipeaaTool
import Derived.Test.YtkhhkfdplbipeaaFirst
namespace Go.Proofs.Ytkhhkfdplbipeaa
open Go.RowKit

/-- A function answers a new list and a bool, in whatever world. -/
def Gives (f : FuncId) (args : Array Value) (xs : List Int) (p : Bool) : Prop :=
  ∀ w : World, Calls Try.prog f args w fun e w' => ∃ v, e = .returned (.tuple #[v, .bool p]) ∧ Slc w.heap.size w' v xs ∧ Below w.heap.size w w'

theorem Slc.empty {n₀ : Nat} {W : World} (hn : n₀ ≤ W.heap.size) : Slc n₀ (W.alloc (.cells #[] 3)) (.slice (some ⟨W.heap.size, 0, none⟩) 0 0) [] :=
  .inr ⟨W.heap.size, 0, 0, #[], rfl, hn, heap_alloc_new W _, by simp, by simp [maxLen], by simp, by simp⟩

theorem bel1 {w w1 : World} {o : Obj} (hb : Below (w.alloc o).heap.size (w.alloc o) w1) : Below w.heap.size w w1 := ((Below.refl w.heap.size w).alloc (Nat.le_refl _) o).trans (hb.mono (by simp))

set_option maxHeartbeats 1000000 in
theorem specFracDigits_no (b t n k : Int) (h : tldB b t n = false) : Gives 9 #[.int .i64 b, .agg #[.int .i64 t, .int .i64 n], .int .i64 k] [] false := by
  intro w
  go_enter Try.func9, Try.ntmps9
  go_wp2_with (go_at_call 22; refine (l1Given_any _ _ _ _).mono ?_; rintro e w1 ⟨rfl, hb1⟩)
  go_ret2
  have hb := bel1 hb1
  exact ⟨_, rfl, Slc.empty hb.size, hb.alloc hb.size _⟩

set_option maxHeartbeats 1000000 in
theorem specFracDigits_off (b t n k : Int) (h : tldB b t n = true) (hk : decide (0 ≤ k ∧ k ≤ 200) = false) : Gives 9 #[.int .i64 b, .agg #[.int .i64 t, .int .i64 n], .int .i64 k] [] false := by
  intro w
  go_enter Try.func9, Try.ntmps9
  go_wp2_with (first | (go_at_call 22; refine (l1Given_any _ _ _ _).mono ?_; rintro e w1 ⟨rfl, hb1⟩) | (go_at_call 23; refine (l6In_any _ _ _ _).mono ?_; rintro e w' ⟨rfl, rfl⟩))
  go_ret2
  have hb := bel1 hb1
  exact ⟨_, rfl, Slc.empty hb.size, hb.alloc hb.size _⟩

set_option maxHeartbeats 1000000 in
theorem specFracDigits_yes (b T B K : Nat) (h : tldB b T B = true) (hT : T < B) (hB : B ≤ 1000) (h3 : 2 ≤ b) (h4 : b ≤ 16) (hK : K ≤ 200) :
    Gives 9 #[.int .i64 b, .agg #[.int .i64 T, .int .i64 B], .int .i64 K] (digL b T B K) true := by
  intro w
  have hkb : decide ((K : Int) ≤ 200) = true := by simp; omega
  go_enter Try.func9, Try.ntmps9
  go_wp2_with fail
  refine (l1Given_any _ _ _ _).mono ?_
  rintro e w1 ⟨rfl, hb1⟩
  have q1 := (Box2.newAt (W := w) (T := 24) (x := .int .i64 T) (y := .int .i64 B) rfl).later hb1
  have k0 := q1.cell0
  have k1 := q1.cell1
  have hb := bel1 hb1
  go_wp2_with fail
  refine (l6In_any _ _ _ _).mono ?_
  rintro e w' ⟨rfl, rfl⟩
  go_wp2_with fail
  refine (l1Digits_any b T B K _ hT hB h3 h4 (by omega)).mono ?_
  rintro e w2 ⟨v, rfl, hv, hb2⟩
  go_wp2_with fail
  go_ret2
  exact ⟨_, rfl, hv.mono hb.size, hb.trans (hb2.mono hb.size)⟩

set_option maxHeartbeats 1000000 in
theorem specFracBegin_no (b t n : Int) (h : tldB b t n = false) : Gives 14 #[.int .i64 b, .agg #[.int .i64 t, .int .i64 n]] [] false := by
  intro w
  go_enter Try.func14, Try.ntmps14
  go_wp2_with (go_at_call 22; refine (l1Given_any _ _ _ _).mono ?_; rintro e w1 ⟨rfl, hb1⟩)
  go_ret2
  have hb := bel1 hb1
  exact ⟨_, rfl, Slc.empty hb.size, hb.alloc hb.size _⟩

set_option maxHeartbeats 1000000 in
theorem specFracBegin_yes (b T B n m : Nat) (h : tldB b T B = true) (hT : T < B) (hB : B ≤ 1000) (h3 : 2 ≤ b) (h4 : b ≤ 16) (hnm : IsLen b T B n m) :
    Gives 14 #[.int .i64 b, .agg #[.int .i64 T, .int .i64 B]] (digL b T B n) true := by
  intro w
  go_enter Try.func14, Try.ntmps14
  go_wp2_with fail
  refine (l1Given_any _ _ _ _).mono ?_
  rintro e w1 ⟨rfl, hb1⟩
  have q1 := (Box2.newAt (W := w) (T := 24) (x := .int .i64 T) (y := .int .i64 B) rfl).later hb1
  have k0 := q1.cell0
  have k1 := q1.cell1
  have hb := bel1 hb1
  go_wp2_with fail
  refine (l1Lengths_any b T B _ hT hB h3 h4).mono ?_
  rintro e w2 ⟨n', m', hnm', rfl, hb2⟩
  obtain ⟨rfl, rfl⟩ := hnm.unique hnm'
  have q2 := q1.later hb2
  have k0' := q2.cell0
  have k1' := q2.cell1
  have hle := hnm.le hT
  go_wp2_with fail
  refine (l1Digits_any b T B n _ hT hB h3 h4 (by omega)).mono ?_
  rintro e w3 ⟨v, rfl, hv, hb3⟩
  go_wp2_with fail
  go_ret2
  have hbb := hb.trans (hb2.mono hb.size)
  exact ⟨_, rfl, hv.mono hbb.size, hbb.trans (hb3.mono hbb.size)⟩

set_option maxHeartbeats 1000000 in
theorem specFracRound_no (b t n : Int) (h : tldB b t n = false) : Gives 17 #[.int .i64 b, .agg #[.int .i64 t, .int .i64 n]] [] false := by
  intro w
  go_enter Try.func17, Try.ntmps17
  go_wp2_with (go_at_call 22; refine (l1Given_any _ _ _ _).mono ?_; rintro e w1 ⟨rfl, hb1⟩)
  go_ret2
  have hb := bel1 hb1
  exact ⟨_, rfl, Slc.empty hb.size, hb.alloc hb.size _⟩

set_option maxHeartbeats 1000000 in
theorem specFracRound_yes (b T B n m : Nat) (h : tldB b T B = true) (hT : T < B) (hB : B ≤ 1000) (h3 : 2 ≤ b) (h4 : b ≤ 16) (hnm : IsLen b T B n m) :
    Gives 17 #[.int .i64 b, .agg #[.int .i64 T, .int .i64 B]] (rndL b T B n m) true := by
  intro w
  go_enter Try.func17, Try.ntmps17
  go_wp2_with fail
  refine (l1Given_any _ _ _ _).mono ?_
  rintro e w1 ⟨rfl, hb1⟩
  have q1 := (Box2.newAt (W := w) (T := 24) (x := .int .i64 T) (y := .int .i64 B) rfl).later hb1
  have k0 := q1.cell0
  have k1 := q1.cell1
  have hb := bel1 hb1
  go_wp2_with fail
  refine (l1Round_any b T B _ hT hB h3 h4).mono ?_
  rintro e w2 ⟨v, n', m', hnm', rfl, hv, hb2⟩
  obtain ⟨rfl, rfl⟩ := hnm.unique hnm'
  go_wp2_with fail
  go_ret2
  exact ⟨_, rfl, hv.mono hb.size, hb.trans (hb2.mono hb.size)⟩

set_option maxHeartbeats 1000000 in
theorem implFracBegin_no (b t n : Int) (h : tldB b t n = false) : Gives 11 #[.int .i64 b, .agg #[.int .i64 t, .int .i64 n]] [] false := by
  intro w
  go_enter Try.func11, Try.ntmps11
  go_wp2_with (go_at_call 20; refine (fracTold_any _ _ _ _).mono ?_; rintro e w1 ⟨rfl, hb1⟩)
  go_ret2
  exact ⟨_, rfl, Slc.nil _ _, bel1 hb1⟩

set_option maxHeartbeats 1000000 in
theorem implFracBegin_yes (b T B n m : Nat) (h : tldB b T B = true) (hT : T < B) (hg : Nat.gcd T B = 1) (hB : B ≤ 1000) (h3 : 2 ≤ b) (h4 : b ≤ 16) (hnm : IsLen b T B n m) :
    Gives 11 #[.int .i64 b, .agg #[.int .i64 T, .int .i64 B]] (digL b T B n) true := by
  intro w
  have HG := Lib.hid hg; clear hg
  go_enter Try.func11, Try.ntmps11
  go_wp2_with fail
  refine (fracTold_any _ _ _ _).mono ?_
  rintro e w1 ⟨rfl, hb1⟩
  have q1 := (Box2.newAt (W := w) (T := 24) (x := .int .i64 T) (y := .int .i64 B) rfl).later hb1
  have k0 := q1.cell0
  have k1 := q1.cell1
  have hb := bel1 hb1
  go_wp2_with fail
  refine (begin_any b T B _ hT HG.out hB h3 h4).mono ?_
  rintro e w2 ⟨v, n', m', hnm', rfl, hv, hb2⟩
  obtain ⟨rfl, rfl⟩ := hnm.unique hnm'
  go_wp2_with fail
  go_ret2
  exact ⟨_, rfl, hv.mono hb.size, hb.trans (hb2.mono hb.size)⟩

set_option maxHeartbeats 1000000 in
theorem implFracRound_no (b t n : Int) (h : tldB b t n = false) : Gives 15 #[.int .i64 b, .agg #[.int .i64 t, .int .i64 n]] [] false := by
  intro w
  go_enter Try.func15, Try.ntmps15
  go_wp2_with (go_at_call 20; refine (fracTold_any _ _ _ _).mono ?_; rintro e w1 ⟨rfl, hb1⟩)
  go_ret2
  exact ⟨_, rfl, Slc.nil _ _, bel1 hb1⟩

set_option maxHeartbeats 1000000 in
theorem implFracRound_yes (b T B n m : Nat) (h : tldB b T B = true) (hT : T < B) (hg : Nat.gcd T B = 1) (hB : B ≤ 1000) (h3 : 2 ≤ b) (h4 : b ≤ 16) (hnm : IsLen b T B n m) :
    Gives 15 #[.int .i64 b, .agg #[.int .i64 T, .int .i64 B]] (rndL b T B n m) true := by
  intro w
  have HG := Lib.hid hg; clear hg
  go_enter Try.func15, Try.ntmps15
  go_wp2_with fail
  refine (fracTold_any _ _ _ _).mono ?_
  rintro e w1 ⟨rfl, hb1⟩
  have q1 := (Box2.newAt (W := w) (T := 24) (x := .int .i64 T) (y := .int .i64 B) rfl).later hb1
  have k0 := q1.cell0
  have k1 := q1.cell1
  have hb := bel1 hb1
  go_wp2_with fail
  refine (round_any b T B _ hT HG.out hB h3 h4).mono ?_
  rintro e w2 ⟨v, n', m', hnm', rfl, hv, hb2⟩
  obtain ⟨rfl, rfl⟩ := hnm.unique hnm'
  go_wp2_with fail
  go_ret2
  exact ⟨_, rfl, hv.mono hb.size, hb.trans (hb2.mono hb.size)⟩

theorem implFracDigits_noG (b t n k : Int) (h : tldB b t n = false) : Gives 8 #[.int .i64 b, .agg #[.int .i64 t, .int .i64 n], .int .i64 k] [] false :=
  fun w => (implFracDigits_no _ _ _ _ w h).mono fun _ _ ⟨he, hb⟩ => ⟨_, he, Slc.nil _ _, hb⟩
theorem implFracDigits_offG (b t n k : Int) (h : tldB b t n = true) (hk : k < 0 ∨ 200 < k) : Gives 8 #[.int .i64 b, .agg #[.int .i64 t, .int .i64 n], .int .i64 k] [] false :=
  fun w => (implFracDigits_off _ _ _ _ w h hk).mono fun _ _ ⟨he, hb⟩ => ⟨_, he, Slc.nil _ _, hb⟩
theorem implFracDigits_yesG (b T B K : Nat) (h : tldB b T B = true) (hT : T < B) (hg : Nat.gcd T B = 1) (hB : B ≤ 1000) (h3 : 2 ≤ b) (h4 : b ≤ 16) (hK : K ≤ 200) :
    Gives 8 #[.int .i64 b, .agg #[.int .i64 T, .int .i64 B], .int .i64 K] (digL b T B K) true :=
  fun w => implFracDigits_yes _ _ _ _ w h hT hg hB h3 h4 hK

/-- Both functions answer the same list. -/
theorem both_digits (b t n k : Int) : ∃ xs p, xs.length ≤ 1000 ∧ Gives 9 #[.int .i64 b, .agg #[.int .i64 t, .int .i64 n], .int .i64 k] xs p ∧ Gives 8 #[.int .i64 b, .agg #[.int .i64 t, .int .i64 n], .int .i64 k] xs p := by
  cases h : tldB b t n with
  | false => exact ⟨[], false, by simp, specFracDigits_no _ _ _ _ h, fun w => (implFracDigits_no _ _ _ _ w h).mono fun e w' ⟨he, hb⟩ => ⟨_, he, Slc.nil _ _, hb⟩⟩
  | true =>
    by_cases hk : 0 ≤ k ∧ k ≤ 200
    · have h' := h
      obtain ⟨b', T, B, rfl, rfl, rfl, h3, h4, hT, hB, hg⟩ := tld_nat h'
      obtain ⟨k, rfl⟩ := Int.eq_ofNat_of_zero_le hk.1
      exact ⟨digL b' T B k, true, by rw [digL_len]; omega, specFracDigits_yes _ _ _ _ h hT hB h3 h4 (by omega), fun w => implFracDigits_yes _ _ _ _ w h hT hg hB h3 h4 (by omega)⟩
    · exact ⟨[], false, by simp, specFracDigits_off _ _ _ _ h (by simpa using hk), fun w => (implFracDigits_off _ _ _ _ w h (by omega)).mono fun e w' ⟨he, hb⟩ => ⟨_, he, Slc.nil _ _, hb⟩⟩

theorem both_begin (b t n : Int) : ∃ xs p, xs.length ≤ 1000 ∧ Gives 14 #[.int .i64 b, .agg #[.int .i64 t, .int .i64 n]] xs p ∧ Gives 11 #[.int .i64 b, .agg #[.int .i64 t, .int .i64 n]] xs p := by
  cases h : tldB b t n with
  | false => exact ⟨[], false, by simp, specFracBegin_no _ _ _ h, implFracBegin_no _ _ _ h⟩
  | true =>
    have h' := h
    obtain ⟨b', T, B, rfl, rfl, rfl, h3, h4, hT, hB, hg⟩ := tld_nat h'
    obtain ⟨n, m, hnm⟩ := len_some (b := b') hT hg
    have hle := hnm.le hT
    exact ⟨digL b' T B n, true, by rw [digL_len]; omega, specFracBegin_yes _ _ _ _ _ h hT hB h3 h4 hnm, implFracBegin_yes _ _ _ _ _ h hT hg hB h3 h4 hnm⟩

theorem both_round (b t n : Int) : ∃ xs p, xs.length ≤ 1000 ∧ Gives 17 #[.int .i64 b, .agg #[.int .i64 t, .int .i64 n]] xs p ∧ Gives 15 #[.int .i64 b, .agg #[.int .i64 t, .int .i64 n]] xs p := by
  cases h : tldB b t n with
  | false => exact ⟨[], false, by simp, specFracRound_no _ _ _ h, implFracRound_no _ _ _ h⟩
  | true =>
    have h' := h
    obtain ⟨b', T, B, rfl, rfl, rfl, h3, h4, hT, hB, hg⟩ := tld_nat h'
    obtain ⟨n, m, hnm⟩ := len_some (b := b') hT hg
    have hle := hnm.le hT
    exact ⟨rndL b' T B n m, true, by rw [rndL_len]; omega, specFracRound_yes _ _ _ _ _ h hT hB h3 h4 hnm, implFracRound_yes _ _ _ _ _ h hT hg hB h3 h4 hnm⟩

end Go.Proofs.Ytkhhkfdplbipeaa
