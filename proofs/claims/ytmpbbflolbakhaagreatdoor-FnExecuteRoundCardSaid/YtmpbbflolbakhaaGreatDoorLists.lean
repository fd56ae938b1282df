/-
  Digits, beginning and round as lists: the program's functions and the model's answer alike.
-/
import Derived.Test.YtmpbbflolbakhaaGreatDoorGRow
import Derived.Test.YtmpbbflolbakhaaGreatDoorAns
import Derived.Test.YtmpbbflolbakhaaGreatDoorTold
import Derived.Test.YtmpbbflolbakhaaGreatDoorGRnd
import Derived.Test.YtmpbbflolbakhaaGreatDoorFirst
namespace Go.Proofs.YtmpbbflolbakhaaGreatDoor
open Go.RowKit






set_option maxHeartbeats 1000000 in
theorem specFracRound_no (b t n : Int) (h : tldB b t n = false) : Gives 7 #[.int .i64 b, .agg #[.int .i64 t, .int .i64 n]] [] false := by
  intro w
  go_enter Tryz.func7, Tryz.ntmps7
  go_wp2_with (go_at_call 18; refine (l1Given_any _ _ _ _).mono ?_; rintro e w1 ⟨rfl, hb1⟩)
  go_ret2
  have hb := bel1 hb1
  exact ⟨_, rfl, Slc.empty hb.size, hb.alloc hb.size _⟩

set_option maxHeartbeats 1000000 in
theorem specFracRound_yes (b T B n m : Nat) (h : tldB b T B = true) (hT : T < B) (hB : B ≤ 1000) (h3 : 2 ≤ b) (h4 : b ≤ 16) (hnm : IsLen b T B n m) :
    Gives 7 #[.int .i64 b, .agg #[.int .i64 T, .int .i64 B]] (rndL b T B n m) true := by
  intro w
  go_enter Tryz.func7, Tryz.ntmps7
  go_wp2_with fail
  refine (l1Given_any _ _ _ _).mono ?_
  rintro e w1 ⟨rfl, hb1⟩
  have q1 := (Box2.newAt (W := w) (T := 24) (x := .int .i64 T) (y := .int .i64 B) rfl).later hb1
  have k0 := q1.cell0
  have k1 := q1.cell1
  have hb := bel1 hb1
  go_wp2_with fail
  refine (l1Round_any b T B _ hT hB h3 h4).mono ?_
  rintro e w2 ⟨v, n', m', hnm', rfl, hv, hb2⟩
  obtain ⟨rfl, rfl⟩ := hnm.unique hnm'
  go_wp2_with fail
  go_ret2
  exact ⟨_, rfl, hv.mono hb.size, hb.trans (hb2.mono hb.size)⟩

set_option maxHeartbeats 1000000 in
theorem implFracBegin_no (b t n : Int) (h : tldB b t n = false) : Gives 101 #[.int .i64 b, .agg #[.int .i64 t, .int .i64 n]] [] false := by
  intro w
  go_enter Tryz.func101, Tryz.ntmps101
  go_wp2_with (go_at_call 16; refine (fracTold_any _ _ _ _).mono ?_; rintro e w1 ⟨rfl, hb1⟩)
  go_ret2
  exact ⟨_, rfl, Slc.nil _ _, bel1 hb1⟩

set_option maxHeartbeats 1000000 in
theorem implFracBegin_yes (b T B n m : Nat) (h : tldB b T B = true) (hT : T < B) (hg : Nat.gcd T B = 1) (hB : B ≤ 1000) (h3 : 2 ≤ b) (h4 : b ≤ 16) (hnm : IsLen b T B n m) :
    Gives 101 #[.int .i64 b, .agg #[.int .i64 T, .int .i64 B]] (digL b T B n) true := by
  intro w
  have HG := Lib.hid hg; clear hg
  go_enter Tryz.func101, Tryz.ntmps101
  go_wp2_with fail
  refine (fracTold_any _ _ _ _).mono ?_
  rintro e w1 ⟨rfl, hb1⟩
  have q1 := (Box2.newAt (W := w) (T := 24) (x := .int .i64 T) (y := .int .i64 B) rfl).later hb1
  have k0 := q1.cell0
  have k1 := q1.cell1
  have hb := bel1 hb1
  go_wp2_with fail
  refine (begin_any b T B _ hT HG.out hB h3 h4).mono ?_
  rintro e w2 ⟨v, n', m', hnm', rfl, hv, hb2⟩
  obtain ⟨rfl, rfl⟩ := hnm.unique hnm'
  go_wp2_with fail
  go_ret2
  exact ⟨_, rfl, hv.mono hb.size, hb.trans (hb2.mono hb.size)⟩

set_option maxHeartbeats 1000000 in
theorem implFracRound_no (b t n : Int) (h : tldB b t n = false) : Gives 6 #[.int .i64 b, .agg #[.int .i64 t, .int .i64 n]] [] false := by
  intro w
  go_enter Tryz.func6, Tryz.ntmps6
  go_wp2_with (go_at_call 16; refine (fracTold_any _ _ _ _).mono ?_; rintro e w1 ⟨rfl, hb1⟩)
  go_ret2
  exact ⟨_, rfl, Slc.nil _ _, bel1 hb1⟩

set_option maxHeartbeats 1000000 in
theorem implFracRound_yes (b T B n m : Nat) (h : tldB b T B = true) (hT : T < B) (hg : Nat.gcd T B = 1) (hB : B ≤ 1000) (h3 : 2 ≤ b) (h4 : b ≤ 16) (hnm : IsLen b T B n m) :
    Gives 6 #[.int .i64 b, .agg #[.int .i64 T, .int .i64 B]] (rndL b T B n m) true := by
  intro w
  have HG := Lib.hid hg; clear hg
  go_enter Tryz.func6, Tryz.ntmps6
  go_wp2_with fail
  refine (fracTold_any _ _ _ _).mono ?_
  rintro e w1 ⟨rfl, hb1⟩
  have q1 := (Box2.newAt (W := w) (T := 24) (x := .int .i64 T) (y := .int .i64 B) rfl).later hb1
  have k0 := q1.cell0
  have k1 := q1.cell1
  have hb := bel1 hb1
  go_wp2_with fail
  refine (round_any b T B _ hT HG.out hB h3 h4).mono ?_
  rintro e w2 ⟨v, n', m', hnm', rfl, hv, hb2⟩
  obtain ⟨rfl, rfl⟩ := hnm.unique hnm'
  go_wp2_with fail
  go_ret2
  exact ⟨_, rfl, hv.mono hb.size, hb.trans (hb2.mono hb.size)⟩

theorem implFracDigits_noG (b t n k : Int) (h : tldB b t n = false) : Gives 115 #[.int .i64 b, .agg #[.int .i64 t, .int .i64 n], .int .i64 k] [] false :=
  fun w => (implFracDigits_no _ _ _ _ w h).mono fun _ _ ⟨he, hb⟩ => ⟨_, he, Slc.nil _ _, hb⟩
theorem implFracDigits_offG (b t n k : Int) (h : tldB b t n = true) (hk : k < 0 ∨ 200 < k) : Gives 115 #[.int .i64 b, .agg #[.int .i64 t, .int .i64 n], .int .i64 k] [] false :=
  fun w => (implFracDigits_off _ _ _ _ w h hk).mono fun _ _ ⟨he, hb⟩ => ⟨_, he, Slc.nil _ _, hb⟩
theorem implFracDigits_yesG (b T B K : Nat) (h : tldB b T B = true) (hT : T < B) (hg : Nat.gcd T B = 1) (hB : B ≤ 1000) (h3 : 2 ≤ b) (h4 : b ≤ 16) (hK : K ≤ 200) :
    Gives 115 #[.int .i64 b, .agg #[.int .i64 T, .int .i64 B], .int .i64 K] (digL b T B K) true :=
  fun w => implFracDigits_yes _ _ _ _ w h hT hg hB h3 h4 hK



theorem both_round (b t n : Int) : ∃ xs p, xs.length ≤ 1000 ∧ Gives 7 #[.int .i64 b, .agg #[.int .i64 t, .int .i64 n]] xs p ∧ Gives 6 #[.int .i64 b, .agg #[.int .i64 t, .int .i64 n]] xs p := by
  cases h : tldB b t n with
  | false => exact ⟨[], false, by simp, specFracRound_no _ _ _ h, implFracRound_no _ _ _ h⟩
  | true =>
    have h' := h
    obtain ⟨b', T, B, rfl, rfl, rfl, h3, h4, hT, hB, hg⟩ := tld_nat h'
    obtain ⟨n, m, hnm⟩ := len_some (b := b') hT hg
    have hle := hnm.le hT
    exact ⟨rndL b' T B n m, true, by rw [rndL_len]; omega, specFracRound_yes _ _ _ _ _ h hT hB h3 h4 hnm, implFracRound_yes _ _ _ _ _ h hT hg hB h3 h4 hnm⟩

end Go.Proofs.YtmpbbflolbakhaaGreatDoor
