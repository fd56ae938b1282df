/-
  Digits, beginning and round as lists: the program's functions and the model's answer alike.
-/
import Derived.Test.YtbgpdhnfaacenadGRow
import Derived.Test.YtbgpdhnfaacenadAns
import Derived.Test.YtbgpdhnfaacenadTold
import Derived.Test.YtbgpdhnfaacenadGRnd
import Derived.Test.YtbgpdhnfaacenadFirst
namespace Go.Proofs.Ytbgpdhnfaacenad
open Go.RowKit










set_option maxHeartbeats 1000000 in
theorem implFracRound_no (b t n : Int) (h : tldB b t n = false) : Gives 8 #[.int .i64 b, .agg #[.int .i64 t, .int .i64 n]] [] false := by
  intro w
  go_enter Try.func8, Try.ntmps8
  go_wp2_with (go_at_call 10; refine (fracTold_any _ _ _ _).mono ?_; rintro e w1 ⟨rfl, hb1⟩)
  go_ret2
  exact ⟨_, rfl, Slc.nil _ _, bel1 hb1⟩

set_option maxHeartbeats 1000000 in
theorem implFracRound_yes (b T B n m : Nat) (h : tldB b T B = true) (hT : T < B) (hg : Nat.gcd T B = 1) (hB : B ≤ 1000) (h3 : 2 ≤ b) (h4 : b ≤ 16) (hnm : IsLen b T B n m) :
    Gives 8 #[.int .i64 b, .agg #[.int .i64 T, .int .i64 B]] (rndL b T B n m) true := by
  intro w
  have HG := Lib.hid hg; clear hg
  go_enter Try.func8, Try.ntmps8
  go_wp2_with fail
  refine (fracTold_any _ _ _ _).mono ?_
  rintro e w1 ⟨rfl, hb1⟩
  have q1 := (Box2.newAt (W := w) (T := 24) (x := .int .i64 T) (y := .int .i64 B) rfl).later hb1
  have k0 := q1.cell0
  have k1 := q1.cell1
  have hb := bel1 hb1
  go_wp2_with fail
  refine (round_any b T B _ hT HG.out hB h3 h4).mono ?_
  rintro e w2 ⟨v, n', m', hnm', rfl, hv, hb2⟩
  obtain ⟨rfl, rfl⟩ := hnm.unique hnm'
  go_wp2_with fail
  go_ret2
  exact ⟨_, rfl, hv.mono hb.size, hb.trans (hb2.mono hb.size)⟩





end Go.Proofs.Ytbgpdhnfaacenad
