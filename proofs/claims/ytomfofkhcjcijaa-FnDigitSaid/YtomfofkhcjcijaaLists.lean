/-
  Digits, beginning and round as lists: the program's functions and the model's answer alike.
-/
import Derived.Test.YtomfofkhcjcijaaTool
import Derived.Test.YtomfofkhcjcijaaFirst
namespace Go.Proofs.Ytomfofkhcjcijaa
open Go.RowKit

/-- A function answers a new list and a bool, in whatever world. -/
def Gives (f : FuncId) (args : Array Value) (xs : List Int) (p : Bool) : Prop :=
  ∀ w : World, Calls Try.prog f args w fun e w' => ∃ v, e = .returned (.tuple #[v, .bool p]) ∧ Slc w.heap.size w' v xs ∧ Below w.heap.size w w'

theorem Slc.empty {n₀ : Nat} {W : World} (hn : n₀ ≤ W.heap.size) : Slc n₀ (W.alloc (.cells #[] 3)) (.slice (some ⟨W.heap.size, 0, none⟩) 0 0) [] :=
  .inr ⟨W.heap.size, 0, 0, #[], rfl, hn, heap_alloc_new W _, by simp, by simp [maxLen], by simp, by simp⟩

theorem bel1 {w w1 : World} {o : Obj} (hb : Below (w.alloc o).heap.size (w.alloc o) w1) : Below w.heap.size w w1 := ((Below.refl w.heap.size w).alloc (Nat.le_refl _) o).trans (hb.mono (by simp))








set_option maxHeartbeats 1000000 in
theorem implFracBegin_no (b t n : Int) (h : tldB b t n = false) : Gives 16 #[.int .i64 b, .agg #[.int .i64 t, .int .i64 n]] [] false := by
  intro w
  go_enter Try.func16, Try.ntmps16
  go_wp2_with (go_at_call 26; refine (fracTold_any _ _ _ _).mono ?_; rintro e w1 ⟨rfl, hb1⟩)
  go_ret2
  exact ⟨_, rfl, Slc.nil _ _, bel1 hb1⟩

set_option maxHeartbeats 1000000 in
theorem implFracBegin_yes (b T B n m : Nat) (h : tldB b T B = true) (hT : T < B) (hg : Nat.gcd T B = 1) (hB : B ≤ 1000) (h3 : 2 ≤ b) (h4 : b ≤ 16) (hnm : IsLen b T B n m) :
    Gives 16 #[.int .i64 b, .agg #[.int .i64 T, .int .i64 B]] (digL b T B n) true := by
  intro w
  have HG := Lib.hid hg; clear hg
  go_enter Try.func16, Try.ntmps16
  go_wp2_with fail
  refine (fracTold_any _ _ _ _).mono ?_
  rintro e w1 ⟨rfl, hb1⟩
  have q1 := (Box2.newAt (W := w) (T := 24) (x := .int .i64 T) (y := .int .i64 B) rfl).later hb1
  have k0 := q1.cell0
  have k1 := q1.cell1
  have hb := bel1 hb1
  go_wp2_with fail
  refine (begin_any b T B _ hT HG.out hB h3 h4).mono ?_
  rintro e w2 ⟨v, n', m', hnm', rfl, hv, hb2⟩
  obtain ⟨rfl, rfl⟩ := hnm.unique hnm'
  go_wp2_with fail
  go_ret2
  exact ⟨_, rfl, hv.mono hb.size, hb.trans (hb2.mono hb.size)⟩

set_option maxHeartbeats 1000000 in
theorem implFracRound_no (b t n : Int) (h : tldB b t n = false) : Gives 17 #[.int .i64 b, .agg #[.int .i64 t, .int .i64 n]] [] false := by
  intro w
  go_enter Try.func17, Try.ntmps17
  go_wp2_with (go_at_call 26; refine (fracTold_any _ _ _ _).mono ?_; rintro e w1 ⟨rfl, hb1⟩)
  go_ret2
  exact ⟨_, rfl, Slc.nil _ _, bel1 hb1⟩

set_option maxHeartbeats 1000000 in
theorem implFracRound_yes (b T B n m : Nat) (h : tldB b T B = true) (hT : T < B) (hg : Nat.gcd T B = 1) (hB : B ≤ 1000) (h3 : 2 ≤ b) (h4 : b ≤ 16) (hnm : IsLen b T B n m) :
    Gives 17 #[.int .i64 b, .agg #[.int .i64 T, .int .i64 B]] (rndL b T B n m) true := by
  intro w
  have HG := Lib.hid hg; clear hg
  go_enter Try.func17, Try.ntmps17
  go_wp2_with fail
  refine (fracTold_any _ _ _ _).mono ?_
  rintro e w1 ⟨rfl, hb1⟩
  have q1 := (Box2.newAt (W := w) (T := 24) (x := .int .i64 T) (y := .int .i64 B) rfl).later hb1
  have k0 := q1.cell0
  have k1 := q1.cell1
  have hb := bel1 hb1
  go_wp2_with fail
  refine (round_any b T B _ hT HG.out hB h3 h4).mono ?_
  rintro e w2 ⟨v, n', m', hnm', rfl, hv, hb2⟩
  obtain ⟨rfl, rfl⟩ := hnm.unique hnm'
  go_wp2_with fail
  go_ret2
  exact ⟨_, rfl, hv.mono hb.size, hb.trans (hb2.mono hb.size)⟩




end Go.Proofs.Ytomfofkhcjcijaa
