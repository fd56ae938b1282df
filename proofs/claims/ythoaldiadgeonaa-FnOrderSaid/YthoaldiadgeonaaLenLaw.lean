/-
  The law FnExactFracLengths's walk.
-/
import Derived.Test.YthoaldiadgeonaaLists
import Derived.Test.YthoaldiadgeonaaIn
import Derived.Deep.RegionHeld3
import Derived.Test.YthoaldiadgeonaaTq
namespace Go.Proofs.Ythoaldiadgeonaa
set_option maxRecDepth 100000
open Go.RowKit



set_option maxHeartbeats 1000000 in
theorem implFracLengths_no (b t n : Int) (w : World) (h : tldB b t n = false) :
    Calls Tryq.prog 20 #[.int .i64 b, .agg #[.int .i64 t, .int .i64 n]] w fun e w' => e = .returned (.tuple #[.int .i64 0, .int .i64 0, .bool false]) ∧ Below w.heap.size w w' := by
  go_enter Tryq.func20, Try.ntmps20
  go_wp2_with (go_at_call 42; refine (fracTold_any _ _ _ _).mono ?_; rintro e w1 ⟨rfl, hb1⟩)
  go_ret3
  exact ⟨rfl, bel1 hb1⟩

/-- A beginning's and a round's answer: a slice of a known length, the world below as it was. -/
def AnsL (w : World) (k : Nat) (e : Ending) (w' : World) : Prop := ∃ a c, e = .returned (.slice a k c) ∧ Below w.heap.size w w'

theorem begin_len (b T B n m : Nat) (w : World) (hT : T < B) (hg : Nat.gcd T B = 1) (hB : B ≤ 1000) (h3 : 2 ≤ b) (h4 : b ≤ 16) (hnm : IsLen b T B n m) :
    Calls Tryq.prog 43 #[.agg #[.int .i64 T, .int .i64 B], .int .i64 b] w (AnsL w n) :=
  (begin_any b T B w hT hg hB h3 h4).mono fun e w' ⟨v, n', m', h', he, hs, hb⟩ => by
    obtain ⟨rfl, rfl⟩ := hnm.unique h'
    obtain ⟨a, c, hv⟩ := slc_form hs
    rw [digL_len] at hv
    exact ⟨a, c, by rw [he, hv], hb⟩

theorem round_len (b T B n m : Nat) (w : World) (hT : T < B) (hg : Nat.gcd T B = 1) (hB : B ≤ 1000) (h3 : 2 ≤ b) (h4 : b ≤ 16) (hnm : IsLen b T B n m) :
    Calls Tryq.prog 44 #[.agg #[.int .i64 T, .int .i64 B], .int .i64 b] w (AnsL w m) :=
  (round_any b T B w hT hg hB h3 h4).mono fun e w' ⟨v, n', m', h', he, hs, hb⟩ => by
    obtain ⟨rfl, rfl⟩ := hnm.unique h'
    obtain ⟨a, c, hv⟩ := slc_form hs
    rw [rndL_len] at hv
    exact ⟨a, c, by rw [he, hv], hb⟩

set_option maxHeartbeats 1000000 in
theorem implFracLengths_yes (b T B n m : Nat) (w : World) (h : tldB b T B = true) (hT : T < B) (hg : Nat.gcd T B = 1) (hB : B ≤ 1000) (h3 : 2 ≤ b) (h4 : b ≤ 16) (hnm : IsLen b T B n m) :
    Calls Tryq.prog 20 #[.int .i64 b, .agg #[.int .i64 T, .int .i64 B]] w fun e w' => e = .returned (.tuple #[.int .i64 n, .int .i64 m, .bool true]) ∧ Below w.heap.size w w' := by
  have HG := Lib.hid hg; clear hg
  go_enter Tryq.func20, Try.ntmps20
  go_wp2_with fail
  refine (fracTold_any _ _ _ _).mono ?_
  rintro e w1 ⟨rfl, hb1⟩
  have q1 := (Box2.newAt (W := w) (T := 38) (x := .int .i64 T) (y := .int .i64 B) rfl).later hb1
  have k0 := q1.cell0
  have k1 := q1.cell1
  have hb := bel1 hb1
  go_wp2_with fail
  have d0 : w1.drew.cell? ⟨w.heap.size, 0, none⟩ = some (.int .i64 T) := k0
  have d1 : w1.drew.cell? ⟨w.heap.size, 1, none⟩ = some (.int .i64 B) := k1
  have db : Below w.heap.size w w1.drew := hb.drew
  have dx : Box2 w1.drew w.heap.size 38 (.int .i64 T) (.int .i64 B) := q1
  go_region_held3 (fun w' => (w'.cell? ⟨w.heap.size, 0, none⟩ = some (.int .i64 T) ∧ w'.cell? ⟨w.heap.size, 1, none⟩ = some (.int .i64 B)) ∧ Below w.heap.size w w' ∧ Box2 w' w.heap.size 38 (.int .i64 T) (.int .i64 B)) (exact ⟨⟨by assumption, by assumption⟩, by assumption, by assumption⟩)
    (first | (go_at_call 43; refine (begin_len b T B n m _ hT HG.out hB h3 h4 hnm).mono ?_; rintro e w2 ⟨a2, c2, rfl, hb2⟩; have x2 := Box2.later (by assumption) hb2; have e0 := x2.cell0; have e1 := x2.cell1; have hbw : Below w.heap.size w w2 := Below.trans (by assumption) (hb2.mono (Below.size (by assumption)))) | (go_at_call 44; refine (round_len b T B n m _ hT HG.out hB h3 h4 hnm).mono ?_; rintro e w2 ⟨a2, c2, rfl, hb2⟩; have x2 := Box2.later (by assumption) hb2; have e0 := x2.cell0; have e1 := x2.cell1; have hbw : Below w.heap.size w w2 := Below.trans (by assumption) (hb2.mono (Below.size (by assumption)))))
  all_goals (go_wp2_with fail; go_ret3; exact ⟨rfl, hbw⟩)


end Go.Proofs.Ythoaldiadgeonaa
