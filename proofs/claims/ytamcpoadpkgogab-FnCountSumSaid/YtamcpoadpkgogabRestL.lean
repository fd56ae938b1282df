/-
  The lists of rests: the program's and the model's functions answer alike.
-/
import Derived.Test.YtamcpoadpkgogabAsk
import Derived.Test.YtamcpoadpkgogabEq
namespace Go.Proofs.Ytamcpoadpkgogab
open Go.RowKit Go.Maps

def rrnL (b T B n m : Nat) : List Int := (rstL b T B (n + m)).drop n
theorem rrnL_len (b T B n m : Nat) : (rrnL b T B n m).length = m := by simp [rrnL, rstL_len]


theorem askRound_any (b T B : Nat) (Bm nD : Nat) (D : DataW Unit) (w : World) (hT : T < B) (hB : B ≤ 1000) (h3 : 2 ≤ b) (h4 : b ≤ 16) (hg : Nat.gcd T B = 1) (hown : MapI w Bm nD D) :
    Calls Try.prog 56 #[.map (some Bm), .int .i64 b, .agg #[.int .i64 T, .int .i64 B]] w fun e w' =>
      ∃ g off cap n m c D', IsLen b T B n m ∧ e = .returned (.tuple #[.slice (some ⟨g, off, none⟩) (n + m) cap, .int .i64 n]) ∧ n + m ≤ cap ∧ cap ≤ maxLen ∧ Slc w.heap.size w' (.slice (some ⟨g, off, none⟩) (n + m) cap) (rstL b T B (n + m)) ∧ MapI w' Bm c D' ∧ w.grownBy w' (some Bm) := by
  refine (ask_any b T B Bm nD D w hT hB h3 h4 hg hown).mono ?_
  rintro e w' ⟨v, n, m, c, D', hnm, rfl, hv, hm, hgr⟩
  have hl := rstL_len b T B (n + m)
  have hp := hnm.pos
  obtain ⟨g, off, cap, rfl, _, _, h1, h2⟩ := slc_some hv (by omega)
  rw [hl] at hv h1 ⊢
  exact ⟨g, off, cap, n, m, c, D', hnm, rfl, h1, h2, hv, hm, hgr⟩

set_option maxHeartbeats 1000000 in
theorem rround_any (b T B n m : Nat) (Bm nD : Nat) (D : DataW Unit) (w : World) (hT : T < B) (hB : B ≤ 1000) (h3 : 2 ≤ b) (h4 : b ≤ 16) (hg : Nat.gcd T B = 1) (hnm : IsLen b T B n m) (hown : MapI w Bm nD D) :
    Calls Try.prog 40 #[.map (some Bm), .int .i64 b, .agg #[.int .i64 T, .int .i64 B]] w fun e w' =>
      ∃ v c D', e = .returned v ∧ Slc w.heap.size w' v (rrnL b T B n m) ∧ MapI w' Bm c D' ∧ w.grownBy w' (some Bm) := by
  have HG := Lib.hid hg; clear hg
  go_enter Try.func40, Try.ntmps40
  go_wp2_with fail
  refine (askRound_any b T B Bm nD D _ hT hB h3 h4 HG.out (World.ownsMap.alloc hown _)).mono ?_
  rintro e w2 ⟨g, off, cap, n', m', c, D', hnm', rfl, hcap, hcm, hv, hmap, hgr⟩
  obtain ⟨rfl, rfl⟩ := hnm.unique hnm'
  have hp := hnm.pos
  have hle := hnm.le hT
  have hcap' : cap ≤ 9223372036854775807 := by unfold maxLen at hcm; exact hcm
  have hnc : n < cap := by omega
  go_wp2_with fail
  go_ret
  have hd := Slc.drop (n := n) (rstL_len b T B (n + m)) hv (by omega)
  rw [show n + m - n = m by omega] at hd
  refine ⟨_, c, D', rfl, hd.mono (by simp), hmap, (World.grownBy_alloc w _ _).trans hgr⟩

set_option maxHeartbeats 1000000 in
theorem implRestRound_no (b t n : Int) (h : tldB b t n = false) : Gives 21 #[.int .i64 b, .agg #[.int .i64 t, .int .i64 n]] [] false := by
  intro w
  go_enter Try.func21, Try.ntmps21
  go_wp2_with (go_at_call 24; refine (fracTold_any _ _ _ _).mono ?_; rintro e w1 ⟨rfl, hb1⟩)
  go_ret2
  exact ⟨_, rfl, Slc.nil _ _, bel1' hb1⟩

set_option maxHeartbeats 1000000 in
theorem implRestRound_yes (b T B n m : Nat) (h : tldB b T B = true) (hT : T < B) (hg : Nat.gcd T B = 1) (hB : B ≤ 1000) (h3 : 2 ≤ b) (h4 : b ≤ 16) (hnm : IsLen b T B n m) :
    Gives 21 #[.int .i64 b, .agg #[.int .i64 T, .int .i64 B]] (rrnL b T B n m) true := by
  intro w
  have hmm := @run_makeMap Try.prog
  have HG := Lib.hid hg; clear hg
  go_enter Try.func21, Try.ntmps21
  go_wp2_with fail
  refine (fracTold_any _ _ _ _).mono ?_
  rintro e w1 ⟨rfl, hb1⟩
  have q1 := (Box2.newAt (W := w) (T := 26) (x := .int .i64 T) (y := .int .i64 B) rfl).later hb1
  have q2 := q1.alloc (.map #[] 0)
  have k0 := q2.cell0
  have k1 := q2.cell1
  have hb := bel1' hb1
  go_wp2_with fail
  refine (rround_any b T B n m w1.heap.size 0 (.map []) _ hT hB h3 h4 HG.out hnm (World.ownsMap_made _ _ _ _)).mono ?_
  rintro e w2 ⟨v, c, D', rfl, hv, _, hgr⟩
  have hb2 : Below w.heap.size w w2 := (hb.alloc hb.size (.map #[] 0)).grown hgr (by have := hb.size; simp; omega) (fun r e => by cases e; exact hb.size)
  go_wp2_with fail
  go_ret2
  exact ⟨_, rfl, hv.mono (by have := hb.size; simp; omega), hb2⟩





end Go.Proofs.Ytamcpoadpkgogab
