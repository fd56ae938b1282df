/-
  The lists of rests: the program's and the model's functions answer alike.
-/
import Derived.Test.YtehpgcgdcoahnadDoorAsk
import Derived.Test.YtehpgcgdcoahnadDoorEq
namespace Go.Proofs.YtehpgcgdcoahnadDoor
open Go.RowKit Go.Maps

def rrnL (b T B n m : Nat) : List Int := (rstL b T B (n + m)).drop n
theorem rrnL_len (b T B n m : Nat) : (rrnL b T B n m).length = m := by simp [rrnL, rstL_len]


theorem askRound_any (b T B : Nat) (Bm nD : Nat) (D : DataW Unit) (w : World) (hT : T < B) (hB : B ≤ 1000) (h3 : 2 ≤ b) (h4 : b ≤ 16) (hg : Nat.gcd T B = 1) (hown : MapI w Bm nD D) :
    Calls Tryd.prog 58 #[.map (some Bm), .int .i64 b, .agg #[.int .i64 T, .int .i64 B]] w fun e w' =>
      ∃ g off cap n m c D', IsLen b T B n m ∧ e = .returned (.tuple #[.slice (some ⟨g, off, none⟩) (n + m) cap, .int .i64 n]) ∧ n + m ≤ cap ∧ cap ≤ maxLen ∧ Slc w.heap.size w' (.slice (some ⟨g, off, none⟩) (n + m) cap) (rstL b T B (n + m)) ∧ MapI w' Bm c D' ∧ w.grownBy w' (some Bm) := by
  refine (ask_any b T B Bm nD D w hT hB h3 h4 hg hown).mono ?_
  rintro e w' ⟨v, n, m, c, D', hnm, rfl, hv, hm, hgr⟩
  have hl := rstL_len b T B (n + m)
  have hp := hnm.pos
  obtain ⟨g, off, cap, rfl, _, _, h1, h2⟩ := slc_some hv (by omega)
  rw [hl] at hv h1 ⊢
  exact ⟨g, off, cap, n, m, c, D', hnm, rfl, h1, h2, hv, hm, hgr⟩

set_option maxHeartbeats 1000000 in
theorem rround_any (b T B n m : Nat) (Bm nD : Nat) (D : DataW Unit) (w : World) (hT : T < B) (hB : B ≤ 1000) (h3 : 2 ≤ b) (h4 : b ≤ 16) (hg : Nat.gcd T B = 1) (hnm : IsLen b T B n m) (hown : MapI w Bm nD D) :
    Calls Tryd.prog 50 #[.map (some Bm), .int .i64 b, .agg #[.int .i64 T, .int .i64 B]] w fun e w' =>
      ∃ v c D', e = .returned v ∧ Slc w.heap.size w' v (rrnL b T B n m) ∧ MapI w' Bm c D' ∧ w.grownBy w' (some Bm) := by
  have HG := Lib.hid hg; clear hg
  go_enter Tryd.func50, Tryd.ntmps50
  go_wp2_with fail
  refine (askRound_any b T B Bm nD D _ hT hB h3 h4 HG.out (World.ownsMap.alloc hown _)).mono ?_
  rintro e w2 ⟨g, off, cap, n', m', c, D', hnm', rfl, hcap, hcm, hv, hmap, hgr⟩
  obtain ⟨rfl, rfl⟩ := hnm.unique hnm'
  have hp := hnm.pos
  have hle := hnm.le hT
  have hcap' : cap ≤ 9223372036854775807 := by unfold maxLen at hcm; exact hcm
  have hnc : n < cap := by omega
  go_wp2_with fail
  go_ret
  have hd := Slc.drop (n := n) (rstL_len b T B (n + m)) hv (by omega)
  rw [show n + m - n = m by omega] at hd
  refine ⟨_, c, D', rfl, hd.mono (by simp), hmap, (World.grownBy_alloc w _ _).trans hgr⟩






end Go.Proofs.YtehpgcgdcoahnadDoor
