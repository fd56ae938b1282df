/-
  The lists of rests: the program's and the model's functions answer alike.
-/
import Derived.Test.YtfhhfnkgdanakaaAsk
import Derived.Test.YtfhhfnkgdanakaaEq
namespace Go.Proofs.Ytfhhfnkgdanakaa
open Go.RowKit Go.Maps

def rrnL (b T B n m : Nat) : List Int := (rstL b T B (n + m)).drop n
theorem rrnL_len (b T B n m : Nat) : (rrnL b T B n m).length = m := by simp [rrnL, rstL_len]


theorem askRound_any (b T B : Nat) (Bm nD : Nat) (D : DataW Unit) (w : World) (hT : T < B) (hB : B ≤ 1000) (h3 : 2 ≤ b) (h4 : b ≤ 16) (hg : Nat.gcd T B = 1) (hown : MapI w Bm nD D) :
    Calls Try.prog 30 #[.map (some Bm), .int .i64 b, .agg #[.int .i64 T, .int .i64 B]] w fun e w' =>
      ∃ g off cap n m c D', IsLen b T B n m ∧ e = .returned (.tuple #[.slice (some ⟨g, off, none⟩) (n + m) cap, .int .i64 n]) ∧ n + m ≤ cap ∧ cap ≤ maxLen ∧ Slc w.heap.size w' (.slice (some ⟨g, off, none⟩) (n + m) cap) (rstL b T B (n + m)) ∧ MapI w' Bm c D' ∧ w.grownBy w' (some Bm) := by
  refine (ask_any b T B Bm nD D w hT hB h3 h4 hg hown).mono ?_
  rintro e w' ⟨v, n, m, c, D', hnm, rfl, hv, hm, hgr⟩
  have hl := rstL_len b T B (n + m)
  have hp := hnm.pos
  obtain ⟨g, off, cap, rfl, _, _, h1, h2⟩ := slc_some hv (by omega)
  rw [hl] at hv h1 ⊢
  exact ⟨g, off, cap, n, m, c, D', hnm, rfl, h1, h2, hv, hm, hgr⟩







end Go.Proofs.Ytfhhfnkgdanakaa
