/-
  Rings: the model's side: all numbers for which a ring turns.
-/
import Derived.Test.YtagkbpdfpeadbacTurnU
namespace Go.Proofs.Ytagkbpdfpeadbac
open Go.RowKit

theorem owns_lat {n₀ k : Nat} {W W' : World} {T : TypeId} {v : Value} {xs : List Value} (h : W.ownsRow n₀ T 1 v k xs) (hb : Below W.heap.size W W') : W'.ownsRow n₀ T 1 v k xs := by
  refine h.kept (row := none) (grown_below hb) ?_
  cases v.ownBlock <;> simp

theorem owns_ge {w : World} {base k : Nat} {T : TypeId} {v : Value} {xs : List Value} (h : w.ownsRow base T 1 v k xs) {g : Nat} (hg : v.ownBlock = some g) : base ≤ g := by
  rcases h.2 with ⟨rfl, _⟩ | ⟨g', cap, cur, rfl, hb, _⟩
  · cases hg
  · cases hg; exact hb

/-- Among the first i turns. -/
def inK (b : Nat) (d : List Int) (k i : Nat) : Bool := decide (∃ j, j < i ∧ (tim b k d).2 = rotL d j)

theorem inK_succ (b : Nat) (d : List Int) (k i : Nat) : inK b d k (i + 1) = (inK b d k i || decide ((tim b k d).2 = rotL d i)) := by
  unfold inK
  rw [← Bool.decide_or, decide_eq_decide]
  constructor
  · rintro ⟨j, hj, e⟩
    rcases Nat.lt_or_ge j i with h | h
    · exact .inl ⟨j, h, e⟩
    · obtain rfl : j = i := by omega
      exact .inr e
  · rintro (⟨j, hj, e⟩ | e)
    · exact ⟨j, by omega, e⟩
    · exact ⟨i, by omega, e⟩

theorem inB_off {b k : Nat} {d : List Int} (h : (tim b k d).1 ≠ 0) : inB b d k = false := decide_eq_false fun h' => h h'.2.1
theorem inB_on {b k : Nat} {d : List Int} (hk : 1 ≤ k) (h : (tim b k d).1 = 0) : inB b d k = inK b d k d.length := by
  unfold inB inK
  rw [decide_eq_decide]
  exact ⟨fun h' => h'.2.2, fun h' => ⟨hk, h, h'⟩⟩


end Go.Proofs.Ytagkbpdfpeadbac
