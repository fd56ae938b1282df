/-
  The digits of the round: the model's.
-/
import Derived.Test.YtoepfemifmellaaDigits
namespace Go.Proofs.Ytoepfemifmellaa
open Go.RowKit

/-- The digits of the round. -/
def rndL (b T B n m : Nat) : List Int := (digL b T B (n + m)).drop n

theorem rndL_len (b T B n m : Nat) : (rndL b T B n m).length = m := by simp [rndL, digL_len]

theorem rndL_get (b T B n m k : Nat) (hk : k < m) : (rndL b T B n m)[k]?.getD 0 = (dig b T B (n + k) : Int) := by
  unfold rndL digL
  rw [List.getElem?_drop, List.getElem?_map, List.getElem?_range (by omega)]
  rfl

theorem digL_frT {b T B : Nat} (hT : T < B) (hg : Nat.gcd T B = 1) (n m : Nat) : digL b (frT b T B n).1 (frT b T B n).2 m = (digL b T B (n + m)).drop n := by
  apply List.ext_getElem?
  intro i
  unfold digL
  rw [List.getElem?_drop, List.getElem?_map, List.getElem?_map]
  by_cases hi : i < m
  · rw [List.getElem?_range hi, List.getElem?_range (by omega)]
    simp [dig_add hT hg]
  · rw [List.getElem?_eq_none (by simp; omega), List.getElem?_eq_none (by simp; omega)]
    rfl

set_option maxHeartbeats 1000000 in
theorem l1Round_any (b T B : Nat) (w : World) (hT : T < B) (hB : B ≤ 1000) (h3 : 2 ≤ b) (h4 : b ≤ 16) :
    Calls Try.prog 53 #[.int .i64 b, .agg #[.int .i64 T, .int .i64 B]] w fun e w' =>
      ∃ v n m, IsLen b T B n m ∧ e = .returned v ∧ Slc w.heap.size w' v (rndL b T B n m) ∧ Below w.heap.size w w' := by
  go_enter Try.func53, Try.ntmps53
  go_wp2_with fail
  refine (l1Lengths_any b T B _ hT hB h3 h4).mono ?_
  rintro e w1 ⟨n, m, hnm, rfl, hb1⟩
  have hle := hnm.le hT
  have hp := hnm.pos
  have q1 := (Box2.newAt (W := w) (T := 27) (x := .int .i64 T) (y := .int .i64 B) rfl).later hb1
  have k0 := q1.cell0
  have k1 := q1.cell1
  have hs1 := hb1.size
  go_wp2_with fail
  have ec : (n : Int) + m = ((n + m : Nat) : Int) := by omega
  rw [ec]
  refine (l1Digits_any b T B (n + m) _ hT hB h3 h4 (by omega)).mono ?_
  rintro e w2 ⟨v, rfl, hv, hb2⟩
  clear ec
  have hv0 := hv
  rcases hv with ⟨rfl, hz⟩ | ⟨g, off, cap, cur, rfl, r1, r2, r3, r4, r5, r6⟩
  · have := digL_len b T B (n + m); rw [hz] at this; simp at this; omega
  rw [digL_len] at r3 r6 ⊢
  have hnc : n < cap := by omega
  have hcap : cap ≤ 9223372036854775807 := by unfold maxLen at r4; exact r4
  go_wp2_with fail
  go_ret
  rw [digL_len] at hv0
  have hd := Slc.drop (n := n) (digL_len b T B (n + m)) hv0 (by omega)
  refine ⟨_, n, m, hnm, rfl, ?_, ?_⟩
  · have := hd.mono (n₁ := w.heap.size) (by simp at hs1; omega)
    rw [show n + m - n = m by omega] at this
    exact this
  · exact (((Below.refl w.heap.size w).alloc (Nat.le_refl _) _).trans (hb1.mono (by simp))).trans (hb2.mono (by simp at hs1; omega))

end Go.Proofs.Ytoepfemifmellaa
