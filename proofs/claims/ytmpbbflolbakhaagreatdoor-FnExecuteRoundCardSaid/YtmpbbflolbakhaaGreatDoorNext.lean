/-
  The program's steps: the next digit and the fraction behind it; the test of a beginning; the fraction behind the beginning.
-/
import Derived.Test.YtmpbbflolbakhaaGreatDoorIn
import Derived.Test.YtmpbbflolbakhaaGreatDoorNum
import Derived.RegionTactic
import Derived.ChangeAlike
import Derived.BigRegion
import Derived.IntWalk
namespace Go.Proofs.YtmpbbflolbakhaaGreatDoor
open Go.RowKit

theorem mul_bd (t b n : Int) (h0 : 0 ≤ t) (h1 : t < n) (h2 : n ≤ 1000) (h3 : 0 ≤ b) (h4 : b ≤ 16) : 0 ≤ t * b ∧ t * b ≤ 16000 := by
  refine ⟨Int.mul_nonneg h0 h3, ?_⟩
  have : t * b ≤ 1000 * 16 := Int.mul_le_mul (by omega) h4 h3 (by omega)
  omega

theorem gcdI_le_left (x y : Int) (hx : 0 < x) : gcdI x y ≤ x := by rw [gcdI_comm]; exact gcdI_le_right y x hx

set_option maxHeartbeats 1000000 in
theorem next_int (t n b : Int) (w : World) (h0 : 0 ≤ t) (h1 : t < n) (h2 : n ≤ 1000) (h3 : 0 < b) (h4 : b ≤ 16) :
    Calls Tryz.prog 55 #[.agg #[.int .i64 t, .int .i64 n], .int .i64 b] w fun e w' =>
      e = .returned (.tuple #[.int .i64 (t * b / n), .agg #[.int .i64 (t * b % n / gcdI b n), .int .i64 (n / gcdI b n)]]) ∧ Below w.heap.size w w' := by
  obtain ⟨m1, m2⟩ := mul_bd t b n h0 h1 h2 (by omega) h4
  have g1 := gcdI_pos_right b n (by omega)
  have g2 := gcdI_le_left b n h3
  have r1 : 0 ≤ t * b % n := Int.emod_nonneg _ (by omega)
  have r2 : t * b % n < n := Int.emod_lt_of_pos _ (by omega)
  have q1 : 0 ≤ t * b % n / gcdI b n := Int.ediv_nonneg r1 (by omega)
  have q2 : t * b % n / gcdI b n ≤ 1000 := Int.le_trans (Int.ediv_le_self _ r1) (by omega)
  have q3 : 0 ≤ n / gcdI b n := Int.ediv_nonneg (by omega) (by omega)
  have q4 : n / gcdI b n ≤ 1000 := Int.le_trans (Int.ediv_le_self _ (by omega)) (by omega)
  have q5 : 0 ≤ t * b / n := Int.ediv_nonneg m1 (by omega)
  have q6 : t * b / n ≤ 16000 := Int.le_trans (Int.ediv_le_self _ m1) m2
  go_enter Tryz.func55, Tryz.ntmps55
  go_wp2_with (go_at_call 52; refine (commonDivisor_any _ _ _ (by omega) (by omega) (by omega) (by omega)).mono ?_; rintro e w' ⟨rfl, rfl⟩)
  go_region
  go_wp2
  go_region
  go_wp2
  refine bodyPost_ret (v := .tuple #[.int .i64 (t * b / n), .agg #[.int .i64 (t * b % n / gcdI b n), .int .i64 (n / gcdI b n)]]) (by simp [results, Tryz.results55, go_sem]) rfl ⟨rfl, ?_⟩
  repeat (first | exact Below.refl _ _ | refine Below.drew ?_ | refine Below.alloc ?_ (by simp; try omega) _ | refine Below.setCell ?_ (by simp; try omega) _)

theorem gcdI_nat (x y : Nat) : gcdI x y = (Nat.gcd x y : Nat) := by unfold gcdI; simp

/-- A fraction as the program's value. -/
def frV (p : Nat × Nat) : Value := .agg #[.int .i64 p.1, .int .i64 p.2]

theorem next_any (t n b : Nat) (w : World) (h1 : t < n) (h2 : n ≤ 1000) (h3 : 0 < b) (h4 : b ≤ 16) :
    Calls Tryz.prog 55 #[.agg #[.int .i64 t, .int .i64 n], .int .i64 b] w fun e w' =>
      e = .returned (.tuple #[.int .i64 (t * b / n : Nat), .agg #[.int .i64 (t * b % n / Nat.gcd b n : Nat), .int .i64 (n / Nat.gcd b n : Nat)]]) ∧ Below w.heap.size w w' := by
  have h := next_int t n b w (by omega) (by omega) (by omega) (by omega) (by omega)
  rw [gcdI_nat] at h
  simpa using h

set_option maxHeartbeats 400000 in
theorem turns_any (t n b : Nat) (w : World) (h2 : n ≤ 1000) (h4 : b ≤ 16) :
    Calls Tryz.prog 54 #[.agg #[.int .i64 t, .int .i64 n], .int .i64 b] w fun e w' =>
      e = .returned (.bool (decide (Nat.gcd b n = 1))) ∧ Below w.heap.size w w' := by
  have hg := gcdI_nat b n
  have HG := Lib.hid hg; clear hg
  go_enter Tryz.func54, Tryz.ntmps54
  go_wp2_with (go_at_call 52; refine (commonDivisor_any _ _ _ (by omega) (by omega) (by omega) (by omega)).mono ?_; rintro e w' ⟨rfl, rfl⟩)
  go_ret
  refine ⟨ret_bool ?_, (Below.refl _ _).alloc (Nat.le_refl _) _⟩
  rw [HG.out, Bool.eq_iff_iff]; simp; omega

/-- What a cell holds, as a number. -/
def cellN (W : World) (b o : Nat) : Nat := match W.cell? ⟨b, o, none⟩ with | some v => (intOf v).toNat | none => 0
theorem cellN_of {W : World} {b o : Nat} {x : Nat} (h : W.cell? ⟨b, o, none⟩ = some (.int .i64 x)) : cellN W b o = x := by simp [cellN, h, intOf]

theorem Box2.set {W : World} {B : Nat} {T : TypeId} {x y : Value} (h : Box2 W B T x y) (x' y' : Value) : Box2 ((W.setCell ⟨B, 0, none⟩ x').setCell ⟨B, 1, none⟩ y') B T x' y' := by
  unfold Box2 at h
  simp [Box2, World.setCell, Array.getElem?_modify, h]

theorem Box2.other {W : World} {B B' o : Nat} {T : TypeId} {x y : Value} (h : Box2 W B T x y) (hne : B ≠ B') (u : Value) : Box2 (W.setCell ⟨B', o, none⟩ u) B T x y :=
  (Below.heap_setCell W ⟨B', o, none⟩ u B hne).trans h

theorem fr_lt {b T B : Nat} (hT : T < B) (hg : Nat.gcd T B = 1) (i : Nat) : (frT b T B i).1 < (frT b T B i).2 ∧ (frT b T B i).2 ≤ B ∧ 0 < (frT b T B i).2 := by
  have h := fr_ok (b := b) hT hg i
  exact ⟨h.lt, Nat.le_of_dvd (by omega) h.div, h.pos⟩

theorem next_fr (b T B i : Nat) (w : World) (hT : T < B) (hg : Nat.gcd T B = 1) (hB : B ≤ 1000) (h3 : 2 ≤ b) (h4 : b ≤ 16) :
    Calls Tryz.prog 55 #[.agg #[.int .i64 (frT b T B i).1, .int .i64 (frT b T B i).2], .int .i64 b] w fun e w' =>
      e = .returned (.tuple #[.int .i64 (dig b T B i), .agg #[.int .i64 (frT b T B (i + 1)).1, .int .i64 (frT b T B (i + 1)).2]]) ∧ Below w.heap.size w w' := by
  have h := fr_lt (b := b) hT hg i
  rw [dig_fr hT hg i]
  exact next_any _ _ _ _ h.1 (by omega) (by omega) h4

theorem fr_small {b T B i : Nat} (hT : T < B) (hg : Nat.gcd T B = 1) (h3 : 2 ≤ b) (hn : ¬ trn b T B i) : (frT b T B (i + 1)).2 < (frT b T B i).2 := by
  have h := fr_lt (b := b) hT hg i
  have hp := Nat.gcd_pos_of_pos_left (frT b T B i).2 (show 0 < b by omega)
  exact Nat.div_lt_self h.2.2 (by unfold trn at hn; omega)

end Go.Proofs.YtmpbbflolbakhaaGreatDoor
