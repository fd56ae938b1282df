/-
  What the promises say of digits and rests, as mathematics.
-/
import Derived.Test.YtmpbbflolbakhaaGreatDoorAns
import Derived.Test.YtmpbbflolbakhaaGreatDoorGrown
import Derived.Test.YtmpbbflolbakhaaGreatDoorPower
import Derived.Test.YtmpbbflolbakhaaGreatDoorTold
namespace Go.Proofs.YtmpbbflolbakhaaGreatDoor
open Go.RowKit

theorem below_drewN {k : Nat} {w w' : World} (h : Below k w w') (n : Nat) : Below k w (w'.drewN n) := ⟨h.os, h.tape, h.output, h.size, h.block⟩

theorem tld_facts {b T B : Nat} (h : tldB b T B = true) : 2 ≤ b ∧ b ≤ 16 ∧ T < B ∧ B ≤ 1000 ∧ Nat.gcd T B = 1 := by
  obtain ⟨b', T', B', e1, e2, e3, h⟩ := tld_nat h
  obtain rfl : b = b' := by omega
  obtain rfl : T = T' := by omega
  obtain rfl : B = B' := by omega
  exact h

theorem tld_of_fin {T B : Nat} (h : finB T B = true) (b : Nat) (h1 : 2 ≤ b) (h2 : b ≤ 16) : tldB b T B = true ∧ True := by
  refine ⟨?_, trivial⟩
  unfold tldB
  rw [h, Bool.and_true, decide_eq_true_eq]
  omega

theorem dig_lt {b T B : Nat} (hT : T < B) (k : Nat) (hb : 0 < b) : dig b T B k < b := by
  have h := rst_lt (b := b) hT k
  exact Nat.div_lt_of_lt_mul (Nat.mul_lt_mul_of_pos_right h hb)

theorem tld_mk {b T B : Nat} (h3 : 2 ≤ b) (h4 : b ≤ 16) (hT : T < B) (hB : B ≤ 1000) (hg : Nat.gcd T B = 1) : tldB b T B = true := by
  unfold tldB
  rw [Bool.and_eq_true, decide_eq_true_eq, finB_iff, gcdI_nat]
  omega

theorem pwr_succ (b i B : Nat) : pwr b (i + 1) B = pwr b i B * b % B := by
  unfold pwr
  rw [Nat.pow_succ, Nat.mod_mul_mod]

/-- The round is 0 alone. -/
def endB (b T B n m : Nat) : Bool := decide (m = 1 ∧ dig b T B n = 0)

/-- Where it is, the rest is 0 behind the beginning, and the bottom divides the base to the power of its length. -/
theorem end_pow {b T B n m : Nat} (hT : T < B) (hg : Nat.gcd T B = 1) (hb : 2 ≤ b) (h : IsLen b T B n m) (hq : endB b T B n m = true) : m = 1 ∧ pwr b n B = 0 := by
  unfold endB at hq
  rw [decide_eq_true_eq] at hq
  have hf := fr_ok (b := b) hT hg n
  have he := (ends_iff hT hg hb h).2 hq
  have hr : rst b T B n = 0 := by rw [hf.eq, he.1, Nat.zero_mul]
  refine ⟨hq.1, ?_⟩
  have h1 := rst_pow b T B n
  rw [hr, Nat.zero_mod] at h1
  have hd : B ∣ T * b ^ n := Nat.dvd_of_mod_eq_zero h1.symm
  have hc : Nat.Coprime B T := by unfold Nat.Coprime; rw [Nat.gcd_comm]; exact hg
  exact Nat.mod_eq_zero_of_dvd (hc.dvd_of_dvd_mul_left hd)

/-- Cells that hold the numbers of f. -/
def CellsR (W : World) (g o m : Nat) (f : Nat → Nat) : Prop := ∀ k, k < m → W.cell? ⟨g, o + k, none⟩ = some (.int .i64 (f k))

theorem CellsR.later {W W' : World} {g o m : Nat} {f : Nat → Nat} (h : CellsR W g o m f) (hb : Below W.heap.size W W') : CellsR W' g o m f :=
  fun k hk => (hb.cell (p := ⟨g, o + k, none⟩) (cell_lt (h k hk))).trans (h k hk)

end Go.Proofs.YtmpbbflolbakhaaGreatDoor
