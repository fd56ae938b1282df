/-
  Different fractions differ at some place: mathematics alone.
-/
import Derived.Test.YtoiofkijinlllabSumM
import Derived.Deep.LoopGhost
namespace Go.Proofs.Ytoiofkijinlllab

theorem less_pow {b T B U C : Nat} (hb : 2 ≤ b) (hB : 0 < B) (hC : 0 < C) (h : T * C < U * B) (i : Nat) : (∀ j, j < i → dig b T B j = dig b U C j) → rst b T B i * C + 2 ^ i ≤ rst b U C i * B := by
  induction i with
  | zero => intro _; show T * C + 1 ≤ U * B; omega
  | succ i ih =>
    intro he
    have h1 := ih (fun j hj => he j (by omega))
    have h2 := he i (by omega)
    have e1 := rst_dig (b := b) (T := T) (B := B) i hB
    have e2 := rst_dig (b := b) (T := U) (B := C) i hC
    rw [← h2] at e2
    generalize dig b T B i = D at *
    generalize rst b T B (i + 1) = r1 at *
    generalize rst b U C (i + 1) = r2 at *
    generalize rst b T B i = r at *
    generalize rst b U C i = u at *
    have m1 : (r * C + 2 ^ i) * b ≤ u * B * b := Nat.mul_le_mul_right b h1
    have m2 : r * C * b = D * B * C + r1 * C := by rw [Nat.mul_right_comm, e1, Nat.add_mul]
    have m3 : u * B * b = D * B * C + r2 * B := by rw [Nat.mul_right_comm, e2, Nat.add_mul, Nat.mul_right_comm D C B]
    have m4 : 2 ^ i * 2 ≤ 2 ^ i * b := Nat.mul_le_mul_left _ hb
    rw [Nat.add_mul] at m1
    rw [Nat.pow_succ]
    omega

theorem less_place {b T B U C : Nat} (hb : 2 ≤ b) (h : FOk T B) (h' : FOk U C) (hlt : T * C < U * B) :
    ∃ N, N < 20 ∧ dig b T B N < dig b U C N ∧ ∀ j, j < N → dig b T B j = dig b U C j := by
  have hB : 0 < B := by have := h.lt; omega
  have hC : 0 < C := by have := h'.lt; omega
  have hex : ∃ i, i < 20 ∧ dig b T B i ≠ dig b U C i := by
    refine Classical.byContradiction fun hn => ?_
    have h1 := less_pow hb hB hC hlt 20 (fun j h20 => Classical.byContradiction fun hj => hn ⟨j, h20, hj⟩)
    have h2 := rst_lt (b := b) h'.lt 20
    have h3 : rst b U C 20 * B ≤ C * B := Nat.mul_le_mul_right _ (by omega)
    have h4 : C * B ≤ 1000 * 1000 := Nat.mul_le_mul h'.bot h.bot
    omega
  obtain ⟨N, ⟨h20, hN⟩, hmin⟩ := exists_least hex
  have he : ∀ j, j < N → dig b T B j = dig b U C j := fun j hj => Classical.byContradiction fun hne => by have := hmin j ⟨by omega, hne⟩; omega
  have := less_dig (b := b) (by omega) h.lt h'.lt hlt he
  exact ⟨N, h20, by omega, he⟩

theorem frac_same {T B U C : Nat} (h : FOk T B) (h' : FOk U C) (e : T * C = U * B) : T = U ∧ B = C := by
  have hB : 0 < B := by have := h.lt; omega
  have d1 : B ∣ C := by
    have : B ∣ C * T := ⟨U, by rw [Nat.mul_comm C, e, Nat.mul_comm]⟩
    exact Nat.Coprime.dvd_of_dvd_mul_right (show Nat.gcd B T = 1 by rw [Nat.gcd_comm]; exact h.cop) this
  have d2 : C ∣ B := by
    have : C ∣ B * U := ⟨T, by rw [Nat.mul_comm B, ← e, Nat.mul_comm]⟩
    exact Nat.Coprime.dvd_of_dvd_mul_right (show Nat.gcd C U = 1 by rw [Nat.gcd_comm]; exact h'.cop) this
  have hBC : B = C := Nat.dvd_antisymm d1 d2
  subst hBC
  exact ⟨Nat.eq_of_mul_eq_mul_right hB e, rfl⟩

theorem fr_off {b T B U C : Nat} (h : FOk T B) (h' : FOk U C) {i N : Nat} (hi : i ≤ N) (hne : dig b T B N ≠ dig b U C N) : frT b T B i ≠ frT b U C i := fun e => hne (by
  obtain ⟨k, rfl⟩ := Nat.exists_eq_add_of_le hi
  rw [dig_fr h.lt h.cop, dig_fr h'.lt h'.cop, ← frT_add b T B i k, ← frT_add b U C i k, e])

/-- The place at which two different fractions differ first. -/
theorem place_some {b T B U C : Nat} (hb : 2 ≤ b) (h : FOk T B) (h' : FOk U C) (hne : T * C ≠ U * B) :
    ∃ N, dig b T B N ≠ dig b U C N ∧ (∀ j, j < N → dig b T B j = dig b U C j) ∧ (T * C < U * B ↔ dig b T B N < dig b U C N) := by
  rcases Nat.lt_or_gt_of_ne hne with h1 | h1
  · obtain ⟨N, _, h2, h3⟩ := less_place hb h h' h1
    exact ⟨N, by omega, h3, ⟨fun _ => h2, fun _ => h1⟩⟩
  · obtain ⟨N, _, h2, h3⟩ := less_place hb h' h h1
    exact ⟨N, by omega, fun j hj => (h3 j hj).symm, ⟨fun h4 => absurd h4 (by omega), fun h4 => absurd h4 (by omega)⟩⟩

end Go.Proofs.Ytoiofkijinlllab
