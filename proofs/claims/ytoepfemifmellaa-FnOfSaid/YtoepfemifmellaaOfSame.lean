/-
  FracOf: both sides answer the same, and what they answer.
-/
import Derived.Test.YtoepfemifmellaaOfSp
namespace Go.Proofs.Ytoepfemifmellaa
open Go.RowKit

theorem fin_of {T N : Int} (h0 : 0 ≤ T) (h1 : T < N) : finB (T / gcdI T N) (N / gcdI T N) = decide (N / gcdI T N ≤ 1000) := by
  obtain ⟨t, rfl⟩ := Int.eq_ofNat_of_zero_le h0
  obtain ⟨n, rfl⟩ := Int.eq_ofNat_of_zero_le (show 0 ≤ N by omega)
  have hn : 0 < n := by omega
  have hg : 0 < Nat.gcd t n := Nat.gcd_pos_of_pos_right _ hn
  have e1 : (t : Int) / gcdI t n = ((t / Nat.gcd t n : Nat) : Int) := by rw [gcdI_nat]; rfl
  have e2 : (n : Int) / gcdI t n = ((n / Nat.gcd t n : Nat) : Int) := by rw [gcdI_nat]; rfl
  have hq : 0 < n / Nat.gcd t n := Nat.div_pos (Nat.le_of_dvd hn (Nat.gcd_dvd_right _ _)) hg
  have hlt : t / Nat.gcd t n < n / Nat.gcd t n := Nat.div_lt_div_of_lt_of_dvd (Nat.gcd_dvd_right _ _) (by omega)
  have hgc : Nat.gcd (t / Nat.gcd t n) (n / Nat.gcd t n) = 1 := by
    rw [Nat.gcd_div (Nat.gcd_dvd_left _ _) (Nat.gcd_dvd_right _ _), Nat.div_self hg]
  rw [e1, e2]
  revert hq hlt hgc
  generalize n / Nat.gcd t n = q
  generalize t / Nat.gcd t n = r
  intro hq hlt hgc
  by_cases h : q ≤ 1000
  · have : (q : Int) ≤ 1000 := by omega
    rw [finB_eq_of (by omega) (by omega) (by omega) (by omega), gcdI_nat, hgc, decide_eq_true this]
    rfl
  · have : ¬ (q : Int) ≤ 1000 := by omega
    rw [finB_false_of (by omega), decide_eq_false this]

set_option maxHeartbeats 1000000 in
/-- Both answer the same. -/
theorem fracOf_same (b : Int) (xs ys : List Int) (hlx : xs.length ≤ 1048576) (hly : ys.length ≤ 1048576) :
    ∃ x y p, (∀ n₀ n₁ v u w, Slc n₀ w v xs → Slc n₁ w u ys → Calls Try.prog 9 #[.int .i64 b, v, u] w (AnsF w x y p)) ∧
      (∀ n₀ n₁ v u w, Slc n₀ w v xs → Slc n₁ w u ys → Calls Try.prog 8 #[.int .i64 b, v, u] w (AnsF w x y p)) ∧
      (p = true → ∃ b' : Nat, b = b' ∧ OfOk b' xs ys ∧ numI b' ys ≠ (pw b' ys.length : Int) - 1 ∧ x = ofT b' xs ys / gcdI (ofT b' xs ys) (ofB b' xs ys) ∧ y = ofB b' xs ys / gcdI (ofT b' xs ys) (ofB b' xs ys) ∧ y ≤ 1000) := by
  cases hb : decide (2 ≤ b ∧ b ≤ 16) with
  | false => exact ⟨0, 0, false, fun n₀ n₁ v u w h1 h2 => specFracOf_base n₀ n₁ b v u xs ys w h1 h2 hb, fun n₀ n₁ v u w h1 h2 => implFracOf_base n₀ n₁ b v u xs ys w h1 h2 hb, fun h => by cases h⟩
  | true =>
    by_cases hl : ys.length = 0 ∨ 5 < xs.length + ys.length
    · exact ⟨0, 0, false, fun n₀ n₁ v u w h1 h2 => specFracOf_len n₀ n₁ b v u xs ys w h1 h2 hb hlx hly hl, fun n₀ n₁ v u w h1 h2 => implFracOf_len n₀ n₁ b v u xs ys w h1 h2 hb hlx hly hl, fun h => by cases h⟩
    · have hm0 : 0 < ys.length := by omega
      have hl5 : xs.length + ys.length ≤ 5 := by omega
      by_cases hd : digB b xs = false ∨ digB b ys = false
      · exact ⟨0, 0, false, fun n₀ n₁ v u w h1 h2 => specFracOf_dig n₀ n₁ b v u xs ys w h1 h2 hb hm0 hl5 hd, fun n₀ n₁ v u w h1 h2 => implFracOf_dig n₀ n₁ b v u xs ys w h1 h2 hb hm0 hl5 hd, fun h => by cases h⟩
      · have hd1 : digB b xs = true := by cases h : digB b xs <;> simp_all
        have hd2 : digB b ys = true := by cases h : digB b ys <;> simp_all
        have hbb : 2 ≤ b ∧ b ≤ 16 := by simpa using hb
        obtain ⟨b', rfl⟩ := Int.eq_ofNat_of_zero_le (show 0 ≤ b by omega)
        have ok : OfOk b' xs ys := ⟨by omega, by omega, hm0, hl5, hd1, hd2⟩
        have hb16 : b' ≤ 16 := by omega
        have hn := ok.nums
        have I1 : ∀ n₀ v w, Slc n₀ w v xs → Hid (∀ wx, Below w.heap.size w wx → Calls Try.prog 30 #[.int .i64 b', v] wx fun e w' => e = .returned (.bool true) ∧ wx = w') :=
          fun n₀ v w h wx hb => by have := digitsIn_any n₀ b' v xs wx (h.later hb) hlx; rwa [hd1] at this
        have I2 : ∀ n₀ v w, Slc n₀ w v ys → Hid (∀ wx, Below w.heap.size w wx → Calls Try.prog 30 #[.int .i64 b', v] wx fun e w' => e = .returned (.bool true) ∧ wx = w') :=
          fun n₀ v w h wx hb => by have := digitsIn_any n₀ b' v ys wx (h.later hb) hly; rwa [hd2] at this
        have I3 : ∀ n₀ v w, Slc n₀ w v xs → Hid (∀ wx, Below w.heap.size w wx → Calls Try.prog 32 #[.int .i64 b', v] wx fun e w' => e = .returned (.int .i64 (numI b' xs)) ∧ wx = w') :=
          fun n₀ v w h wx hb => numberOf_any n₀ b' v xs wx (h.later hb) hb16 (by omega) hd1
        have I4 : ∀ n₀ v w, Slc n₀ w v ys → Hid (∀ wx, Below w.heap.size w wx → Calls Try.prog 32 #[.int .i64 b', v] wx fun e w' => e = .returned (.int .i64 (numI b' ys)) ∧ wx = w') :=
          fun n₀ v w h wx hb => numberOf_any n₀ b' v ys wx (h.later hb) hb16 (by omega) hd2
        have I5 : ∀ k : Nat, k ≤ 5 → Hid (∀ wx, Calls Try.prog 31 #[.int .i64 b', .int .i64 k] wx fun e w' => e = .returned (.int .i64 (pw b' k)) ∧ wx = w') := fun k hk wx => power_any b' k wx hb16 hk
        have S1 : ∀ n₀ v w, Slc n₀ w v xs → Hid (∀ wx, Below w.heap.size w wx → Calls Try.prog 35 #[.int .i64 b', v] wx fun e w' => e = .returned (.bool true) ∧ wx = w') :=
          fun n₀ v w h wx hb => by have := l1DigitsIn_any n₀ b' v xs wx (h.later hb) hlx hbb.1 hbb.2; rwa [hd1] at this
        have S2 : ∀ n₀ v w, Slc n₀ w v ys → Hid (∀ wx, Below w.heap.size w wx → Calls Try.prog 35 #[.int .i64 b', v] wx fun e w' => e = .returned (.bool true) ∧ wx = w') :=
          fun n₀ v w h wx hb => by have := l1DigitsIn_any n₀ b' v ys wx (h.later hb) hly hbb.1 hbb.2; rwa [hd2] at this
        have S3 : ∀ n₀ v w, Slc n₀ w v xs → Hid (∀ wx, Below w.heap.size w wx → Calls Try.prog 37 #[.int .i64 b', v] wx fun e w' => e = .returned (.int .i64 (numI b' xs)) ∧ wx = w') :=
          fun n₀ v w h wx hb => l1Number_any n₀ b' v xs wx (h.later hb) hb16 (by omega) hd1
        have S4 : ∀ n₀ v w, Slc n₀ w v ys → Hid (∀ wx, Below w.heap.size w wx → Calls Try.prog 37 #[.int .i64 b', v] wx fun e w' => e = .returned (.int .i64 (numI b' ys)) ∧ wx = w') :=
          fun n₀ v w h wx hb => l1Number_any n₀ b' v ys wx (h.later hb) hb16 (by omega) hd2
        have S5 : ∀ k : Nat, k ≤ 5 → Hid (∀ wx, Calls Try.prog 36 #[.int .i64 b', .int .i64 k] wx fun e w' => e = .returned (.int .i64 (pw b' k)) ∧ wx = w') := fun k hk wx => l1Power_any b' k wx hb16 hk
        by_cases hD : numI b' ys = (pw b' ys.length : Int) - 1
        · refine ⟨0, 0, false, fun n₀ n₁ v u w h1 h2 => ?_, fun n₀ n₁ v u w h1 h2 => ?_, fun h => by cases h⟩
          · have s1 := S1 _ _ _ h1; have s2 := S2 _ _ _ h2; have s3 := S3 _ _ _ h1; have s4 := S4 _ _ _ h2
            obtain ⟨a1, c1, rfl⟩ := slc_form h1
            obtain ⟨a2, c2, rfl⟩ := slc_form h2
            exact specFracOf_gen b' _ _ a1 a2 c1 c2 w _ _ _ _ hb hm0 hl5 hn s1 s2 s3 s4 (S5 _ (by omega)) (S5 _ (by omega)) hD
          · have s1 := I1 _ _ _ h1; have s2 := I2 _ _ _ h2; have s3 := I3 _ _ _ h1; have s4 := I4 _ _ _ h2
            obtain ⟨a1, c1, rfl⟩ := slc_form h1
            obtain ⟨a2, c2, rfl⟩ := slc_form h2
            exact implFracOf_gen b' _ _ a1 a2 c1 c2 w _ _ _ _ hb hm0 hl5 hn s1 s2 s3 s4 (I5 _ (by omega)) (I5 _ (by omega)) hD
        · obtain ⟨k1, k2, k3, k4⟩ := hn.mul
          obtain ⟨T, hT⟩ : ∃ T, numI b' xs * ((pw b' ys.length : Int) - 1) + numI b' ys = T := ⟨_, rfl⟩
          obtain ⟨N, hN⟩ : ∃ N, (pw b' xs.length : Int) * ((pw b' ys.length : Int) - 1) = N := ⟨_, rfl⟩
          have hf := fin_of (T := T) (N := N) (by have := hn.d0; omega) (by have := hn.d1; omega)
          refine ⟨if decide (N / gcdI T N ≤ 1000) then T / gcdI T N else 0, if decide (N / gcdI T N ≤ 1000) then N / gcdI T N else 0, decide (N / gcdI T N ≤ 1000), fun n₀ n₁ v u w h1 h2 => ?_, fun n₀ n₁ v u w h1 h2 => ?_, fun h => ⟨b', rfl, ok, hD, ?_⟩⟩
          · have s1 := S1 _ _ _ h1; have s2 := S2 _ _ _ h2; have s3 := S3 _ _ _ h1; have s4 := S4 _ _ _ h2
            obtain ⟨a1, c1, rfl⟩ := slc_form h1
            obtain ⟨a2, c2, rfl⟩ := slc_form h2
            exact specFracOf_far b' _ _ a1 a2 c1 c2 w _ _ _ _ hb hm0 hl5 hn s1 s2 s3 s4 (S5 _ (by omega)) (S5 _ (by omega)) T N hT hN hD _ hf
          · have s1 := I1 _ _ _ h1; have s2 := I2 _ _ _ h2; have s3 := I3 _ _ _ h1; have s4 := I4 _ _ _ h2
            obtain ⟨a1, c1, rfl⟩ := slc_form h1
            obtain ⟨a2, c2, rfl⟩ := slc_form h2
            refine implFracOf_far b' _ _ a1 a2 c1 c2 w _ _ _ _ hb hm0 hl5 hn s1 s2 s3 s4 (I5 _ (by omega)) (I5 _ (by omega)) T N hT hN hD _ ?_
            rw [← decide_not]
            exact decide_eq_decide.2 (by omega)
          · have h' : N / gcdI T N ≤ 1000 := of_decide_eq_true h
            have e1 : ofT b' xs ys = T := hT
            have e2 : ofB b' xs ys = N := hN
            rw [e1, e2, if_pos h, if_pos h]
            exact ⟨rfl, rfl, h'⟩

end Go.Proofs.Ytoepfemifmellaa
