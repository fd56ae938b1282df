/-
  Digits put together: tests of digits, numbers, powers; the program's and the model's.
-/
import Derived.Test.YtbgpdhnfaacenaaGRnd
import Derived.Test.YtbgpdhnfaacenaaNumB
import Derived.Test.YtbgpdhnfaacenaaPower
namespace Go.Proofs.Ytbgpdhnfaacenaa
open Go.RowKit

/-- All are digits. -/
def digB (b : Int) (xs : List Int) : Bool := xs.all fun x => decide (0 ≤ x ∧ x < b)

theorem digB_get {b : Int} {xs : List Int} (h : digB b xs = true) (k : Nat) (hk : k < xs.length) : 0 ≤ xs[k]?.getD 0 ∧ xs[k]?.getD 0 < b := by
  unfold digB at h
  rw [List.all_eq_true] at h
  have := h xs[k] (List.getElem_mem hk)
  rw [List.getElem?_eq_getElem hk]
  simpa using this

theorem digB_no {b : Int} {xs : List Int} (k : Nat) (hk : k < xs.length) (h : ¬ (0 ≤ xs[k]?.getD 0 ∧ xs[k]?.getD 0 < b)) : digB b xs = false := by
  cases hd : digB b xs with
  | false => rfl
  | true => exact absurd (digB_get hd k hk) h

theorem digB_yes {b : Int} {xs : List Int} (h : ∀ k, k < xs.length → 0 ≤ xs[k]?.getD 0 ∧ xs[k]?.getD 0 < b) : digB b xs = true := by
  unfold digB
  rw [List.all_eq_true]
  intro x hx
  obtain ⟨k, hk, rfl⟩ := List.getElem_of_mem hx
  have := h k hk
  rw [List.getElem?_eq_getElem hk] at this
  simpa using this

theorem numI_take (b : Int) (xs : List Int) (k : Nat) (hk : k < xs.length) : numI b (xs.take (k + 1)) = b * numI b (xs.take k) + xs[k]?.getD 0 := by
  unfold numI
  rw [List.take_succ_eq_append_getElem hk, List.foldl_append, List.getElem?_eq_getElem hk]
  rfl

theorem numI_bd (b : Nat) (xs : List Int) (h : digB b xs = true) : ∀ k, k ≤ xs.length → 0 ≤ numI b (xs.take k) ∧ numI b (xs.take k) + 1 ≤ (b ^ k : Nat) := by
  intro k
  induction k with
  | zero => intro _; simp [numI]
  | succ k ih =>
    intro hk
    obtain ⟨h1, h2⟩ := ih (by omega)
    obtain ⟨d1, d2⟩ := digB_get h k (by omega)
    rw [numI_take b xs k (by omega)]
    have e : ((b ^ (k + 1) : Nat) : Int) = b * (b ^ k : Nat) := by rw [Nat.pow_succ, Nat.mul_comm]; simp
    have m1 : 0 ≤ (b : Int) * numI b (xs.take k) := Int.mul_nonneg (by omega) h1
    have m2 : (b : Int) * (numI b (xs.take k) + 1) ≤ b * (b ^ k : Nat) := Int.mul_le_mul_of_nonneg_left h2 (by omega)
    rw [Int.mul_add, Int.mul_one] at m2
    rw [e]
    omega

theorem pow_bd {b k : Nat} (hb : b ≤ 16) (hk : k ≤ 5) : b ^ k ≤ 1048576 := by
  have h1 : b ^ k ≤ 16 ^ k := Nat.pow_le_pow_left hb k
  have h2 : 16 ^ k ≤ 16 ^ 5 := Nat.pow_le_pow_right (by omega) hk
  omega

/-- A power, kept as one word. -/
def pw (b k : Nat) : Nat := b ^ k



theorem slc_view {n₀ : Nat} {W : World} {v : Value} {xs : List Int} (h : Slc n₀ W v xs) :
    ∃ a c, v = .slice a xs.length c ∧ (0 < xs.length → ∃ g off, a = some ⟨g, off, none⟩ ∧ ∀ k, k < xs.length → W.cell? ⟨g, off + k, none⟩ = some (.int .i64 (xs[k]?.getD 0))) := by
  rcases h with ⟨rfl, rfl⟩ | ⟨g, off, cap, cur, rfl, r⟩
  · exact ⟨none, 0, rfl, fun h => absurd h (by simp)⟩
  · exact ⟨_, _, rfl, fun _ => ⟨g, off, rfl, fun k hk => Slc.cell rfl (n₀ := n₀) (.inr ⟨g, off, cap, cur, rfl, r⟩) k hk⟩⟩

set_option maxHeartbeats 1000000 in
theorem numberOf_any (n₀ : Nat) (b : Nat) (v : Value) (xs : List Int) (w : World) (hv : Slc n₀ w v xs) (hb : b ≤ 16) (hl : xs.length ≤ 5) (hd : digB b xs = true) :
    Calls Try.prog 28 #[.int .i64 b, v] w fun e w' => e = .returned (.int .i64 (numI b xs)) ∧ w = w' := by
  obtain ⟨a, c, rfl, hc⟩ := slc_view hv
  obtain ⟨n, hn⟩ : ∃ n, xs.length = n := ⟨_, rfl⟩
  rw [hn] at hc hl ⊢
  have HN := Lib.hid hn; clear hn
  go_enter Try.func28, Try.ntmps28
  go_wp2
  go_loop [5, 7, 10] (fun p _ i => ∃ j : Nat, j ≤ n ∧ i = .int .i64 j ∧ p = .int .i64 (numI b (xs.take j))) (fun _ _ i => n - (intOf i).toNat)
  case atStart => exact ⟨0, Nat.zero_le _, rfl, rfl⟩
  case round =>
    obtain ⟨j, hj, rfl, rfl⟩ := hrel
    by_cases hlt : j < n
    · obtain ⟨g, off, rfl, hcell⟩ := hc (by omega)
      have kc := hcell j hlt
      obtain ⟨d1, d2⟩ := digB_get hd j (by rw [HN.out]; exact hlt)
      obtain ⟨h1, h2⟩ := numI_bd b xs hd j (by rw [HN.out]; omega)
      have h3 : b ^ j ≤ 1048576 := pow_bd hb (by omega)
      have m1 : numI b (xs.take j) * b ≤ 1048576 * 16 := Int.mul_le_mul (by omega) (by omega) (by omega) (by omega)
      have m2 : 0 ≤ numI b (xs.take j) * b := Int.mul_nonneg (by omega) (by omega)
      have HT : Hid (numI b (xs.take (j + 1)) = numI b (xs.take j) * b + xs[j]?.getD 0) := by unfold Hid; rw [numI_take b xs j (by rw [HN.out]; exact hlt), Int.mul_comm]
      clear h2 h3 hcell
      go_wp2
      go_round
      case rel => exact ⟨j + 1, by omega, by go_num, by rw [HT.out]⟩
      case measure => simp [intOf]; omega
    · obtain rfl : j = n := by omega
      go_wp2
      go_ret
      exact ⟨ret_int (by rw [List.take_of_length_le (by rw [HN.out]; exact Nat.le_refl _)]), rfl⟩




end Go.Proofs.Ytbgpdhnfaacenaa
