/-
  A fraction out of its digits: the program's and the model's.
-/
import Derived.Test.YtoepfemifmellaaOfTool
import Derived.Test.YtoepfemifmellaaEq
namespace Go.Proofs.Ytoepfemifmellaa
open Go.RowKit

/-- A function answers a pair of numbers and a bool, the world below as it was. -/
def AnsF (w : World) (x y : Int) (p : Bool) (e : Ending) (w' : World) : Prop := e = .returned (.tuple #[.agg #[.int .i64 x, .int .i64 y], .bool p]) ∧ Below w.heap.size w w'

/-- Top and bottom, not in lowest terms. -/
def ofT (b : Nat) (xs ys : List Int) : Int := numI b xs * (pw b ys.length - 1) + numI b ys
def ofB (b : Nat) (xs ys : List Int) : Int := pw b xs.length * (pw b ys.length - 1)

structure OfOk (b : Nat) (xs ys : List Int) : Prop where
  b1 : 2 ≤ b
  b2 : b ≤ 16
  l1 : 0 < ys.length
  l2 : xs.length + ys.length ≤ 5
  d1 : digB b xs = true
  d2 : digB b ys = true

theorem OfOk.bounds {b : Nat} {xs ys : List Int} (h : OfOk b xs ys) :
    0 ≤ numI b xs ∧ numI b xs + 1 ≤ pw b xs.length ∧ 0 ≤ numI b ys ∧ numI b ys + 1 ≤ pw b ys.length ∧ pw b xs.length ≤ 1048576 ∧ pw b ys.length ≤ 1048576 ∧ 2 ≤ pw b ys.length := by
  have h1 := numI_bd b xs h.d1 xs.length (Nat.le_refl _)
  have h2 := numI_bd b ys h.d2 ys.length (Nat.le_refl _)
  rw [List.take_of_length_le (Nat.le_refl _)] at h1 h2
  have l2 := h.l2
  have p1 : pw b xs.length ≤ 1048576 := pow_bd h.b2 (by omega)
  have p2 : pw b ys.length ≤ 1048576 := pow_bd h.b2 (by omega)
  have p3 : 2 ≤ pw b ys.length := by
    have : b ^ 1 ≤ b ^ ys.length := Nat.pow_le_pow_right (by have := h.b1; omega) h.l1
    rw [Nat.pow_one] at this
    have := h.b1
    show 2 ≤ b ^ ys.length
    omega
  exact ⟨h1.1, h1.2, h2.1, h2.2, p1, p2, p3⟩

theorem OfOk.top {b : Nat} {xs ys : List Int} (h : OfOk b xs ys) (hne : numI b ys ≠ pw b ys.length - 1) :
    0 ≤ ofT b xs ys ∧ ofT b xs ys < ofB b xs ys ∧ ofB b xs ys ≤ 1099511627776 ∧ 0 ≤ numI b xs * (pw b ys.length - 1) ∧ numI b xs * (pw b ys.length - 1) ≤ 1099511627776 := by
  obtain ⟨a1, a2, a3, a4, a5, a6, a7⟩ := h.bounds
  have m1 : 0 ≤ numI b xs * ((pw b ys.length : Int) - 1) := Int.mul_nonneg a1 (by omega)
  have m2 : (numI b xs + 1) * ((pw b ys.length : Int) - 1) ≤ pw b xs.length * ((pw b ys.length : Int) - 1) := Int.mul_le_mul_of_nonneg_right a2 (by omega)
  have m3 : (pw b xs.length : Int) * ((pw b ys.length : Int) - 1) ≤ 1048576 * 1048576 := Int.mul_le_mul (by omega) (by omega) (by omega) (by omega)
  rw [Int.add_mul, Int.one_mul] at m2
  unfold ofT ofB
  refine ⟨by omega, by omega, by omega, m1, by omega⟩

set_option maxHeartbeats 1000000 in
theorem implFracOf_base (n₀ n₁ : Nat) (b : Int) (v u : Value) (xs ys : List Int) (w : World) (_hv : Slc n₀ w v xs) (_hu : Slc n₁ w u ys) (hb : decide (2 ≤ b ∧ b ≤ 16) = false) :
    Calls Try.prog 8 #[.int .i64 b, v, u] w (AnsF w 0 0 false) := by
  go_enter Try.func8, Try.ntmps8
  go_wp2_with (go_at_call 29; refine (baseIn_any _ _).mono ?_; rintro e w' ⟨rfl, rfl⟩)
  refine bodyPost_ret (v := .tuple #[.agg #[.int .i64 0, .int .i64 0], .bool false]) (by simp [results, Try.results8, go_sem]) rfl ⟨rfl, ?_⟩
  repeat (first | exact Below.refl _ _ | refine Below.drew ?_ | refine Below.alloc ?_ (by simp; try omega) _ | refine Below.setCell ?_ (by simp; try omega) _)

set_option maxHeartbeats 1000000 in
theorem implFracOf_len (n₀ n₁ : Nat) (b : Int) (v u : Value) (xs ys : List Int) (w : World) (hv : Slc n₀ w v xs) (hu : Slc n₁ w u ys) (hb : decide (2 ≤ b ∧ b ≤ 16) = true) (hlx : xs.length ≤ 1048576) (hly : ys.length ≤ 1048576) (hl : ys.length = 0 ∨ 5 < xs.length + ys.length) :
    Calls Try.prog 8 #[.int .i64 b, v, u] w (AnsF w 0 0 false) := by
  obtain ⟨a1, c1, rfl⟩ := slc_form hv
  obtain ⟨a2, c2, rfl⟩ := slc_form hu
  clear hv hu
  revert hlx hly hl
  generalize xs.length = n
  generalize ys.length = m
  intro hlx hly hl
  by_cases h0 : m = 0
  · subst h0
    clear hl
    go_enter Try.func8, Try.ntmps8
    go_wp2_with (go_at_call 29; refine (baseIn_any _ _).mono ?_; rintro e w' ⟨rfl, rfl⟩)
    refine bodyPost_ret (v := .tuple #[.agg #[.int .i64 0, .int .i64 0], .bool false]) (by simp [results, Try.results8, go_sem]) rfl ⟨rfl, ?_⟩
    repeat (first | exact Below.refl _ _ | refine Below.drew ?_ | refine Below.alloc ?_ (by simp; try omega) _ | refine Below.setCell ?_ (by simp; try omega) _)
  · have h0' : ((m : Int) == 0) = false := by simp; omega
    have h5 : decide (5 < (n : Int) + (m : Int)) = true := by simp; omega
    have h5' : (5 : Int) < (n : Int) + (m : Int) := by omega
    clear hl
    go_enter Try.func8, Try.ntmps8
    go_wp2_with (go_at_call 29; refine (baseIn_any _ _).mono ?_; rintro e w' ⟨rfl, rfl⟩)
    refine bodyPost_ret (v := .tuple #[.agg #[.int .i64 0, .int .i64 0], .bool false]) (by simp [results, Try.results8, go_sem]) rfl ⟨rfl, ?_⟩
    repeat (first | exact Below.refl _ _ | refine Below.drew ?_ | refine Below.alloc ?_ (by simp; try omega) _ | refine Below.setCell ?_ (by simp; try omega) _)

set_option maxHeartbeats 1000000 in
theorem implFracOf_dig (n₀ n₁ : Nat) (b : Int) (v u : Value) (xs ys : List Int) (w : World) (hv : Slc n₀ w v xs) (hu : Slc n₁ w u ys) (hb : decide (2 ≤ b ∧ b ≤ 16) = true) (hm0 : 0 < ys.length) (hl : xs.length + ys.length ≤ 5) (hd : digB b xs = false ∨ digB b ys = false) :
    Calls Try.prog 8 #[.int .i64 b, v, u] w (AnsF w 0 0 false) := by
  have HV : ∀ wx, Below w.heap.size w wx → Calls Try.prog 30 #[.int .i64 b, v] wx fun e w' => e = .returned (.bool (digB b xs)) ∧ wx = w' := fun wx hb => digitsIn_any _ _ _ _ _ (hv.later hb) (by omega)
  have HU : ∀ wx, Below w.heap.size w wx → Calls Try.prog 30 #[.int .i64 b, u] wx fun e w' => e = .returned (.bool (digB b ys)) ∧ wx = w' := fun wx hb => digitsIn_any _ _ _ _ _ (hu.later hb) (by omega)
  have HH := Lib.hid HV; have HHU := Lib.hid HU; clear HV HU
  obtain ⟨a1, c1, rfl⟩ := slc_form hv
  obtain ⟨a2, c2, rfl⟩ := slc_form hu
  clear hv hu
  revert HH HHU hm0 hl hd
  generalize hxs : xs.length = n
  generalize hys : ys.length = m
  intro hm0 hl hd HH HHU
  have X1 := Lib.hid hxs; have X2 := Lib.hid hys; clear hxs hys
  have h0' : ((m : Int) == 0) = false := by simp; omega
  have h5 : decide (5 < (n : Int) + (m : Int)) = false := by simp; omega
  have hbw : Below w.heap.size w (w.alloc (.cells #[.int .i64 0, .int .i64 0] 27)) := (Below.refl _ _).alloc (Nat.le_refl _) _
  cases h1 : digB b xs with
  | false =>
    rw [h1] at HH
    clear hd
    go_enter Try.func8, Try.ntmps8
    go_wp2_with (go_at_call 29; refine (baseIn_any _ _).mono ?_; rintro e w' ⟨rfl, rfl⟩)
    refine (HH.out _ hbw).mono ?_
    rintro e w' ⟨rfl, rfl⟩
    go_wp2_with fail
    refine bodyPost_ret (v := .tuple #[.agg #[.int .i64 0, .int .i64 0], .bool false]) (by simp [results, Try.results8, go_sem]) rfl ⟨rfl, ?_⟩
    repeat (first | exact Below.refl _ _ | refine Below.drew ?_ | refine Below.alloc ?_ (by simp; try omega) _ | refine Below.setCell ?_ (by simp; try omega) _)
  | true =>
    have h2 : digB b ys = false := by rcases hd with h | h; (rw [h1] at h; cases h); exact h
    rw [h1] at HH
    rw [h2] at HHU
    clear hd
    go_enter Try.func8, Try.ntmps8
    go_wp2_with (go_at_call 29; refine (baseIn_any _ _).mono ?_; rintro e w' ⟨rfl, rfl⟩)
    refine (HH.out _ hbw).mono ?_
    rintro e w' ⟨rfl, rfl⟩
    go_wp2_with fail
    refine (HHU.out _ hbw).mono ?_
    rintro e w' ⟨rfl, rfl⟩
    go_wp2_with fail
    refine bodyPost_ret (v := .tuple #[.agg #[.int .i64 0, .int .i64 0], .bool false]) (by simp [results, Try.results8, go_sem]) rfl ⟨rfl, ?_⟩
    repeat (first | exact Below.refl _ _ | refine Below.drew ?_ | refine Below.alloc ?_ (by simp; try omega) _ | refine Below.setCell ?_ (by simp; try omega) _)

end Go.Proofs.Ytoepfemifmellaa
