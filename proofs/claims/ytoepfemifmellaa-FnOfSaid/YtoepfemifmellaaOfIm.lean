/-
  A fraction out of its digits: the program's walk where the digits are digits.
-/
import Derived.Test.YtoepfemifmellaaOf
namespace Go.Proofs.Ytoepfemifmellaa
open Go.RowKit

/-- What the two walks know of their numbers. -/
structure Nums (A D : Int) (P Q : Nat) : Prop where
  a0 : 0 ≤ A
  a1 : A + 1 ≤ P
  d0 : 0 ≤ D
  d1 : D + 1 ≤ Q
  p1 : P ≤ 1048576
  q1 : Q ≤ 1048576
  q2 : 2 ≤ Q
  pq : P * Q ≤ 1048576

theorem OfOk.nums {b : Nat} {xs ys : List Int} (h : OfOk b xs ys) : Nums (numI b xs) (numI b ys) (pw b xs.length) (pw b ys.length) := by
  obtain ⟨a1, a2, a3, a4, a5, a6, a7⟩ := h.bounds
  refine ⟨a1, a2, a3, a4, a5, a6, a7, ?_⟩
  have : pw b xs.length * pw b ys.length = b ^ (xs.length + ys.length) := by unfold pw; rw [Nat.pow_add]
  rw [this]
  exact pow_bd h.b2 h.l2

theorem Nums.mul {A D : Int} {P Q : Nat} (h : Nums A D P Q) :
    0 ≤ A * ((Q : Int) - 1) ∧ A * ((Q : Int) - 1) + (Q - 1) ≤ P * ((Q : Int) - 1) ∧ (P : Int) * ((Q : Int) - 1) ≤ 1048576 ∧ 0 < (P : Int) * ((Q : Int) - 1) := by
  obtain ⟨a0, a1, d0, d1, p1, q1, q2, pq⟩ := h
  have m1 : 0 ≤ A * ((Q : Int) - 1) := Int.mul_nonneg a0 (by omega)
  have m2 : (A + 1) * ((Q : Int) - 1) ≤ P * ((Q : Int) - 1) := Int.mul_le_mul_of_nonneg_right a1 (by omega)
  have m3 : ((P * Q : Nat) : Int) ≤ ((1048576 : Nat) : Int) := Int.ofNat_le.2 pq
  rw [Int.natCast_mul] at m3
  have m4 : 0 < (P : Int) * ((Q : Int) - 1) := Int.mul_pos (by omega) (by omega)
  rw [Int.add_mul, Int.one_mul] at m2
  have m5 : (P : Int) * ((Q : Int) - 1) = P * Q - P := by rw [Int.mul_sub, Int.mul_one]
  exact ⟨m1, m2, by omega, m4⟩

set_option maxHeartbeats 1000000 in
theorem implFracOf_gen (b n m : Nat) (a1 a2 : Option Addr) (c1 c2 : Nat) (w : World) (A D : Int) (P Q : Nat)
    (hb : decide (2 ≤ (b : Int) ∧ (b : Int) ≤ 16) = true) (hm0 : 0 < m) (hl : n + m ≤ 5) (hn : Nums A D P Q)
    (HD1 : Hid (∀ wx, Below w.heap.size w wx → Calls Try.prog 30 #[.int .i64 b, .slice a1 n c1] wx fun e w' => e = .returned (.bool true) ∧ wx = w'))
    (HD2 : Hid (∀ wx, Below w.heap.size w wx → Calls Try.prog 30 #[.int .i64 b, .slice a2 m c2] wx fun e w' => e = .returned (.bool true) ∧ wx = w'))
    (_HN1 : Hid (∀ wx, Below w.heap.size w wx → Calls Try.prog 32 #[.int .i64 b, .slice a1 n c1] wx fun e w' => e = .returned (.int .i64 A) ∧ wx = w'))
    (HN2 : Hid (∀ wx, Below w.heap.size w wx → Calls Try.prog 32 #[.int .i64 b, .slice a2 m c2] wx fun e w' => e = .returned (.int .i64 D) ∧ wx = w'))
    (_HP1 : Hid (∀ wx, Calls Try.prog 31 #[.int .i64 b, .int .i64 n] wx fun e w' => e = .returned (.int .i64 P) ∧ wx = w'))
    (HP2 : Hid (∀ wx, Calls Try.prog 31 #[.int .i64 b, .int .i64 m] wx fun e w' => e = .returned (.int .i64 Q) ∧ wx = w'))
    (hD : D = Q - 1) :
    Calls Try.prog 8 #[.int .i64 b, .slice a1 n c1, .slice a2 m c2] w (AnsF w 0 0 false) := by
  have h0' : ((m : Int) == 0) = false := by simp; omega
  have h5 : decide (5 < (n : Int) + (m : Int)) = false := by simp; omega
  have hbw : Below w.heap.size w (w.alloc (.cells #[.int .i64 0, .int .i64 0] 27)) := (Below.refl _ _).alloc (Nat.le_refl _) _
  obtain ⟨z1, z2, z3, z4, z5, z6, z7, z8⟩ := hn
  have hq' : (D == (Q : Int) - 1) = true := by simpa using hD
  have HDQ := Lib.hid hD; clear hD
  go_enter Try.func8, Try.ntmps8
  go_wp2_with (go_at_call 29; refine (baseIn_any _ _).mono ?_; rintro e w' ⟨rfl, rfl⟩)
  refine (HD1.out _ hbw).mono ?_
  rintro e w' ⟨rfl, rfl⟩
  go_wp2_with fail
  refine (HD2.out _ hbw).mono ?_
  rintro e w' ⟨rfl, rfl⟩
  go_wp2_with fail
  refine (HP2.out _).mono ?_
  rintro e w' ⟨rfl, rfl⟩
  go_wp2_with fail
  refine (HN2.out _ hbw).mono ?_
  rintro e w' ⟨rfl, rfl⟩
  go_wp2_with fail
  refine bodyPost_ret (v := .tuple #[.agg #[.int .i64 0, .int .i64 0], .bool false]) (by simp [results, Try.results8, go_sem]) rfl ⟨rfl, ?_⟩
  repeat (first | exact Below.refl _ _ | refine Below.drew ?_ | refine Below.alloc ?_ (by simp; try omega) _ | refine Below.setCell ?_ (by simp; try omega) _)

set_option maxHeartbeats 1000000 in
theorem implFracOf_far (b n m : Nat) (a1 a2 : Option Addr) (c1 c2 : Nat) (w : World) (A D : Int) (P Q : Nat)
    (hb : decide (2 ≤ (b : Int) ∧ (b : Int) ≤ 16) = true) (hm0 : 0 < m) (hl : n + m ≤ 5) (hn : Nums A D P Q)
    (HD1 : Hid (∀ wx, Below w.heap.size w wx → Calls Try.prog 30 #[.int .i64 b, .slice a1 n c1] wx fun e w' => e = .returned (.bool true) ∧ wx = w'))
    (HD2 : Hid (∀ wx, Below w.heap.size w wx → Calls Try.prog 30 #[.int .i64 b, .slice a2 m c2] wx fun e w' => e = .returned (.bool true) ∧ wx = w'))
    (HN1 : Hid (∀ wx, Below w.heap.size w wx → Calls Try.prog 32 #[.int .i64 b, .slice a1 n c1] wx fun e w' => e = .returned (.int .i64 A) ∧ wx = w'))
    (HN2 : Hid (∀ wx, Below w.heap.size w wx → Calls Try.prog 32 #[.int .i64 b, .slice a2 m c2] wx fun e w' => e = .returned (.int .i64 D) ∧ wx = w'))
    (HP1 : Hid (∀ wx, Calls Try.prog 31 #[.int .i64 b, .int .i64 n] wx fun e w' => e = .returned (.int .i64 P) ∧ wx = w'))
    (HP2 : Hid (∀ wx, Calls Try.prog 31 #[.int .i64 b, .int .i64 m] wx fun e w' => e = .returned (.int .i64 Q) ∧ wx = w'))
    (T N : Int) (hT : A * ((Q : Int) - 1) + D = T) (hN : (P : Int) * ((Q : Int) - 1) = N)
    (hD : D ≠ Q - 1) (p : Bool) (hp : decide (1000 < N / gcdI T N) = !p) :
    Calls Try.prog 8 #[.int .i64 b, .slice a1 n c1, .slice a2 m c2] w (AnsF w (if p then T / gcdI T N else 0) (if p then N / gcdI T N else 0) p) := by
  have h0' : ((m : Int) == 0) = false := by simp; omega
  have h5 : decide (5 < (n : Int) + (m : Int)) = false := by simp; omega
  have hbw : Below w.heap.size w (w.alloc (.cells #[.int .i64 0, .int .i64 0] 27)) := (Below.refl _ _).alloc (Nat.le_refl _) _
  obtain ⟨k1, k2, k3, k4⟩ := hn.mul
  obtain ⟨z1, z2, z3, z4, z5, z6, z7, z8⟩ := hn
  have hq' : (D == (Q : Int) - 1) = false := by simpa using hD
  have HLow : ∀ wx, Calls Try.prog 33 #[.int .i64 T, .int .i64 N] wx fun e w' =>
      e = .returned (.agg #[.int .i64 (T / gcdI T N), .int .i64 (N / gcdI T N)]) ∧ Below wx.heap.size wx w' := fun wx => lowest_int T N wx (by omega) (by omega) (by omega) (by omega)
  have HL := Lib.hid HLow; clear HLow
  clear hD z8
  cases p with
  | false =>
    simp only [Bool.not_false] at hp
    go_enter Try.func8, Try.ntmps8
    go_wp2_with (go_at_call 29; refine (baseIn_any _ _).mono ?_; rintro e w' ⟨rfl, rfl⟩)
    refine (HD1.out _ hbw).mono ?_
    rintro e w' ⟨rfl, rfl⟩
    go_wp2_with fail
    refine (HD2.out _ hbw).mono ?_
    rintro e w' ⟨rfl, rfl⟩
    go_wp2_with fail
    refine (HP2.out _).mono ?_
    rintro e w' ⟨rfl, rfl⟩
    go_wp2_with fail
    refine (HN2.out _ hbw).mono ?_
    rintro e w' ⟨rfl, rfl⟩
    go_wp2_with fail
    refine (HN1.out _ hbw).mono ?_
    rintro e w' ⟨rfl, rfl⟩
    go_wp2_with fail
    refine (HP1.out _).mono ?_
    rintro e w' ⟨rfl, rfl⟩
    go_wp2_with fail
    refine (HL.out _).mono ?_
    rintro e w1 ⟨rfl, hb1⟩
    have BX := (Box2.newAt (W := w) (T := 27) (x := .int .i64 0) (y := .int .i64 0) rfl).later hb1
    have y0 := BX.cell0
    have y1 := BX.cell1
    have f0 := BX.frozen0
    have f1 := BX.frozen1
    have hB0 := BX.lt
    go_wp2_with fail
    refine bodyPost_ret (v := .tuple #[.agg #[.int .i64 0, .int .i64 0], .bool false]) (by simp [results, Try.results8, go_sem, ((BX.set _ _).alloc _).cell0, ((BX.set _ _).alloc _).cell1]) rfl ⟨rfl, ?_⟩
    repeat (first | exact Below.refl _ _ | exact hbw.trans (hb1.mono (by simp)) | refine Below.drew ?_ | refine Below.alloc ?_ (by simp; try omega) _ | refine Below.setCell ?_ (by simp; try omega) _)
  | true =>
    simp only [Bool.not_true] at hp
    go_enter Try.func8, Try.ntmps8
    go_wp2_with (go_at_call 29; refine (baseIn_any _ _).mono ?_; rintro e w' ⟨rfl, rfl⟩)
    refine (HD1.out _ hbw).mono ?_
    rintro e w' ⟨rfl, rfl⟩
    go_wp2_with fail
    refine (HD2.out _ hbw).mono ?_
    rintro e w' ⟨rfl, rfl⟩
    go_wp2_with fail
    refine (HP2.out _).mono ?_
    rintro e w' ⟨rfl, rfl⟩
    go_wp2_with fail
    refine (HN2.out _ hbw).mono ?_
    rintro e w' ⟨rfl, rfl⟩
    go_wp2_with fail
    refine (HN1.out _ hbw).mono ?_
    rintro e w' ⟨rfl, rfl⟩
    go_wp2_with fail
    refine (HP1.out _).mono ?_
    rintro e w' ⟨rfl, rfl⟩
    go_wp2_with fail
    refine (HL.out _).mono ?_
    rintro e w1 ⟨rfl, hb1⟩
    have BX := (Box2.newAt (W := w) (T := 27) (x := .int .i64 0) (y := .int .i64 0) rfl).later hb1
    have y0 := BX.cell0
    have y1 := BX.cell1
    have f0 := BX.frozen0
    have f1 := BX.frozen1
    have hB0 := BX.lt
    go_wp2_with fail
    refine bodyPost_ret (v := .tuple #[.agg #[.int .i64 (T / gcdI T N), .int .i64 (N / gcdI T N)], .bool true]) (by simp [results, Try.results8, go_sem, ((BX.set _ _).alloc _).cell0, ((BX.set _ _).alloc _).cell1]) rfl ⟨rfl, ?_⟩
    repeat (first | exact Below.refl _ _ | exact hbw.trans (hb1.mono (by simp)) | refine Below.drew ?_ | refine Below.alloc ?_ (by simp; try omega) _ | refine Below.setCell ?_ (by simp; try omega) _)

end Go.Proofs.Ytoepfemifmellaa
