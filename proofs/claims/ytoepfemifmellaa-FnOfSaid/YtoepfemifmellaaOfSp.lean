/-
  A fraction out of its digits: the model's walk.
-/
import Derived.Test.YtoepfemifmellaaOfIm
import Derived.Test.YtoepfemifmellaaIn
namespace Go.Proofs.Ytoepfemifmellaa
open Go.RowKit

set_option maxHeartbeats 1000000 in
theorem specFracOf_base (n₀ n₁ : Nat) (b : Int) (v u : Value) (xs ys : List Int) (w : World) (hv : Slc n₀ w v xs) (hu : Slc n₁ w u ys) (hb : decide (2 ≤ b ∧ b ≤ 16) = false) :
    Calls Try.prog 9 #[.int .i64 b, v, u] w (AnsF w 0 0 false) := by
  obtain ⟨a1, c1, rfl⟩ := slc_form hv
  obtain ⟨a2, c2, rfl⟩ := slc_form hu
  clear hv hu
  go_enter Try.func9, Try.ntmps9
  go_wp2_with (go_at_call 34; refine (l6In_any _ _ _ _).mono ?_; rintro e w' ⟨rfl, rfl⟩)
  all_goals (
    refine bodyPost_ret (v := .tuple #[.agg #[.int .i64 0, .int .i64 0], .bool false]) (by simp [results, Try.results9, go_sem]) rfl ⟨rfl, ?_⟩
    repeat (first | exact Below.refl _ _ | refine Below.drew ?_ | refine Below.alloc ?_ (by simp; try omega) _ | refine Below.setCell ?_ (by simp; try omega) _))

set_option maxHeartbeats 1000000 in
theorem specFracOf_len (n₀ n₁ : Nat) (b : Int) (v u : Value) (xs ys : List Int) (w : World) (hv : Slc n₀ w v xs) (hu : Slc n₁ w u ys) (hb : decide (2 ≤ b ∧ b ≤ 16) = true) (hlx : xs.length ≤ 1048576) (hly : ys.length ≤ 1048576) (hl : ys.length = 0 ∨ 5 < xs.length + ys.length) :
    Calls Try.prog 9 #[.int .i64 b, v, u] w (AnsF w 0 0 false) := by
  obtain ⟨a1, c1, rfl⟩ := slc_form hv
  obtain ⟨a2, c2, rfl⟩ := slc_form hu
  clear hv hu
  revert hlx hly hl
  generalize xs.length = n
  generalize ys.length = m
  intro hlx hly hl
  by_cases h0 : m = 0
  · subst h0
    clear hl
    go_enter Try.func9, Try.ntmps9
    go_wp2_with (go_at_call 34; refine (l6In_any _ _ _ _).mono ?_; rintro e w' ⟨rfl, rfl⟩)
    all_goals (
      refine bodyPost_ret (v := .tuple #[.agg #[.int .i64 0, .int .i64 0], .bool false]) (by simp [results, Try.results9, go_sem]) rfl ⟨rfl, ?_⟩
      repeat (first | exact Below.refl _ _ | refine Below.drew ?_ | refine Below.alloc ?_ (by simp; try omega) _ | refine Below.setCell ?_ (by simp; try omega) _))
  · have h0' : ((m : Int) == 0) = false := by simp; omega
    have h5 : decide (5 < (n : Int) + (m : Int)) = true := by simp; omega
    have h5' : (5 : Int) < (n : Int) + (m : Int) := by omega
    clear hl
    go_enter Try.func9, Try.ntmps9
    go_wp2_with (go_at_call 34; refine (l6In_any _ _ _ _).mono ?_; rintro e w' ⟨rfl, rfl⟩)
    all_goals (
      refine bodyPost_ret (v := .tuple #[.agg #[.int .i64 0, .int .i64 0], .bool false]) (by simp [results, Try.results9, go_sem]) rfl ⟨rfl, ?_⟩
      repeat (first | exact Below.refl _ _ | refine Below.drew ?_ | refine Below.alloc ?_ (by simp; try omega) _ | refine Below.setCell ?_ (by simp; try omega) _))

set_option maxHeartbeats 1000000 in
theorem specFracOf_dig (n₀ n₁ : Nat) (b : Int) (v u : Value) (xs ys : List Int) (w : World) (hv : Slc n₀ w v xs) (hu : Slc n₁ w u ys) (hb : decide (2 ≤ b ∧ b ≤ 16) = true) (hm0 : 0 < ys.length) (hl : xs.length + ys.length ≤ 5) (hd : digB b xs = false ∨ digB b ys = false) :
    Calls Try.prog 9 #[.int .i64 b, v, u] w (AnsF w 0 0 false) := by
  obtain ⟨hb1, hb2⟩ : 2 ≤ b ∧ b ≤ 16 := by simpa using hb
  have HV : ∀ wx, Below w.heap.size w wx → Calls Try.prog 35 #[.int .i64 b, v] wx fun e w' => e = .returned (.bool (digB b xs)) ∧ wx = w' := fun wx hb => l1DigitsIn_any _ _ _ _ _ (hv.later hb) (by omega) hb1 hb2
  have HU : ∀ wx, Below w.heap.size w wx → Calls Try.prog 35 #[.int .i64 b, u] wx fun e w' => e = .returned (.bool (digB b ys)) ∧ wx = w' := fun wx hb => l1DigitsIn_any _ _ _ _ _ (hu.later hb) (by omega) hb1 hb2
  have HH := Lib.hid HV; have HHU := Lib.hid HU; clear HV HU
  obtain ⟨a1, c1, rfl⟩ := slc_form hv
  obtain ⟨a2, c2, rfl⟩ := slc_form hu
  clear hv hu
  revert HH HHU hm0 hl hd
  generalize hxs : xs.length = n
  generalize hys : ys.length = m
  intro hm0 hl hd HH HHU
  have X1 := Lib.hid hxs; have X2 := Lib.hid hys; clear hxs hys
  have h0' : ((m : Int) == 0) = false := by simp; omega
  have h5 : decide (5 < (n : Int) + (m : Int)) = false := by simp; omega
  have hbw : Below w.heap.size w ((w.alloc (.cells #[.int .i64 0, .int .i64 0] 27)).alloc (.cells #[.int .i64 0, .int .i64 0] 27)) := ((Below.refl _ _).alloc (Nat.le_refl _) _).alloc (by simp) _
  cases h1 : digB b xs with
  | false =>
    rw [h1] at HH
    clear hd
    go_enter Try.func9, Try.ntmps9
    go_wp2_with (go_at_call 34; refine (l6In_any _ _ _ _).mono ?_; rintro e w' ⟨rfl, rfl⟩)
    refine (HH.out _ hbw).mono ?_
    rintro e w' ⟨rfl, rfl⟩
    go_wp2_with fail
    refine bodyPost_ret (v := .tuple #[.agg #[.int .i64 0, .int .i64 0], .bool false]) (by simp [results, Try.results9, go_sem]) rfl ⟨rfl, ?_⟩
    repeat (first | exact Below.refl _ _ | refine Below.drew ?_ | refine Below.alloc ?_ (by simp; try omega) _ | refine Below.setCell ?_ (by simp; try omega) _)
  | true =>
    have h2 : digB b ys = false := by rcases hd with h | h; (rw [h1] at h; cases h); exact h
    rw [h1] at HH
    rw [h2] at HHU
    clear hd
    go_enter Try.func9, Try.ntmps9
    go_wp2_with (go_at_call 34; refine (l6In_any _ _ _ _).mono ?_; rintro e w' ⟨rfl, rfl⟩)
    refine (HH.out _ hbw).mono ?_
    rintro e w' ⟨rfl, rfl⟩
    go_wp2_with fail
    refine (HHU.out _ hbw).mono ?_
    rintro e w' ⟨rfl, rfl⟩
    go_wp2_with fail
    refine bodyPost_ret (v := .tuple #[.agg #[.int .i64 0, .int .i64 0], .bool false]) (by simp [results, Try.results9, go_sem]) rfl ⟨rfl, ?_⟩
    repeat (first | exact Below.refl _ _ | refine Below.drew ?_ | refine Below.alloc ?_ (by simp; try omega) _ | refine Below.setCell ?_ (by simp; try omega) _)

set_option maxHeartbeats 1000000 in
theorem specFracOf_gen (b n m : Nat) (a1 a2 : Option Addr) (c1 c2 : Nat) (w : World) (A D : Int) (P Q : Nat)
    (hb : decide (2 ≤ (b : Int) ∧ (b : Int) ≤ 16) = true) (hm0 : 0 < m) (hl : n + m ≤ 5) (hn : Nums A D P Q)
    (HD1 : Hid (∀ wx, Below w.heap.size w wx → Calls Try.prog 35 #[.int .i64 b, .slice a1 n c1] wx fun e w' => e = .returned (.bool true) ∧ wx = w'))
    (HD2 : Hid (∀ wx, Below w.heap.size w wx → Calls Try.prog 35 #[.int .i64 b, .slice a2 m c2] wx fun e w' => e = .returned (.bool true) ∧ wx = w'))
    (_HN1 : Hid (∀ wx, Below w.heap.size w wx → Calls Try.prog 37 #[.int .i64 b, .slice a1 n c1] wx fun e w' => e = .returned (.int .i64 A) ∧ wx = w'))
    (HN2 : Hid (∀ wx, Below w.heap.size w wx → Calls Try.prog 37 #[.int .i64 b, .slice a2 m c2] wx fun e w' => e = .returned (.int .i64 D) ∧ wx = w'))
    (_HP1 : Hid (∀ wx, Calls Try.prog 36 #[.int .i64 b, .int .i64 n] wx fun e w' => e = .returned (.int .i64 P) ∧ wx = w'))
    (HP2 : Hid (∀ wx, Calls Try.prog 36 #[.int .i64 b, .int .i64 m] wx fun e w' => e = .returned (.int .i64 Q) ∧ wx = w'))
    (hD : D = Q - 1) :
    Calls Try.prog 9 #[.int .i64 b, .slice a1 n c1, .slice a2 m c2] w (AnsF w 0 0 false) := by
  have h0' : ((m : Int) == 0) = false := by simp; omega
  have h5 : decide (5 < (n : Int) + (m : Int)) = false := by simp; omega
  have hbw : Below w.heap.size w ((w.alloc (.cells #[.int .i64 0, .int .i64 0] 27)).alloc (.cells #[.int .i64 0, .int .i64 0] 27)) := ((Below.refl _ _).alloc (Nat.le_refl _) _).alloc (by simp) _
  obtain ⟨z1, z2, z3, z4, z5, z6, z7, z8⟩ := hn
  have hq' : (D == (Q : Int) - 1) = true := by simpa using hD
  have HDQ := Lib.hid hD; clear hD
  go_enter Try.func9, Try.ntmps9
  go_wp2_with (go_at_call 34; refine (l6In_any _ _ _ _).mono ?_; rintro e w' ⟨rfl, rfl⟩)
  refine (HD1.out _ hbw).mono ?_
  rintro e w' ⟨rfl, rfl⟩
  go_wp2_with fail
  refine (HD2.out _ hbw).mono ?_
  rintro e w' ⟨rfl, rfl⟩
  go_wp2_with fail
  refine (HP2.out _).mono ?_
  rintro e w' ⟨rfl, rfl⟩
  go_wp2_with fail
  refine (HN2.out _ hbw).mono ?_
  rintro e w' ⟨rfl, rfl⟩
  go_wp2_with fail
  refine bodyPost_ret (v := .tuple #[.agg #[.int .i64 0, .int .i64 0], .bool false]) (by simp [results, Try.results9, go_sem]) rfl ⟨rfl, ?_⟩
  repeat (first | exact Below.refl _ _ | refine Below.drew ?_ | refine Below.alloc ?_ (by simp; try omega) _ | refine Below.setCell ?_ (by simp; try omega) _)

set_option maxHeartbeats 1000000 in
theorem specFracOf_far (b n m : Nat) (a1 a2 : Option Addr) (c1 c2 : Nat) (w : World) (A D : Int) (P Q : Nat)
    (hb : decide (2 ≤ (b : Int) ∧ (b : Int) ≤ 16) = true) (hm0 : 0 < m) (hl : n + m ≤ 5) (hn : Nums A D P Q)
    (HD1 : Hid (∀ wx, Below w.heap.size w wx → Calls Try.prog 35 #[.int .i64 b, .slice a1 n c1] wx fun e w' => e = .returned (.bool true) ∧ wx = w'))
    (HD2 : Hid (∀ wx, Below w.heap.size w wx → Calls Try.prog 35 #[.int .i64 b, .slice a2 m c2] wx fun e w' => e = .returned (.bool true) ∧ wx = w'))
    (HN1 : Hid (∀ wx, Below w.heap.size w wx → Calls Try.prog 37 #[.int .i64 b, .slice a1 n c1] wx fun e w' => e = .returned (.int .i64 A) ∧ wx = w'))
    (HN2 : Hid (∀ wx, Below w.heap.size w wx → Calls Try.prog 37 #[.int .i64 b, .slice a2 m c2] wx fun e w' => e = .returned (.int .i64 D) ∧ wx = w'))
    (HP1 : Hid (∀ wx, Calls Try.prog 36 #[.int .i64 b, .int .i64 n] wx fun e w' => e = .returned (.int .i64 P) ∧ wx = w'))
    (HP2 : Hid (∀ wx, Calls Try.prog 36 #[.int .i64 b, .int .i64 m] wx fun e w' => e = .returned (.int .i64 Q) ∧ wx = w'))
    (T N : Int) (hT : A * ((Q : Int) - 1) + D = T) (hN : (P : Int) * ((Q : Int) - 1) = N)
    (hD : D ≠ Q - 1) (p : Bool) (hp : finB (T / gcdI T N) (N / gcdI T N) = p) :
    Calls Try.prog 9 #[.int .i64 b, .slice a1 n c1, .slice a2 m c2] w (AnsF w (if p then T / gcdI T N else 0) (if p then N / gcdI T N else 0) p) := by
  have h0' : ((m : Int) == 0) = false := by simp; omega
  have h5 : decide (5 < (n : Int) + (m : Int)) = false := by simp; omega
  have hbw : Below w.heap.size w ((w.alloc (.cells #[.int .i64 0, .int .i64 0] 27)).alloc (.cells #[.int .i64 0, .int .i64 0] 27)) := ((Below.refl _ _).alloc (Nat.le_refl _) _).alloc (by simp) _
  obtain ⟨k1, k2, k3, k4⟩ := hn.mul
  obtain ⟨z1, z2, z3, z4, z5, z6, z7, z8⟩ := hn
  have hq' : (D == (Q : Int) - 1) = false := by simpa using hD
  have HLow : ∀ wx, Calls Try.prog 38 #[.int .i64 T, .int .i64 N] wx fun e w' =>
      e = .returned (.int .i64 (gcdI T N)) ∧ wx = w' := fun wx => l1Gcd_any T N wx (by omega) (by omega) (by omega) (by omega)
  have HL := Lib.hid HLow; clear HLow
  have Q0 : Box2 (((w.alloc (.cells #[.int .i64 0, .int .i64 0] 27)).alloc (.cells #[.int .i64 0, .int .i64 0] 27)).alloc (.cells #[.int .i64 (T / gcdI T N), .int .i64 (N / gcdI T N)] 27)) w.heap.size 27 (.int .i64 0) (.int .i64 0) := ((Box2.newAt rfl).alloc _).alloc _
  have Q1 : Box2 (((w.alloc (.cells #[.int .i64 0, .int .i64 0] 27)).alloc (.cells #[.int .i64 0, .int .i64 0] 27)).alloc (.cells #[.int .i64 (T / gcdI T N), .int .i64 (N / gcdI T N)] 27)) (w.heap.size + 1) 27 (.int .i64 0) (.int .i64 0) := (Box2.newAt (by simp)).alloc _
  have Q2 : Box2 (((w.alloc (.cells #[.int .i64 0, .int .i64 0] 27)).alloc (.cells #[.int .i64 0, .int .i64 0] 27)).alloc (.cells #[.int .i64 (T / gcdI T N), .int .i64 (N / gcdI T N)] 27)) (w.heap.size + 1 + 1) 27 (.int .i64 (T / gcdI T N)) (.int .i64 (N / gcdI T N)) := Box2.newAt (by simp)
  clear hD z8
  have g1 := gcdI_pos_right T N (by omega)
  have q1 : 0 ≤ T / gcdI T N := Int.ediv_nonneg (by omega) (by omega)
  have q2 : T / gcdI T N ≤ 100000000000 := Int.le_trans (Int.ediv_le_self _ (by omega)) (by omega)
  have q3 : 0 ≤ N / gcdI T N := Int.ediv_nonneg (by omega) (by omega)
  have q4 : N / gcdI T N ≤ 100000000000 := Int.le_trans (Int.ediv_le_self _ (by omega)) (by omega)
  cases p with
  | false =>
    go_enter Try.func9, Try.ntmps9
    go_wp2_with (go_at_call 34; refine (l6In_any _ _ _ _).mono ?_; rintro e w' ⟨rfl, rfl⟩)
    refine (HD1.out _ hbw).mono ?_
    rintro e w' ⟨rfl, rfl⟩
    go_wp2_with fail
    refine (HD2.out _ hbw).mono ?_
    rintro e w' ⟨rfl, rfl⟩
    go_wp2_with fail
    refine (HP2.out _).mono ?_
    rintro e w' ⟨rfl, rfl⟩
    go_wp2_with fail
    refine (HN2.out _ hbw).mono ?_
    rintro e w' ⟨rfl, rfl⟩
    go_wp2_with fail
    refine (HN1.out _ hbw).mono ?_
    rintro e w' ⟨rfl, rfl⟩
    go_wp2_with fail
    refine (HN2.out _ hbw).mono ?_
    rintro e w' ⟨rfl, rfl⟩
    go_wp2_with fail
    refine (HP1.out _).mono ?_
    rintro e w' ⟨rfl, rfl⟩
    go_wp2_with fail
    refine (HL.out _).mono ?_
    rintro e w1 ⟨rfl, rfl⟩
    go_wp2_with fail
    go_region
    go_wp2_with fail
    refine (specFracIn_any _ _ _).mono ?_
    rintro e w1 ⟨rfl, hb1⟩
    rw [hp]
    have X0 : Box2 w1 w.heap.size 27 (.int .i64 0) (.int .i64 0) := (hb1.block w.heap.size (by simp; omega)).trans Q0
    have X1 : Box2 w1 (w.heap.size + 1) 27 (.int .i64 0) (.int .i64 0) := (hb1.block (w.heap.size + 1) (by simp)).trans Q1
    have X2 : Box2 w1 (w.heap.size + 1 + 1) 27 (.int .i64 (T / gcdI T N)) (.int .i64 (N / gcdI T N)) := (hb1.block (w.heap.size + 1 + 1) (by simp)).trans Q2
    have x00 := X0.cell0
    have x01 := X0.cell1
    have x02 := X0.frozen0
    have x03 := X0.frozen1
    have x10 := X1.cell0
    have x11 := X1.cell1
    have x20 := X2.cell0
    have x21 := X2.cell1
    go_wp2_with fail
    refine bodyPost_ret (v := .tuple #[.agg #[.int .i64 0, .int .i64 0], .bool false]) (by simp [results, Try.results9, go_sem, (X0.set _ _).cell0, (X0.set _ _).cell1]) rfl ⟨rfl, ?_⟩
    repeat (first | exact Below.refl _ _ | exact ((hbw.alloc (by simp; try omega) _).drew).trans (hb1.mono (by simp; try omega)) | refine Below.drew ?_ | refine Below.alloc ?_ (by simp; try omega) _ | refine Below.setCell ?_ (by simp; try omega) _)
  | true =>
    go_enter Try.func9, Try.ntmps9
    go_wp2_with (go_at_call 34; refine (l6In_any _ _ _ _).mono ?_; rintro e w' ⟨rfl, rfl⟩)
    refine (HD1.out _ hbw).mono ?_
    rintro e w' ⟨rfl, rfl⟩
    go_wp2_with fail
    refine (HD2.out _ hbw).mono ?_
    rintro e w' ⟨rfl, rfl⟩
    go_wp2_with fail
    refine (HP2.out _).mono ?_
    rintro e w' ⟨rfl, rfl⟩
    go_wp2_with fail
    refine (HN2.out _ hbw).mono ?_
    rintro e w' ⟨rfl, rfl⟩
    go_wp2_with fail
    refine (HN1.out _ hbw).mono ?_
    rintro e w' ⟨rfl, rfl⟩
    go_wp2_with fail
    refine (HN2.out _ hbw).mono ?_
    rintro e w' ⟨rfl, rfl⟩
    go_wp2_with fail
    refine (HP1.out _).mono ?_
    rintro e w' ⟨rfl, rfl⟩
    go_wp2_with fail
    refine (HL.out _).mono ?_
    rintro e w1 ⟨rfl, rfl⟩
    go_wp2_with fail
    go_region
    go_wp2_with fail
    refine (specFracIn_any _ _ _).mono ?_
    rintro e w1 ⟨rfl, hb1⟩
    rw [hp]
    have X0 : Box2 w1 w.heap.size 27 (.int .i64 0) (.int .i64 0) := (hb1.block w.heap.size (by simp; omega)).trans Q0
    have X1 : Box2 w1 (w.heap.size + 1) 27 (.int .i64 0) (.int .i64 0) := (hb1.block (w.heap.size + 1) (by simp)).trans Q1
    have X2 : Box2 w1 (w.heap.size + 1 + 1) 27 (.int .i64 (T / gcdI T N)) (.int .i64 (N / gcdI T N)) := (hb1.block (w.heap.size + 1 + 1) (by simp)).trans Q2
    have x00 := X0.cell0
    have x01 := X0.cell1
    have x02 := X0.frozen0
    have x03 := X0.frozen1
    have x10 := X1.cell0
    have x11 := X1.cell1
    have x20 := X2.cell0
    have x21 := X2.cell1
    go_wp2_with fail
    refine bodyPost_ret (v := .tuple #[.agg #[.int .i64 (T / gcdI T N), .int .i64 (N / gcdI T N)], .bool true]) (by simp [results, Try.results9, go_sem, (X0.set _ _).cell0, (X0.set _ _).cell1]) rfl ⟨rfl, ?_⟩
    repeat (first | exact Below.refl _ _ | exact ((hbw.alloc (by simp; try omega) _).drew).trans (hb1.mono (by simp; try omega)) | refine Below.drew ?_ | refine Below.alloc ?_ (by simp; try omega) _ | refine Below.setCell ?_ (by simp; try omega) _)

end Go.Proofs.Ytoepfemifmellaa
