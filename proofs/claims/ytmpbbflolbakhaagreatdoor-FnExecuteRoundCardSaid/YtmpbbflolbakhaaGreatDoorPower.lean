/-
  Powers by a bottom, lowest terms, the fraction behind k digits.
-/
import Derived.Test.YtmpbbflolbakhaaGreatDoorNext
import Derived.Deep.RegionWith
import Derived.Deep.RegionHeld3
namespace Go.Proofs.YtmpbbflolbakhaaGreatDoor
open Go.RowKit

theorem pow_even (r s j n : Nat) (h : j % 2 = 0) : r * (s * s % n) ^ (j / 2) % n = r * s ^ j % n := by
  rw [Nat.mul_mod, ← Nat.pow_mod, ← Nat.mul_mod, ← Nat.pow_two, ← Nat.pow_mul, show 2 * (j / 2) = j by omega]

theorem pow_odd (r s j n : Nat) (h : j % 2 = 1) : (r * s % n) * (s * s % n) ^ (j / 2) % n = r * s ^ j % n := by
  rw [Nat.mul_mod, Nat.mod_mod, ← Nat.pow_mod, ← Nat.mul_mod, ← Nat.pow_two, ← Nat.pow_mul, Nat.mul_assoc, Nat.mul_comm s, ← Nat.pow_succ, show (2 * (j / 2)).succ = j by omega]

theorem rst_pow (b T B k : Nat) : rst b T B k % B = T * b ^ k % B := by
  induction k with
  | zero => simp [rst]
  | succ k ih =>
    show rst b T B k * b % B % B = _
    rw [Nat.mod_mod, Nat.mul_mod, ih, ← Nat.mul_mod, Nat.pow_succ, Nat.mul_assoc]

theorem rst_pow' {b T B : Nat} (hT : T < B) (k : Nat) : rst b T B k = T * (b ^ k % B) % B := by
  rw [← Nat.mod_eq_of_lt (rst_lt (b := b) hT k), rst_pow, Nat.mul_mod_mod]

/-- A power's rest, kept as one word. -/
def pwr (b k n : Nat) : Nat := b ^ k % n

set_option maxHeartbeats 1000000 in
theorem powerRest_any (b k n : Nat) (w : World) (hb : b ≤ 16) (hk : k ≤ 1000000) (hn : 0 < n) (hn2 : n ≤ 1000) :
    Calls Tryz.prog 175 #[.int .i64 b, .int .i64 k, .int .i64 n] w fun e w' => e = .returned (.int .i64 (pwr b k n)) ∧ w' = w.drew := by
  go_enter Tryz.func175, Tryz.ntmps175
  go_wp2
  go_region
  go_wp2
  go_loopw [1, 7, 8] (fun k' r' s' wr => ∃ j r s : Nat, k' = .int .i64 j ∧ r' = .int .i64 r ∧ s' = .int .i64 s ∧ j ≤ 1000000 ∧ r < n ∧ s < n ∧ Hid (r * s ^ j % n = b ^ k % n) ∧ wr = w.drew)
    (fun k' _ _ _ => (intOf k').toNat)
  case atStart =>
    refine ⟨k, 1 % n, b % n, rfl, ?_, ?_, hk, Nat.mod_lt _ hn, Nat.mod_lt _ hn, ?_, ?_⟩
    · simp
    · simp
    · unfold Hid; rw [Nat.mul_mod, Nat.mod_mod, ← Nat.pow_mod, ← Nat.mul_mod, Nat.one_mul]
    · rfl
  case round =>
    obtain ⟨j, r, s, rfl, rfl, rfl, hj, hr, hs, HI, rfl⟩ := hrel
    by_cases h0 : j = 0
    · subst h0
      go_wp2
      go_ret
      refine ⟨ret_int ?_, rfl⟩
      have := HI.out
      rw [Nat.pow_zero, Nat.mul_one, Nat.mod_eq_of_lt hr] at this
      rw [this]; rfl
    · have h0' : 0 < j := by omega
      have m1 : ((r : Int) * s) ≤ 1000 * 1000 := Int.mul_le_mul (by omega) (by omega) (by omega) (by omega)
      have m2 : ((s : Int) * s) ≤ 1000 * 1000 := Int.mul_le_mul (by omega) (by omega) (by omega) (by omega)
      have m3 : 0 ≤ (r : Int) * s := Int.mul_nonneg (by omega) (by omega)
      have m4 : 0 ≤ (s : Int) * s := Int.mul_nonneg (by omega) (by omega)
      clear h0
      by_cases h2 : j % 2 = 1
      · have h2' : ((j : Int) % 2 == 1) = true := by simp; omega
        have HO : Hid ((r * s % n) * (s * s % n) ^ (j / 2) % n = b ^ k % n) := (pow_odd r s j n h2).trans HI.out
        clear h2
        go_wp2
        go_roundw
        case rel => exact ⟨j / 2, r * s % n, s * s % n, by simp, by simp, by simp, by omega, Nat.mod_lt _ hn, Nat.mod_lt _ hn, HO, trivial⟩
        case measure => simp [intOf]; omega
      · have h2' : ((j : Int) % 2 == 1) = false := by simp; omega
        have HO : Hid (r * (s * s % n) ^ (j / 2) % n = b ^ k % n) := (pow_even r s j n (by omega)).trans HI.out
        clear h2
        go_wp2
        go_roundw
        case rel => exact ⟨j / 2, r, s * s % n, by simp, rfl, by simp, by omega, hr, Nat.mod_lt _ hn, HO, trivial⟩
        case measure => simp [intOf]; omega

/-- Lowest terms of a rest are the fraction on the way. -/
theorem low_rst {b T B : Nat} (hT : T < B) (hg : Nat.gcd T B = 1) (k : Nat) :
    rst b T B k / Nat.gcd (rst b T B k) B = (frT b T B k).1 ∧ B / Nat.gcd (rst b T B k) B = (frT b T B k).2 := by
  have h := fr_ok (b := b) hT hg k
  have hB : 0 < B := by omega
  have hgp : 0 < Nat.gcd (rst b T B k) B := Nat.gcd_pos_of_pos_right _ hB
  have h' : FrOk T B (rst b T B k) (rst b T B k / Nat.gcd (rst b T B k) B) (B / Nat.gcd (rst b T B k) B) := by
    refine ⟨Nat.div_pos (Nat.le_of_dvd hB (Nat.gcd_dvd_right _ _)) hgp, Nat.div_dvd_of_dvd (Nat.gcd_dvd_right _ _), ?_, ?_, ?_⟩
    · rw [Nat.gcd_div (Nat.gcd_dvd_left _ _) (Nat.gcd_dvd_right _ _), Nat.div_self hgp]
    · rw [Nat.div_div_self (Nat.gcd_dvd_right _ _) (by omega), Nat.div_mul_cancel (Nat.gcd_dvd_left _ _)]
    · exact Nat.div_lt_div_of_lt_of_dvd (Nat.gcd_dvd_right _ _) (rst_lt hT k)
  exact fr_unique hB h' h

set_option maxHeartbeats 1000000 in
theorem lowest_int (t n : Int) (w : World) (h0 : 0 ≤ t) (hn : 0 < n) (ht : t ≤ 100000000000) (hn2 : n ≤ 100000000000) :
    Calls Tryz.prog 150 #[.int .i64 t, .int .i64 n] w fun e w' =>
      e = .returned (.agg #[.int .i64 (t / gcdI t n), .int .i64 (n / gcdI t n)]) ∧ Below w.heap.size w w' := by
  have g1 := gcdI_pos_right t n (by omega)
  have q1 : 0 ≤ t / gcdI t n := Int.ediv_nonneg (by omega) (by omega)
  have q2 : t / gcdI t n ≤ 100000000000 := Int.le_trans (Int.ediv_le_self _ (by omega)) (by omega)
  have q3 : 0 ≤ n / gcdI t n := Int.ediv_nonneg (by omega) (by omega)
  have q4 : n / gcdI t n ≤ 100000000000 := Int.le_trans (Int.ediv_le_self _ (by omega)) (by omega)
  go_enter Tryz.func150, Tryz.ntmps150
  go_wp2_with (go_at_call 52; refine (commonDivisor_any _ _ _ (by omega) (by omega) (by omega) (by omega)).mono ?_; rintro e w' ⟨rfl, rfl⟩)
  go_region
  go_wp2
  refine bodyPost_ret (v := .agg #[.int .i64 (t / gcdI t n), .int .i64 (n / gcdI t n)]) (by simp [results, Tryz.results150, go_sem]) rfl ⟨rfl, ?_⟩
  repeat (first | exact Below.refl _ _ | refine Below.drew ?_ | refine Below.alloc ?_ (by simp; try omega) _ | refine Below.setCell ?_ (by simp; try omega) _)

theorem lowest_any (t n : Nat) (w : World) (hn : 0 < n) (ht : t ≤ 100000000000) (hn2 : n ≤ 100000000000) :
    Calls Tryz.prog 150 #[.int .i64 t, .int .i64 n] w fun e w' =>
      e = .returned (.agg #[.int .i64 (t / Nat.gcd t n : Nat), .int .i64 (n / Nat.gcd t n : Nat)]) ∧ Below w.heap.size w w' := by
  have h := lowest_int t n w (by omega) (by omega) (by omega) (by omega)
  rw [gcdI_nat] at h
  simpa using h

set_option maxHeartbeats 1000000 in
theorem behind_any (b T B k : Nat) (w : World) (hT : T < B) (hg : Nat.gcd T B = 1) (hB : B ≤ 1000) (h4 : b ≤ 16) (hk : k ≤ 1000000) :
    Calls Tryz.prog 149 #[.agg #[.int .i64 T, .int .i64 B], .int .i64 b, .int .i64 k] w fun e w' =>
      e = .returned (.agg #[.int .i64 (frT b T B k).1, .int .i64 (frT b T B k).2]) ∧ Below w.heap.size w w' := by
  have p1 : pwr b k B < B := Nat.mod_lt _ (by omega)
  have p2 : (T : Int) * pwr b k B ≤ 1000 * 1000 := Int.mul_le_mul (by omega) (by omega) (by omega) (by omega)
  have p3 : 0 ≤ (T : Int) * pwr b k B := Int.mul_nonneg (by omega) (by omega)
  have p4 : 0 ≤ (T : Int) * pwr b k B % B := Int.emod_nonneg _ (by omega)
  have p5 : (T : Int) * pwr b k B % B < B := Int.emod_lt_of_pos _ (by omega)
  have hl := low_rst (b := b) hT hg k
  have e1 : ((T : Int) * pwr b k B % B) / gcdI ((T : Int) * pwr b k B % B) B = ((frT b T B k).1 : Nat) := by
    have e : (T : Int) * pwr b k B % B = ((rst b T B k : Nat) : Int) := by rw [rst_pow' hT k]; unfold pwr; generalize b ^ k % B = q; simp
    rw [e, gcdI_nat, ← hl.1]; simp
  have e2 : (B : Int) / gcdI ((T : Int) * pwr b k B % B) B = ((frT b T B k).2 : Nat) := by
    have e : (T : Int) * pwr b k B % B = ((rst b T B k : Nat) : Int) := by rw [rst_pow' hT k]; unfold pwr; generalize b ^ k % B = q; simp
    rw [e, gcdI_nat, ← hl.2]; simp
  have E1 := Lib.hid e1; have E2 := Lib.hid e2; clear e1 e2
  have HG := Lib.hid hg; clear hg hl
  have z0 : Box2 ((w.alloc (.cells #[.int .i64 T, .int .i64 B] 24)).alloc (.cells #[.int .i64 0, .int .i64 0] 24)) (w.heap.size + 1) 24 (.int .i64 0) (.int .i64 0) := Box2.newAt (by simp)
  have q0 : Box2 ((w.alloc (.cells #[.int .i64 T, .int .i64 B] 24)).alloc (.cells #[.int .i64 0, .int .i64 0] 24)) w.heap.size 24 (.int .i64 T) (.int .i64 B) := (Box2.newAt rfl).alloc _
  have hB0 : (0 : Int) < (B : Int) := by omega
  go_enter Tryz.func149, Tryz.ntmps149
  go_wp2
  have n1 : 0 < B := by omega
  have n2 : (T : Int) * pwr b k B % B ≤ 100000000000 := by omega
  have n3 : (B : Int) ≤ 100000000000 := by omega
  have i1 : IntKind.i64.wrap ((T : Int) * pwr b k B) = (T : Int) * pwr b k B := IntWalk.i64_in _ (by omega)
  have i2 : Int.tmod ((T : Int) * pwr b k B) (B : Int) = (T : Int) * pwr b k B % B := Int.tmod_eq_emod_of_nonneg p3
  have i3 : IntKind.i64.wrap ((T : Int) * pwr b k B % B) = (T : Int) * pwr b k B % B := IntWalk.i64_in _ (by omega)
  have i4 : ((B : Int) == 0) = false := by simp; omega
  have i5 : ¬ B = 0 := by omega
  go_region_held3 (fun w' => w'.cell? ⟨w.heap.size, 0, none⟩ = some (.int .i64 T) ∧ w'.cell? ⟨w.heap.size, 1, none⟩ = some (.int .i64 B)) (go_keep)
    (first | (go_at_call 175; refine (powerRest_any _ _ _ _ h4 hk n1 hB).mono ?_; rintro e w1 ⟨rfl, rfl⟩) | (go_at_call 150; refine (lowest_int _ _ _ p4 hB0 n2 n3).mono ?_; rintro e w1 ⟨rfl, hb1⟩; have z1 : Box2 w1 (w.heap.size + 1) 24 (.int .i64 0) (.int .i64 0) := (hb1.block (w.heap.size + 1) (by simp)).trans z0; have x1 : Box2 w1 w.heap.size 24 (.int .i64 T) (.int .i64 B) := (hb1.block w.heap.size (by simp; omega)).trans q0; have y0 := z1.cell0; have y1 := z1.cell1; have f0 := z1.frozen0; have f1 := z1.frozen1; have a0 := x1.cell0; have a1 := x1.cell1))
  clear i1 i2 i3 i4
  go_wp2
  refine bodyPost_ret (v := .agg #[.int .i64 ((T : Int) * pwr b k B % B / gcdI ((T : Int) * pwr b k B % B) B), .int .i64 ((B : Int) / gcdI ((T : Int) * pwr b k B % B) B)]) (by simp [results, Tryz.results149, go_sem, (z1.set _ _).cell0, (z1.set _ _).cell1]) rfl ⟨?_, ?_⟩
  · rw [E1.out, E2.out]
  · exact ((((((Below.refl w.heap.size w).alloc (Nat.le_refl _) _).alloc (by simp) _).drew.drew).trans (hb1.mono (by simp; omega))).setCell (p := ⟨w.heap.size + 1, 0, none⟩) (by simp) _).setCell (p := ⟨w.heap.size + 1, 1, none⟩) (by simp) _

end Go.Proofs.YtmpbbflolbakhaaGreatDoor
