/-
  What the program's functions of chapter 3 answer, as one sentence each; the law's own test of primes.
  Chapter 3, the program's side where no goroutine is started: orders, units, rows of ones, products, beginnings.
-/
import Derived.Test.YtmpbbflolbakhaaGreatDoorOrdS
namespace Go.Proofs.YtmpbbflolbakhaaGreatDoor
set_option maxRecDepth 100000
open Go.RowKit

def ImOf : Prop := (∀ b n : Int, prmB b n = false → GivesI 13 #[.int .i64 b, .int .i64 n] 0 false) ∧
  ∀ b n m : Nat, prmB b n = true → b ≤ 16 → 2 ≤ n → n ≤ 1000 → IsLen b 1 n 0 m → GivesI 13 #[.int .i64 b, .int .i64 n] m true
def ImUnits : Prop := (∀ n : Int, ¬ (2 ≤ n ∧ n ≤ 1000) → GivesI 121 #[.int .i64 n] 0 false) ∧
  ∀ n : Nat, 2 ≤ n → n ≤ 1000 → GivesI 121 #[.int .i64 n] (unC n n) true
def ImMost : Prop := (∀ n : Int, ¬ (2 ≤ n ∧ n ≤ 1000) → GivesI 122 #[.int .i64 n] 0 false) ∧
  ∀ n m : Nat, 2 ≤ n → n ≤ 1000 → Mst n n m → GivesI 122 #[.int .i64 n] m true
def ImOnes : Prop := (∀ b n : Int, prmB b n = false → GivesI 118 #[.int .i64 b, .int .i64 n] 0 false) ∧
  ∀ b n k : Nat, prmB b n = true → 2 ≤ b → b ≤ 16 → 2 ≤ n → n ≤ 1000 → IsOne b n k → k < n → GivesI 118 #[.int .i64 b, .int .i64 n] ((k : Int) + 1) true
def ImBegin : Prop := (∀ b n : Int, ¬ ((2 ≤ b ∧ b ≤ 16) ∧ (2 ≤ n ∧ n ≤ 1000)) → GivesI 119 #[.int .i64 b, .int .i64 n] 0 false) ∧
  ∀ b n f s k : Nat, 2 ≤ b → b ≤ 16 → 2 ≤ n → n ≤ 1000 → IsSplit b n f s → IsPow b f k → k ≤ 1000 → GivesI 119 #[.int .i64 b, .int .i64 n] k true

def ImFull : Prop := (∀ b n : Int, ¬ ((2 ≤ b ∧ b ≤ 16) ∧ (2 ≤ n ∧ n ≤ 1000)) → Gives 120 #[.int .i64 b, .int .i64 n] [] false) ∧
  ∀ b n : Nat, 2 ≤ b → b ≤ 16 → 2 ≤ n → n ≤ 1000 → Gives 120 #[.int .i64 b, .int .i64 n] (fulL b (n + 1)) true


/-- Beginnings are no longer than ten. -/
theorem pow_bound {b n f s k : Nat} (hn : 2 ≤ n) (hn2 : n ≤ 1000) (hs : IsSplit b n f s) (hk : IsPow b f k) : 2 ^ k ≤ n ∧ k ≤ 9 := by
  have hfp : 0 < f := Nat.pos_of_ne_zero fun e => by have := hs.eq; rw [e, Nat.zero_mul] at this; omega
  have hsp : 0 < s := Nat.pos_of_ne_zero fun e => by have := hs.eq; rw [e, Nat.mul_zero] at this; omega
  have h1 := pow_short hfp hk
  have h2 : f ≤ n := by rw [← hs.eq]; exact Nat.le_mul_of_pos_right _ hsp
  refine ⟨by omega, ?_⟩
  rcases Nat.lt_or_ge 9 k with h | h
  · have : 2 ^ 10 ≤ 2 ^ k := Nat.pow_le_pow_right (by omega) h
    omega
  · exact h


end Go.Proofs.YtmpbbflolbakhaaGreatDoor

namespace Go.Proofs.YtmpbbflolbakhaaGreatDoor
set_option maxRecDepth 100000
open Go.RowKit

set_option maxHeartbeats 1000000 in
/-- The order, asked for by a number and a bottom: p j is the rest of the number to the power of j. -/
theorem order_any (b n m : Nat) (w : World) (hb : b ≤ 1000) (hn : 1 ≤ n) (hn2 : n ≤ 15000) (hm : 1 ≤ m) (hm2 : m ≤ 15000)
    (hno : ∀ j, 1 ≤ j → j < m → b ^ j % n ≠ 1 % n) (hyes : b ^ m % n = 1 % n) :
    Calls Tryz.prog 27 #[.agg #[.int .i64 b, .int .i64 n]] w fun e w' => e = .returned (.int .i64 m) ∧ Below w.heap.size w w' := by
  have hn0 : ¬ n = 0 := by omega
  have hrl : ∀ j, b ^ j % n < n := fun j => Nat.mod_lt _ (by omega)
  have h1l : 1 % n ≤ 1 := Nat.mod_le _ _
  have E1 := Lib.hid (show (1 : Int) % (n : Int) = ((1 % n : Nat) : Int) by simp)
  have HN := Lib.hid hno; have HY := Lib.hid hyes
  clear hno hyes
  go_enter Tryz.func27, Tryz.ntmps27
  go_wp2_with fail
  go_loop [3, 4] (fun k r => ∃ j : Nat, 1 ≤ j ∧ j ≤ m ∧ k = .int .i64 j ∧ r = .int .i64 ((b ^ j % n : Nat) : Int)) (fun k _ => m - (intOf k).toNat)
  case atStart => exact ⟨1, Nat.le_refl _, hm, rfl, by rw [Nat.pow_one]; simp⟩
  case round =>
    obtain ⟨j, hj1, hjm, rfl, rfl⟩ := hrel
    have hr := hrl j
    have hjs : b ^ (j + 1) % n = b ^ j % n * b % n := by rw [Nat.pow_succ, Nat.mod_mul_mod]
    by_cases hlt : j < m
    · have hne := HN.out j hj1 hlt
      have HJ := Lib.hid hjs
      clear hjs
      generalize hg : b ^ j % n = r at hne hr HJ ⊢
      clear hg
      have hne' : ¬ (r : Int) = (1 : Int) % (n : Int) := by rw [E1.out]; omega
      have m1 : 0 ≤ (r : Int) * b := Int.mul_nonneg (by omega) (by omega)
      have m2 : (r : Int) * b ≤ 15000 * 1000 := Int.mul_le_mul (by omega) (by omega) (by omega) (by omega)
      go_wp2_with fail
      refine ⟨⟨j + 1, by omega, hlt, rfl, ?_⟩, by simp [intOf]; omega⟩
      rw [HJ.out]; simp
    · obtain rfl : j = m := by omega
      rw [HY.out, ← E1.out]
      go_wp2_with fail
      go_ret
      exact ⟨rfl, (Below.refl _ _).alloc (Nat.le_refl _) _⟩

/-- The order of a base by a bottom. -/
theorem order_ord (b n m : Nat) (w : World) (hb : b ≤ 1000) (hn : 2 ≤ n) (hn2 : n ≤ 1000) (hm : IsLen b 1 n 0 m) :
    Calls Tryz.prog 27 #[.agg #[.int .i64 b, .int .i64 n]] w fun e w' => e = .returned (.int .i64 m) ∧ Below w.heap.size w w' := by
  have h1 : 1 % n = 1 := Nat.mod_eq_of_lt (by omega)
  refine order_any b n m w hb (by omega) (by omega) hm.pos (by have := hm.le (show 1 < n by omega); omega) (fun j hj hjm e => ?_) ?_
  · rw [h1, ← rst_one hn] at e
    exact hm.ne 0 j hj (by omega) e.symm
  · rw [h1, ← rst_one hn]
    have := hm.eq
    rw [Nat.zero_add] at this
    exact this

set_option maxHeartbeats 1000000 in
theorem imOf : ImOf := by
  constructor
  · intro b n h w
    go_enter Tryz.func13, Tryz.ntmps13
    go_wp2_with fail
    refine (roundsTold_any _ _ _).mono ?_
    rintro e w1 ⟨rfl, rfl⟩
    rw [h]
    go_wp2_with fail
    go_ret2
    exact ⟨rfl, Below.refl _ _⟩
  · intro b n m h h4 hn hn2 hm w
    go_enter Tryz.func13, Tryz.ntmps13
    go_wp2_with fail
    refine (roundsTold_any _ _ _).mono ?_
    rintro e w1 ⟨rfl, rfl⟩
    rw [h]
    go_wp2_with fail
    refine (order_ord b n m _ (by omega) hn hn2 hm).mono ?_
    rintro e w2 ⟨rfl, hb2⟩
    go_wp2_with fail
    go_ret2
    exact ⟨rfl, hb2⟩

/-- A row of k + 1 ones: its order is that by the number times 1 less than the base. -/
theorem ones_pow {b n k : Nat} (hb : 2 ≤ b) (hn : 2 ≤ n) (hk : IsOne b n k) :
    (∀ j, 1 ≤ j → j < k + 1 → b ^ j % (n * (b - 1)) ≠ 1 % (n * (b - 1))) ∧ b ^ (k + 1) % (n * (b - 1)) = 1 % (n * (b - 1)) := by
  have hN : 2 ≤ n * (b - 1) := by have := Nat.le_mul_of_pos_right n (show 0 < b - 1 by omega); omega
  have h1 : 1 % (n * (b - 1)) = 1 := Nat.mod_eq_of_lt (by omega)
  have key : ∀ j, b ^ (j + 1) % (n * (b - 1)) = 1 ↔ oneR b n j % n = 0 := by
    intro j
    rw [one_dvd_iff]
    have e : b ^ (j + 1) = (b - 1) * oneV b (j + 1) + 1 := by
      have := oneV_pow (show 0 < b by omega) (j + 1)
      have hp : 0 < b ^ (j + 1) := Nat.pow_pos (by omega)
      omega
    constructor
    · intro h
      have h2 : n * (b - 1) ∣ b ^ (j + 1) - 1 := by
        refine Nat.dvd_of_mod_eq_zero ?_
        have := Nat.sub_mod_eq_zero_of_mod_eq (h.trans h1.symm)
        exact this
      rw [e, Nat.add_sub_cancel, Nat.mul_comm n] at h2
      exact Nat.dvd_of_mul_dvd_mul_left (by omega) h2
    · intro h
      have h2 : n * (b - 1) ∣ (b - 1) * oneV b (j + 1) := by rw [Nat.mul_comm n]; exact Nat.mul_dvd_mul_left _ h
      rw [e, Nat.add_mod, Nat.mod_eq_zero_of_dvd h2, Nat.zero_add, Nat.mod_mod, h1]
  refine ⟨fun j hj hjk e => ?_, ?_⟩
  · obtain ⟨i, rfl⟩ : ∃ i, j = i + 1 := ⟨j - 1, by omega⟩
    exact hk.2 i (by omega) ((key i).1 (e.trans h1))
  · rw [h1]; exact (key k).2 hk.1

set_option maxHeartbeats 1000000 in
theorem imOnes : ImOnes := by
  constructor
  · intro b n h w
    go_enter Tryz.func118, Tryz.ntmps118
    go_wp2_with fail
    refine (roundsTold_any _ _ _).mono ?_
    rintro e w1 ⟨rfl, rfl⟩
    rw [h]
    go_wp2_with fail
    go_ret2
    exact ⟨rfl, Below.refl _ _⟩
  · intro b n k h h3 h4 hn hn2 hk hkn w
    have ho := ones_pow h3 hn hk
    have hN : n * (b - 1) ≤ 1000 * 15 := Nat.mul_le_mul hn2 (by omega)
    have hN1 : 1 ≤ n * (b - 1) := Nat.mul_pos (by omega) (by omega)
    have hc : ((n * (b - 1) : Nat) : Int) = (n : Int) * ((b : Int) - 1) := by
      rw [Int.natCast_mul, Int.natCast_sub (by omega)]; rfl
    have GO : Hid (∀ wx, Calls Tryz.prog 27 #[.agg #[.int .i64 b, .int .i64 ((n : Int) * ((b : Int) - 1))]] wx fun e w' => e = .returned (.int .i64 ((k : Int) + 1)) ∧ Below wx.heap.size wx w') := fun wx => by
      have := order_any b (n * (b - 1)) (k + 1) wx (by omega) hN1 (by omega) (by omega) (by omega) ho.1 ho.2
      rw [hc] at this
      exact this
    have hl1 : (n : Int) * ((b : Int) - 1) ≤ 15000 := by rw [← hc]; omega
    have hl2 : 0 ≤ (n : Int) * ((b : Int) - 1) := by rw [← hc]; omega
    clear hc hN hN1 ho hk
    go_enter Tryz.func118, Tryz.ntmps118
    go_wp2_with fail
    refine (roundsTold_any _ _ _).mono ?_
    rintro e w1 ⟨rfl, rfl⟩
    rw [h]
    go_wp2_with fail
    refine (GO.out _).mono ?_
    rintro e w2 ⟨rfl, hb2⟩
    go_wp2_with fail
    go_ret2
    exact ⟨rfl, hb2⟩

set_option maxHeartbeats 1000000 in
theorem split_any (b n : Nat) (h3 : 2 ≤ b) (h4 : b ≤ 16) (hn : 2 ≤ n) (hn2 : n ≤ 1000) (w : World) :
    Calls Tryz.prog 153 #[.int .i64 b, .int .i64 n] w fun e w' => ∃ f s : Nat, IsSplit b n f s ∧ e = .returned (.tuple #[.int .i64 f, .int .i64 s]) ∧ w = w' := by
  have GC : ∀ s : Nat, s ≤ 1000 → Hid (∀ wx, Calls Tryz.prog 52 #[.int .i64 b, .int .i64 s] wx fun e w' => e = .returned (.int .i64 (Nat.gcd s b)) ∧ wx = w') := fun s hs wx => by
    have := commonDivisor_any b s wx (by omega) (by omega) (by omega) (by omega)
    rw [gcdI_nat, Nat.gcd_comm] at this
    exact this
  go_enter Tryz.func153, Tryz.ntmps153
  go_wp2_with fail
  refine ((GC n hn2).out _).mono ?_
  rintro e w1 ⟨rfl, rfl⟩
  go_wp2_with fail
  go_loop [6, 7, 8] (fun y x z => ∃ f s : Nat, f * s = n ∧ (∃ k, f ∣ b ^ k) ∧ x = .int .i64 s ∧ y = .int .i64 f ∧ z = .int .i64 (Nat.gcd s b)) (fun _ x _ => (intOf x).toNat)
  case atStart => exact ⟨1, n, Nat.one_mul n, ⟨0, Nat.dvd_refl 1⟩, rfl, rfl, rfl⟩
  case round =>
    obtain ⟨f, s, hfs, ⟨k, hk⟩, rfl, rfl, rfl⟩ := hrel
    have hsp : 0 < s := Nat.pos_of_ne_zero fun e => by rw [e, Nat.mul_zero] at hfs; omega
    have hfp : 0 < f := Nat.pos_of_ne_zero fun e => by rw [e, Nat.zero_mul] at hfs; omega
    have hs1 : s ≤ n := by rw [← hfs]; exact Nat.le_mul_of_pos_left s hfp
    have hgp : 0 < Nat.gcd s b := Nat.gcd_pos_of_pos_left _ hsp
    by_cases hg : 1 < Nat.gcd s b
    · have hgd : Nat.gcd s b ∣ s := Nat.gcd_dvd_left _ _
      have hgb : Nat.gcd s b ∣ b := Nat.gcd_dvd_right _ _
      obtain ⟨q, hq⟩ := hgd
      have hqp : 0 < q := Nat.pos_of_ne_zero fun e => by rw [e, Nat.mul_zero] at hq; omega
      have hdiv : s / Nat.gcd s b = q := Nat.div_eq_of_eq_mul_right hgp hq
      have hqs : q < s := by
        have h1 : 1 * q < Nat.gcd s b * q := Nat.mul_lt_mul_of_pos_right hg hqp
        omega
      have hfs' : f * Nat.gcd s b * q = n := by rw [Nat.mul_assoc, ← hq, hfs]
      have hfg : f * Nat.gcd s b ≤ n := by rw [← hfs']; exact Nat.le_mul_of_pos_right _ hqp
      have hk' : f * Nat.gcd s b ∣ b ^ (k + 1) := by rw [Nat.pow_succ]; exact Nat.mul_dvd_mul hk hgb
      have HG := GC q (by omega)
      clear hq hgb hk GC
      generalize Nat.gcd s b = g at hdiv hfs' hfg hk' hg hgp ⊢
      have hd' : (s : Int) / g = q := by rw [← hdiv]; rfl
      have hm1 : (f : Int) * g = ((f * g : Nat) : Int) := by simp
      have hg1 : (1 : Int) < g := by omega
      have hg0 : ¬ g = 0 := by omega
      have hfg' : (f : Int) * g ≤ 1000 := by rw [hm1]; omega
      have hfg0 : 0 ≤ (f : Int) * g := by rw [hm1]; omega
      clear hm1 hdiv
      go_wp2_with fail
      refine (HG.out _).mono ?_
      rintro e w1 ⟨rfl, rfl⟩
      go_wp2_with fail
      exact ⟨⟨f * g, q, hfs', ⟨k + 1, hk'⟩, rfl, by simp, rfl⟩, by simp [intOf]; omega⟩
    · have hg' : Nat.gcd s b = 1 := by omega
      rw [hg']
      clear GC
      go_wp2_with fail
      refine bodyPost_ret (v := .tuple #[.int .i64 f, .int .i64 s]) (by simp [results, Tryz.results153, go_sem]) rfl ?_
      exact ⟨f, s, ⟨hfs, hg', ⟨k, hk⟩⟩, rfl, rfl⟩


set_option maxHeartbeats 1000000 in
theorem imBegin_no (b n : Int) (h : ¬ ((2 ≤ b ∧ b ≤ 16) ∧ (2 ≤ n ∧ n ≤ 1000))) : GivesI 119 #[.int .i64 b, .int .i64 n] 0 false := by
  intro w
  by_cases h1 : 2 ≤ b ∧ b ≤ 16
  · have j1 : decide (2 ≤ b ∧ b ≤ 16) = true := by simpa using h1
    have j2 : decide (2 ≤ n ∧ n ≤ 1000) = false := by simp; omega
    clear h h1
    go_enter Tryz.func119, Tryz.ntmps119
    go_wp2_with (first | (go_at_call 33; refine (baseIn_any _ _).mono ?_; rintro e w' ⟨rfl, rfl⟩) | (go_at_call 51; refine (bottomIn_any _ _).mono ?_; rintro e w' ⟨rfl, rfl⟩))
    go_ret2
    exact ⟨rfl, Below.refl _ _⟩
  · have j1 : decide (2 ≤ b ∧ b ≤ 16) = false := by simpa using h1
    clear h h1
    go_enter Tryz.func119, Tryz.ntmps119
    go_wp2_with (go_at_call 33; refine (baseIn_any _ _).mono ?_; rintro e w' ⟨rfl, rfl⟩)
    go_ret2
    exact ⟨rfl, Below.refl _ _⟩

set_option maxHeartbeats 1000000 in
theorem imBegin : ImBegin := by
  refine ⟨imBegin_no, ?_⟩
  intro b n f s k0 h3 h4 hn hn2 hs hk hk1 w
  have hfn : f ≤ n := by rw [← hs.eq]; exact Nat.le_mul_of_pos_right _ (Nat.pos_of_ne_zero fun e => by have := hs.eq; rw [e, Nat.mul_zero] at this; omega)
  have hfp : 0 < f := Nat.pos_of_ne_zero fun e => by have := hs.eq; rw [e, Nat.zero_mul] at this; omega
  have HS := Lib.hid hs; have HK := Lib.hid hk
  clear hs hk
  have j1 : decide (2 ≤ (b : Int) ∧ (b : Int) ≤ 16) = true := by simp; omega
  have j2 : decide (2 ≤ (n : Int) ∧ (n : Int) ≤ 1000) = true := by simp; omega
  go_enter Tryz.func119, Tryz.ntmps119
  go_wp2_with (first | (go_at_call 33; refine (baseIn_any _ _).mono ?_; rintro e w' ⟨rfl, rfl⟩) | (go_at_call 51; refine (bottomIn_any _ _).mono ?_; rintro e w' ⟨rfl, rfl⟩))
  refine (split_any b n h3 h4 hn hn2 _).mono ?_
  rintro e w1 ⟨f', s', hs', rfl, rfl⟩
  obtain ⟨rfl, rfl⟩ := HS.out.unique (by omega) hs'
  clear hs'
  have hf0 : ¬ f = 0 := by omega
  go_wp2_with fail
  have hlt1 : ∀ j, pwr b j f < f := fun j => Nat.mod_lt _ hfp
  have hdv : ∀ j, pwr b j f = 0 ↔ f ∣ b ^ j := fun j => ⟨Nat.dvd_of_mod_eq_zero, Nat.mod_eq_zero_of_dvd⟩
  have h1f : (1 : Int) % (f : Int) = ((pwr b 0 f : Nat) : Int) := by unfold pwr; rw [Nat.pow_zero]; rfl
  rw [h1f]
  clear h1f
  go_loop [8, 9] (fun k r => ∃ j : Nat, j ≤ k0 ∧ k = .int .i64 j ∧ r = .int .i64 (pwr b j f)) (fun k _ => k0 - (intOf k).toNat)
  case atStart => exact ⟨0, Nat.zero_le _, rfl, rfl⟩
  case round =>
    obtain ⟨j, hj, rfl, rfl⟩ := hrel
    have hr := hlt1 j
    by_cases hlt : j < k0
    · have hne : ¬ pwr b j f = 0 := fun e => HK.out.2 j hlt ((hdv j).1 e)
      have hne' : ¬ (pwr b j f : Int) = 0 := by omega
      have m1 : 0 ≤ (pwr b j f : Int) * b := Int.mul_nonneg (by omega) (by omega)
      have m2 : (pwr b j f : Int) * b ≤ 1000 * 16 := Int.mul_le_mul (by omega) (by omega) (by omega) (by omega)
      go_wp2_with fail
      refine ⟨⟨j + 1, hlt, rfl, ?_⟩, by simp [intOf]; omega⟩
      rw [pwr_succ]; simp
    · obtain rfl : j = k0 := by omega
      rw [(hdv j).2 HK.out.1]
      go_wp2_with fail
      go_ret2
      exact ⟨rfl, Below.refl _ _⟩

/-- The numbers from 1 to k that have no common divisor with n. -/
def unL (n : Nat) : Nat → List Int
  | 0 => []
  | k + 1 => if Nat.gcd (k + 1) n = 1 then unL n k ++ [((k + 1 : Nat) : Int)] else unL n k

theorem unL_len (n k : Nat) : (unL n k).length = unC n k := by
  induction k with
  | zero => rfl
  | succ k ih =>
    show (if Nat.gcd (k + 1) n = 1 then unL n k ++ [((k + 1 : Nat) : Int)] else unL n k).length = unC n k + (if Nat.gcd (k + 1) n = 1 then 1 else 0)
    split
    · rw [List.length_append, ih]; rfl
    · rw [ih]; rfl

set_option maxHeartbeats 1000000 in
theorem units_any (n : Nat) (w : World) (hn2 : n ≤ 1000) :
    Calls Tryz.prog 156 #[.int .i64 n] w fun e w' => ∃ v, e = .returned v ∧ Slc w.heap.size w' v (unL n n) ∧ Below w.heap.size w w' := by
  go_enter Tryz.func156, Tryz.ntmps156
  go_wp2_with fail
  obtain ⟨i0, hi, hz0, hz1, hz2⟩ := info_parts infoInt
  go_loopw [3, 4] (fun v x wr => ∃ p : Nat, p ≤ n ∧ x = .int .i64 ((p : Int) + 1) ∧ wr.ownsRow w.heap.size 3 1 v (unL n p).length ((unL n p).map (Value.int .i64)) ∧ Below w.heap.size w wr) (fun _ x _ => n + 1 - (intOf x).toNat)
  case atStart =>
    refine ⟨0, by omega, rfl, ?_, (Below.refl _ _).alloc (Nat.le_refl _) _⟩
    exact World.ownsRow_made (base := w.heap.size) (e := 3) (size := 1) w #[] 0 (Nat.le_refl _) (by simp) (by simp)
  case round =>
    obtain ⟨p, hpn, rfl, hown, hbel⟩ := hrel
    have hll : (unL n p).length ≤ p := by rw [unL_len]; exact unC_le n p
    by_cases hlt : p < n
    · have i1 : (p : Int) + 1 ≤ n := by omega
      have GC : Hid (∀ wx, Calls Tryz.prog 52 #[.int .i64 ((p : Int) + 1), .int .i64 n] wx fun e w' => e = .returned (.int .i64 (Nat.gcd (p + 1) n)) ∧ wx = w') := fun wx => by
        have := commonDivisor_any ((p + 1 : Nat) : Int) n wx (by omega) (by omega) (by omega) (by omega)
        rw [gcdI_nat] at this
        exact this
      have hu : unL n (p + 1) = if Nat.gcd (p + 1) n = 1 then unL n p ++ [((p + 1 : Nat) : Int)] else unL n p := rfl
      have HW := Lib.hid hown
      clear hown
      go_wp2_with fail
      refine (GC.out _).mono ?_
      rintro e w1 ⟨rfl, rfl⟩
      clear GC
      by_cases hg : Nat.gcd (p + 1) n = 1
      · rw [hg]
        rw [if_pos hg] at hu
        have HU := Lib.hid hu
        clear hu hg
        go_wp2_with (at_builtin; refine wpList_append_own_at _ rfl _ _ 27 rfl w.heap.size 3 i0 (.int .i64 0) 1 8 Tryz.underlying27 hi hz0 hz1 hz2 rfl (by decide) _ _ _ rfl (HW.out.alloc _) ⟨wr.heap.size, 0, none⟩ 1 1 [.int .i64 ((p : Int) + 1)] rfl rfl ?c1 ?c2 ?c3 ?c4 ?c5 ?_)
        case c1 => exact cell_one_new _ _ _
        case c2 => simp [Value.oneCell']
        case c3 => unfold maxLen; omega
        case c4 => omega
        case c5 => have := hbel.size; (try simp); omega
        intro v' w1 hown' hgrow _ _
        have hb1 := (hbel.alloc hbel.size (.cells #[.int .i64 ((p : Int) + 1)] 3)).grown hgrow (by have := hbel.size; simp; omega) (fun q e => by
          rcases HW.out.2 with ⟨rfl, _⟩ | ⟨g, cap, cur, rfl, hb, _⟩
          · cases e
          · cases e; exact hb)
        clear HW hgrow
        go_wp2_with fail
        refine ⟨⟨p + 1, by omega, rfl, ?_, hb1⟩, by simp [intOf]; omega⟩
        rw [HU.out, List.length_append, List.map_append]
        simpa using hown'
      · rw [if_neg hg] at hu
        have HU := Lib.hid hu
        have hg' : ¬ ((Nat.gcd (p + 1) n : Nat) : Int) = 1 := by omega
        clear hu hg
        revert hg'
        generalize Nat.gcd (p + 1) n = q
        intro hg'
        go_wp2_with fail
        exact ⟨⟨p + 1, by omega, rfl, by rw [HU.out]; exact HW.out, hbel⟩, by simp [intOf]; omega⟩
    · obtain rfl : p = n := by omega
      have i1 : ¬ (p : Int) + 1 ≤ p := by omega
      go_wp2_with fail
      go_ret
      exact ⟨_, rfl, Slc.of_owns hown, hbel⟩

set_option maxHeartbeats 1000000 in
theorem imUnits : ImUnits := by
  constructor
  · intro n h w
    have j2 : decide (2 ≤ n ∧ n ≤ 1000) = false := by simpa using h
    clear h
    go_enter Tryz.func121, Tryz.ntmps121
    go_wp2_with (go_at_call 51; refine (bottomIn_any _ _).mono ?_; rintro e w' ⟨rfl, rfl⟩)
    go_ret2
    exact ⟨rfl, Below.refl _ _⟩
  · intro n hn hn2 w
    have j2 : decide (2 ≤ (n : Int) ∧ (n : Int) ≤ 1000) = true := by simp; omega
    have HL := Lib.hid (unL_len n n)
    go_enter Tryz.func121, Tryz.ntmps121
    go_wp2_with (go_at_call 51; refine (bottomIn_any _ _).mono ?_; rintro e w' ⟨rfl, rfl⟩)
    refine (units_any n _ hn2).mono ?_
    rintro e w1 ⟨v, rfl, hv, hb1⟩
    rcases hv with ⟨rfl, he⟩ | ⟨g, off, cap, cur, rfl, hg, hh, hl, hc, hs, ht⟩
    · have h0 : unC n n = 0 := by rw [← HL.out, he]; rfl
      go_wp2_with fail
      go_ret2
      rw [h0]
      exact ⟨rfl, hb1⟩
    · go_wp2_with fail
      go_ret2
      rw [HL.out]
      exact ⟨rfl, hb1⟩

end Go.Proofs.YtmpbbflolbakhaaGreatDoor
