/-
  What the program's functions of chapter 3 answer, as one sentence each; the law's own test of primes.
  Chapter 3, the program's side where no goroutine is started: orders, units, rows of ones, products, beginnings.
-/
import Derived.Test.YthoaldiadgeonaaOrdS
import Derived.Test.YthoaldiadgeonaaTq
namespace Go.Proofs.Ythoaldiadgeonaa
set_option maxRecDepth 100000
open Go.RowKit

def ImOf : Prop := (∀ b n : Int, prmB b n = false → GivesI 22 #[.int .i64 b, .int .i64 n] 0 false) ∧
  ∀ b n m : Nat, prmB b n = true → b ≤ 16 → 2 ≤ n → n ≤ 1000 → IsLen b 1 n 0 m → GivesI 22 #[.int .i64 b, .int .i64 n] m true
def ImUnits : Prop := (∀ n : Int, ¬ (2 ≤ n ∧ n ≤ 1000) → GivesI 10 #[.int .i64 n] 0 false) ∧
  ∀ n : Nat, 2 ≤ n → n ≤ 1000 → GivesI 10 #[.int .i64 n] (unC n n) true
def ImMost : Prop := (∀ n : Int, ¬ (2 ≤ n ∧ n ≤ 1000) → GivesI 8 #[.int .i64 n] 0 false) ∧
  ∀ n m : Nat, 2 ≤ n → n ≤ 1000 → Mst n n m → GivesI 8 #[.int .i64 n] m true

def ImFull : Prop := (∀ b n : Int, ¬ ((2 ≤ b ∧ b ≤ 16) ∧ (2 ≤ n ∧ n ≤ 1000)) → Gives 13 #[.int .i64 b, .int .i64 n] [] false) ∧
  ∀ b n : Nat, 2 ≤ b → b ≤ 16 → 2 ≤ n → n ≤ 1000 → Gives 13 #[.int .i64 b, .int .i64 n] (fulL b (n + 1)) true
def ImBases : Prop := (∀ n k : Int, ¬ ((2 ≤ n ∧ n ≤ 1000) ∧ (1 ≤ k ∧ k ≤ 1000)) → Gives 18 #[.int .i64 n, .int .i64 k] [] false) ∧
  ∀ (n k : Nat) (L : List Int), 2 ≤ n → n ≤ 1000 → 1 ≤ k → k ≤ 1000 → Bas n k 17 L → Gives 18 #[.int .i64 n, .int .i64 k] L true


/-- Beginnings are no longer than ten. -/
theorem pow_bound {b n f s k : Nat} (hn : 2 ≤ n) (hn2 : n ≤ 1000) (hs : IsSplit b n f s) (hk : IsPow b f k) : 2 ^ k ≤ n ∧ k ≤ 9 := by
  have hfp : 0 < f := Nat.pos_of_ne_zero fun e => by have := hs.eq; rw [e, Nat.zero_mul] at this; omega
  have hsp : 0 < s := Nat.pos_of_ne_zero fun e => by have := hs.eq; rw [e, Nat.mul_zero] at this; omega
  have h1 := pow_short hfp hk
  have h2 : f ≤ n := by rw [← hs.eq]; exact Nat.le_mul_of_pos_right _ hsp
  refine ⟨by omega, ?_⟩
  rcases Nat.lt_or_ge 9 k with h | h
  · have : 2 ^ 10 ≤ 2 ^ k := Nat.pow_le_pow_right (by omega) h
    omega
  · exact h

set_option maxHeartbeats 1000000 in
theorem prime_any (n : Nat) (w : World) (hn2 : n ≤ 1000) :
    Calls Tryq.prog 11 #[.int .i64 n] w fun e w' => e = .returned (.bool (primeB n)) ∧ w = w' := by
  go_enter Tryq.func11, Try.ntmps11
  go_wp2_with fail
  go_loop [3] (fun x => ∃ k : Nat, 2 ≤ k ∧ k ≤ 33 ∧ x = .int .i64 k ∧ ∀ j, j < k → 2 ≤ j → n % j ≠ 0) (fun x => 40 - (intOf x).toNat)
  case atStart => exact ⟨2, by omega, by omega, rfl, fun j h1 h2 => by omega⟩
  case round =>
    obtain ⟨k, hk2, hk3, rfl, hno⟩ := hrel
    have m0 : k * k ≤ 33 * 33 := Nat.mul_le_mul hk3 hk3
    have m1 : (k : Int) * k ≤ 1089 := by have : ((k * k : Nat) : Int) ≤ 1089 := by omega
                                         simpa using this
    have m2 : 0 ≤ (k : Int) * k := Int.mul_nonneg (by omega) (by omega)
    have hk0 : ¬ k = 0 := by omega
    by_cases hle : k * k ≤ n
    · have hle' : (k : Int) * k ≤ n := by exact_mod_cast hle
      have hkn : k < n := by have : 2 * k ≤ k * k := Nat.mul_le_mul_right k hk2
                             omega
      have hk32 : k ≤ 32 := by
        rcases Nat.lt_or_ge 32 k with h | h
        · have : 33 * 33 ≤ k * k := Nat.mul_le_mul h h
          omega
        · exact h
      by_cases hm : n % k = 0
      · have HP := Lib.hid (not_prime hk2 hkn hm)
        have hm' : (n : Int) % k = 0 := by omega
        clear hno
        go_wp2_with fail
        go_ret
        exact ⟨ret_bool HP.out.symm, rfl⟩
      · have hm' : ¬ (n : Int) % k = 0 := by omega
        have HN := Lib.hid hno
        clear hno
        go_wp2_with fail
        refine ⟨⟨k + 1, by omega, by omega, rfl, fun j h1 h2 => ?_⟩, by simp [intOf]; omega⟩
        rcases Nat.lt_or_ge j k with h | h
        · exact HN.out j h h2
        · obtain rfl : j = k := by omega
          exact hm
    · have hle' : ¬ (k : Int) * k ≤ n := by intro h; exact hle (by exact_mod_cast h)
      have HP : Hid (primeB n = decide ((1 : Int) < n)) := by
        by_cases h2 : 2 ≤ n
        · unfold Hid
          rw [prime_root h2 hno (by omega)]
          exact (decide_eq_true (by omega)).symm
        · unfold Hid primeB
          rw [decide_eq_decide]
          constructor
          · rintro ⟨h, _⟩; omega
          · intro h; omega
      clear hno
      go_wp2_with fail
      go_ret
      exact ⟨ret_bool (by rw [HP.out]), rfl⟩

end Go.Proofs.Ythoaldiadgeonaa

namespace Go.Proofs.Ythoaldiadgeonaa
set_option maxRecDepth 100000
open Go.RowKit

set_option maxHeartbeats 1000000 in
/-- The order, asked for by a number and a bottom: p j is the rest of the number to the power of j. -/
theorem order_any (b n m : Nat) (w : World) (hb : b ≤ 1000) (hn : 1 ≤ n) (hn2 : n ≤ 15000) (hm : 1 ≤ m) (hm2 : m ≤ 15000)
    (hno : ∀ j, 1 ≤ j → j < m → b ^ j % n ≠ 1 % n) (hyes : b ^ m % n = 1 % n) :
    Calls Tryq.prog 46 #[.agg #[.int .i64 b, .int .i64 n]] w fun e w' => e = .returned (.int .i64 m) ∧ Below w.heap.size w w' := by
  have hn0 : ¬ n = 0 := by omega
  have hrl : ∀ j, b ^ j % n < n := fun j => Nat.mod_lt _ (by omega)
  have h1l : 1 % n ≤ 1 := Nat.mod_le _ _
  have E1 := Lib.hid (show (1 : Int) % (n : Int) = ((1 % n : Nat) : Int) by simp)
  have HN := Lib.hid hno; have HY := Lib.hid hyes
  clear hno hyes
  go_enter Tryq.func46, Try.ntmps46
  go_wp2_with fail
  go_loop [3, 4] (fun k r => ∃ j : Nat, 1 ≤ j ∧ j ≤ m ∧ k = .int .i64 j ∧ r = .int .i64 ((b ^ j % n : Nat) : Int)) (fun k _ => m - (intOf k).toNat)
  case atStart => exact ⟨1, Nat.le_refl _, hm, rfl, by rw [Nat.pow_one]; simp⟩
  case round =>
    obtain ⟨j, hj1, hjm, rfl, rfl⟩ := hrel
    have hr := hrl j
    have hjs : b ^ (j + 1) % n = b ^ j % n * b % n := by rw [Nat.pow_succ, Nat.mod_mul_mod]
    by_cases hlt : j < m
    · have hne := HN.out j hj1 hlt
      have HJ := Lib.hid hjs
      clear hjs
      generalize hg : b ^ j % n = r at hne hr HJ ⊢
      clear hg
      have hne' : ¬ (r : Int) = (1 : Int) % (n : Int) := by rw [E1.out]; omega
      have m1 : 0 ≤ (r : Int) * b := Int.mul_nonneg (by omega) (by omega)
      have m2 : (r : Int) * b ≤ 15000 * 1000 := Int.mul_le_mul (by omega) (by omega) (by omega) (by omega)
      go_wp2_with fail
      refine ⟨⟨j + 1, by omega, hlt, rfl, ?_⟩, by simp [intOf]; omega⟩
      rw [HJ.out]; simp
    · obtain rfl : j = m := by omega
      rw [HY.out, ← E1.out]
      go_wp2_with fail
      go_ret
      exact ⟨rfl, (Below.refl _ _).alloc (Nat.le_refl _) _⟩

/-- The order of a base by a bottom. -/
theorem order_ord (b n m : Nat) (w : World) (hb : b ≤ 1000) (hn : 2 ≤ n) (hn2 : n ≤ 1000) (hm : IsLen b 1 n 0 m) :
    Calls Tryq.prog 46 #[.agg #[.int .i64 b, .int .i64 n]] w fun e w' => e = .returned (.int .i64 m) ∧ Below w.heap.size w w' := by
  have h1 : 1 % n = 1 := Nat.mod_eq_of_lt (by omega)
  refine order_any b n m w hb (by omega) (by omega) hm.pos (by have := hm.le (show 1 < n by omega); omega) (fun j hj hjm e => ?_) ?_
  · rw [h1, ← rst_one hn] at e
    exact hm.ne 0 j hj (by omega) e.symm
  · rw [h1, ← rst_one hn]
    have := hm.eq
    rw [Nat.zero_add] at this
    exact this

set_option maxHeartbeats 1000000 in
theorem imOf : ImOf := by
  constructor
  · intro b n h w
    go_enter Tryq.func22, Try.ntmps22
    go_wp2_with fail
    refine (roundsTold_any _ _ _).mono ?_
    rintro e w1 ⟨rfl, rfl⟩
    rw [h]
    go_wp2_with fail
    go_ret2
    exact ⟨rfl, Below.refl _ _⟩
  · intro b n m h h4 hn hn2 hm w
    go_enter Tryq.func22, Try.ntmps22
    go_wp2_with fail
    refine (roundsTold_any _ _ _).mono ?_
    rintro e w1 ⟨rfl, rfl⟩
    rw [h]
    go_wp2_with fail
    refine (order_ord b n m _ (by omega) hn hn2 hm).mono ?_
    rintro e w2 ⟨rfl, hb2⟩
    go_wp2_with fail
    go_ret2
    exact ⟨rfl, hb2⟩


set_option maxHeartbeats 1000000 in
theorem split_any (b n : Nat) (h3 : 2 ≤ b) (h4 : b ≤ 16) (hn : 2 ≤ n) (hn2 : n ≤ 1000) (w : World) :
    Calls Tryq.prog 40 #[.int .i64 b, .int .i64 n] w fun e w' => ∃ f s : Nat, IsSplit b n f s ∧ e = .returned (.tuple #[.int .i64 f, .int .i64 s]) ∧ w = w' := by
  have GC : ∀ s : Nat, s ≤ 1000 → Hid (∀ wx, Calls Tryq.prog 28 #[.int .i64 b, .int .i64 s] wx fun e w' => e = .returned (.int .i64 (Nat.gcd s b)) ∧ wx = w') := fun s hs wx => by
    have := commonDivisor_any b s wx (by omega) (by omega) (by omega) (by omega)
    rw [gcdI_nat, Nat.gcd_comm] at this
    exact this
  go_enter Tryq.func40, Try.ntmps40
  go_wp2_with fail
  refine ((GC n hn2).out _).mono ?_
  rintro e w1 ⟨rfl, rfl⟩
  go_wp2_with fail
  go_loop [6, 7, 8] (fun y x z => ∃ f s : Nat, f * s = n ∧ (∃ k, f ∣ b ^ k) ∧ x = .int .i64 s ∧ y = .int .i64 f ∧ z = .int .i64 (Nat.gcd s b)) (fun _ x _ => (intOf x).toNat)
  case atStart => exact ⟨1, n, Nat.one_mul n, ⟨0, Nat.dvd_refl 1⟩, rfl, rfl, rfl⟩
  case round =>
    obtain ⟨f, s, hfs, ⟨k, hk⟩, rfl, rfl, rfl⟩ := hrel
    have hsp : 0 < s := Nat.pos_of_ne_zero fun e => by rw [e, Nat.mul_zero] at hfs; omega
    have hfp : 0 < f := Nat.pos_of_ne_zero fun e => by rw [e, Nat.zero_mul] at hfs; omega
    have hs1 : s ≤ n := by rw [← hfs]; exact Nat.le_mul_of_pos_left s hfp
    have hgp : 0 < Nat.gcd s b := Nat.gcd_pos_of_pos_left _ hsp
    by_cases hg : 1 < Nat.gcd s b
    · have hgd : Nat.gcd s b ∣ s := Nat.gcd_dvd_left _ _
      have hgb : Nat.gcd s b ∣ b := Nat.gcd_dvd_right _ _
      obtain ⟨q, hq⟩ := hgd
      have hqp : 0 < q := Nat.pos_of_ne_zero fun e => by rw [e, Nat.mul_zero] at hq; omega
      have hdiv : s / Nat.gcd s b = q := Nat.div_eq_of_eq_mul_right hgp hq
      have hqs : q < s := by
        have h1 : 1 * q < Nat.gcd s b * q := Nat.mul_lt_mul_of_pos_right hg hqp
        omega
      have hfs' : f * Nat.gcd s b * q = n := by rw [Nat.mul_assoc, ← hq, hfs]
      have hfg : f * Nat.gcd s b ≤ n := by rw [← hfs']; exact Nat.le_mul_of_pos_right _ hqp
      have hk' : f * Nat.gcd s b ∣ b ^ (k + 1) := by rw [Nat.pow_succ]; exact Nat.mul_dvd_mul hk hgb
      have HG := GC q (by omega)
      clear hq hgb hk GC
      generalize Nat.gcd s b = g at hdiv hfs' hfg hk' hg hgp ⊢
      have hd' : (s : Int) / g = q := by rw [← hdiv]; rfl
      have hm1 : (f : Int) * g = ((f * g : Nat) : Int) := by simp
      have hg1 : (1 : Int) < g := by omega
      have hg0 : ¬ g = 0 := by omega
      have hfg' : (f : Int) * g ≤ 1000 := by rw [hm1]; omega
      have hfg0 : 0 ≤ (f : Int) * g := by rw [hm1]; omega
      clear hm1 hdiv
      go_wp2_with fail
      refine (HG.out _).mono ?_
      rintro e w1 ⟨rfl, rfl⟩
      go_wp2_with fail
      exact ⟨⟨f * g, q, hfs', ⟨k + 1, hk'⟩, rfl, by simp, rfl⟩, by simp [intOf]; omega⟩
    · have hg' : Nat.gcd s b = 1 := by omega
      rw [hg']
      clear GC
      go_wp2_with fail
      refine bodyPost_ret (v := .tuple #[.int .i64 f, .int .i64 s]) (by simp [results, Try.results40, go_sem]) rfl ?_
      exact ⟨f, s, ⟨hfs, hg', ⟨k, hk⟩⟩, rfl, rfl⟩



/-- The numbers from 1 to k that have no common divisor with n. -/
def unL (n : Nat) : Nat → List Int
  | 0 => []
  | k + 1 => if Nat.gcd (k + 1) n = 1 then unL n k ++ [((k + 1 : Nat) : Int)] else unL n k

theorem unL_len (n k : Nat) : (unL n k).length = unC n k := by
  induction k with
  | zero => rfl
  | succ k ih =>
    show (if Nat.gcd (k + 1) n = 1 then unL n k ++ [((k + 1 : Nat) : Int)] else unL n k).length = unC n k + (if Nat.gcd (k + 1) n = 1 then 1 else 0)
    split
    · rw [List.length_append, ih]; rfl
    · rw [ih]; rfl

set_option maxHeartbeats 1000000 in
theorem units_any (n : Nat) (w : World) (hn2 : n ≤ 1000) :
    Calls Tryq.prog 26 #[.int .i64 n] w fun e w' => ∃ v, e = .returned v ∧ Slc w.heap.size w' v (unL n n) ∧ Below w.heap.size w w' := by
  go_enter Tryq.func26, Try.ntmps26
  go_wp2_with fail
  obtain ⟨i0, hi, hz0, hz1, hz2⟩ := info_parts infoInt
  go_loopw [3, 4] (fun v x wr => ∃ p : Nat, p ≤ n ∧ x = .int .i64 ((p : Int) + 1) ∧ wr.ownsRow w.heap.size 3 1 v (unL n p).length ((unL n p).map (Value.int .i64)) ∧ Below w.heap.size w wr) (fun _ x _ => n + 1 - (intOf x).toNat)
  case atStart =>
    refine ⟨0, by omega, rfl, ?_, (Below.refl _ _).alloc (Nat.le_refl _) _⟩
    exact World.ownsRow_made (base := w.heap.size) (e := 3) (size := 1) w #[] 0 (Nat.le_refl _) (by simp) (by simp)
  case round =>
    obtain ⟨p, hpn, rfl, hown, hbel⟩ := hrel
    have hll : (unL n p).length ≤ p := by rw [unL_len]; exact unC_le n p
    by_cases hlt : p < n
    · have i1 : (p : Int) + 1 ≤ n := by omega
      have GC : Hid (∀ wx, Calls Tryq.prog 28 #[.int .i64 ((p : Int) + 1), .int .i64 n] wx fun e w' => e = .returned (.int .i64 (Nat.gcd (p + 1) n)) ∧ wx = w') := fun wx => by
        have := commonDivisor_any ((p + 1 : Nat) : Int) n wx (by omega) (by omega) (by omega) (by omega)
        rw [gcdI_nat] at this
        exact this
      have hu : unL n (p + 1) = if Nat.gcd (p + 1) n = 1 then unL n p ++ [((p + 1 : Nat) : Int)] else unL n p := rfl
      have HW := Lib.hid hown
      clear hown
      go_wp2_with fail
      refine (GC.out _).mono ?_
      rintro e w1 ⟨rfl, rfl⟩
      clear GC
      by_cases hg : Nat.gcd (p + 1) n = 1
      · rw [hg]
        rw [if_pos hg] at hu
        have HU := Lib.hid hu
        clear hu hg
        go_wp2_with (at_builtin; refine wpList_append_own_at _ rfl _ _ 30 rfl w.heap.size 3 i0 (.int .i64 0) 1 8 Tryq.underlying30 hi hz0 hz1 hz2 rfl (by decide) _ _ _ rfl (HW.out.alloc _) ⟨wr.heap.size, 0, none⟩ 1 1 [.int .i64 ((p : Int) + 1)] rfl rfl ?c1 ?c2 ?c3 ?c4 ?c5 ?_)
        case c1 => exact cell_one_new _ _ _
        case c2 => simp [Value.oneCell']
        case c3 => unfold maxLen; omega
        case c4 => omega
        case c5 => have := hbel.size; (try simp); omega
        intro v' w1 hown' hgrow _ _
        have hb1 := (hbel.alloc hbel.size (.cells #[.int .i64 ((p : Int) + 1)] 3)).grown hgrow (by have := hbel.size; simp; omega) (fun q e => by
          rcases HW.out.2 with ⟨rfl, _⟩ | ⟨g, cap, cur, rfl, hb, _⟩
          · cases e
          · cases e; exact hb)
        clear HW hgrow
        go_wp2_with fail
        refine ⟨⟨p + 1, by omega, rfl, ?_, hb1⟩, by simp [intOf]; omega⟩
        rw [HU.out, List.length_append, List.map_append]
        simpa using hown'
      · rw [if_neg hg] at hu
        have HU := Lib.hid hu
        have hg' : ¬ ((Nat.gcd (p + 1) n : Nat) : Int) = 1 := by omega
        clear hu hg
        revert hg'
        generalize Nat.gcd (p + 1) n = q
        intro hg'
        go_wp2_with fail
        exact ⟨⟨p + 1, by omega, rfl, by rw [HU.out]; exact HW.out, hbel⟩, by simp [intOf]; omega⟩
    · obtain rfl : p = n := by omega
      have i1 : ¬ (p : Int) + 1 ≤ p := by omega
      go_wp2_with fail
      go_ret
      exact ⟨_, rfl, Slc.of_owns hown, hbel⟩

set_option maxHeartbeats 1000000 in
theorem imUnits : ImUnits := by
  constructor
  · intro n h w
    have j2 : decide (2 ≤ n ∧ n ≤ 1000) = false := by simpa using h
    clear h
    go_enter Tryq.func10, Try.ntmps10
    go_wp2_with (go_at_call 25; refine (bottomIn_any _ _).mono ?_; rintro e w' ⟨rfl, rfl⟩)
    go_ret2
    exact ⟨rfl, Below.refl _ _⟩
  · intro n hn hn2 w
    have j2 : decide (2 ≤ (n : Int) ∧ (n : Int) ≤ 1000) = true := by simp; omega
    have HL := Lib.hid (unL_len n n)
    go_enter Tryq.func10, Try.ntmps10
    go_wp2_with (go_at_call 25; refine (bottomIn_any _ _).mono ?_; rintro e w' ⟨rfl, rfl⟩)
    refine (units_any n _ hn2).mono ?_
    rintro e w1 ⟨v, rfl, hv, hb1⟩
    rcases hv with ⟨rfl, he⟩ | ⟨g, off, cap, cur, rfl, hg, hh, hl, hc, hs, ht⟩
    · have h0 : unC n n = 0 := by rw [← HL.out, he]; rfl
      go_wp2_with fail
      go_ret2
      rw [h0]
      exact ⟨rfl, hb1⟩
    · go_wp2_with fail
      go_ret2
      rw [HL.out]
      exact ⟨rfl, hb1⟩

end Go.Proofs.Ythoaldiadgeonaa
