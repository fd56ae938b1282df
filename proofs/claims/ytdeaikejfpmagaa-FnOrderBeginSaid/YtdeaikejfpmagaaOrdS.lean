/-
  Orders, units, rows of ones, products of a base's primes: the model's.
-/
import Derived.Test.YtdeaikejfpmagaaOrdQ
import Derived.Test.YtdeaikejfpmagaaOrdR
import Derived.Test.YtdeaikejfpmagaaPower
import Derived.Test.YtdeaikejfpmagaaGrown
import Derived.Test.YtdeaikejfpmagaaPrm
import Derived.Test.YtdeaikejfpmagaaAns
import Derived.Maps.AppendAt
namespace Go.Proofs.Ytdeaikejfpmagaa
open Go.RowKit


set_option maxHeartbeats 1000000 in
theorem l3Units_any (n : Nat) (w : World) (hn2 : n ≤ 1000) :
    Calls Try.prog 26 #[.int .i64 n] w fun e w' => e = .returned (.int .i64 (unC n n)) ∧ w = w' := by
  go_enter Try.func26, Try.ntmps26
  go_wp2_with fail
  go_loop [3, 4] (fun k x => ∃ j : Nat, j ≤ n ∧ k = .int .i64 (unC n j) ∧ x = .int .i64 ((j : Int) + 1)) (fun _ x => n + 1 - (intOf x).toNat)
  case atStart => exact ⟨0, Nat.zero_le _, rfl, rfl⟩
  case round =>
    obtain ⟨j, hj, rfl, rfl⟩ := hrel
    have hle := unC_le n j
    by_cases hlt : j < n
    · have i1 : (j : Int) + 1 ≤ n := by omega
      have GC : Hid (∀ wx, Calls Try.prog 34 #[.int .i64 ((j : Int) + 1), .int .i64 n] wx fun e w' => e = .returned (.int .i64 (Nat.gcd (j + 1) n)) ∧ wx = w') := fun wx => by
        have := l1Gcd_any ((j + 1 : Nat) : Int) n wx (by omega) (by omega) (by omega) (by omega)
        rw [gcdI_nat] at this
        exact this
      have hu : unC n (j + 1) = unC n j + (if Nat.gcd (j + 1) n = 1 then 1 else 0) := rfl
      go_wp2_with fail
      refine (GC.out _).mono ?_
      rintro e w1 ⟨rfl, rfl⟩
      clear GC
      by_cases hg : Nat.gcd (j + 1) n = 1
      · rw [hg]
        rw [if_pos hg] at hu
        go_wp2_with fail
        exact ⟨⟨j + 1, hlt, by rw [hu]; rfl, rfl⟩, by simp [intOf]; omega⟩
      · rw [if_neg hg] at hu
        have hg' : ¬ ((Nat.gcd (j + 1) n : Nat) : Int) = 1 := by omega
        revert hg'
        generalize Nat.gcd (j + 1) n = q
        intro hg'
        go_wp2_with fail
        exact ⟨⟨j + 1, hlt, by rw [hu]; rfl, rfl⟩, by simp [intOf]; omega⟩
    · obtain rfl : j = n := by omega
      have i1 : ¬ (j : Int) + 1 ≤ j := by omega
      go_wp2_with fail
      go_ret
      exact ⟨rfl, rfl⟩

set_option maxHeartbeats 1000000 in
theorem specOrderOnes_yes (b n k0 : Nat) (h : prmB b n = true) (h3 : 2 ≤ b) (h4 : b ≤ 16) (hn : 2 ≤ n) (hn2 : n ≤ 1000) (hk : IsOne b n k0) (_hkn : k0 < n) :
    GivesI 13 #[.int .i64 b, .int .i64 n] ((k0 : Int) + 1) true := by
  intro w
  go_enter Try.func13, Try.ntmps13
  go_wp2_with fail
  refine (l2Prime_any _ _ _).mono ?_
  rintro e w1 ⟨rfl, rfl⟩
  rw [h]
  go_wp2_with fail
  have hn0 : ¬ n = 0 := by omega
  have hlt1 : ∀ j, oneR b n j ≤ n := fun j => by
    cases j with
    | zero => show 1 ≤ n; omega
    | succ j => exact Nat.le_of_lt (Nat.mod_lt _ (by omega))
  have HK := Lib.hid hk; clear hk
  go_loop [6, 7] (fun k r => ∃ j : Nat, j ≤ k0 ∧ k = .int .i64 ((j : Int) + 1) ∧ r = .int .i64 (oneR b n j)) (fun k _ => k0 + 1 - (intOf k).toNat)
  case atStart => exact ⟨0, Nat.zero_le _, rfl, rfl⟩
  case round =>
    obtain ⟨j, hj, rfl, rfl⟩ := hrel
    have hr := hlt1 j
    by_cases hlt : j < k0
    · have hne := HK.out.2 j hlt
      have hne' : ¬ (oneR b n j : Int) % n = 0 := by omega
      have m1 : 0 ≤ (oneR b n j : Int) * b := Int.mul_nonneg (by omega) (by omega)
      have m2 : (oneR b n j : Int) * b ≤ 1000 * 16 := Int.mul_le_mul (by omega) (by omega) (by omega) (by omega)
      go_wp2_with fail
      refine ⟨⟨j + 1, hlt, rfl, ?_⟩, by simp [intOf]; omega⟩
      rw [show oneR b n (j + 1) = (oneR b n j * b + 1) % n from rfl]; simp
    · obtain rfl : j = k0 := by omega
      have he := HK.out.1
      have he' : (oneR b n j : Int) % n = 0 := by omega
      go_wp2_with fail
      go_ret2
      exact ⟨rfl, Below.refl _ _⟩

set_option maxHeartbeats 1000000 in
theorem specOrderSplit_yes (b n : Nat) (h3 : 2 ≤ b) (h4 : b ≤ 16) (hn : 2 ≤ n) (hn2 : n ≤ 1000) (w : World) :
    Calls Try.prog 17 #[.int .i64 b, .int .i64 n] w fun e w' => ∃ f s : Nat, IsSplit b n f s ∧ e = .returned (.tuple #[.int .i64 f, .int .i64 s, .bool true]) ∧ Below w.heap.size w w' := by
  have j1 : decide (2 ≤ (b : Int) ∧ (b : Int) ≤ 16) = true := by simp; omega
  have j2 : decide (2 ≤ (n : Int) ∧ (n : Int) ≤ 1000) = true := by simp; omega
  have GC : ∀ s : Nat, s ≤ 1000 → Hid (∀ wx, Calls Try.prog 34 #[.int .i64 s, .int .i64 b] wx fun e w' => e = .returned (.int .i64 (Nat.gcd s b)) ∧ wx = w') := fun s hs wx => by
    have := l1Gcd_any s b wx (by omega) (by omega) (by omega) (by omega)
    rw [gcdI_nat] at this
    exact this
  go_enter Try.func17, Try.ntmps17
  go_wp2_with (go_at_call 25; refine (l6In_any _ _ _ _).mono ?_; rintro e w' ⟨rfl, rfl⟩)
  refine ((GC n hn2).out _).mono ?_
  rintro e w1 ⟨rfl, rfl⟩
  go_wp2_with fail
  go_loop [1, 7, 8] (fun x y z => ∃ f s : Nat, f * s = n ∧ (∃ k, f ∣ b ^ k) ∧ x = .int .i64 s ∧ y = .int .i64 f ∧ z = .int .i64 (Nat.gcd s b)) (fun x _ _ => (intOf x).toNat)
  case atStart => exact ⟨1, n, Nat.one_mul n, ⟨0, Nat.dvd_refl 1⟩, rfl, rfl, rfl⟩
  case round =>
    obtain ⟨f, s, hfs, ⟨k, hk⟩, rfl, rfl, rfl⟩ := hrel
    have hsp : 0 < s := Nat.pos_of_ne_zero fun e => by rw [e, Nat.mul_zero] at hfs; omega
    have hfp : 0 < f := Nat.pos_of_ne_zero fun e => by rw [e, Nat.zero_mul] at hfs; omega
    have hs1 : s ≤ n := by rw [← hfs]; exact Nat.le_mul_of_pos_left s hfp
    have hgp : 0 < Nat.gcd s b := Nat.gcd_pos_of_pos_left _ hsp
    by_cases hg : 1 < Nat.gcd s b
    · have hgd : Nat.gcd s b ∣ s := Nat.gcd_dvd_left _ _
      have hgb : Nat.gcd s b ∣ b := Nat.gcd_dvd_right _ _
      obtain ⟨q, hq⟩ := hgd
      have hqp : 0 < q := Nat.pos_of_ne_zero fun e => by rw [e, Nat.mul_zero] at hq; omega
      have hdiv : s / Nat.gcd s b = q := Nat.div_eq_of_eq_mul_right hgp hq
      have hqs : q < s := by
        have h1 : 1 * q < Nat.gcd s b * q := Nat.mul_lt_mul_of_pos_right hg hqp
        omega
      have hfs' : f * Nat.gcd s b * q = n := by rw [Nat.mul_assoc, ← hq, hfs]
      have hfg : f * Nat.gcd s b ≤ n := by rw [← hfs']; exact Nat.le_mul_of_pos_right _ hqp
      have hk' : f * Nat.gcd s b ∣ b ^ (k + 1) := by rw [Nat.pow_succ]; exact Nat.mul_dvd_mul hk hgb
      have HG := GC q (by omega)
      clear hq hgb hk
      generalize Nat.gcd s b = g at hdiv hfs' hfg hk' hg hgp ⊢
      have hd' : (s : Int) / g = q := by rw [← hdiv]; rfl
      have hm1 : (f : Int) * g = ((f * g : Nat) : Int) := by simp
      have hg1 : (1 : Int) < g := by omega
      have hg0 : ¬ g = 0 := by omega
      have hfg' : (f : Int) * g ≤ 1000 := by rw [hm1]; omega
      have hfg0 : 0 ≤ (f : Int) * g := by rw [hm1]; omega
      clear hm1 hdiv
      go_wp2_with fail
      refine (HG.out _).mono ?_
      rintro e w1 ⟨rfl, rfl⟩
      go_wp2_with fail
      exact ⟨⟨f * g, q, hfs', ⟨k + 1, hk'⟩, rfl, by simp, rfl⟩, by simp [intOf]; omega⟩
    · have hg' : Nat.gcd s b = 1 := by omega
      rw [hg']
      go_wp2_with fail
      refine bodyPost_ret (v := .tuple #[.int .i64 f, .int .i64 s, .bool true]) (by simp [results, Try.results17, go_sem]) rfl ?_
      exact ⟨f, s, ⟨hfs, hg', ⟨k, hk⟩⟩, rfl, Below.refl _ _⟩

set_option maxHeartbeats 1000000 in
theorem specOrderSplit_no (b n : Int) (h : ¬ ((2 ≤ b ∧ b ≤ 16) ∧ (2 ≤ n ∧ n ≤ 1000))) : GivesII 17 #[.int .i64 b, .int .i64 n] 0 0 false := by
  intro w
  by_cases h1 : 2 ≤ b ∧ b ≤ 16
  · have j1 : decide (2 ≤ b ∧ b ≤ 16) = true := by simpa using h1
    have j2 : decide (2 ≤ n ∧ n ≤ 1000) = false := by simp; omega
    clear h h1
    go_enter Try.func17, Try.ntmps17
    go_wp2_with (go_at_call 25; refine (l6In_any _ _ _ _).mono ?_; rintro e w' ⟨rfl, rfl⟩)
    refine bodyPost_ret (v := .tuple #[.int .i64 0, .int .i64 0, .bool false]) (by simp [results, Try.results17, go_sem]) rfl ⟨rfl, Below.refl _ _⟩
  · have j1 : decide (2 ≤ b ∧ b ≤ 16) = false := by simpa using h1
    clear h h1
    go_enter Try.func17, Try.ntmps17
    go_wp2_with (go_at_call 25; refine (l6In_any _ _ _ _).mono ?_; rintro e w' ⟨rfl, rfl⟩)
    refine bodyPost_ret (v := .tuple #[.int .i64 0, .int .i64 0, .bool false]) (by simp [results, Try.results17, go_sem]) rfl ⟨rfl, Below.refl _ _⟩


set_option maxHeartbeats 1000000 in
theorem specOrderOnes_no (b n : Int) (h : prmB b n = false) : GivesI 13 #[.int .i64 b, .int .i64 n] 0 false := by
  intro w
  go_enter Try.func13, Try.ntmps13
  go_wp2_with fail
  refine (l2Prime_any _ _ _).mono ?_
  rintro e w1 ⟨rfl, rfl⟩
  rw [h]
  go_wp2_with fail
  go_ret2
  exact ⟨rfl, Below.refl _ _⟩

set_option maxHeartbeats 1000000 in
theorem specOrderUnits_no (n : Int) (h : ¬ (2 ≤ n ∧ n ≤ 1000)) : GivesI 9 #[.int .i64 n] 0 false := by
  intro w
  have j2 : decide (2 ≤ n ∧ n ≤ 1000) = false := by simpa using h
  clear h
  go_enter Try.func9, Try.ntmps9
  go_wp2_with (go_at_call 25; refine (l6In_any _ _ _ _).mono ?_; rintro e w' ⟨rfl, rfl⟩)
  go_ret2
  exact ⟨rfl, Below.refl _ _⟩

set_option maxHeartbeats 1000000 in
theorem specOrderUnits_yes (n : Nat) (hn : 2 ≤ n) (hn2 : n ≤ 1000) : GivesI 9 #[.int .i64 n] (unC n n) true := by
  intro w
  have j2 : decide (2 ≤ (n : Int) ∧ (n : Int) ≤ 1000) = true := by simp; omega
  go_enter Try.func9, Try.ntmps9
  go_wp2_with (go_at_call 25; refine (l6In_any _ _ _ _).mono ?_; rintro e w' ⟨rfl, rfl⟩)
  refine (l3Units_any n _ hn2).mono ?_
  rintro e w1 ⟨rfl, rfl⟩
  go_wp2_with fail
  go_ret2
  exact ⟨rfl, Below.refl _ _⟩

set_option maxHeartbeats 1000000 in
theorem specOrderBegin_no (b n : Int) (h : ¬ ((2 ≤ b ∧ b ≤ 16) ∧ (2 ≤ n ∧ n ≤ 1000))) : GivesI 21 #[.int .i64 b, .int .i64 n] 0 false := by
  intro w
  go_enter Try.func21, Try.ntmps21
  go_wp2_with fail
  refine (specOrderSplit_no _ _ h _).mono ?_
  rintro e w1 ⟨rfl, hb1⟩
  go_wp2_with fail
  go_ret2
  exact ⟨rfl, hb1⟩

set_option maxHeartbeats 1000000 in
theorem specOrderBegin_yes (b n f s k0 : Nat) (h3 : 2 ≤ b) (h4 : b ≤ 16) (hn : 2 ≤ n) (hn2 : n ≤ 1000) (hs : IsSplit b n f s) (hk : IsPow b f k0) (hk1 : k0 ≤ 1000) : GivesI 21 #[.int .i64 b, .int .i64 n] k0 true := by
  intro w
  have hfn : f ≤ n := by rw [← hs.eq]; exact Nat.le_mul_of_pos_right _ (Nat.pos_of_ne_zero fun e => by have := hs.eq; rw [e, Nat.mul_zero] at this; omega)
  have hfp : 0 < f := Nat.pos_of_ne_zero fun e => by have := hs.eq; rw [e, Nat.zero_mul] at this; omega
  have HS := Lib.hid hs; have HK := Lib.hid hk
  clear hs hk
  go_enter Try.func21, Try.ntmps21
  go_wp2_with fail
  refine (specOrderSplit_yes b n h3 h4 hn hn2 _).mono ?_
  rintro e w1 ⟨f', s', hs', rfl, hb1⟩
  obtain ⟨rfl, rfl⟩ := HS.out.unique (by omega) hs'
  clear hs'
  have hf0 : ¬ f = 0 := by omega
  go_wp2_with fail
  have hlt1 : ∀ j, pwr b j f < f := fun j => Nat.mod_lt _ hfp
  have hdv : ∀ j, pwr b j f = 0 ↔ f ∣ b ^ j := fun j => ⟨Nat.dvd_of_mod_eq_zero, Nat.mod_eq_zero_of_dvd⟩
  go_loop [9, 10] (fun k r => ∃ j : Nat, j ≤ k0 ∧ k = .int .i64 j ∧ r = .int .i64 (pwr b j f)) (fun k _ => k0 - (intOf k).toNat)
  case atStart => exact ⟨0, Nat.zero_le _, rfl, by unfold pwr; rw [Nat.pow_zero]; rfl⟩
  case round =>
    obtain ⟨j, hj, rfl, rfl⟩ := hrel
    have hr := hlt1 j
    by_cases hlt : j < k0
    · have hne : ¬ pwr b j f = 0 := fun e => HK.out.2 j hlt ((hdv j).1 e)
      have hne' : ¬ (pwr b j f : Int) = 0 := by omega
      have m1 : 0 ≤ (pwr b j f : Int) * b := Int.mul_nonneg (by omega) (by omega)
      have m2 : (pwr b j f : Int) * b ≤ 1000 * 16 := Int.mul_le_mul (by omega) (by omega) (by omega) (by omega)
      go_wp2_with fail
      refine ⟨⟨j + 1, hlt, rfl, ?_⟩, by simp [intOf]; omega⟩
      rw [pwr_succ]; simp
    · obtain rfl : j = k0 := by omega
      rw [(hdv j).2 HK.out.1]
      go_wp2_with fail
      go_ret2
      exact ⟨rfl, hb1⟩








end Go.Proofs.Ytdeaikejfpmagaa
