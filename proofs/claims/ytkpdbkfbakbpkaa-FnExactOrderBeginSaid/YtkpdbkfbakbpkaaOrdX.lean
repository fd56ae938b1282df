/-
  Chapter 3, the program's side where no goroutine is started: orders, units, rows of ones, products, beginnings.
-/
import Derived.Test.YtkpdbkfbakbpkaaOrdI
namespace Go.Proofs.Ytkpdbkfbakbpkaa
open Go.RowKit




set_option maxHeartbeats 1000000 in
theorem split_any (b n : Nat) (h3 : 2 ≤ b) (h4 : b ≤ 16) (hn : 2 ≤ n) (hn2 : n ≤ 1000) (w : World) :
    Calls Try.prog 18 #[.int .i64 b, .int .i64 n] w fun e w' => ∃ f s : Nat, IsSplit b n f s ∧ e = .returned (.tuple #[.int .i64 f, .int .i64 s]) ∧ w = w' := by
  have GC : ∀ s : Nat, s ≤ 1000 → Hid (∀ wx, Calls Try.prog 28 #[.int .i64 b, .int .i64 s] wx fun e w' => e = .returned (.int .i64 (Nat.gcd s b)) ∧ wx = w') := fun s hs wx => by
    have := commonDivisor_any b s wx (by omega) (by omega) (by omega) (by omega)
    rw [gcdI_nat, Nat.gcd_comm] at this
    exact this
  go_enter Try.func18, Try.ntmps18
  go_wp2_with fail
  refine ((GC n hn2).out _).mono ?_
  rintro e w1 ⟨rfl, rfl⟩
  go_wp2_with fail
  go_loop [6, 7, 8] (fun y x z => ∃ f s : Nat, f * s = n ∧ (∃ k, f ∣ b ^ k) ∧ x = .int .i64 s ∧ y = .int .i64 f ∧ z = .int .i64 (Nat.gcd s b)) (fun _ x _ => (intOf x).toNat)
  case atStart => exact ⟨1, n, Nat.one_mul n, ⟨0, Nat.dvd_refl 1⟩, rfl, rfl, rfl⟩
  case round =>
    obtain ⟨f, s, hfs, ⟨k, hk⟩, rfl, rfl, rfl⟩ := hrel
    have hsp : 0 < s := Nat.pos_of_ne_zero fun e => by rw [e, Nat.mul_zero] at hfs; omega
    have hfp : 0 < f := Nat.pos_of_ne_zero fun e => by rw [e, Nat.zero_mul] at hfs; omega
    have hs1 : s ≤ n := by rw [← hfs]; exact Nat.le_mul_of_pos_left s hfp
    have hgp : 0 < Nat.gcd s b := Nat.gcd_pos_of_pos_left _ hsp
    by_cases hg : 1 < Nat.gcd s b
    · have hgd : Nat.gcd s b ∣ s := Nat.gcd_dvd_left _ _
      have hgb : Nat.gcd s b ∣ b := Nat.gcd_dvd_right _ _
      obtain ⟨q, hq⟩ := hgd
      have hqp : 0 < q := Nat.pos_of_ne_zero fun e => by rw [e, Nat.mul_zero] at hq; omega
      have hdiv : s / Nat.gcd s b = q := Nat.div_eq_of_eq_mul_right hgp hq
      have hqs : q < s := by
        have h1 : 1 * q < Nat.gcd s b * q := Nat.mul_lt_mul_of_pos_right hg hqp
        omega
      have hfs' : f * Nat.gcd s b * q = n := by rw [Nat.mul_assoc, ← hq, hfs]
      have hfg : f * Nat.gcd s b ≤ n := by rw [← hfs']; exact Nat.le_mul_of_pos_right _ hqp
      have hk' : f * Nat.gcd s b ∣ b ^ (k + 1) := by rw [Nat.pow_succ]; exact Nat.mul_dvd_mul hk hgb
      have HG := GC q (by omega)
      clear hq hgb hk GC
      generalize Nat.gcd s b = g at hdiv hfs' hfg hk' hg hgp ⊢
      have hd' : (s : Int) / g = q := by rw [← hdiv]; rfl
      have hm1 : (f : Int) * g = ((f * g : Nat) : Int) := by simp
      have hg1 : (1 : Int) < g := by omega
      have hg0 : ¬ g = 0 := by omega
      have hfg' : (f : Int) * g ≤ 1000 := by rw [hm1]; omega
      have hfg0 : 0 ≤ (f : Int) * g := by rw [hm1]; omega
      clear hm1 hdiv
      go_wp2_with fail
      refine (HG.out _).mono ?_
      rintro e w1 ⟨rfl, rfl⟩
      go_wp2_with fail
      exact ⟨⟨f * g, q, hfs', ⟨k + 1, hk'⟩, rfl, by simp, rfl⟩, by simp [intOf]; omega⟩
    · have hg' : Nat.gcd s b = 1 := by omega
      rw [hg']
      clear GC
      go_wp2_with fail
      refine bodyPost_ret (v := .tuple #[.int .i64 f, .int .i64 s]) (by simp [results, Try.results18, go_sem]) rfl ?_
      exact ⟨f, s, ⟨hfs, hg', ⟨k, hk⟩⟩, rfl, rfl⟩


set_option maxHeartbeats 1000000 in
theorem imBegin_no (b n : Int) (h : ¬ ((2 ≤ b ∧ b ≤ 16) ∧ (2 ≤ n ∧ n ≤ 1000))) : GivesI 7 #[.int .i64 b, .int .i64 n] 0 false := by
  intro w
  by_cases h1 : 2 ≤ b ∧ b ≤ 16
  · have j1 : decide (2 ≤ b ∧ b ≤ 16) = true := by simpa using h1
    have j2 : decide (2 ≤ n ∧ n ≤ 1000) = false := by simp; omega
    clear h h1
    go_enter Try.func7, Try.ntmps7
    go_wp2_with (first | (go_at_call 16; refine (baseIn_any _ _).mono ?_; rintro e w' ⟨rfl, rfl⟩) | (go_at_call 17; refine (bottomIn_any _ _).mono ?_; rintro e w' ⟨rfl, rfl⟩))
    go_ret2
    exact ⟨rfl, Below.refl _ _⟩
  · have j1 : decide (2 ≤ b ∧ b ≤ 16) = false := by simpa using h1
    clear h h1
    go_enter Try.func7, Try.ntmps7
    go_wp2_with (go_at_call 16; refine (baseIn_any _ _).mono ?_; rintro e w' ⟨rfl, rfl⟩)
    go_ret2
    exact ⟨rfl, Below.refl _ _⟩

set_option maxHeartbeats 1000000 in
theorem imBegin : ImBegin := by
  refine ⟨imBegin_no, ?_⟩
  intro b n f s k0 h3 h4 hn hn2 hs hk hk1 w
  have hfn : f ≤ n := by rw [← hs.eq]; exact Nat.le_mul_of_pos_right _ (Nat.pos_of_ne_zero fun e => by have := hs.eq; rw [e, Nat.mul_zero] at this; omega)
  have hfp : 0 < f := Nat.pos_of_ne_zero fun e => by have := hs.eq; rw [e, Nat.zero_mul] at this; omega
  have HS := Lib.hid hs; have HK := Lib.hid hk
  clear hs hk
  have j1 : decide (2 ≤ (b : Int) ∧ (b : Int) ≤ 16) = true := by simp; omega
  have j2 : decide (2 ≤ (n : Int) ∧ (n : Int) ≤ 1000) = true := by simp; omega
  go_enter Try.func7, Try.ntmps7
  go_wp2_with (first | (go_at_call 16; refine (baseIn_any _ _).mono ?_; rintro e w' ⟨rfl, rfl⟩) | (go_at_call 17; refine (bottomIn_any _ _).mono ?_; rintro e w' ⟨rfl, rfl⟩))
  refine (split_any b n h3 h4 hn hn2 _).mono ?_
  rintro e w1 ⟨f', s', hs', rfl, rfl⟩
  obtain ⟨rfl, rfl⟩ := HS.out.unique (by omega) hs'
  clear hs'
  have hf0 : ¬ f = 0 := by omega
  go_wp2_with fail
  have hlt1 : ∀ j, pwr b j f < f := fun j => Nat.mod_lt _ hfp
  have hdv : ∀ j, pwr b j f = 0 ↔ f ∣ b ^ j := fun j => ⟨Nat.dvd_of_mod_eq_zero, Nat.mod_eq_zero_of_dvd⟩
  have h1f : (1 : Int) % (f : Int) = ((pwr b 0 f : Nat) : Int) := by unfold pwr; rw [Nat.pow_zero]; rfl
  rw [h1f]
  clear h1f
  go_loop [8, 9] (fun k r => ∃ j : Nat, j ≤ k0 ∧ k = .int .i64 j ∧ r = .int .i64 (pwr b j f)) (fun k _ => k0 - (intOf k).toNat)
  case atStart => exact ⟨0, Nat.zero_le _, rfl, rfl⟩
  case round =>
    obtain ⟨j, hj, rfl, rfl⟩ := hrel
    have hr := hlt1 j
    by_cases hlt : j < k0
    · have hne : ¬ pwr b j f = 0 := fun e => HK.out.2 j hlt ((hdv j).1 e)
      have hne' : ¬ (pwr b j f : Int) = 0 := by omega
      have m1 : 0 ≤ (pwr b j f : Int) * b := Int.mul_nonneg (by omega) (by omega)
      have m2 : (pwr b j f : Int) * b ≤ 1000 * 16 := Int.mul_le_mul (by omega) (by omega) (by omega) (by omega)
      go_wp2_with fail
      refine ⟨⟨j + 1, hlt, rfl, ?_⟩, by simp [intOf]; omega⟩
      rw [pwr_succ]; simp
    · obtain rfl : j = k0 := by omega
      rw [(hdv j).2 HK.out.1]
      go_wp2_with fail
      go_ret2
      exact ⟨rfl, Below.refl _ _⟩



end Go.Proofs.Ytkpdbkfbakbpkaa
