/-
  Orders, units, rows of ones, products of a base's primes: the model's.
-/
import Derived.Test.YtamcpoadpkgogadGOrd
import Derived.Test.YtamcpoadpkgogadPower
import Derived.Test.YtamcpoadpkgogadGrown
import Derived.Test.YtamcpoadpkgogadPrm
import Derived.Test.YtamcpoadpkgogadAns
import Derived.Maps.AppendAt
namespace Go.Proofs.Ytamcpoadpkgogad
open Go.RowKit

set_option maxHeartbeats 1000000 in
theorem l3Order_any (b n m : Nat) (w : World) (hb : b ≤ 1000) (hn : 2 ≤ n) (hn2 : n ≤ 1000) (hm : IsLen b 1 n 0 m) :
    Calls Try.prog 17 #[.int .i64 b, .int .i64 n] w fun e w' => e = .returned (.int .i64 m) ∧ w = w' := by
  go_enter Try.func17, Try.ntmps17
  go_wp2_with fail
  have h1n : (1 : Int) % (n : Int) = 1 := Int.emod_eq_of_lt (by omega) (by omega)
  have hn0 : ¬ n = 0 := by omega
  have hrst := fun k => rst_lt (b := b) (T := 1) (B := n) (by omega) k
  have HM := Lib.hid hm; clear hm
  have hp := HM.out.pos
  have hml := HM.out.le (show 1 < n by omega)
  go_loop [5, 6] (fun k r => ∃ j : Nat, 1 ≤ j ∧ j ≤ m ∧ k = .int .i64 j ∧ r = .int .i64 (rst b 1 n j)) (fun k _ => m - (intOf k).toNat)
  case atStart => exact ⟨1, Nat.le_refl _, hp, rfl, by rw [show rst b 1 n 1 = 1 * b % n from rfl, Nat.one_mul]; simp⟩
  case round =>
    obtain ⟨j, hj1, hjm, rfl, rfl⟩ := hrel
    have hr := hrst j
    by_cases hlt : j < m
    · have hne : ¬ rst b 1 n j = 1 := fun e => HM.out.ne 0 j hj1 (by omega) e.symm
      have hne' : ¬ (rst b 1 n j : Int) = 1 := by omega
      have m1 : 0 ≤ (rst b 1 n j : Int) * b := Int.mul_nonneg (by omega) (by omega)
      have m2 : (rst b 1 n j : Int) * b ≤ 1000 * 1000 := Int.mul_le_mul (by omega) (by omega) (by omega) (by omega)
      go_wp2_with fail
      refine ⟨⟨j + 1, by omega, hlt, rfl, ?_⟩, by simp [intOf]; omega⟩
      rw [show rst b 1 n (j + 1) = rst b 1 n j * b % n from rfl]; simp
    · obtain rfl : j = m := by omega
      have he : rst b 1 n j = 1 := by have := HM.out.eq; rw [Nat.zero_add] at this; exact this
      rw [he]
      go_wp2_with fail
      go_ret
      exact ⟨rfl, rfl⟩









set_option maxHeartbeats 1000000 in
theorem l3Prime_any (n : Nat) (w : World) (hn2 : n ≤ 1000) :
    Calls Try.prog 16 #[.int .i64 n] w fun e w' => e = .returned (.bool (primeB n)) ∧ w = w' := by
  go_enter Try.func16, Try.ntmps16
  go_wp2_with fail
  go_loop [3] (fun x => ∃ k : Nat, 2 ≤ k ∧ k ≤ 33 ∧ x = .int .i64 k ∧ ∀ j, j < k → 2 ≤ j → n % j ≠ 0) (fun x => 40 - (intOf x).toNat)
  case atStart => exact ⟨2, by omega, by omega, rfl, fun j h1 h2 => by omega⟩
  case round =>
    obtain ⟨k, hk2, hk3, rfl, hno⟩ := hrel
    have m0 : k * k ≤ 33 * 33 := Nat.mul_le_mul hk3 hk3
    have m1 : (k : Int) * k ≤ 1089 := by have : ((k * k : Nat) : Int) ≤ 1089 := by omega
                                         simpa using this
    have m2 : 0 ≤ (k : Int) * k := Int.mul_nonneg (by omega) (by omega)
    have hk0 : ¬ k = 0 := by omega
    by_cases hle : k * k ≤ n
    · have hle' : (k : Int) * k ≤ n := by exact_mod_cast hle
      have hkn : k < n := by have : 2 * k ≤ k * k := Nat.mul_le_mul_right k hk2
                             omega
      have hk32 : k ≤ 32 := by
        rcases Nat.lt_or_ge 32 k with h | h
        · have : 33 * 33 ≤ k * k := Nat.mul_le_mul h h
          omega
        · exact h
      by_cases hm : n % k = 0
      · have HP := Lib.hid (not_prime hk2 hkn hm)
        have hm' : (n : Int) % k = 0 := by omega
        clear hno
        go_wp2_with fail
        go_ret
        exact ⟨ret_bool HP.out.symm, rfl⟩
      · have hm' : ¬ (n : Int) % k = 0 := by omega
        have HN := Lib.hid hno
        clear hno
        go_wp2_with fail
        refine ⟨⟨k + 1, by omega, by omega, rfl, fun j h1 h2 => ?_⟩, by simp [intOf]; omega⟩
        rcases Nat.lt_or_ge j k with h | h
        · exact HN.out j h h2
        · obtain rfl : j = k := by omega
          exact hm
    · have hle' : ¬ (k : Int) * k ≤ n := by intro h; exact hle (by exact_mod_cast h)
      have HP : Hid (primeB n = decide ((1 : Int) < n)) := by
        by_cases h2 : 2 ≤ n
        · unfold Hid
          rw [prime_root h2 hno (by omega)]
          exact (decide_eq_true (by omega)).symm
        · unfold Hid primeB
          rw [decide_eq_decide]
          constructor
          · rintro ⟨h, _⟩; omega
          · intro h; omega
      clear hno
      go_wp2_with fail
      go_ret
      exact ⟨ret_bool (by rw [HP.out]), rfl⟩

set_option maxHeartbeats 1000000 in
theorem specOrderFull_yes (b n : Nat) (h3 : 2 ≤ b) (h4 : b ≤ 16) (hn : 2 ≤ n) (hn2 : n ≤ 1000) : Gives 22 #[.int .i64 b, .int .i64 n] (fulL b (n + 1)) true := by
  intro w
  have j1 : decide (2 ≤ (b : Int) ∧ (b : Int) ≤ 16) = true := by simp; omega
  have j2 : decide (2 ≤ (n : Int) ∧ (n : Int) ≤ 1000) = true := by simp; omega
  go_enter Try.func22, Try.ntmps22
  go_wp2_with (go_at_call 18; refine (l6In_any _ _ _ _).mono ?_; rintro e w' ⟨rfl, rfl⟩)
  obtain ⟨i0, hi, hz0, hz1, hz2⟩ := info_parts infoInt
  go_loopw [6, 7] (fun v x wr => ∃ p : Nat, 2 ≤ p ∧ p ≤ n + 1 ∧ x = .int .i64 p ∧ wr.ownsRow w.heap.size 3 1 v (fulL b p).length ((fulL b p).map (Value.int .i64)) ∧ Below w.heap.size w wr) (fun _ x _ => n + 1 - (intOf x).toNat)
  case atStart =>
    refine ⟨2, Nat.le_refl _, by omega, rfl, ?_, (Below.refl _ _).alloc (Nat.le_refl _) _⟩
    exact World.ownsRow_made (base := w.heap.size) (e := 3) (size := 1) w #[] 0 (Nat.le_refl _) (by simp) (by simp)
  case round =>
    obtain ⟨p, hp2, hpn, rfl, hown, hbel⟩ := hrel
    have hll := fulL_len b p
    by_cases hlt : p ≤ n
    · have i1 : (p : Int) ≤ n := by omega
      have hp0 : ¬ p = 0 := by omega
      have hfs : fulL b (p + 1) = if fullB b p = true then fulL b p ++ [(p : Int)] else fulL b p := rfl
      cases hpr : primeB p with
      | false =>
        have hf : fullB b p = false := by unfold fullB; rw [hpr, Bool.false_and]
        rw [hf, if_neg (by simp)] at hfs
        have HF := Lib.hid hfs; have HW := Lib.hid hown
        clear hfs hf hown
        go_wp2_with fail
        refine (l3Prime_any p _ (by omega)).mono ?_
        rintro e w1 ⟨rfl, rfl⟩
        rw [hpr]
        clear hpr
        go_wp2_with fail
        exact ⟨⟨p + 1, by omega, by omega, rfl, by rw [HF.out]; exact HW.out, hbel⟩, by simp [intOf]; omega⟩
      | true =>
        by_cases hbp : b % p = 0
        · have hf : fullB b p = false := by unfold fullB; rw [hpr, Bool.true_and, decide_eq_false (by simpa using hbp), Bool.false_and]
          rw [hf, if_neg (by simp)] at hfs
          have HF := Lib.hid hfs; have HW := Lib.hid hown
          have hbp' : (b : Int) % p = 0 := by omega
          clear hfs hf hown
          go_wp2_with fail
          refine (l3Prime_any p _ (by omega)).mono ?_
          rintro e w1 ⟨rfl, rfl⟩
          rw [hpr]
          clear hpr
          go_wp2_with fail
          exact ⟨⟨p + 1, by omega, by omega, rfl, by rw [HF.out]; exact HW.out, hbel⟩, by simp [intOf]; omega⟩
        · have hbp' : ¬ (b : Int) % p = 0 := by omega
          obtain ⟨m, hm⟩ := ord_some ((prime_base hpr).2 hbp) hp2
          have hf := fullB_ord hpr hbp hm
          have HM := Lib.hid hm; have HW := Lib.hid hown; have HP := Lib.hid hpr
          clear hm hown hpr
          go_wp2_with fail
          refine (l3Prime_any p _ (by omega)).mono ?_
          rintro e w1 ⟨rfl, rfl⟩
          rw [HP.out]
          go_wp2_with fail
          refine (l3Order_any b p m _ (by omega) hp2 (by omega) HM.out).mono ?_
          rintro e w1 ⟨rfl, rfl⟩
          by_cases hmp : m = p - 1
          · rw [decide_eq_true hmp] at hf
            rw [hf, if_pos rfl] at hfs
            have HF := Lib.hid hfs
            have hmp' : ((m : Int) == (p : Int) - 1) = true := by simp; omega
            clear hmp
            clear hfs hf
            go_wp2_with (at_builtin; refine wpList_append_own_at _ rfl _ _ 27 rfl w.heap.size 3 i0 (.int .i64 0) 1 8 Try.underlying27 hi hz0 hz1 hz2 rfl (by decide) _ _ _ rfl (HW.out.alloc _) ⟨wr.heap.size, 0, none⟩ 1 1 [.int .i64 p] rfl rfl ?c1 ?c2 ?c3 ?c4 ?c5 ?_)
            case c1 => exact cell_one_new _ _ _
            case c2 => simp [Value.oneCell']
            case c3 => unfold maxLen; omega
            case c4 => omega
            case c5 => have := hbel.size; (try simp); omega
            intro v' w1 hown' hgrow _ _
            have hb1 := (hbel.alloc hbel.size (.cells #[.int .i64 p] 3)).grown hgrow (by have := hbel.size; simp; omega) (fun q e => by
              rcases HW.out.2 with ⟨rfl, _⟩ | ⟨g, cap, cur, rfl, hb, _⟩
              · cases e
              · cases e; exact hb)
            clear HW hgrow
            go_wp2_with fail
            refine ⟨⟨p + 1, by omega, by omega, rfl, ?_, hb1⟩, by simp [intOf]; omega⟩
            rw [HF.out, List.length_append, List.map_append]
            simpa using hown'
          · rw [decide_eq_false hmp] at hf
            rw [hf, if_neg (by simp)] at hfs
            have HF := Lib.hid hfs
            have hmp' : ((m : Int) == (p : Int) - 1) = false := by simp; omega
            clear hfs hf
            go_wp2_with fail
            exact ⟨⟨p + 1, by omega, by omega, rfl, by rw [HF.out]; exact HW.out, hbel⟩, by simp [intOf]; omega⟩
    · obtain rfl : p = n + 1 := by omega
      have i1 : ¬ (((n + 1 : Nat) : Int) ≤ n) := by omega
      go_wp2_with fail
      go_ret2
      exact ⟨_, rfl, Slc.of_owns hown, hbel⟩



set_option maxHeartbeats 1000000 in
theorem specOrderFull_no (b n : Int) (h : ¬ ((2 ≤ b ∧ b ≤ 16) ∧ (2 ≤ n ∧ n ≤ 1000))) : Gives 22 #[.int .i64 b, .int .i64 n] [] false := by
  intro w
  by_cases h1 : 2 ≤ b ∧ b ≤ 16
  · have j1 : decide (2 ≤ b ∧ b ≤ 16) = true := by simpa using h1
    have j2 : decide (2 ≤ n ∧ n ≤ 1000) = false := by simp; omega
    clear h h1
    go_enter Try.func22, Try.ntmps22
    go_wp2_with (go_at_call 18; refine (l6In_any _ _ _ _).mono ?_; rintro e w' ⟨rfl, rfl⟩)
    go_ret2
    exact ⟨_, rfl, Slc.empty (Nat.le_refl _), (Below.refl _ _).alloc (Nat.le_refl _) _⟩
  · have j1 : decide (2 ≤ b ∧ b ≤ 16) = false := by simpa using h1
    clear h h1
    go_enter Try.func22, Try.ntmps22
    go_wp2_with (go_at_call 18; refine (l6In_any _ _ _ _).mono ?_; rintro e w' ⟨rfl, rfl⟩)
    go_ret2
    exact ⟨_, rfl, Slc.empty (Nat.le_refl _), (Below.refl _ _).alloc (Nat.le_refl _) _⟩



end Go.Proofs.Ytamcpoadpkgogad
