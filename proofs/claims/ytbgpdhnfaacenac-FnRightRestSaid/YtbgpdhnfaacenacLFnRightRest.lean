/-
  The law FnRightRest's walk.
-/
import Derived.Test.YtbgpdhnfaacenacDrawV
import Derived.Test.YtbgpdhnfaacenacRgtB
namespace Go.Proofs.Ytbgpdhnfaacenac
open Go.RowKit

set_option maxRecDepth 100000 in
set_option maxHeartbeats 4000000 in
theorem lawRightRest_any (H : ImRightRest) (a : Option Addr) (len cap : Nat) (zs : List Int) (w : World) (r : IsRow .u8 w a len cap zs) :
    Calls Try.prog 5 #[.slice a len cap] w fun e w' => e = .returned (.bool true) ∧ Below w.heap.size w w' := by
  have hB := byt_of_row r
  clear r
  by_cases hl : 1048576 < len
  · have hl' : (1048576 : Int) < (len : Int) := by omega
    go_enter Try.func5, Try.ntmps5
    go_wp2
    go_ret
    exact ⟨rfl, Below.refl _ _⟩
  have hl' : decide ((1048576 : Int) < (len : Int)) = false := by simp; omega
  go_enter Try.func5, Try.ntmps5
  go_wp2_with fail
  refine (drawRightRest_any a len cap _ hB).mono ?_
  rintro e w1 ⟨b, t, n, k, rfl, B1⟩
  clear hl hB
  cases h : (vlB b t n && decide (0 ≤ k ∧ k ≤ 4)) with
  | false =>
    have HI := Lib.hid (H.1 b t n k h); have HS := Lib.hid (specRightRest_no b t n k h)
    clear h
    go_wp2_with fail
    refine (HI.out _).mono ?_
    rintro e w2 ⟨rfl, hb2⟩
    have B2 := B1.trans (hb2.mono B1.size)
    clear B1 hb2
    go_wp2_with fail
    refine (HS.out _).mono ?_
    rintro e w3 ⟨rfl, hb3⟩
    have B3 := B2.trans (hb3.mono B2.size)
    clear B2 hb3
    go_wp2_with fail
    go_ret
    exact ⟨rfl, B3⟩
  | true =>
    obtain ⟨b, B, k, rfl, rfl, rfl, hk, hv⟩ := vlk_some (K := 4) h
    clear h
    have hb2' := hv.r.b2; have hb16 := hv.r.b16; have hB1 := hv.r.B1; have hB2 := hv.r.B2; have ht1 := hv.lo; have ht2 := hv.hi
    have HI := Lib.hid (H.2 b B k t hv hk); have HS := Lib.hid (specRightRest_yes b B k t hv hk)
    obtain ⟨v1, v2⟩ := rgV_bd hv.r t k
    have hveq := rgV_eq hv.r t k
    have hPB : ∀ i, i ≤ k → b ^ i ≤ 65536 := fun i hi => by
      have h3 : b ^ i ≤ 16 ^ 4 := Nat.le_trans (Nat.pow_le_pow_left hv.r.b16 i) (Nat.pow_le_pow_right (n := 16) (by omega) (by omega))
      have h4 : (16 : Nat) ^ 4 = 65536 := rfl
      omega
    have hpow := hPB k (Nat.le_refl _)
    have HPB := Lib.hid hPB
    have hpos : 0 < b ^ k := Nat.pow_pos (by omega)
    obtain ⟨x1, x2⟩ := hv.big k
    clear hv hPB
    revert HI HS v1 v2 hveq x1 x2
    generalize rgV b B t k = V
    generalize rgT b B t k = X
    intro HI HS v1 v2 hveq x1 x2
    have HVE := Lib.hid hveq
    clear hveq
    go_wp2_with fail
    refine (HI.out _).mono ?_
    rintro e w2 ⟨rfl, hb2⟩
    have B2 := B1.trans (hb2.mono B1.size)
    clear B1 hb2
    go_wp2_with fail
    refine (HS.out _).mono ?_
    rintro e w3 ⟨rfl, hb3⟩
    have B3 := B2.trans (hb3.mono B2.size)
    clear B2 hb3
    go_wp2_with fail
    go_loop [11, 12] (fun n' i' => ∃ i : Nat, i ≤ k ∧ n' = .int .i64 ((b ^ i : Nat) : Int) ∧ i' = .int .i64 i) (fun _ i' => k - (intOf i').toNat)
    case atStart => exact ⟨0, Nat.zero_le _, by rw [Nat.pow_zero]; rfl, rfl⟩
    case round =>
      obtain ⟨i, hi, rfl, rfl⟩ := hrel
      by_cases hlt : i < k
      · have j1 : (i : Int) < (k : Int) := by omega
        have hP := HPB.out (i + 1) hlt
        have HP1 : Hid (b ^ (i + 1) = b ^ i * b) := Nat.pow_succ _ _
        rw [HP1.out] at hP
        have hP0 := HPB.out i hi
        revert HP1 hP hP0
        generalize b ^ i = P
        intro hP HP1 hP0
        have hc : (P : Int) * (b : Int) = ((P * b : Nat) : Int) := by rw [Int.natCast_mul]
        have m0 : 0 ≤ (P : Int) * (b : Int) := by omega
        have m1 : (P : Int) * (b : Int) ≤ 65536 := by omega
        have w1' : IntKind.i64.wrap ((P : Int) * (b : Int)) = (P : Int) * (b : Int) := IntWalk.i64_in _ (by omega)
        have HCC := Lib.hid hc
        clear hc
        go_wp2_with fail
        go_round
        case rel => exact ⟨i + 1, hlt, by rw [HP1.out, ← HCC.out], by go_num⟩
        case measure => simp [intOf]; omega
      · obtain rfl : i = k := by omega
        have j1 : ¬ (i : Int) < (i : Int) := by omega
        have hve := HVE.out
        revert v2 hpos hpow hve
        generalize b ^ i = P
        intro hpos hpow v2 hve
        obtain ⟨p, hp⟩ : ∃ p : Int, V * (B : Int) = p := ⟨_, rfl⟩
        have p1 : 0 ≤ p := by rw [← hp]; exact Int.mul_nonneg v1 (by omega)
        have p2 : p ≤ 65536 * 1000 := by rw [← hp]; exact Int.mul_le_mul (by omega) (by omega) (by omega) (by omega)
        rw [hp] at hve
        obtain ⟨y, hy⟩ : ∃ y : Int, p - t = y := ⟨_, rfl⟩
        have hym : y.tmod (P : Int) = 0 := by
          refine tmod_zero.2 (Int.emod_eq_zero_of_dvd ⟨-X, ?_⟩)
          rw [Int.mul_neg]; omega
        have w1' : IntKind.i64.wrap p = p := IntWalk.i64_in _ (by omega)
        have w2' : IntKind.i64.wrap y = y := IntWalk.i64_in _ (by omega)
        have j2 : V ≥ 0 := by omega
        have j3 : V < (P : Int) := by omega
        have j4 : ¬ P = 0 := by omega
        have j5 : ¬ (P : Int) = 0 := by omega
        have j6 : ((P : Int) == 0) = false := by simp; omega
        clear hve hpow
        go_wp2_with fail
        go_ret
        exact ⟨rfl, B3⟩

end Go.Proofs.Ytbgpdhnfaacenac
