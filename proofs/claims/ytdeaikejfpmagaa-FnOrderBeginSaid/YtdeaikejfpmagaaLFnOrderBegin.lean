/-
  The law FnOrderBegin's walk.
-/
import Derived.Test.YtdeaikejfpmagaaDrawO
import Derived.Test.YtdeaikejfpmagaaOrdI
namespace Go.Proofs.Ytdeaikejfpmagaa
open Go.RowKit

set_option maxRecDepth 100000 in
set_option maxHeartbeats 4000000 in
theorem lawOrderBegin_any (HB : ImBegin) (HF : ImOf) (a : Option Addr) (len cap : Nat) (zs : List Int) (w : World) (r : IsRow .u8 w a len cap zs) :
    Calls Try.prog 6 #[.slice a len cap] w fun e w' => e = .returned (.bool true) ∧ Below w.heap.size w w' := by
  have hB := byt_of_row r
  clear r
  by_cases hl : 1048576 < len
  · have hl' : (1048576 : Int) < (len : Int) := by omega
    go_enter Try.func6, Try.ntmps6
    go_wp2
    go_ret
    exact ⟨rfl, Below.refl _ _⟩
  have hl' : decide ((1048576 : Int) < (len : Int)) = false := by simp; omega
  go_enter Try.func6, Try.ntmps6
  go_wp2_with fail
  refine (drawOrderBegin_any a len cap _ hB).mono ?_
  rintro e w1 ⟨b, n, rfl, B1⟩
  clear hl hB
  by_cases h : (2 ≤ b ∧ b ≤ 16) ∧ (2 ≤ n ∧ n ≤ 1000)
  case neg =>
    go_wp2_with fail
    refine (HB.1 b n h _).mono ?_
    rintro e w2 ⟨rfl, hb2⟩
    have B2 := B1.trans (hb2.mono B1.size)
    clear B1 hb2
    go_wp2_with fail
    refine (specOrderBegin_no b n h _).mono ?_
    rintro e w3 ⟨rfl, hb3⟩
    have B3 := B2.trans (hb3.mono B2.size)
    clear B2 hb3
    go_wp2_with fail
    go_ret
    exact ⟨rfl, B3⟩
  case pos =>
    obtain ⟨b, rfl⟩ := Int.eq_ofNat_of_zero_le (show 0 ≤ b by omega)
    obtain ⟨n, rfl⟩ := Int.eq_ofNat_of_zero_le (show 0 ≤ n by omega)
    have h3 : 2 ≤ b := by omega
    have h4 : b ≤ 16 := by omega
    have hn : 2 ≤ n := by omega
    have hn2 : n ≤ 1000 := by omega
    obtain ⟨f, s, hs⟩ := split_some (b := b) (show 0 < n by omega)
    obtain ⟨j, hj⟩ := isPow_some hs.pow
    obtain ⟨hj2, hj9⟩ := pow_bound hn hn2 hs hj
    have hone := split_one (show 0 < n by omega) hs hj
    have I := HB.2 b n f s j h3 h4 hn hn2 hs hj (by omega)
    have S := specOrderBegin_yes b n f s j h3 h4 hn hn2 hs hj (by omega)
    have O : ∃ x : Int, GivesI 14 #[.int .i64 b, .int .i64 n] x ((j : Int) == 0) := by
      by_cases hg : Nat.gcd b n = 1
      · obtain ⟨m, hm⟩ := ord_some hg hn
        refine ⟨m, ?_⟩
        rw [hone.2 hg]
        exact HF.2 b n m (prm_mk h3 h4 hn hn2 hg) h4 hn hn2 hm
      · have hp : prmB b n = false := by
          cases h : prmB b n with
          | false => rfl
          | true =>
            obtain ⟨b', n', e1, e2, _, _, _, _, hg'⟩ := prm_nat h
            obtain rfl : b = b' := by omega
            obtain rfl : n = n' := by omega
            exact absurd hg' hg
        have hj0 : ((j : Int) == 0) = false := by
          have : j ≠ 0 := fun e => hg (hone.1 e)
          simp; omega
        rw [hj0]
        exact ⟨0, HF.1 b n hp⟩
    obtain ⟨x, O⟩ := O
    clear hs hj hone
    go_wp2_with fail
    refine (I _).mono ?_
    rintro e w2 ⟨rfl, hb2⟩
    have B2 := B1.trans (hb2.mono B1.size)
    clear B1 hb2
    go_wp2_with fail
    refine (S _).mono ?_
    rintro e w3 ⟨rfl, hb3⟩
    have B3 := B2.trans (hb3.mono B2.size)
    clear B2 hb3
    go_wp2_with fail
    refine (O _).mono ?_
    rintro e w4 ⟨rfl, hb4⟩
    have B4 := B3.trans (hb4.mono B3.size)
    clear B3 hb4
    have hc : j = 0 ∨ j = 1 ∨ j = 2 ∨ j = 3 ∨ j = 4 ∨ j = 5 ∨ j = 6 ∨ j = 7 ∨ j = 8 ∨ j = 9 := by omega
    rcases hc with rfl | rfl | rfl | rfl | rfl | rfl | rfl | rfl | rfl | rfl
    · have h5 : (1 : Int) ≤ n := by omega
      clear hj2 hj9 I S O h
      go_wp2_with fail
      go_ret
      exact ⟨rfl, B4⟩
    · have h5 : (2 : Int) ≤ n := by omega
      clear hj2 hj9 I S O h
      go_wp2_with fail
      go_ret
      exact ⟨rfl, B4⟩
    · have h5 : (4 : Int) ≤ n := by omega
      clear hj2 hj9 I S O h
      go_wp2_with fail
      go_ret
      exact ⟨rfl, B4⟩
    · have h5 : (8 : Int) ≤ n := by omega
      clear hj2 hj9 I S O h
      go_wp2_with fail
      go_ret
      exact ⟨rfl, B4⟩
    · have h5 : (16 : Int) ≤ n := by omega
      clear hj2 hj9 I S O h
      go_wp2_with fail
      go_ret
      exact ⟨rfl, B4⟩
    · have h5 : (32 : Int) ≤ n := by omega
      clear hj2 hj9 I S O h
      go_wp2_with fail
      go_ret
      exact ⟨rfl, B4⟩
    · have h5 : (64 : Int) ≤ n := by omega
      clear hj2 hj9 I S O h
      go_wp2_with fail
      go_ret
      exact ⟨rfl, B4⟩
    · have h5 : (128 : Int) ≤ n := by omega
      clear hj2 hj9 I S O h
      go_wp2_with fail
      go_ret
      exact ⟨rfl, B4⟩
    · have h5 : (256 : Int) ≤ n := by omega
      clear hj2 hj9 I S O h
      go_wp2_with fail
      go_ret
      exact ⟨rfl, B4⟩
    · have h5 : (512 : Int) ≤ n := by omega
      clear hj2 hj9 I S O h
      go_wp2_with fail
      go_ret
      exact ⟨rfl, B4⟩

end Go.Proofs.Ytdeaikejfpmagaa
