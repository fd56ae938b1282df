/-
  The law FnUnits's walk.
-/
import Derived.Test.YtdeaikejfpmagaaDrawO
import Derived.Test.YtdeaikejfpmagaaOrdI
namespace Go.Proofs.Ytdeaikejfpmagaa
open Go.RowKit

set_option maxRecDepth 100000 in
set_option maxHeartbeats 4000000 in
theorem lawUnits_any (HU : ImUnits) (a : Option Addr) (len cap : Nat) (zs : List Int) (w : World) (r : IsRow .u8 w a len cap zs) :
    Calls Try.prog 3 #[.slice a len cap] w fun e w' => e = .returned (.bool true) ∧ Below w.heap.size w w' := by
  have hB := byt_of_row r
  clear r
  by_cases hl : 1048576 < len
  · have hl' : (1048576 : Int) < (len : Int) := by omega
    go_enter Try.func3, Try.ntmps3
    go_wp2
    go_ret
    exact ⟨rfl, Below.refl _ _⟩
  have hl' : decide ((1048576 : Int) < (len : Int)) = false := by simp; omega
  go_enter Try.func3, Try.ntmps3
  go_wp2_with fail
  refine (drawOrderUnits_any a len cap _ hB).mono ?_
  rintro e w1 ⟨n, rfl, B1⟩
  clear hl hB
  by_cases hn : 2 ≤ n ∧ n ≤ 1000
  case neg =>
    go_wp2_with fail
    refine (HU.1 n hn _).mono ?_
    rintro e w2 ⟨rfl, hb2⟩
    have B2 := B1.trans (hb2.mono B1.size)
    clear B1 hb2
    go_wp2_with fail
    refine (specOrderUnits_no n hn _).mono ?_
    rintro e w3 ⟨rfl, hb3⟩
    have B3 := B2.trans (hb3.mono B2.size)
    clear B2 hb3
    go_wp2_with fail
    go_ret
    exact ⟨rfl, B3⟩
  case pos =>
    obtain ⟨n, rfl⟩ := Int.eq_ofNat_of_zero_le (show 0 ≤ n by omega)
    have h2 : 2 ≤ n := by omega
    have h3 : n ≤ 1000 := by omega
    have hp := units_prime h2
    have hev : n = 2 ∨ (unC n n : Int) % 2 = 0 := by
      rcases Nat.lt_or_ge 2 n with h | h
      · have := units_even (show 3 ≤ n by omega)
        right; omega
      · left; omega
    have hle := unC_le n n
    have I := HU.2 n h2 h3
    have S := specOrderUnits_yes n h2 h3
    obtain ⟨u, hu⟩ : ∃ u, unC n n = u := ⟨_, rfl⟩
    rw [hu] at hp hev hle I S
    clear hu
    have e1 : ((u : Int) == (n : Int) - 1) = primeB n := by
      cases h : primeB n with
      | true => have := hp.2 h; simp; omega
      | false =>
        have : u ≠ n - 1 := fun e => by rw [hp.1 e] at h; cases h
        simp; omega
    have HE := Lib.hid e1
    clear hp e1
    go_wp2_with fail
    refine (I _).mono ?_
    rintro e w2 ⟨rfl, hb2⟩
    have B2 := B1.trans (hb2.mono B1.size)
    clear B1 hb2
    go_wp2_with fail
    refine (S _).mono ?_
    rintro e w3 ⟨rfl, hb3⟩
    have B3 := B2.trans (hb3.mono B2.size)
    clear B2 hb3
    go_wp2_with fail
    refine (prime_any n _ h3).mono ?_
    rintro e w4 ⟨rfl, rfl⟩
    rw [← HE.out]
    cases hq : ((u : Int) == (n : Int) - 1)
    all_goals
      rcases hev with rfl | hev
      · go_wp2_with fail
        go_ret
        exact ⟨rfl, B3⟩
      · by_cases h22 : n = 2
        · subst h22
          go_wp2_with fail
          go_ret
          exact ⟨rfl, B3⟩
        · have h22' : ((n : Int) == 2) = false := by simp; omega
          go_wp2_with fail
          go_ret
          exact ⟨rfl, B3⟩

end Go.Proofs.Ytdeaikejfpmagaa
