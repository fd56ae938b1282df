/-
  The law FnMost's walk.
-/
import Derived.Test.YthoaldiadgeonaaDrawO
import Derived.Test.YthoaldiadgeonaaGOrx
import Derived.Test.YthoaldiadgeonaaOrdZ
import Derived.Test.YthoaldiadgeonaaTq
namespace Go.Proofs.Ythoaldiadgeonaa
set_option maxRecDepth 100000
open Go.RowKit

set_option maxRecDepth 100000 in
set_option maxHeartbeats 4000000 in
theorem lawMost_any (HM : ImMost) (HU : ImUnits) (a : Option Addr) (len cap : Nat) (zs : List Int) (w : World) (r : IsRow .u8 w a len cap zs) :
    Calls Tryq.prog 3 #[.slice a len cap] w fun e w' => e = .returned (.bool true) ∧ Below w.heap.size w w' := by
  have hB := byt_of_row r
  clear r
  by_cases hl : 1048576 < len
  · have hl' : (1048576 : Int) < (len : Int) := by omega
    go_enter Tryq.func3, Try.ntmps3
    go_wp2
    go_ret
    exact ⟨rfl, Below.refl _ _⟩
  have hl' : decide ((1048576 : Int) < (len : Int)) = false := by simp; omega
  go_enter Tryq.func3, Try.ntmps3
  go_wp2_with fail
  refine (drawOrderMost_any a len cap _ hB).mono ?_
  rintro e w1 ⟨n, rfl, B1⟩
  clear hl hB
  by_cases hn : 2 ≤ n ∧ n ≤ 1000
  case neg =>
    go_wp2_with fail
    refine (HM.1 n hn _).mono ?_
    rintro e w2 ⟨rfl, hb2⟩
    have B2 := B1.trans (hb2.mono B1.size)
    clear B1 hb2
    go_wp2_with fail
    refine (specOrderMost_no n hn _).mono ?_
    rintro e w3 ⟨rfl, hb3⟩
    have B3 := B2.trans (hb3.mono B2.size)
    clear B2 hb3
    go_wp2_with fail
    go_ret
    exact ⟨rfl, B3⟩
  case pos =>
    obtain ⟨n, rfl⟩ := Int.eq_ofNat_of_zero_le (show 0 ≤ n by omega)
    have h2 : 2 ≤ n := by omega
    have h3 : n ≤ 1000 := by omega
    obtain ⟨q, hq⟩ := mst_some h2 n
    have hqu := (hq.facts h2).1
    have hup := unC_pos h2
    have hqle := Nat.le_of_dvd hup hqu
    have hqp : 0 < q := Nat.pos_of_ne_zero fun e => by rw [e, Nat.zero_dvd] at hqu; omega
    have hule := unC_le n n
    have hpr : primeB n = true → q = unC n n := fun hp => most_prime hp hq
    have I := HM.2 n q h2 h3 hq
    have S := specOrderMost_yes n q h2 h3 hq
    have U := HU.2 n h2 h3
    have e1 : (unC n n : Int) % q = 0 := by have : unC n n % q = 0 := Nat.mod_eq_zero_of_dvd hqu
                                            exact_mod_cast this
    have hq0 : ¬ q = 0 := by omega
    generalize unC n n = u at e1 U hule hpr hqle
    clear hq hqu hup
    go_wp2_with fail
    refine (I _).mono ?_
    rintro e w2 ⟨rfl, hb2⟩
    have B2 := B1.trans (hb2.mono B1.size)
    clear B1 hb2
    go_wp2_with fail
    refine (S _).mono ?_
    rintro e w3 ⟨rfl, hb3⟩
    have B3 := B2.trans (hb3.mono B2.size)
    clear B2 hb3
    go_wp2_with fail
    refine (U _).mono ?_
    rintro e w4 ⟨rfl, hb4⟩
    have B4 := B3.trans (hb4.mono B3.size)
    clear B3 hb4
    have HP := Lib.hid hpr
    clear hpr
    go_wp2_with fail
    refine (prime_any n _ h3).mono ?_
    rintro e w5 ⟨rfl, rfl⟩
    cases hp : primeB n with
    | false =>
      go_wp2_with fail
      go_ret
      exact ⟨rfl, B4⟩
    | true =>
      obtain rfl := HP.out hp
      go_wp2_with fail
      go_ret
      exact ⟨rfl, B4⟩

end Go.Proofs.Ythoaldiadgeonaa
