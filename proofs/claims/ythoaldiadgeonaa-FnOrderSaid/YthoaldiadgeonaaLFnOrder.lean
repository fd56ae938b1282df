/-
  The law FnOrder's walk.
-/
import Derived.Test.YthoaldiadgeonaaDrawO
import Derived.Test.YthoaldiadgeonaaGOrx
import Derived.Test.YthoaldiadgeonaaGOrd
import Derived.Test.YthoaldiadgeonaaLenLaw
import Derived.Test.YthoaldiadgeonaaTq
namespace Go.Proofs.Ythoaldiadgeonaa
set_option maxRecDepth 100000
open Go.RowKit

set_option maxRecDepth 100000 in
set_option maxHeartbeats 4000000 in
theorem lawOrder_any (HF : ImOf) (HU : ImUnits) (HM : ImMost) (a : Option Addr) (len cap : Nat) (zs : List Int) (w : World) (r : IsRow .u8 w a len cap zs) :
    Calls Tryq.prog 6 #[.slice a len cap] w fun e w' => e = .returned (.bool true) ∧ Below w.heap.size w w' := by
  have hB := byt_of_row r
  clear r
  by_cases hl : 1048576 < len
  · have hl' : (1048576 : Int) < (len : Int) := by omega
    go_enter Tryq.func6, Try.ntmps6
    go_wp2
    go_ret
    exact ⟨rfl, Below.refl _ _⟩
  have hl' : decide ((1048576 : Int) < (len : Int)) = false := by simp; omega
  go_enter Tryq.func6, Try.ntmps6
  go_wp2_with fail
  refine (drawOrderOf_any a len cap _ hB).mono ?_
  rintro e w1 ⟨b, n, rfl, B1⟩
  clear hl hB
  cases h : prmB b n with
  | false =>
    go_wp2_with fail
    refine (HF.1 b n h _).mono ?_
    rintro e w2 ⟨rfl, hb2⟩
    have B2 := B1.trans (hb2.mono B1.size)
    clear B1 hb2
    go_wp2_with fail
    refine (specOrderOf_no b n h _).mono ?_
    rintro e w3 ⟨rfl, hb3⟩
    have B3 := B2.trans (hb3.mono B2.size)
    clear B2 hb3
    go_wp2_with fail
    go_ret
    exact ⟨rfl, B3⟩
  | true =>
    obtain ⟨b, n, rfl, rfl, h3, h4, hn, hn2, hbn⟩ := prm_nat h
    obtain ⟨m, hm⟩ := ord_some hbn hn
    obtain ⟨q, hq⟩ := mst_some hn n
    have hmp := hm.pos
    have hml := hm.le (show 1 < n by omega)
    have hd := ord_dvd hbn hn hm
    have hmq := most_ord hbn hn hm hq
    have hqu := (hq.facts hn).1
    have hule := unC_le n n
    have I := HF.2 b n m h h4 hn hn2 hm
    have S := specOrderOf_yes b n m h h4 hn hn2 hm
    have U := HU.2 n hn hn2
    have M := HM.2 n q hn hn2 hq
    have hup := unC_pos hn
    have hqle := Nat.le_of_dvd hup hqu
    have L := fun w => implFracLengths_yes b 1 n 0 m w (tld_mk h3 h4 (by omega) hn2 (Nat.gcd_one_left n)) (by omega) (Nat.gcd_one_left n) hn2 h3 h4 hm
    have L' : Hid (∀ wx : World, Calls Tryq.prog 20 #[.int .i64 b, .agg #[.int .i64 1, .int .i64 n]] wx fun e w' => e = .returned (.tuple #[.int .i64 0, .int .i64 m, .bool true]) ∧ Below wx.heap.size wx w') := L
    have e1 : (unC n n : Int) % m = 0 := by have : unC n n % m = 0 := Nat.mod_eq_zero_of_dvd hd
                                            exact_mod_cast this
    have e2 : (q : Int) % m = 0 := by have : q % m = 0 := Nat.mod_eq_zero_of_dvd hmq
                                      exact_mod_cast this
    have hm0 : ¬ m = 0 := by omega
    generalize unC n n = u at e1 U hule
    clear L hm hq hd hmq hqu hup hqle
    go_wp2_with fail
    refine (I _).mono ?_
    rintro e w2 ⟨rfl, hb2⟩
    have B2 := B1.trans (hb2.mono B1.size)
    clear B1 hb2
    go_wp2_with fail
    refine (S _).mono ?_
    rintro e w3 ⟨rfl, hb3⟩
    have B3 := B2.trans (hb3.mono B2.size)
    clear B2 hb3
    go_wp2_with fail
    refine (U _).mono ?_
    rintro e w4 ⟨rfl, hb4⟩
    have B4 := B3.trans (hb4.mono B3.size)
    clear B3 hb4
    go_wp2_with fail
    refine (M _).mono ?_
    rintro e w5 ⟨rfl, hb5⟩
    have B5 := B4.trans (hb5.mono B4.size)
    clear B4 hb5
    go_wp2_with fail
    refine (L'.out _).mono ?_
    rintro e w6 ⟨rfl, hb6⟩
    have B6 := B5.trans (hb6.mono B5.size)
    clear B5 hb6 L'
    go_wp2_with fail
    go_ret
    exact ⟨rfl, B6⟩

end Go.Proofs.Ythoaldiadgeonaa
