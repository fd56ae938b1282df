/-
  The law FnMany's walk.
-/
import Derived.Test.YtfhhfnkgdanakaaDrawO
import Derived.Test.YtfhhfnkgdanakaaOrdI
import Derived.Test.YtfhhfnkgdanakaaRndsL
import Derived.Test.YtfhhfnkgdanakaaOrdP
namespace Go.Proofs.Ytfhhfnkgdanakaa
open Go.RowKit

set_option maxRecDepth 100000 in
set_option maxHeartbeats 4000000 in
theorem lawMany_any (HF : ImOf) (HU : ImUnits) (a : Option Addr) (len cap : Nat) (zs : List Int) (w : World) (r : IsRow .u8 w a len cap zs) :
    Calls Try.prog 4 #[.slice a len cap] w fun e w' => e = .returned (.bool true) ∧ Below w.heap.size w w' := by
  have hB := byt_of_row r
  clear r
  by_cases hl : 1048576 < len
  · have hl' : (1048576 : Int) < (len : Int) := by omega
    go_enter Try.func4, Try.ntmps4
    go_wp2
    go_ret
    exact ⟨rfl, Below.refl _ _⟩
  have hl' : decide ((1048576 : Int) < (len : Int)) = false := by simp; omega
  go_enter Try.func4, Try.ntmps4
  go_wp2_with fail
  refine (drawRestMany_any a len cap _ hB).mono ?_
  rintro e w1 ⟨b, n, rfl, B1⟩
  clear hl hB
  cases h : prmB b n with
  | false =>
    obtain ⟨HS, HI⟩ := many_no b n h
    go_wp2_with fail
    refine (HI _).mono ?_
    rintro e w2 ⟨rfl, hb2⟩
    have B2 := B1.trans (hb2.mono B1.size)
    clear B1 hb2
    go_wp2_with fail
    refine (HS _).mono ?_
    rintro e w3 ⟨rfl, hb3⟩
    have B3 := B2.trans (hb3.mono B2.size)
    clear B2 hb3
    go_wp2_with fail
    go_ret
    exact ⟨rfl, B3⟩
  | true =>
    obtain ⟨b, n, rfl, rfl, h3, h4, hn, hn2, hbn⟩ := prm_nat h
    obtain ⟨m, hm⟩ := ord_some hbn hn
    obtain ⟨L, hL⟩ := rnds_some hbn n (Nat.le_refl _)
    have hbd := (hL.bound (Nat.le_refl _)).1
    have hun := rnds_units hbn hn hm hL
    have hlp := hL.some hn hn
    have hm0 : (L[0]?.getD []).length = m := by
      rw [List.getElem?_eq_getElem hlp]
      exact hun.2 _ (List.getElem_mem hlp)
    obtain ⟨HS, HI⟩ := many_at b n L.length m L h h3 h4 hn hn2 hbn hL rfl hm0
    have F := HF.2 b n m h h4 hn hn2 hm
    have U := HU.2 n hn hn2
    have hml := hm.le (show 1 < n by omega)
    obtain ⟨l, hl⟩ : ∃ l, L.length = l := ⟨_, rfl⟩
    have hlm : (l : Int) * m = (unC n n : Nat) := by rw [← hun.1, hl]; simp
    have hule := unC_le n n
    rw [hl] at hbd HS HI
    generalize unC n n = u at hlm hule U
    clear hL hm hun hl
    go_wp2_with fail
    refine (HI _).mono ?_
    rintro e w2 ⟨rfl, hb2⟩
    have B2 := B1.trans (hb2.mono B1.size)
    clear B1 hb2
    go_wp2_with fail
    refine (HS _).mono ?_
    rintro e w3 ⟨rfl, hb3⟩
    have B3 := B2.trans (hb3.mono B2.size)
    clear B2 hb3
    go_wp2_with fail
    refine (F _).mono ?_
    rintro e w4 ⟨rfl, hb4⟩
    have B4 := B3.trans (hb4.mono B3.size)
    clear B3 hb4
    go_wp2_with fail
    refine (U _).mono ?_
    rintro e w5 ⟨rfl, hb5⟩
    have B5 := B4.trans (hb5.mono B4.size)
    clear B4 hb5
    have m1 : 0 ≤ (l : Int) * m := Int.mul_nonneg (by omega) (by omega)
    have m2 : (l : Int) * m ≤ 1000 := by omega
    go_wp2_with fail
    go_ret
    exact ⟨rfl, B5⟩

end Go.Proofs.Ytfhhfnkgdanakaa
