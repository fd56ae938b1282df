/-
  The law FnCountFull's walk.
-/
import Derived.Test.YtamcpoadpkgogadDrawC
import Derived.Test.YtamcpoadpkgogadCntB
import Derived.Test.YtamcpoadpkgogadEq
namespace Go.Proofs.Ytamcpoadpkgogad
open Go.RowKit

set_option maxRecDepth 100000 in
set_option maxHeartbeats 4000000 in
theorem lawCountFull_any (H : ImCountFull) (HD : ImCountDigits) (a : Option Addr) (len cap : Nat) (zs : List Int) (w : World) (r : IsRow .u8 w a len cap zs) :
    Calls Try.prog 3 #[.slice a len cap] w fun e w' => e = .returned (.bool true) ∧ Below w.heap.size w w' := by
  have hB := byt_of_row r
  clear r
  by_cases hl : 1048576 < len
  · have hl' : (1048576 : Int) < (len : Int) := by omega
    go_enter Try.func3, Try.ntmps3
    go_wp2
    go_ret
    exact ⟨rfl, Below.refl _ _⟩
  have hl' : decide ((1048576 : Int) < (len : Int)) = false := by simp; omega
  go_enter Try.func3, Try.ntmps3
  go_wp2_with fail
  refine (drawCountFull_any a len cap _ hB).mono ?_
  rintro e w1 ⟨b, p, d, rfl, B1⟩
  clear hl hB
  rcases ful_or b p d with h | ⟨b, p, d, rfl, rfl, rfl, h1, h2, h3, h4⟩
  · have HI := Lib.hid (H.1 b p d h); have HS := Lib.hid (specCountFull_no b p d h)
    clear h
    go_wp2_with fail
    refine (HI.out _).mono ?_
    rintro e w2 ⟨rfl, hb2⟩
    have B2 := B1.trans (hb2.mono B1.size)
    clear B1 hb2
    go_wp2_with fail
    refine (HS.out _).mono ?_
    rintro e w3 ⟨rfl, hb3⟩
    have B3 := B2.trans (hb3.mono B2.size)
    clear B2 hb3
    go_wp2_with fail
    go_ret
    exact ⟨rfl, B3⟩
  · obtain ⟨b', p', e1, e2, g1, g2, g3, g4, g5⟩ := prm_nat h2
    obtain rfl : b = b' := by omega
    obtain rfl : p = p' := by omega
    have hf : Frd b 1 p 0 (p - 1) := ⟨g1, g2, by omega, g4, Nat.gcd_one_left p, h3⟩
    have HI := Lib.hid (H.2 b p d h1 h2 h3 h4); have HS := Lib.hid (specCountFull_yes b p d h1 h2 h3 h4); have HC := Lib.hid (HD.2 b 1 p 0 (p - 1) hf)
    have hval : dgC (rdg b 1 p 0) d (p - 1) = fulC b p d p := full_cnt g3 h3
    have hcnt := ful_cnt g1 g3 g5 h4
    have hgC : (cntL b (rdg b 1 p 0) (p - 1))[d]?.getD 0 = (fulC b p d p : Int) := by rw [cntL_get h4, hval]
    have hlC := cntL_len b (rdg b 1 p 0) (p - 1)
    have hd0 : (0 : Int) ≤ (d : Int) := by omega
    have hd1 : (d : Int) < (b : Int) := by omega
    have hb0 : ¬ (b : Int) = 0 := by omega
    have hb0' : ¬ b = 0 := by omega
    have t1 : ((p : Int) - 1).tdiv (b : Int) = (((p - 1) / b : Nat) : Int) := by
      rw [Int.tdiv_eq_ediv_of_nonneg (by omega), show (p : Int) - 1 = ((p - 1 : Nat) : Int) by omega]
      simp
    have hq : (p - 1) / b ≤ 1000 := Nat.le_trans (Nat.div_le_self _ _) (by omega)
    clear hf h1 h2 h3 hval e1 e2
    generalize cntL b (rdg b 1 p 0) (p - 1) = L at *
    generalize fulC b p d p = F at *
    generalize (p - 1) / b = q at *
    have t2 : wrap64 (q : Int) = (q : Int) := IntWalk.wrap64_in _ (by omega)
    have HGC := Lib.hid hgC; have HLC := Lib.hid hlC
    clear hgC hlC
    go_wp2_with fail
    refine (HI.out _).mono ?_
    rintro e w2 ⟨rfl, hb2⟩
    have B2 := B1.trans (hb2.mono B1.size)
    clear B1 hb2
    go_wp2_with fail
    refine (HS.out _).mono ?_
    rintro e w3 ⟨rfl, hb3⟩
    have B3 := B2.trans (hb3.mono B2.size)
    clear B2 hb3
    go_wp2_with fail
    refine (HC.out _).mono ?_
    rintro e w4 ⟨v, rfl, lv4, hb4⟩
    have B4 := B3.trans (hb4.mono B3.size)
    clear B3 hb4
    obtain ⟨g, o, c, rfl, _, _, _, _⟩ := slc_some lv4 (by rw [HLC.out]; omega)
    rw [HLC.out] at lv4 ⊢
    have kc := Slc.cell HLC.out lv4 d h4
    rw [HGC.out] at kc
    rcases hcnt with rfl | rfl
    · go_wp2_with fail
      go_ret
      exact ⟨rfl, B4⟩
    · have j1 : (((q + 1 : Nat) : Int) == (q : Int)) = false := by simp; omega
      have j2 : (((q : Int) + 1) == (q : Int)) = false := by simp; omega
      go_wp2_with fail
      go_ret
      exact ⟨rfl, B4⟩

end Go.Proofs.Ytamcpoadpkgogad
