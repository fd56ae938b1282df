/-
  The law FnPartPrime's walk.
-/
import Derived.Test.YtehpgcgdcoahnacDoorDrawP
import Derived.Test.YtehpgcgdcoahnacDoorPartB
import Derived.Test.YtehpgcgdcoahnacDoorGMul
import Derived.Test.YtehpgcgdcoahnacDoorGRow
import Derived.Test.YtehpgcgdcoahnacDoorGOrx
namespace Go.Proofs.YtehpgcgdcoahnacDoor
open Go.RowKit

set_option maxRecDepth 100000 in
set_option maxHeartbeats 4000000 in
theorem lawPartPrime_any (H : ImPartList) (HM : ImPartMultipleL) (a : Option Addr) (len cap : Nat) (zs : List Int) (w : World) (r : IsRow .u8 w a len cap zs) (hLd : Laid w) :
    Calls Tryd.prog 5 #[.slice a len cap] w fun e w' => e = .returned (.bool true) ∧ Below w.heap.size w w' := by
  have hB := byt_of_row r
  clear r
  by_cases hl : 1048576 < len
  · have hl' : (1048576 : Int) < (len : Int) := by omega
    go_enter Tryd.func5, Tryd.ntmps5
    go_wp2
    go_ret
    exact ⟨rfl, Below.refl _ _⟩
  have hl' : decide ((1048576 : Int) < (len : Int)) = false := by simp; omega
  go_enter Tryd.func5, Tryd.ntmps5
  go_wp2_with fail
  refine (drawPartList_any a len cap _ hB).mono ?_
  rintro e w1 ⟨b, t, n, k, hd, hk1, hk2, rfl, hb1⟩
  clear hl hB hd
  have Q1 := Box2.new w1 30 (.int .i64 t) (.int .i64 n)
  have B1 := hb1.alloc hb1.size (.cells #[.int .i64 t, .int .i64 n] 30)
  clear hb1
  rcases prt_or b t n k with h | ⟨b, T, B, k, m, rfl, rfl, rfl, rfl, h⟩
  · have HI := Lib.hid (H.1 b t n k h); have HS := Lib.hid (specPartList_no b t n k h)
    clear h
    have c0 := Q1.cell0
    have c1 := Q1.cell1
    go_wp2_with fail
    refine (HI.out _).mono ?_
    rintro e w2 ⟨v, rfl, rv2, hb2⟩
    have Q2 := Q1.later hb2
    have B2 := B1.trans (hb2.mono B1.size)
    clear c0 c1 Q1 B1 hb2
    have lv2 := rv2.s0
    clear rv2
    have c0 := Q2.cell0
    have c1 := Q2.cell1
    go_wp2_with fail
    refine (HS.out _).mono ?_
    rintro e w3 ⟨u, rfl, ru3, hb3⟩
    have Q3 := Q2.later hb3
    have B3 := B2.trans (hb3.mono B2.size)
    have lv3 := lv2.later hb3
    clear c0 c1 Q2 B2 hb3 lv2
    have lu3 := ru3.s0
    clear ru3
    have c0 := Q3.cell0
    have c1 := Q3.cell1
    go_wp2_with fail
    refine (sameRows_all _ _ _ _ [] _ lv3 lu3 (by simp) (by simp)).mono ?_
    rintro e w4 ⟨rfl, hb4⟩
    have Q4 := Q3.later hb4
    have B4 := B3.trans (hb4.mono B3.size)
    have lv4 := lv3.later hb4
    have lu4 := lu3.later hb4
    clear c0 c1 Q3 B3 hb4 lv3 lu3
    have c0 := Q4.cell0
    have c1 := Q4.cell1
    go_wp2_with fail
    refine (sameRows_all _ _ _ _ [] _ lv4 lu4 (by simp) (by simp)).mono ?_
    rintro e w5 ⟨rfl, hb5⟩
    have Q5 := Q4.later hb5
    have B5 := B4.trans (hb5.mono B4.size)
    clear c0 c1 Q4 B4 hb5
    go_wp2_with fail
    go_ret
    exact ⟨rfl, B5⟩
  · have HI := Lib.hid (H.2 b T B k m h); have HS := Lib.hid (specPartList_yes b T B k m h)
    obtain ⟨hd1, hd2, hd3, hd4, hd5⟩ := h.div
    have hk1' := h.k1
    have hjm : m / k ≤ m := Nat.div_le_self _ _
    have hl1 : (ptsL b T B k (m / k)).length ≤ 1000 := by rw [ptsL_len]; omega
    have hl2 : ∀ xs ∈ ptsL b T B k (m / k), xs.length ≤ 1000 := fun xs hx => by rw [ptsL_lens hx]; omega
    have hBm := h.bot
    obtain ⟨x, p, hM, hp⟩ : ∃ (x : Int) (p : Bool), GivesIL 13 #[.int .i64 b, .agg #[.int .i64 T, .int .i64 B], .int .i64 k] x p ∧ (1 < k → primeB B = true → p = true) := by
      by_cases hq : B ∣ prS b T B k (m / k)
      · obtain ⟨q, hq⟩ := hq
        exact ⟨q, true, HM.2.2 b T B k m q h hq, fun _ _ => rfl⟩
      · exact ⟨0, false, HM.2.1 b T B k m h hq, fun h1 h2 => absurd (h.prime h2 h1) hq⟩
    have HMM := Lib.hid hM; have HPP := Lib.hid hp
    clear h hd1 hM hp
    have c0 := Q1.cell0
    have c1 := Q1.cell1
    go_wp2_with fail
    refine (HI.out _).mono ?_
    rintro e w2 ⟨v, rfl, rv2, hb2⟩
    have Q2 := Q1.later hb2
    have B2 := B1.trans (hb2.mono B1.size)
    clear c0 c1 Q1 B1 hb2
    have lv2 := rv2.s0
    clear rv2
    have c0 := Q2.cell0
    have c1 := Q2.cell1
    go_wp2_with fail
    refine (HS.out _).mono ?_
    rintro e w3 ⟨u, rfl, ru3, hb3⟩
    have Q3 := Q2.later hb3
    have B3 := B2.trans (hb3.mono B2.size)
    have lv3 := lv2.later hb3
    clear c0 c1 Q2 B2 hb3 lv2
    have lu3 := ru3.s0
    clear ru3
    have c0 := Q3.cell0
    have c1 := Q3.cell1
    go_wp2_with fail
    refine (sameRows_all _ _ _ _ (ptsL b T B k (m / k)) _ lv3 lu3 hl1 hl2).mono ?_
    rintro e w4 ⟨rfl, hb4⟩
    have Q4 := Q3.later hb4
    have B4 := B3.trans (hb4.mono B3.size)
    clear c0 c1 Q3 B3 hb4
    clear lv3 lu3 hl1 hl2 HI HS
    have c0 := Q4.cell0
    have c1 := Q4.cell1
    go_wp2_with fail
    refine (HMM.out _ (hLd.later B4)).mono ?_
    rintro e w5 ⟨rfl, hb5⟩
    have Q5 := Q4.later hb5
    have B5 := B4.trans (hb5.mono B4.size)
    clear c0 c1 Q4 B4 hb5
    have c0 := Q5.cell0
    have c1 := Q5.cell1
    by_cases hk : k = 1
    · subst hk
      go_wp2_with fail
      go_ret
      exact ⟨rfl, B5⟩
    · have hk' : ((k : Int) == 1) = false := by simp; omega
      go_wp2_with fail
      refine (prime_any B _ hBm).mono ?_
      rintro e w6 ⟨rfl, rfl⟩
      cases hpr : primeB B with
      | false =>
        go_wp2_with fail
        go_ret
        exact ⟨rfl, B5⟩
      | true =>
        obtain rfl := HPP.out (by omega) hpr
        go_wp2_with fail
        go_ret
        exact ⟨rfl, B5⟩

end Go.Proofs.YtehpgcgdcoahnacDoor
