/-
  The law FnHalvesPrime's walk.
-/
import Derived.Test.YtehpgcgdcoahnadDoorDrawP
import Derived.Test.YtehpgcgdcoahnadDoorPartB
import Derived.Test.YtehpgcgdcoahnadDoorGMul
import Derived.Test.YtehpgcgdcoahnadDoorGRow
namespace Go.Proofs.YtehpgcgdcoahnadDoor
open Go.RowKit

set_option maxRecDepth 100000 in
set_option maxHeartbeats 4000000 in
theorem lawHalvesPrime_any (H : ImPartMultipleL) (HV : ImPartHalves) (a : Option Addr) (len cap : Nat) (zs : List Int) (w : World) (r : IsRow .u8 w a len cap zs) (hLd : Laid w) :
    Calls Tryd.prog 3 #[.slice a len cap] w fun e w' => e = .returned (.bool true) ∧ Below w.heap.size w w' := by
  have hB := byt_of_row r
  clear r
  by_cases hl : 1048576 < len
  · have hl' : (1048576 : Int) < (len : Int) := by omega
    go_enter Tryd.func3, Tryd.ntmps3
    go_wp2
    go_ret
    exact ⟨rfl, Below.refl _ _⟩
  have hl' : decide ((1048576 : Int) < (len : Int)) = false := by simp; omega
  go_enter Tryd.func3, Tryd.ntmps3
  go_wp2_with fail
  refine (drawPartMultiple_any a len cap _ hB).mono ?_
  rintro e w1 ⟨b, t, n, k, hd, hk1, hk2, rfl, hb1⟩
  clear hl hB hd
  have Q1 := Box2.new w1 24 (.int .i64 t) (.int .i64 n)
  have B1 := hb1.alloc hb1.size (.cells #[.int .i64 t, .int .i64 n] 24)
  clear hb1
  rcases prt_or b t n k with h | ⟨b, T, B, k, m, rfl, rfl, rfl, rfl, h⟩
  · have HI := Lib.hid (H.1 b t n k h); have HS := Lib.hid (specPartMultiple_no b t n k h)
    clear h
    have c0 := Q1.cell0
    have c1 := Q1.cell1
    go_wp2_with fail
    refine (HI.out _ (hLd.later B1)).mono ?_
    rintro e w2 ⟨rfl, hb2⟩
    have Q2 := Q1.later hb2
    have B2 := B1.trans (hb2.mono B1.size)
    clear c0 c1 Q1 B1 hb2
    have c0 := Q2.cell0
    have c1 := Q2.cell1
    go_wp2_with fail
    refine (HS.out _).mono ?_
    rintro e w3 ⟨rfl, hb3⟩
    have Q3 := Q2.later hb3
    have B3 := B2.trans (hb3.mono B2.size)
    clear c0 c1 Q2 B2 hb3
    go_wp2_with fail
    go_ret
    exact ⟨rfl, B3⟩
  · by_cases hq : B ∣ prS b T B k (m / k)
    case neg =>
      have HI := Lib.hid (H.2.1 b T B k m h hq); have HS := Lib.hid (specPartMultiple_off b T B k m h hq)
      clear h hq
      have c0 := Q1.cell0
      have c1 := Q1.cell1
      go_wp2_with fail
      refine (HI.out _ (hLd.later B1)).mono ?_
      rintro e w2 ⟨rfl, hb2⟩
      have Q2 := Q1.later hb2
      have B2 := B1.trans (hb2.mono B1.size)
      clear c0 c1 Q1 B1 hb2
      have c0 := Q2.cell0
      have c1 := Q2.cell1
      go_wp2_with fail
      refine (HS.out _).mono ?_
      rintro e w3 ⟨rfl, hb3⟩
      have Q3 := Q2.later hb3
      have B3 := B2.trans (hb3.mono B2.size)
      clear c0 c1 Q2 B2 hb3
      go_wp2_with fail
      go_ret
      exact ⟨rfl, B3⟩
    case pos =>
      obtain ⟨q, hq⟩ := hq
      have HI := Lib.hid (H.2.2 b T B k m q h hq); have HS := Lib.hid (specPartMultiple_yes b T B k m q h hq)
      have HP := Lib.hid h; have HQ := Lib.hid hq
      clear h hq
      have c0 := Q1.cell0
      have c1 := Q1.cell1
      go_wp2_with fail
      refine (HI.out _ (hLd.later B1)).mono ?_
      rintro e w2 ⟨rfl, hb2⟩
      have Q2 := Q1.later hb2
      have B2 := B1.trans (hb2.mono B1.size)
      clear c0 c1 Q1 B1 hb2
      have c0 := Q2.cell0
      have c1 := Q2.cell1
      go_wp2_with fail
      refine (HS.out _).mono ?_
      rintro e w3 ⟨rfl, hb3⟩
      have Q3 := Q2.later hb3
      have B3 := B2.trans (hb3.mono B2.size)
      clear c0 c1 Q2 B2 hb3
      by_cases hk : k = 2
      · subst hk
        have HH := Lib.hid (HV.2 b T B m HP.out)
        have hB1 : decide (prS b T B 2 (m / 2) = B) = true := by
          have h1 := HP.out.mult HQ.out
          rw [HQ.out, show q = 1 by omega, Nat.mul_one]
          exact decide_eq_true rfl
        rw [hB1] at HH
        have c0 := Q3.cell0
        have c1 := Q3.cell1
        go_wp2_with fail
        refine (HH.out _).mono ?_
        rintro e w4 ⟨rfl, hb4⟩
        have Q4 := Q3.later hb4
        have B4 := B3.trans (hb4.mono B3.size)
        clear c0 c1 Q3 B3 hb4
        go_wp2_with fail
        go_ret
        exact ⟨rfl, B4⟩
      · have hk' : ((k : Int) == 2) = false := by simp; omega
        go_wp2_with fail
        go_ret
        exact ⟨rfl, B3⟩

end Go.Proofs.YtehpgcgdcoahnadDoor
