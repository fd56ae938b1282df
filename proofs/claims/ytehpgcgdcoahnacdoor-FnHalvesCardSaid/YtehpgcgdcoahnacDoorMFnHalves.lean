/-
  The law FnHalves's walk.
-/
import Derived.Test.YtehpgcgdcoahnacDoorDrawP
import Derived.Test.YtehpgcgdcoahnacDoorPartB
import Derived.Test.YtehpgcgdcoahnacDoorGMul
import Derived.Test.YtehpgcgdcoahnacDoorGRow
namespace Go.Proofs.YtehpgcgdcoahnacDoor
open Go.RowKit

set_option maxRecDepth 100000 in
set_option maxHeartbeats 4000000 in
theorem lawHalves_any (H : ImPartHalves) (HM : ImPartMultipleL) (a : Option Addr) (len cap : Nat) (zs : List Int) (w : World) (r : IsRow .u8 w a len cap zs) (hLd : Laid w) :
    Calls Tryd.prog 6 #[.slice a len cap] w fun e w' => e = .returned (.bool true) ∧ Below w.heap.size w w' := by
  have hB := byt_of_row r
  clear r
  by_cases hl : 1048576 < len
  · have hl' : (1048576 : Int) < (len : Int) := by omega
    go_enter Tryd.func6, Tryd.ntmps6
    go_wp2
    go_ret
    exact ⟨rfl, Below.refl _ _⟩
  have hl' : decide ((1048576 : Int) < (len : Int)) = false := by simp; omega
  go_enter Tryd.func6, Tryd.ntmps6
  go_wp2_with fail
  refine (drawPartHalves_any a len cap _ hB).mono ?_
  rintro e w1 ⟨b, t, n, hd, rfl, hb1⟩
  clear hl hB hd
  have Q1 := Box2.new w1 30 (.int .i64 t) (.int .i64 n)
  have B1 := hb1.alloc hb1.size (.cells #[.int .i64 t, .int .i64 n] 30)
  clear hb1
  rcases prt_or b t n 2 with h | ⟨b, T, B, k, m, rfl, rfl, rfl, hk, h⟩
  · have HI := Lib.hid (H.1 b t n h); have HS := Lib.hid (specPartHalves_no b t n h)
    clear h
    have c0 := Q1.cell0
    have c1 := Q1.cell1
    go_wp2_with fail
    refine (HI.out _).mono ?_
    rintro e w2 ⟨rfl, hb2⟩
    have Q2 := Q1.later hb2
    have B2 := B1.trans (hb2.mono B1.size)
    clear c0 c1 Q1 B1 hb2
    have c0 := Q2.cell0
    have c1 := Q2.cell1
    go_wp2_with fail
    refine (HS.out _).mono ?_
    rintro e w3 ⟨rfl, hb3⟩
    have Q3 := Q2.later hb3
    have B3 := B2.trans (hb3.mono B2.size)
    clear c0 c1 Q2 B2 hb3
    go_wp2_with fail
    go_ret
    exact ⟨rfl, B3⟩
  · obtain rfl : k = 2 := by omega
    clear hk
    have HI := Lib.hid (H.2 b T B m h); have HS := Lib.hid (specPartHalves_yes b T B m h)
    by_cases hq : prS b T B 2 (m / 2) = B
    case neg =>
      rw [decide_eq_false hq] at HI HS
      clear h hq
      have c0 := Q1.cell0
      have c1 := Q1.cell1
      go_wp2_with fail
      refine (HI.out _).mono ?_
      rintro e w2 ⟨rfl, hb2⟩
      have Q2 := Q1.later hb2
      have B2 := B1.trans (hb2.mono B1.size)
      clear c0 c1 Q1 B1 hb2
      have c0 := Q2.cell0
      have c1 := Q2.cell1
      go_wp2_with fail
      refine (HS.out _).mono ?_
      rintro e w3 ⟨rfl, hb3⟩
      have Q3 := Q2.later hb3
      have B3 := B2.trans (hb3.mono B2.size)
      clear c0 c1 Q2 B2 hb3
      go_wp2_with fail
      go_ret
      exact ⟨rfl, B3⟩
    case pos =>
      rw [decide_eq_true hq] at HI HS
      have HMM := Lib.hid (HM.2.2 b T B 2 m 1 h (by rw [hq, Nat.mul_one]))
      clear h hq
      have c0 := Q1.cell0
      have c1 := Q1.cell1
      go_wp2_with fail
      refine (HI.out _).mono ?_
      rintro e w2 ⟨rfl, hb2⟩
      have Q2 := Q1.later hb2
      have B2 := B1.trans (hb2.mono B1.size)
      clear c0 c1 Q1 B1 hb2
      have c0 := Q2.cell0
      have c1 := Q2.cell1
      go_wp2_with fail
      refine (HS.out _).mono ?_
      rintro e w3 ⟨rfl, hb3⟩
      have Q3 := Q2.later hb3
      have B3 := B2.trans (hb3.mono B2.size)
      clear c0 c1 Q2 B2 hb3
      have c0 := Q3.cell0
      have c1 := Q3.cell1
      go_wp2_with fail
      refine (HMM.out _ (hLd.later B3)).mono ?_
      rintro e w4 ⟨rfl, hb4⟩
      have Q4 := Q3.later hb4
      have B4 := B3.trans (hb4.mono B3.size)
      clear c0 c1 Q3 B3 hb4
      go_wp2_with fail
      go_ret
      exact ⟨rfl, B4⟩

end Go.Proofs.YtehpgcgdcoahnacDoor
