/-
  The law FnMultiple's walk.
-/
import Derived.Test.YtehpgcgdcoahnacDoorDrawP
import Derived.Test.YtehpgcgdcoahnacDoorPartB
import Derived.Test.YtehpgcgdcoahnacDoorGMul
import Derived.Test.YtehpgcgdcoahnacDoorGRow
import Derived.Test.YtehpgcgdcoahnacDoorTotal
namespace Go.Proofs.YtehpgcgdcoahnacDoor
open Go.RowKit

set_option maxRecDepth 100000 in
set_option maxHeartbeats 4000000 in
theorem lawMultiple_any (H : ImPartMultipleL) (HR : ImPartRests) (a : Option Addr) (len cap : Nat) (zs : List Int) (w : World) (r : IsRow .u8 w a len cap zs) (hLd : Laid w) :
    Calls Tryd.prog 4 #[.slice a len cap] w fun e w' => e = .returned (.bool true) ∧ Below w.heap.size w w' := by
  have hB := byt_of_row r
  clear r
  by_cases hl : 1048576 < len
  · have hl' : (1048576 : Int) < (len : Int) := by omega
    go_enter Tryd.func4, Tryd.ntmps4
    go_wp2
    go_ret
    exact ⟨rfl, Below.refl _ _⟩
  have hl' : decide ((1048576 : Int) < (len : Int)) = false := by simp; omega
  go_enter Tryd.func4, Tryd.ntmps4
  go_wp2_with fail
  refine (drawPartMultiple_any a len cap _ hB).mono ?_
  rintro e w1 ⟨b, t, n, k, hd, hk1, hk2, rfl, hb1⟩
  clear hl hB hd
  have Q1 := Box2.new w1 30 (.int .i64 t) (.int .i64 n)
  have B1 := hb1.alloc hb1.size (.cells #[.int .i64 t, .int .i64 n] 30)
  clear hb1
  rcases prt_or b t n k with h | ⟨b, T, B, k, m, rfl, rfl, rfl, rfl, h⟩
  · have HI := Lib.hid (H.1 b t n k h); have HS := Lib.hid (specPartMultiple_no b t n k h)
    clear h
    have c0 := Q1.cell0
    have c1 := Q1.cell1
    go_wp2_with fail
    refine (HI.out _ (hLd.later B1)).mono ?_
    rintro e w2 ⟨rfl, hb2⟩
    have Q2 := Q1.later hb2
    have B2 := B1.trans (hb2.mono B1.size)
    clear c0 c1 Q1 B1 hb2
    have c0 := Q2.cell0
    have c1 := Q2.cell1
    go_wp2_with fail
    refine (HS.out _).mono ?_
    rintro e w3 ⟨rfl, hb3⟩
    have Q3 := Q2.later hb3
    have B3 := B2.trans (hb3.mono B2.size)
    clear c0 c1 Q2 B2 hb3
    go_wp2_with fail
    go_ret
    exact ⟨rfl, B3⟩
  · by_cases hq : B ∣ prS b T B k (m / k)
    case neg =>
      have HI := Lib.hid (H.2.1 b T B k m h hq); have HS := Lib.hid (specPartMultiple_off b T B k m h hq)
      clear h hq
      have c0 := Q1.cell0
      have c1 := Q1.cell1
      go_wp2_with fail
      refine (HI.out _ (hLd.later B1)).mono ?_
      rintro e w2 ⟨rfl, hb2⟩
      have Q2 := Q1.later hb2
      have B2 := B1.trans (hb2.mono B1.size)
      clear c0 c1 Q1 B1 hb2
      have c0 := Q2.cell0
      have c1 := Q2.cell1
      go_wp2_with fail
      refine (HS.out _).mono ?_
      rintro e w3 ⟨rfl, hb3⟩
      have Q3 := Q2.later hb3
      have B3 := B2.trans (hb3.mono B2.size)
      clear c0 c1 Q2 B2 hb3
      go_wp2_with fail
      go_ret
      exact ⟨rfl, B3⟩
    case pos =>
      obtain ⟨q, hq⟩ := hq
      have HI := Lib.hid (H.2.2 b T B k m q h hq); have HS := Lib.hid (specPartMultiple_yes b T B k m q h hq)
      have hm := h.mult hq
      have hd := h.div
      have hBm := h.bot
      have HRR := Lib.hid (HR.2 b T B k m h)
      have HP := Lib.hid h; have HQ := Lib.hid hq
      clear h hq
      have c0 := Q1.cell0
      have c1 := Q1.cell1
      go_wp2_with fail
      refine (HI.out _ (hLd.later B1)).mono ?_
      rintro e w2 ⟨rfl, hb2⟩
      have Q2 := Q1.later hb2
      have B2 := B1.trans (hb2.mono B1.size)
      clear c0 c1 Q1 B1 hb2
      have c0 := Q2.cell0
      have c1 := Q2.cell1
      go_wp2_with fail
      refine (HS.out _).mono ?_
      rintro e w3 ⟨rfl, hb3⟩
      have Q3 := Q2.later hb3
      have B3 := B2.trans (hb3.mono B2.size)
      clear c0 c1 Q2 B2 hb3
      have c0 := Q3.cell0
      have c1 := Q3.cell1
      go_wp2_with fail
      refine (HRR.out _).mono ?_
      rintro e w4 ⟨v, rfl, hv4, hb4⟩
      have Q4 := Q3.later hb4
      have B4 := B3.trans (hb4.mono B3.size)
      clear c0 c1 Q3 B3 hb4
      have c0 := Q4.cell0
      have c1 := Q4.cell1
      have TT : Hid (∀ nn, Calls Tryd.prog 16 #[v] (w4.drewN nn) fun e w' => e = .returned (.int .i64 (prS b T B k (m / k))) ∧ w' = w4.drewN nn) := fun nn =>
        (total_any _ b T B k (m / k) v (w4.drewN nn) hv4 (by omega) (by omega) (fun i => by have := HP.out.rlt i; omega)).mono fun e w' h => ⟨h.1, h.2.symm⟩
      have i1 : (1 : Int) ≤ (q : Int) := by omega
      have i2 : (q : Int) < (k : Int) := by omega
      have i3 : (q : Int) * B = (prS b T B k (m / k) : Nat) := by rw [HQ.out, Nat.mul_comm]; simp
      have i4 : prS b T B k (m / k) ≤ k * 1000 := sumN_le k fun i _ => by have := HP.out.rlt (i * (m / k)); omega
      have i5 : IntKind.i64.wrap ((q : Int) * B) = (q : Int) * B := by rw [i3]; exact IntWalk.i64_in _ (by omega)
      have i6 : ((q : Int) * B == (prS b T B k (m / k) : Nat)) = true := by rw [i3]; simp
      clear i3 i4
      go_wp2_with fail
      go_quiet (exact Calls.quiet_of_same (TT.out _))
      go_wp2
      go_ret
      exact ⟨rfl, below_drewN B4 _⟩

end Go.Proofs.YtehpgcgdcoahnacDoor
