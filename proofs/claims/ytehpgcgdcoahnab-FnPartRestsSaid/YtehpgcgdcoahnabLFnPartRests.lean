/-
  The law FnPartRests's walk.
-/
import Derived.Test.YtehpgcgdcoahnabDrawP
import Derived.Test.YtehpgcgdcoahnabPartB
import Derived.Test.YtehpgcgdcoahnabGRow
import Derived.Test.YtehpgcgdcoahnabRestL
namespace Go.Proofs.Ytehpgcgdcoahnab
open Go.RowKit

set_option maxRecDepth 100000 in
set_option maxHeartbeats 4000000 in
theorem lawPartRests_any (H : ImPartRests) (a : Option Addr) (len cap : Nat) (zs : List Int) (w : World) (r : IsRow .u8 w a len cap zs) :
    Calls Try.prog 4 #[.slice a len cap] w fun e w' => e = .returned (.bool true) ∧ Below w.heap.size w w' := by
  have hB := byt_of_row r
  clear r
  by_cases hl : 1048576 < len
  · have hl' : (1048576 : Int) < (len : Int) := by omega
    go_enter Try.func4, Try.ntmps4
    go_wp2
    go_ret
    exact ⟨rfl, Below.refl _ _⟩
  have hl' : decide ((1048576 : Int) < (len : Int)) = false := by simp; omega
  go_enter Try.func4, Try.ntmps4
  go_wp2_with fail
  refine (drawPartRests_any a len cap _ hB).mono ?_
  rintro e w1 ⟨b, t, n, k, hd, hk1, hk2, rfl, hb1⟩
  clear hl hB hd
  have Q1 := Box2.new w1 24 (.int .i64 t) (.int .i64 n)
  have B1 := hb1.alloc hb1.size (.cells #[.int .i64 t, .int .i64 n] 24)
  clear hb1
  rcases prt_or b t n k with h | ⟨b, T, B, k, m, rfl, rfl, rfl, rfl, h⟩
  · have HI := Lib.hid (H.1 b t n k h); have HS := Lib.hid (specPartRests_no b t n k h)
    clear h
    have c0 := Q1.cell0
    have c1 := Q1.cell1
    go_wp2_with fail
    refine (HI.out _).mono ?_
    rintro e w2 ⟨v, rfl, lv2, hb2⟩
    have Q2 := Q1.later hb2
    have B2 := B1.trans (hb2.mono B1.size)
    clear c0 c1 Q1 B1 hb2
    have c0 := Q2.cell0
    have c1 := Q2.cell1
    go_wp2_with fail
    refine (HS.out _).mono ?_
    rintro e w3 ⟨u, rfl, lu3, hb3⟩
    have Q3 := Q2.later hb3
    have B3 := B2.trans (hb3.mono B2.size)
    have lv3 := lv2.later hb3
    clear c0 c1 Q2 B2 hb3 lv2
    have c0 := Q3.cell0
    have c1 := Q3.cell1
    go_wp2_with fail
    refine (sameInts_any _ _ _ _ ([] : List Int) ([] : List Int) _ lv3 lu3 (by simp) (by simp)).mono ?_
    rintro e w4 ⟨rfl, hb4⟩
    have Q4 := Q3.later hb4
    have B4 := B3.trans (hb4.mono B3.size)
    have lv4 := lv3.later hb4
    have lu4 := lu3.later hb4
    clear c0 c1 Q3 B3 hb4 lv3 lu3
    have hxx : decide (([] : List Int) = ([] : List Int)) = true := by simp
    rw [hxx]
    clear hxx
    have c0 := Q4.cell0
    have c1 := Q4.cell1
    go_wp2_with fail
    refine (sameInts_any _ _ _ _ ([] : List Int) ([] : List Int) _ lv4 lu4 (by simp) (by simp)).mono ?_
    rintro e w5 ⟨rfl, hb5⟩
    have Q5 := Q4.later hb5
    have B5 := B4.trans (hb5.mono B4.size)
    clear c0 c1 Q4 B4 hb5
    have hxx : decide (([] : List Int) = ([] : List Int)) = true := by simp
    rw [hxx]
    clear hxx
    go_wp2_with fail
    go_ret
    exact ⟨rfl, B5⟩
  · have HI := Lib.hid (H.2 b T B k m h); have HS := Lib.hid (specPartRests_yes b T B k m h)
    obtain ⟨hd1, hd2, hd3, hd4, hd5⟩ := h.div
    clear hd1
    have HX := Lib.hid (implRestRound_yes b T B 0 m h.told h.lt h.gT h.bot h.b2 h.b16 h.len)
    have hl := prsL_len b T B k (m / k)
    have hr : rrnL b T B 0 m = rstL b T B m := by unfold rrnL; rw [List.drop_zero, Nat.zero_add]
    rw [hr] at HX
    have HP := Lib.hid h; have HLN := Lib.hid hl
    have hk1' := h.k1
    have hll : (prsL b T B k (m / k)).length ≤ 1048576 := by omega
    clear h hr hl
    have c0 := Q1.cell0
    have c1 := Q1.cell1
    go_wp2_with fail
    refine (HI.out _).mono ?_
    rintro e w2 ⟨v, rfl, lv2, hb2⟩
    have Q2 := Q1.later hb2
    have B2 := B1.trans (hb2.mono B1.size)
    clear c0 c1 Q1 B1 hb2
    have c0 := Q2.cell0
    have c1 := Q2.cell1
    go_wp2_with fail
    refine (HS.out _).mono ?_
    rintro e w3 ⟨u, rfl, lu3, hb3⟩
    have Q3 := Q2.later hb3
    have B3 := B2.trans (hb3.mono B2.size)
    have lv3 := lv2.later hb3
    clear c0 c1 Q2 B2 hb3 lv2
    have c0 := Q3.cell0
    have c1 := Q3.cell1
    go_wp2_with fail
    refine (sameInts_any _ _ _ _ (prsL b T B k (m / k)) (prsL b T B k (m / k)) _ lv3 lu3 hll hll).mono ?_
    rintro e w4 ⟨rfl, hb4⟩
    have Q4 := Q3.later hb4
    have B4 := B3.trans (hb4.mono B3.size)
    have lv4 := lv3.later hb4
    clear c0 c1 Q3 B3 hb4 lv3
    have hxx : decide ((prsL b T B k (m / k)) = (prsL b T B k (m / k))) = true := by simp
    rw [hxx]
    clear hxx
    have c0 := Q4.cell0
    have c1 := Q4.cell1
    go_wp2_with fail
    refine (HX.out _).mono ?_
    rintro e w5 ⟨x, rfl, lx5, hb5⟩
    have Q5 := Q4.later hb5
    have B5 := B4.trans (hb5.mono B4.size)
    have lv5 := lv4.later hb5
    clear c0 c1 Q4 B4 hb5 lv4
    have hlx := rstL_len b T B m
    obtain ⟨g, o, c, rfl, _, _, _, _⟩ := slc_some lv5 (by rw [HLN.out]; omega)
    obtain ⟨gx, ox, cx, rfl, _, _, _, _⟩ := slc_some lx5 (by rw [hlx]; omega)
    rw [HLN.out] at lv5 ⊢
    rw [hlx] at lx5 ⊢
    have HLX := Lib.hid hlx
    clear hlx hll HI HS HX
    have hk0 : ¬ k = 0 := by omega
    have C1 : CellsR w5 g o k (fun i => rst b T B (i * (m / k))) := fun i hi => by
      have := Slc.cell HLN.out lv5 i hi
      rw [prsL_get b T B k (m / k) i hi] at this
      exact this
    have C2 : CellsR w5 gx ox m (fun i => rst b T B i) := fun i hi => by
      have := Slc.cell HLX.out lx5 i hi
      rw [rstL_get b T B m i hi] at this
      exact this
    clear lv5 lx5 lu3
    have c0 := Q5.cell0
    have c1 := Q5.cell1
    go_wp2_with fail
    go_loopw [12] (fun i wr => ∃ p : Nat, p ≤ k ∧ i = .int .i64 p ∧ CellsR wr g o k (fun i => rst b T B (i * (m / k))) ∧ CellsR wr gx ox m (fun i => rst b T B i) ∧ Box2 wr w1.heap.size 24 (.int .i64 T) (.int .i64 B) ∧ Below w.heap.size w wr) (fun i _ => k - (intOf i).toNat)
    case atStart => exact ⟨0, Nat.zero_le _, rfl, C1, C2, Q5, B5⟩
    case round =>
      clear C1 C2 Q5 B5 c0 c1
      obtain ⟨p, hp, rfl, C1, C2, Q, hb⟩ := hrel
      by_cases hlt : p < k
      · have hpl := HP.out.place_lt hlt
        have hplc := HP.out.place (i := p)
        have kc1 : wr.cell? ⟨g, o + p, none⟩ = some (.int .i64 (rst b T B (p * (m / k)) : Nat)) := C1 p hlt
        have kc2 : wr.cell? ⟨gx, ox + p * (m / k), none⟩ = some (.int .i64 (rst b T B (p * (m / k)) : Nat)) := C2 _ hpl.1
        have hpm0 : 0 ≤ (p : Int) * m := Int.mul_nonneg (by omega) (by omega)
        have hpm1 : (p : Int) * m ≤ 1000 * 1000 := Int.mul_le_mul (by omega) (by omega) (by omega) (by omega)
        obtain ⟨q, hqq⟩ : ∃ q, p * (m / k) = q := ⟨_, rfl⟩
        obtain ⟨x, hx⟩ : ∃ x, rst b T B (p * (m / k)) = x := ⟨_, rfl⟩
        rw [hx] at kc1 kc2
        rw [hqq] at kc2 hplc hpl
        clear hx hqq
        have i1 : (p : Int) < (k : Int) := by omega
        have i2 : (0 : Int) ≤ (p : Int) := by omega
        have i3 : IntKind.i64.wrap (p : Int) = p := IntWalk.i64_in _ (by omega)
        have i4 : IntKind.i64.wrap ((p : Int) * m) = (p : Int) * m := IntWalk.i64_in _ (by omega)
        have i5 : IntKind.i64.wrap (((p : Int) * m).tdiv k) = q := by rw [Int.tdiv_eq_ediv_of_nonneg hpm0, hplc]; exact IntWalk.i64_in _ (by omega)
        have i6 : (0 : Int) ≤ (q : Int) := by omega
        have i7 : (q : Int) < (m : Int) := by omega
        clear hplc
        go_wp2_with fail
        go_quiet (fail)
        go_wp2
        go_roundw
        case rel => exact ⟨p + 1, by omega, by go_num, C1, C2, Q, below_drewN hb _⟩
        case measure => simp [intOf]; omega
      · obtain rfl : p = k := by omega
        have kc0 : wr.cell? ⟨g, o + 0, none⟩ = some (.int .i64 (rst b T B (0 * (m / p)) : Nat)) := C1 0 (by omega)
        rw [Nat.zero_mul, Nat.add_zero, show rst b T B 0 = T from rfl] at kc0
        have i1 : ¬ (p : Int) < p := by omega
        have i2 : (0 : Int) < (p : Int) := by omega
        have c0 := Q.cell0
        have c1 := Q.cell1
        clear C1 C2
        go_wp2_with fail
        go_quiet (fail)
        go_wp2
        go_ret
        exact ⟨rfl, below_drewN hb _⟩

end Go.Proofs.Ytehpgcgdcoahnab
