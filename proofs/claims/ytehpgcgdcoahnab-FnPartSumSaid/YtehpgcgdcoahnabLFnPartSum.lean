/-
  The law FnPartSum's walk.
-/
import Derived.Test.YtehpgcgdcoahnabDrawP
import Derived.Test.YtehpgcgdcoahnabPartB
import Derived.Test.YtehpgcgdcoahnabGRow
namespace Go.Proofs.Ytehpgcgdcoahnab
open Go.RowKit

set_option maxRecDepth 100000 in
set_option maxHeartbeats 4000000 in
theorem lawPartSum_any (H : ImPartSum) (HV : ImPartHalves) (a : Option Addr) (len cap : Nat) (zs : List Int) (w : World) (r : IsRow .u8 w a len cap zs) :
    Calls Try.prog 5 #[.slice a len cap] w fun e w' => e = .returned (.bool true) ∧ Below w.heap.size w w' := by
  have hB := byt_of_row r
  clear r
  by_cases hl : 1048576 < len
  · have hl' : (1048576 : Int) < (len : Int) := by omega
    go_enter Try.func5, Try.ntmps5
    go_wp2
    go_ret
    exact ⟨rfl, Below.refl _ _⟩
  have hl' : decide ((1048576 : Int) < (len : Int)) = false := by simp; omega
  go_enter Try.func5, Try.ntmps5
  go_wp2_with fail
  refine (drawPartSum_any a len cap _ hB).mono ?_
  rintro e w1 ⟨b, t, n, k, hd, hk1, hk2, rfl, hb1⟩
  clear hl hB hd
  have Q1 := Box2.new w1 24 (.int .i64 t) (.int .i64 n)
  have B1 := hb1.alloc hb1.size (.cells #[.int .i64 t, .int .i64 n] 24)
  clear hb1
  rcases prt_or b t n k with h | ⟨b, T, B, k, m, rfl, rfl, rfl, rfl, h⟩
  · have HI := Lib.hid (H.1 b t n k h); have HS := Lib.hid (specPartSum_no b t n k h)
    clear h
    have c0 := Q1.cell0
    have c1 := Q1.cell1
    go_wp2_with fail
    refine (HI.out _).mono ?_
    rintro e w2 ⟨v, rfl, lv2, hb2⟩
    have Q2 := Q1.later hb2
    have B2 := B1.trans (hb2.mono B1.size)
    clear c0 c1 Q1 B1 hb2
    have c0 := Q2.cell0
    have c1 := Q2.cell1
    go_wp2_with fail
    refine (HS.out _).mono ?_
    rintro e w3 ⟨u, rfl, lu3, hb3⟩
    have Q3 := Q2.later hb3
    have B3 := B2.trans (hb3.mono B2.size)
    have lv3 := lv2.later hb3
    clear c0 c1 Q2 B2 hb3 lv2
    have c0 := Q3.cell0
    have c1 := Q3.cell1
    go_wp2_with fail
    refine (sameInts_any _ _ _ _ ([] : List Int) ([] : List Int) _ lv3 lu3 (by simp) (by simp)).mono ?_
    rintro e w4 ⟨rfl, hb4⟩
    have Q4 := Q3.later hb4
    have B4 := B3.trans (hb4.mono B3.size)
    have lv4 := lv3.later hb4
    have lu4 := lu3.later hb4
    clear c0 c1 Q3 B3 hb4 lv3 lu3
    have hxx : decide (([] : List Int) = ([] : List Int)) = true := by simp
    rw [hxx]
    clear hxx
    have c0 := Q4.cell0
    have c1 := Q4.cell1
    go_wp2_with fail
    refine (sameInts_any _ _ _ _ ([] : List Int) ([] : List Int) _ lv4 lu4 (by simp) (by simp)).mono ?_
    rintro e w5 ⟨rfl, hb5⟩
    have Q5 := Q4.later hb5
    have B5 := B4.trans (hb5.mono B4.size)
    clear c0 c1 Q4 B4 hb5
    have hxx : decide (([] : List Int) = ([] : List Int)) = true := by simp
    rw [hxx]
    clear hxx
    go_wp2_with fail
    go_ret
    exact ⟨rfl, B5⟩
  · obtain ⟨L, hlL, hL⟩ := h.dgs
    have HI := Lib.hid (H.2 b T B k m L h hlL hL); have HS := Lib.hid (specPartSum_is b T B k m L h hL)
    have hsp := h.sum_pos
    have hne : ∃ x r, L = x :: r ∧ x ≠ 0 := by
      cases L with
      | nil => have := hL.val; rw [← this] at hsp; simp [hor] at hsp
      | cons x r => exact ⟨x, r, rfl, hL.first x r rfl⟩
    obtain ⟨x, r, hxr, hx0⟩ := hne
    have hle : L.length ≤ 1048576 := by omega
    obtain ⟨l, hl⟩ : ∃ l, L.length = l := ⟨_, rfl⟩
    have hlp : 0 < l := by rw [← hl, hxr]; simp
    have hll : l ≤ 3000 := by omega
    have hx : L[0]?.getD 0 = x := by rw [hxr]; rfl
    have HL := Lib.hid hl; have HX := Lib.hid hx; have HP := Lib.hid h; have HD := Lib.hid hL
    clear h hsp hxr hl hx hL hlL
    have c0 := Q1.cell0
    have c1 := Q1.cell1
    go_wp2_with fail
    refine (HI.out _).mono ?_
    rintro e w2 ⟨v, rfl, lv2, hb2⟩
    have Q2 := Q1.later hb2
    have B2 := B1.trans (hb2.mono B1.size)
    clear c0 c1 Q1 B1 hb2
    have c0 := Q2.cell0
    have c1 := Q2.cell1
    go_wp2_with fail
    refine (HS.out _).mono ?_
    rintro e w3 ⟨u, rfl, lu3, hb3⟩
    have Q3 := Q2.later hb3
    have B3 := B2.trans (hb3.mono B2.size)
    have lv3 := lv2.later hb3
    clear c0 c1 Q2 B2 hb3 lv2
    have c0 := Q3.cell0
    have c1 := Q3.cell1
    go_wp2_with fail
    refine (sameInts_any _ _ _ _ L L _ lv3 lu3 hle hle).mono ?_
    rintro e w4 ⟨rfl, hb4⟩
    have Q4 := Q3.later hb4
    have B4 := B3.trans (hb4.mono B3.size)
    have lv4 := lv3.later hb4
    clear c0 c1 Q3 B3 hb4 lv3
    have hxx : decide (L = L) = true := by simp
    rw [hxx]
    clear hxx
    obtain ⟨g, o, c, rfl, _, _, _, _⟩ := slc_some lv4 (by rw [HL.out]; omega)
    revert lv4
    rw [HL.out]
    intro lv4
    have kc0 : w4.cell? ⟨g, o + 0, none⟩ = some (.int .i64 (L[0]?.getD 0)) := Slc.cell HL.out lv4 0 hlp
    rw [HX.out, Nat.add_zero] at kc0
    have hx' : (x == 0) = false := by simpa using hx0
    have i0 : (0 : Int) < (l : Int) := by omega
    clear HI HS lu3 hle hx0
    go_wp2_with fail
    clear kc0
    go_loopw [10] (fun i wr => ∃ p : Nat, p ≤ l ∧ i = .int .i64 p ∧ Slc w1.heap.size wr (.slice (some ⟨g, o, none⟩) l c) L ∧ Box2 wr w1.heap.size 24 (.int .i64 T) (.int .i64 B) ∧ Below w.heap.size w wr) (fun i _ => l - (intOf i).toNat)
    case atStart => exact ⟨0, Nat.zero_le _, rfl, lv4.mono (by simp), Q4, B4⟩
    case round =>
      clear lv4 Q4 B4
      obtain ⟨p, hp, rfl, lv, Q, hb⟩ := hrel
      by_cases hlt : p < l
      · have i1 : (p : Int) < (l : Int) := by omega
        by_cases hk : k = 2
        · have HP2 := Lib.hid (show Prt b T B 2 m by rw [← hk]; exact HP.out)
          have HD2 := Lib.hid (show IsDgs b (ptS b T B 2 (m / 2)) L by rw [← hk]; exact HD.out)
          have hk' : ((k : Int) == 2) = true := by simp; omega
          clear hk
          have HH := Lib.hid (HV.2 b T B m HP2.out)
          have c0 := Q.cell0
          have c1 := Q.cell1
          by_cases hq : prS b T B 2 (m / 2) = B
          · rw [decide_eq_true hq] at HH
            have hnn := HP2.out.nines hq HD2.out
            have hlj : m / 2 = l := by have := HL.out; rw [hnn] at this; simpa using this
            have hcl : L[p]?.getD 0 = (b : Int) - 1 := by rw [hnn]; simp [hlj, hlt]
            have HC := Lib.hid hcl
            clear hnn hcl hlj
            go_wp2_with fail
            refine (HH.out _).mono ?_
            rintro e w5 ⟨rfl, hb5⟩
            have lv5 := lv.later hb5
            have Q5 := Q.later hb5
            have B5 := hb.trans (hb5.mono hb.size)
            have kc := Slc.cell HL.out lv5 p hlt
            rw [HC.out] at kc
            have hb2 := HP.out.b2
            have hb16 := HP.out.b16
            clear lv Q hb hb5 c0 c1
            go_wp2_with fail
            go_roundw
            case rel => exact ⟨p + 1, hlt, by go_num, lv5, Q5, B5⟩
            case measure => simp [intOf]; omega
          · rw [decide_eq_false hq] at HH
            go_wp2_with fail
            refine (HH.out _).mono ?_
            rintro e w5 ⟨rfl, hb5⟩
            have B5 := hb.trans (hb5.mono hb.size)
            go_wp2_with fail
            go_ret
            exact ⟨rfl, B5⟩
        · have hk' : ((k : Int) == 2) = false := by simp; omega
          go_wp2_with fail
          go_ret
          exact ⟨rfl, hb⟩
      · obtain rfl : p = l := by omega
        have i1 : ¬ (p : Int) < (p : Int) := by omega
        go_wp2_with fail
        go_ret
        exact ⟨rfl, hb⟩

end Go.Proofs.Ytehpgcgdcoahnab
