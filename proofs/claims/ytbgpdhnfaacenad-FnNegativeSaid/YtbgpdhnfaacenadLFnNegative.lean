/-
  The law FnNegative's walk.
-/
import Derived.Test.YtbgpdhnfaacenadDrawV
import Derived.Test.YtbgpdhnfaacenadRgtB
import Derived.Test.YtbgpdhnfaacenadEq
import Derived.Test.YtbgpdhnfaacenadGRow
import Derived.Test.YtbgpdhnfaacenadLists
namespace Go.Proofs.Ytbgpdhnfaacenad
open Go.RowKit

set_option maxRecDepth 100000 in
set_option maxHeartbeats 4000000 in
theorem lawNegative_any (H : ImRightNegative) (a : Option Addr) (len cap : Nat) (zs : List Int) (w : World) (r : IsRow .u8 w a len cap zs) :
    Calls Try.prog 3 #[.slice a len cap] w fun e w' => e = .returned (.bool true) ∧ Below w.heap.size w w' := by
  have hB := byt_of_row r
  clear r
  by_cases hl : 1048576 < len
  · have hl' : (1048576 : Int) < (len : Int) := by omega
    go_enter Try.func3, Try.ntmps3
    go_wp2
    go_ret
    exact ⟨rfl, Below.refl _ _⟩
  have hl' : decide ((1048576 : Int) < (len : Int)) = false := by simp; omega
  go_enter Try.func3, Try.ntmps3
  go_wp2_with fail
  refine (drawRightNegative_any a len cap _ hB).mono ?_
  rintro e w1 ⟨b, t, n, hd, rfl, hb1⟩
  clear hl hB hd
  have Q1 := Box2.new w1 24 (.int .i64 t) (.int .i64 n)
  have B1 := hb1.alloc hb1.size (.cells #[.int .i64 t, .int .i64 n] 24)
  clear hb1
  have cQ0 := Q1.cell0
  have cQ1 := Q1.cell1
  cases h : ngB b t n with
  | false =>
    have HI := Lib.hid (H.1 b t n h); have HS := Lib.hid (specRightNegative_no b t n h)
    clear h
    go_wp2_with fail
    refine (HI.out _).mono ?_
    rintro e w2 ⟨v, rfl, lv2, hb2⟩
    have Q2 := Q1.later hb2
    have B2 := B1.trans (hb2.mono B1.size)
    clear B1 hb2 Q1
    have cQ0 := Q2.cell0
    have cQ1 := Q2.cell1
    go_wp2_with fail
    refine (HS.out _).mono ?_
    rintro e w3 ⟨u, rfl, lu3, hb3⟩
    have Q3 := Q2.later hb3
    have lv3 := lv2.later hb3
    have B3 := B2.trans (hb3.mono B2.size)
    clear B2 hb3 Q2 lv2
    have cQ0 := Q3.cell0
    have cQ1 := Q3.cell1
    go_wp2_with fail
    refine (sameInts_any _ _ _ _ ([] : List Int) ([] : List Int) _ lv3 lu3 (by simp) (by simp)).mono ?_
    rintro e w4 ⟨rfl, hb4⟩
    have Q4 := Q3.later hb4
    have lv4 := lv3.later hb4
    have lu4 := lu3.later hb4
    have B4 := B3.trans (hb4.mono B3.size)
    clear B3 hb4 Q3 lv3 lu3
    have cQ0 := Q4.cell0
    have cQ1 := Q4.cell1
    have hxx : decide (([] : List Int) = ([] : List Int)) = true := by simp
    rw [hxx]
    clear hxx
    go_wp2_with fail
    refine (sameInts_any _ _ _ _ ([] : List Int) ([] : List Int) _ lv4 lu4 (by simp) (by simp)).mono ?_
    rintro e w5 ⟨rfl, hb5⟩
    have Q5 := Q4.later hb5
    have B5 := B4.trans (hb5.mono B4.size)
    clear B4 hb5 Q4
    have cQ0 := Q5.cell0
    have cQ1 := Q5.cell1
    have hxx : decide (([] : List Int) = ([] : List Int)) = true := by simp
    rw [hxx]
    clear hxx
    go_wp2_with fail
    go_ret
    exact ⟨rfl, B5⟩
  | true =>
    obtain ⟨b, T, B, m, rfl, rfl, rfl, hf⟩ := ng_some h
    have htold : tldB (b : Int) (T : Int) (B : Int) = true := by unfold ngB at h; rw [Bool.and_eq_true] at h; exact h.1
    clear h
    have hb2' := hf.r.b2; have hb16 := hf.r.b16; have hB1 := hf.r.B1; have hB2 := hf.r.B2
    have hm1 := hf.len.pos; have hm2 := hf.len.le hf.lt
    have HI := Lib.hid (H.2 b T B m hf); have HS := Lib.hid (specRightNegative_yes b T B m hf)
    have HR := Lib.hid (implFracRound_yes b T B 0 m htold hf.lt hf.cop hf.r.B2 hf.r.b2 hf.r.b16 hf.len)
    have hlK := bkL_len b T B m; have hlR := rndL_len b T B 0 m
    have HLK := Lib.hid hlK; have HLR := Lib.hid hlR
    clear hf htold
    go_wp2_with fail
    refine (HI.out _).mono ?_
    rintro e w2 ⟨v, rfl, lv2, hb2⟩
    have Q2 := Q1.later hb2
    have B2 := B1.trans (hb2.mono B1.size)
    clear B1 hb2 Q1
    have cQ0 := Q2.cell0
    have cQ1 := Q2.cell1
    go_wp2_with fail
    refine (HS.out _).mono ?_
    rintro e w3 ⟨u, rfl, lu3, hb3⟩
    have Q3 := Q2.later hb3
    have lv3 := lv2.later hb3
    have B3 := B2.trans (hb3.mono B2.size)
    clear B2 hb3 Q2 lv2
    have cQ0 := Q3.cell0
    have cQ1 := Q3.cell1
    go_wp2_with fail
    refine (sameInts_any _ _ _ _ (bkL b T B m) (bkL b T B m) _ lv3 lu3 (by omega) (by omega)).mono ?_
    rintro e w4 ⟨rfl, hb4⟩
    have Q4 := Q3.later hb4
    have lv4 := lv3.later hb4
    have B4 := B3.trans (hb4.mono B3.size)
    clear B3 hb4 Q3 lv3
    have cQ0 := Q4.cell0
    have cQ1 := Q4.cell1
    have hxx : decide ((bkL b T B m) = (bkL b T B m)) = true := by simp
    rw [hxx]
    clear hxx
    go_wp2_with fail
    refine (HR.out _).mono ?_
    rintro e w5 ⟨x, rfl, lx5, hb5⟩
    have Q5 := Q4.later hb5
    have lv5 := lv4.later hb5
    have B5 := B4.trans (hb5.mono B4.size)
    clear B4 hb5 Q4 lv4
    have cQ0 := Q5.cell0
    have cQ1 := Q5.cell1
    obtain ⟨av, cv, rfl⟩ := slc_form lv5
    obtain ⟨ax, cx, rfl⟩ := slc_form lx5
    rw [HLK.out] at lv5 ⊢
    rw [HLR.out] at lx5 ⊢
    clear hlK hlR Q5 cQ0 cQ1
    go_wp2_with fail
    go_loopw [11] (fun i' wr => ∃ i : Nat, i' = .int .i64 i ∧ i ≤ m ∧ Slc w1.heap.size wr (.slice av m cv) (bkL b T B m) ∧ Slc w4.heap.size wr (.slice ax m cx) (rndL b T B 0 m) ∧ Below w.heap.size w wr) (fun i' _ => m - (intOf i').toNat)
    case atStart => exact ⟨0, rfl, Nat.zero_le _, lv5.mono (by simp), lx5, B5⟩
    case round =>
      clear lv5 lx5 B5
      obtain ⟨i, rfl, hi, lv, lx, hb⟩ := hrel
      by_cases hlt : i < m
      · have j1 : (i : Int) < (m : Int) := by omega
        have j0 : (0 : Int) ≤ (i : Int) := by omega
        obtain ⟨gv, ov, ev⟩ := slc_addr lv (by omega)
        obtain ⟨gx, ox, ex⟩ := slc_addr lx (by omega)
        subst ev; subst ex
        obtain ⟨q, hq⟩ : ∃ q, m - 1 - i = q := ⟨_, rfl⟩
        have hqi : (m : Int) - 1 - (i : Int) = (q : Int) := by omega
        have kx := Slc.cell HLR.out lx i hlt
        have kv := Slc.cell HLK.out lv q (by omega)
        rw [rndL_get b T B 0 m i hlt, Nat.zero_add] at kx
        rw [bkL_get (by omega), show m - 1 - q = i by omega] at kv
        have HLV := Lib.hid lv; have HLX := Lib.hid lx
        clear lv lx hq
        revert kv kx
        generalize dig b T B i = x
        intro kv kx
        have j2 : (0 : Int) ≤ (q : Int) := by omega
        have j3 : (q : Int) < (m : Int) := by omega
        go_wp2_with fail
        go_quiet (fail)
        have hbk := fun n => below_drewN hb n
        clear hb
        go_wp2_with fail
        go_roundw
        case rel => exact ⟨i + 1, by go_num, hlt, HLV.out, HLX.out, hbk _⟩
        case measure => simp [intOf]; omega
      · obtain rfl : i = m := by omega
        have j1 : ¬ (i : Int) < (i : Int) := by omega
        clear lv lx
        go_wp2_with fail
        go_ret
        exact ⟨rfl, hb⟩

end Go.Proofs.Ytbgpdhnfaacenad
