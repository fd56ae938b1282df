/-
  The law FnCountHalves's walk.
-/
import Derived.Test.YtamcpoadpkgogacDrawS
import Derived.Test.YtamcpoadpkgogacCntB
import Derived.Test.YtamcpoadpkgogacPartI
import Derived.Test.YtamcpoadpkgogacEq
import Derived.Test.YtamcpoadpkgogacGRow
namespace Go.Proofs.Ytamcpoadpkgogac
open Go.RowKit

theorem half_cnt {b T B i0 m : Nat} (HV : ImPartHalves) (hf : Frd b T B i0 m) : ∃ p : Bool, GivesB 16 #[.int .i64 b, .agg #[.int .i64 T, .int .i64 B]] p ∧ (p = true → ∀ v, v < b → dgC (rdg b T B i0) v m = dgC (rdg b T B i0) (b - 1 - v) m) := by
  rcases prt_or b T B 2 with h | ⟨b', T', B', k', m', e1, e2, e3, e4, h⟩
  · exact ⟨false, HV.1 b T B h, fun e => by cases e⟩
  · obtain rfl : b = b' := by omega
    obtain rfl : T = T' := by omega
    obtain rfl : B = B' := by omega
    obtain rfl : 2 = k' := by omega
    obtain ⟨rfl, rfl⟩ := h.len.unique hf.len
    refine ⟨_, HV.2 b T B m' h, fun e v hv => ?_⟩
    have hq : prS b T B 2 (m' / 2) = B := of_decide_eq_true e
    have hmm : m' / 2 + m' / 2 = m' := by have := h.div.1; omega
    have hd : ∀ j, j < m' / 2 → rdg b T B 0 j + rdg b T B 0 (m' / 2 + j) = b - 1 := fun j _ => by
      have := (h.halves_back (by rw [hq]; exact Nat.dvd_refl _) j).2
      unfold rdg
      rw [Nat.zero_add, Nat.zero_add, Nat.add_comm (m' / 2) j]
      exact this
    have := dgC_half (h := m' / 2) hv hd
    rwa [hmm] at this

set_option maxRecDepth 100000 in
set_option maxHeartbeats 4000000 in
theorem lawCountHalves_any (H : ImCountDigits) (HV : ImPartHalves) (a : Option Addr) (len cap : Nat) (zs : List Int) (w : World) (r : IsRow .u8 w a len cap zs) :
    Calls Try.prog 4 #[.slice a len cap] w fun e w' => e = .returned (.bool true) ∧ Below w.heap.size w w' := by
  have hB := byt_of_row r
  clear r
  by_cases hl : 1048576 < len
  · have hl' : (1048576 : Int) < (len : Int) := by omega
    go_enter Try.func4, Try.ntmps4
    go_wp2
    go_ret
    exact ⟨rfl, Below.refl _ _⟩
  have hl' : decide ((1048576 : Int) < (len : Int)) = false := by simp; omega
  go_enter Try.func4, Try.ntmps4
  go_wp2_with fail
  refine (drawCountDigits_any a len cap _ hB).mono ?_
  rintro e w1 ⟨b, t, n, hd, rfl, hb1⟩
  clear hl hB hd
  have Q1 := Box2.new w1 24 (.int .i64 t) (.int .i64 n)
  have B1 := hb1.alloc hb1.size (.cells #[.int .i64 t, .int .i64 n] 24)
  clear hb1
  have cQ0 := Q1.cell0
  have cQ1 := Q1.cell1
  cases h : tldB b t n with
  | false =>
    have HI := Lib.hid (H.1 b t n h); have HS := Lib.hid (specCountDigits_no b t n h)
    clear h
    go_wp2_with fail
    refine (HI.out _).mono ?_
    rintro e w2 ⟨v, rfl, lv2, hb2⟩
    have Q2 := Q1.later hb2
    have B2 := B1.trans (hb2.mono B1.size)
    clear B1 hb2 Q1
    have cQ0 := Q2.cell0
    have cQ1 := Q2.cell1
    go_wp2_with fail
    refine (HS.out _).mono ?_
    rintro e w3 ⟨u, rfl, lu3, hb3⟩
    have Q3 := Q2.later hb3
    have lv3 := lv2.later hb3
    have B3 := B2.trans (hb3.mono B2.size)
    clear B2 hb3 Q2 lv2
    have cQ0 := Q3.cell0
    have cQ1 := Q3.cell1
    go_wp2_with fail
    refine (sameInts_any _ _ _ _ ([] : List Int) ([] : List Int) _ lv3 lu3 (by simp) (by simp)).mono ?_
    rintro e w4 ⟨rfl, hb4⟩
    have Q4 := Q3.later hb4
    have lv4 := lv3.later hb4
    have lu4 := lu3.later hb4
    have B4 := B3.trans (hb4.mono B3.size)
    clear B3 hb4 Q3 lv3 lu3
    have cQ0 := Q4.cell0
    have cQ1 := Q4.cell1
    have hxx : decide (([] : List Int) = ([] : List Int)) = true := by simp
    rw [hxx]
    clear hxx
    go_wp2_with fail
    refine (sameInts_any _ _ _ _ ([] : List Int) ([] : List Int) _ lv4 lu4 (by simp) (by simp)).mono ?_
    rintro e w5 ⟨rfl, hb5⟩
    have Q5 := Q4.later hb5
    have B5 := B4.trans (hb5.mono B4.size)
    clear B4 hb5 Q4
    have cQ0 := Q5.cell0
    have cQ1 := Q5.cell1
    have hxx : decide (([] : List Int) = ([] : List Int)) = true := by simp
    rw [hxx]
    clear hxx
    go_wp2_with fail
    go_ret
    exact ⟨rfl, B5⟩
  | true =>
    obtain ⟨b, T, B, i0, m, rfl, rfl, rfl, hf⟩ := frd_some h
    clear h
    have hb2' := hf.b2; have hb16 := hf.b16; have hm1 := hf.pos; have hm2 := hf.le
    have hB1 := hf.bot; have hTB := hf.lt
    have HI := Lib.hid (H.2 b T B i0 m hf); have HS := Lib.hid (specCountDigits_yes b T B i0 m hf)
    obtain ⟨p, hp, hmir⟩ := half_cnt HV hf
    have HP := Lib.hid hp
    have hgC : ∀ v, v < b → (cntL b (rdg b T B i0) m)[v]?.getD 0 = (dgC (rdg b T B i0) v m : Int) := fun v hv => cntL_get hv
    have hlC := cntL_len b (rdg b T B i0) m
    clear hf hp
    generalize cntL b (rdg b T B i0) m = L at *
    generalize hE : (fun v => dgC (rdg b T B i0) v m) = E at *
    have hE' : ∀ v, dgC (rdg b T B i0) v m = E v := fun v => by rw [← hE]
    simp only [hE'] at hgC hmir
    have HGC := Lib.hid hgC; have HLC := Lib.hid hlC; have HMI := Lib.hid hmir
    have hlL : L.length ≤ 1048576 := by omega
    clear hE hE' hgC hlC hmir
    go_wp2_with fail
    refine (HI.out _).mono ?_
    rintro e w2 ⟨v, rfl, lv2, hb2⟩
    have Q2 := Q1.later hb2
    have B2 := B1.trans (hb2.mono B1.size)
    clear B1 hb2 Q1
    have cQ0 := Q2.cell0
    have cQ1 := Q2.cell1
    go_wp2_with fail
    refine (HS.out _).mono ?_
    rintro e w3 ⟨u, rfl, lu3, hb3⟩
    have Q3 := Q2.later hb3
    have lv3 := lv2.later hb3
    have B3 := B2.trans (hb3.mono B2.size)
    clear B2 hb3 Q2 lv2
    have cQ0 := Q3.cell0
    have cQ1 := Q3.cell1
    go_wp2_with fail
    refine (sameInts_any _ _ _ _ L L _ lv3 lu3 hlL hlL).mono ?_
    rintro e w4 ⟨rfl, hb4⟩
    have Q4 := Q3.later hb4
    have lv4 := lv3.later hb4
    have B4 := B3.trans (hb4.mono B3.size)
    clear B3 hb4 Q3 lv3
    have cQ0 := Q4.cell0
    have cQ1 := Q4.cell1
    have hxx : decide (L = L) = true := by simp
    rw [hxx]
    clear hxx
    obtain ⟨g, o, c, rfl, _, _, _, _⟩ := slc_some lv4 (by rw [HLC.out]; omega)
    rw [HLC.out] at lv4 ⊢
    clear cQ0 cQ1
    go_wp2_with fail
    go_loopw [9] (fun i' wr => ∃ i : Nat, i ≤ b ∧ i' = .int .i64 i ∧ Box2 wr w1.heap.size 24 (.int .i64 T) (.int .i64 B) ∧ Slc w1.heap.size wr (.slice (some ⟨g, o, none⟩) b c) L ∧ Below w.heap.size w wr) (fun i' _ => b - (intOf i').toNat)
    case atStart => exact ⟨0, Nat.zero_le _, rfl, Q4, lv4.mono (by simp), B4⟩
    case round =>
      clear lv4 B4 Q4
      obtain ⟨i, hi, rfl, hQ, lv, hb⟩ := hrel
      by_cases hlt : i < b
      · have j1 : (i : Int) < (b : Int) := by omega
        have cQ0 := hQ.cell0
        have cQ1 := hQ.cell1
        go_wp2_with fail
        refine (HP.out _).mono ?_
        rintro e w5 ⟨rfl, hb5⟩
        have Q5 := hQ.later hb5
        have lv5 := lv.later hb5
        have B5 := hb.trans (hb5.mono hb.size)
        clear hQ lv hb hb5 cQ0 cQ1
        cases p with
        | false =>
          go_wp2_with fail
          go_ret
          exact ⟨rfl, B5⟩
        | true =>
          obtain ⟨k, hk⟩ : ∃ k, k = b - 1 - i := ⟨_, rfl⟩
          have kc := Slc.cell HLC.out lv5 i hlt
          have kd := Slc.cell HLC.out lv5 k (by omega)
          rw [HGC.out i hlt] at kc
          rw [HGC.out k (by omega)] at kd
          have hmi := HMI.out rfl i hlt
          rw [← hk] at hmi
          rw [← hmi] at kd
          have j2 : (b : Int) - 1 - (i : Int) = (k : Int) := by omega
          have j3 : IntKind.i64.wrap ((b : Int) - 1) = (b : Int) - 1 := IntWalk.i64_in _ (by omega)
          have j4 : IntKind.i64.wrap ((b : Int) - 1 - (i : Int)) = (k : Int) := by rw [j2]; exact IntWalk.i64_in _ (by omega)
          have j5 : (k : Int) < (b : Int) := by omega
          have j6 : (0 : Int) ≤ (k : Int) := by omega
          have j7 : (0 : Int) ≤ (i : Int) := by omega
          have DV : Hid (∀ nn, Slc w1.heap.size (w5.drewN nn) (.slice (some ⟨g, o, none⟩) b c) L) := fun nn => lv5.later (below_drewN (Below.refl _ _) nn)
          have DQ : Hid (∀ nn, Box2 (w5.drewN nn) w1.heap.size 24 (.int .i64 T) (.int .i64 B)) := fun nn => Q5.later (below_drewN (Below.refl _ _) nn)
          clear lv5 hmi hk Q5
          revert kc kd
          generalize E i = ei
          intro kc kd
          go_wp2_with fail
          go_quiet (fail)
          go_wp2
          go_roundw
          case rel => exact ⟨i + 1, hlt, by go_num, DQ.out _, DV.out _, below_drewN B5 _⟩
          case measure => simp [intOf]; omega
      · obtain rfl : i = b := by omega
        have j1 : ¬ (i : Int) < (i : Int) := by omega
        go_wp2_with fail
        go_ret
        exact ⟨rfl, hb⟩

end Go.Proofs.Ytamcpoadpkgogac
