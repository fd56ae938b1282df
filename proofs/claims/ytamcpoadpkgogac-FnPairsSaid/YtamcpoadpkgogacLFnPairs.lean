/-
  The law FnPairs's walk.
-/
import Derived.Test.YtamcpoadpkgogacDrawS
import Derived.Test.YtamcpoadpkgogacCntB
import Derived.Test.YtamcpoadpkgogacTotI
import Derived.Test.YtamcpoadpkgogacEq
namespace Go.Proofs.Ytamcpoadpkgogac
open Go.RowKit

set_option maxRecDepth 100000 in
set_option maxHeartbeats 4000000 in
theorem lawPairs_any (H : ImCountPairs) (HD : ImCountDigits) (a : Option Addr) (len cap : Nat) (zs : List Int) (w : World) (r : IsRow .u8 w a len cap zs) :
    Calls Try.prog 6 #[.slice a len cap] w fun e w' => e = .returned (.bool true) ∧ Below w.heap.size w w' := by
  have hB := byt_of_row r
  clear r
  by_cases hl : 1048576 < len
  · have hl' : (1048576 : Int) < (len : Int) := by omega
    go_enter Try.func6, Try.ntmps6
    go_wp2
    go_ret
    exact ⟨rfl, Below.refl _ _⟩
  have hl' : decide ((1048576 : Int) < (len : Int)) = false := by simp; omega
  go_enter Try.func6, Try.ntmps6
  go_wp2_with fail
  refine (drawCountPairs_any a len cap _ hB).mono ?_
  rintro e w1 ⟨b, t, n, hd, rfl, hb1⟩
  clear hl hB hd
  have Q1 := Box2.new w1 24 (.int .i64 t) (.int .i64 n)
  have B1 := hb1.alloc hb1.size (.cells #[.int .i64 t, .int .i64 n] 24)
  clear hb1
  have cQ0 := Q1.cell0
  have cQ1 := Q1.cell1
  cases h : tldB b t n with
  | false =>
    have HI := Lib.hid (H.1 b t n h); have HS := Lib.hid (specCountPairs_no b t n h)
    clear h
    go_wp2_with fail
    refine (HI.out _).mono ?_
    rintro e w2 ⟨rfl, hb2⟩
    have Q2 := Q1.later hb2
    have B2 := B1.trans (hb2.mono B1.size)
    clear B1 hb2 Q1
    have cQ0 := Q2.cell0
    have cQ1 := Q2.cell1
    go_wp2_with fail
    refine (HS.out _).mono ?_
    rintro e w3 ⟨rfl, hb3⟩
    have Q3 := Q2.later hb3
    have B3 := B2.trans (hb3.mono B2.size)
    clear B2 hb3 Q2
    have cQ0 := Q3.cell0
    have cQ1 := Q3.cell1
    go_wp2_with fail
    go_ret
    exact ⟨rfl, B3⟩
  | true =>
    obtain ⟨b, T, B, i0, m, rfl, rfl, rfl, hf⟩ := frd_some h
    clear h
    have hb2' := hf.b2; have hb16 := hf.b16; have hm1 := hf.pos; have hm2 := hf.le
    have hB1 := hf.bot; have hTB := hf.lt
    have HI := Lib.hid (H.2 b T B i0 m hf); have HS := Lib.hid (specCountPairs_yes b T B i0 m hf); have HC := Lib.hid (HD.2 b T B i0 m hf)
    have hp1 := frs_le (prP b (rdg b T B i0) m) m
    have hp2 := pairs_ge (b := b) (D := rdg b T B i0) hf.pos fun i _ => hf.dig i
    have hp3 := hits (b := b) (D := rdg b T B i0) (m := m) fun i _ => hf.dig i
    rw [← hp3] at hp2
    have hcm : ∀ x ∈ cntL b (rdg b T B i0) m, 0 ≤ x ∧ x ≤ 1000 := fun x hx => by
      unfold cntL at hx
      obtain ⟨v, _, rfl⟩ := List.mem_map.1 hx
      have := dgC_le (rdg b T B i0) v m
      omega
    have hct : sumI (cntL b (rdg b T B i0) m) = (m : Nat) := by
      unfold cntL
      rw [sumI_map, sum_cnt fun i _ => hf.dig i]
    have HT : Hid (∀ (n₀ : Nat) (v : Value) (wx : World), Slc n₀ wx v (cntL b (rdg b T B i0) m) → Calls Try.prog 23 #[v] wx fun e w' => e = .returned (.int .i64 (m : Nat)) ∧ wx = w') := fun n₀ v wx hv => by
      have := totalI_any n₀ v _ wx hv (by rw [cntL_len]; omega) hcm
      rwa [hct] at this
    have hgC : ∀ v, v < b → (cntL b (rdg b T B i0) m)[v]?.getD 0 = (dgC (rdg b T B i0) v m : Int) := fun v hv => cntL_get hv
    have hlC := cntL_len b (rdg b T B i0) m
    clear hcm hct
    clear hf hp3
    generalize frs (prP b (rdg b T B i0) m) m = F at *
    generalize cntL b (rdg b T B i0) m = L at *
    generalize hE : (fun v => dgC (rdg b T B i0) v m) = E at *
    have hE' : ∀ v, dgC (rdg b T B i0) v m = E v := fun v => by rw [← hE]
    simp only [hE'] at hp2 hgC
    obtain ⟨Z, hZ⟩ : ∃ Z : Nat → Nat, (fun k => smC (fun v => one (0 < E v)) k) = Z := ⟨_, rfl⟩
    have hZ0 : Z 0 = 0 := by rw [← hZ]; rfl
    have hZ1 : ∀ k, 0 < E k → Z (k + 1) = Z k + 1 := fun k h => by rw [← hZ]; show _ + one _ = _; rw [one_yes h]
    have hZ2 : ∀ k, ¬ 0 < E k → Z (k + 1) = Z k := fun k h => by rw [← hZ]; show _ + one _ = _; rw [one_no h, Nat.add_zero]
    have hZb : smC (fun v => one (0 < E v)) b = Z b := by rw [← hZ]
    rw [hZb] at hp2
    have HZ0 := Lib.hid hZ0; have HZ1 := Lib.hid hZ1; have HZ2 := Lib.hid hZ2; have HGC := Lib.hid hgC; have HLC := Lib.hid hlC
    clear hE hE' hZ hZ0 hZ1 hZ2 hZb hgC hlC
    go_wp2_with fail
    refine (HI.out _).mono ?_
    rintro e w2 ⟨rfl, hb2⟩
    have Q2 := Q1.later hb2
    have B2 := B1.trans (hb2.mono B1.size)
    clear B1 hb2 Q1
    have cQ0 := Q2.cell0
    have cQ1 := Q2.cell1
    go_wp2_with fail
    refine (HS.out _).mono ?_
    rintro e w3 ⟨rfl, hb3⟩
    have Q3 := Q2.later hb3
    have B3 := B2.trans (hb3.mono B2.size)
    clear B2 hb3 Q2
    have cQ0 := Q3.cell0
    have cQ1 := Q3.cell1
    go_wp2_with fail
    refine (HC.out _).mono ?_
    rintro e w4 ⟨v, rfl, lv4, hb4⟩
    have Q4 := Q3.later hb4
    have B4 := B3.trans (hb4.mono B3.size)
    clear B3 hb4 Q3
    have cQ0 := Q4.cell0
    have cQ1 := Q4.cell1
    obtain ⟨g, o, c, rfl, _, _, _, _⟩ := slc_some lv4 (by rw [HLC.out]; omega)
    rw [HLC.out] at lv4 ⊢
    clear Q4 cQ0 cQ1
    go_wp2_with fail
    go_loopw [11, 12] (fun n' i' wr => ∃ i N : Nat, i ≤ b ∧ N ≤ i ∧ i' = .int .i64 i ∧ n' = .int .i64 N ∧ N = Z i ∧ Slc w3.heap.size wr (.slice (some ⟨g, o, none⟩) b c) L ∧ Below w.heap.size w wr) (fun _ i' _ => b - (intOf i').toNat)
    case atStart => exact ⟨0, 0, Nat.zero_le _, Nat.le_refl _, rfl, rfl, HZ0.out.symm, lv4, B4⟩
    case round =>
      clear lv4 B4
      obtain ⟨i, N, hi, hNi, rfl, rfl, hN, lv, hb⟩ := hrel
      have HN := Lib.hid hN
      clear hN
      by_cases hlt : i < b
      · have j1 : (i : Int) < (b : Int) := by omega
        have kc := Slc.cell HLC.out lv i hlt
        rw [HGC.out i hlt] at kc
        by_cases hz : 0 < E i
        · have HST := Lib.hid (HZ1.out i hz)
          have j2 : decide ((0 : Int) < (E i : Int)) = true := by simp; omega
          revert kc j2 hz
          generalize E i = ei
          intro hz kc j2
          go_wp2_with fail
          exact ⟨⟨i + 1, N + 1, by omega, by omega, by go_num, by go_num, by rw [HST.out, HN.out], lv, hb⟩, by simp [intOf]; omega⟩
        · have HST := Lib.hid (HZ2.out i hz)
          have j2 : decide ((0 : Int) < (E i : Int)) = false := by simp; omega
          revert kc j2 hz
          generalize E i = ei
          intro hz kc j2
          go_wp2_with fail
          exact ⟨⟨i + 1, N, by omega, by omega, by go_num, rfl, by rw [HST.out, HN.out], lv, hb⟩, by simp [intOf]; omega⟩
      · obtain rfl : i = b := by omega
        have j1 : ¬ (i : Int) < (i : Int) := by omega
        have hNF : N ≤ F := by rw [HN.out]; exact hp2
        have j2 : (F : Int) ≤ (m : Int) := by omega
        have j3 : (N : Int) ≤ (F : Int) := by omega
        have j4 : (F : Int) ≥ (N : Int) := by omega
        go_wp2_with fail
        refine (HT.out _ _ _ lv).mono ?_
        rintro e w5 ⟨rfl, rfl⟩
        go_wp2_with fail
        go_ret
        exact ⟨rfl, hb⟩

end Go.Proofs.Ytamcpoadpkgogac
