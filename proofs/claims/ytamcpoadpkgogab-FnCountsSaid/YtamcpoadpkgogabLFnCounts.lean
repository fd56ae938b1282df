/-
  The law FnCounts's walk.
-/
import Derived.Test.YtamcpoadpkgogabDrawS
import Derived.Test.YtamcpoadpkgogabCntB
import Derived.Test.YtamcpoadpkgogabTotI
import Derived.Test.YtamcpoadpkgogabEq
import Derived.Test.YtamcpoadpkgogabLenLaw
import Derived.Test.YtamcpoadpkgogabGRow
namespace Go.Proofs.Ytamcpoadpkgogab
open Go.RowKit

set_option maxRecDepth 100000 in
set_option maxHeartbeats 4000000 in
theorem lawCounts_any (H : ImCountDigits) (HM : ImCountSum) (a : Option Addr) (len cap : Nat) (zs : List Int) (w : World) (r : IsRow .u8 w a len cap zs) :
    Calls Try.prog 5 #[.slice a len cap] w fun e w' => e = .returned (.bool true) ∧ Below w.heap.size w w' := by
  have hB := byt_of_row r
  clear r
  by_cases hl : 1048576 < len
  · have hl' : (1048576 : Int) < (len : Int) := by omega
    go_enter Try.func5, Try.ntmps5
    go_wp2
    go_ret
    exact ⟨rfl, Below.refl _ _⟩
  have hl' : decide ((1048576 : Int) < (len : Int)) = false := by simp; omega
  go_enter Try.func5, Try.ntmps5
  go_wp2_with fail
  refine (drawCountDigits_any a len cap _ hB).mono ?_
  rintro e w1 ⟨b, t, n, hd, rfl, hb1⟩
  clear hl hB hd
  have Q1 := Box2.new w1 26 (.int .i64 t) (.int .i64 n)
  have B1 := hb1.alloc hb1.size (.cells #[.int .i64 t, .int .i64 n] 26)
  clear hb1
  have cQ0 := Q1.cell0
  have cQ1 := Q1.cell1
  cases h : tldB b t n with
  | false =>
    have HI := Lib.hid (H.1 b t n h); have HS := Lib.hid (specCountDigits_no b t n h)
    clear h
    go_wp2_with fail
    refine (HI.out _).mono ?_
    rintro e w2 ⟨v, rfl, lv2, hb2⟩
    have Q2 := Q1.later hb2
    have B2 := B1.trans (hb2.mono B1.size)
    clear B1 hb2 Q1
    have cQ0 := Q2.cell0
    have cQ1 := Q2.cell1
    go_wp2_with fail
    refine (HS.out _).mono ?_
    rintro e w3 ⟨u, rfl, lu3, hb3⟩
    have Q3 := Q2.later hb3
    have lv3 := lv2.later hb3
    have B3 := B2.trans (hb3.mono B2.size)
    clear B2 hb3 Q2 lv2
    have cQ0 := Q3.cell0
    have cQ1 := Q3.cell1
    go_wp2_with fail
    refine (sameInts_any _ _ _ _ ([] : List Int) ([] : List Int) _ lv3 lu3 (by simp) (by simp)).mono ?_
    rintro e w4 ⟨rfl, hb4⟩
    have Q4 := Q3.later hb4
    have lv4 := lv3.later hb4
    have lu4 := lu3.later hb4
    have B4 := B3.trans (hb4.mono B3.size)
    clear B3 hb4 Q3 lv3 lu3
    have cQ0 := Q4.cell0
    have cQ1 := Q4.cell1
    have hxx : decide (([] : List Int) = ([] : List Int)) = true := by simp
    rw [hxx]
    clear hxx
    go_wp2_with fail
    refine (sameInts_any _ _ _ _ ([] : List Int) ([] : List Int) _ lv4 lu4 (by simp) (by simp)).mono ?_
    rintro e w5 ⟨rfl, hb5⟩
    have Q5 := Q4.later hb5
    have B5 := B4.trans (hb5.mono B4.size)
    clear B4 hb5 Q4
    have cQ0 := Q5.cell0
    have cQ1 := Q5.cell1
    have hxx : decide (([] : List Int) = ([] : List Int)) = true := by simp
    rw [hxx]
    clear hxx
    go_wp2_with fail
    go_ret
    exact ⟨rfl, B5⟩
  | true =>
    obtain ⟨b, T, B, i0, m, rfl, rfl, rfl, hf⟩ := frd_some h
    clear h
    have hb2' := hf.b2; have hb16 := hf.b16; have hm1 := hf.pos; have hm2 := hf.le
    have hB1 := hf.bot; have hTB := hf.lt
    have HI := Lib.hid (H.2 b T B i0 m hf); have HS := Lib.hid (specCountDigits_yes b T B i0 m hf); have HC := Lib.hid (HM.2 b T B i0 m hf)
    have hvs := sum_vcnt (b := b) (D := rdg b T B i0) (m := m) fun i _ => hf.dig i
    have HL := Lib.hid (fun wx => implFracLengths_yes b T B i0 m wx hf.told hf.lt hf.cop hf.bot hf.b2 hf.b16 hf.len)
    have hcm : ∀ x ∈ cntL b (rdg b T B i0) m, 0 ≤ x ∧ x ≤ 1000 := fun x hx => by
      unfold cntL at hx
      obtain ⟨v, _, rfl⟩ := List.mem_map.1 hx
      have := dgC_le (rdg b T B i0) v m
      omega
    have hct : sumI (cntL b (rdg b T B i0) m) = (m : Nat) := by
      unfold cntL
      rw [sumI_map, sum_cnt fun i _ => hf.dig i]
    have HT : Hid (∀ (n₀ : Nat) (v : Value) (wx : World), Slc n₀ wx v (cntL b (rdg b T B i0) m) → Calls Try.prog 18 #[v] wx fun e w' => e = .returned (.int .i64 (m : Nat)) ∧ wx = w') := fun n₀ v wx hv => by
      have := totalI_any n₀ v _ wx hv (by rw [cntL_len]; omega) hcm
      rwa [hct] at this
    have hgC : ∀ v, v < b → (cntL b (rdg b T B i0) m)[v]?.getD 0 = (dgC (rdg b T B i0) v m : Int) := fun v hv => cntL_get hv
    have hlC := cntL_len b (rdg b T B i0) m
    clear hcm hct
    have hcE := fun v => dgC_le (rdg b T B i0) v m
    clear hf
    rw [← hvs] at HC
    clear hvs
    generalize cntL b (rdg b T B i0) m = L at *
    generalize hE : (fun v => dgC (rdg b T B i0) v m) = E at *
    have hE' : ∀ v, dgC (rdg b T B i0) v m = E v := fun v => by rw [← hE]
    simp only [hE'] at HC hgC hcE
    obtain ⟨Z, hZ⟩ : ∃ Z : Nat → Nat, (fun k => smC (fun v => v * E v) k) = Z := ⟨_, rfl⟩
    have hZ0 : Z 0 = 0 := by rw [← hZ]; rfl
    have hZ1 : ∀ k, Z (k + 1) = Z k + k * E k := fun k => by rw [← hZ]; rfl
    have hZb : smC (fun v => v * E v) b = Z b := by rw [← hZ]
    rw [hZb] at HC
    have HZ0 := Lib.hid hZ0; have HZ1 := Lib.hid hZ1; have HGC := Lib.hid hgC; have HLC := Lib.hid hlC; have HCE := Lib.hid hcE
    have hlL : L.length ≤ 1048576 := by omega
    clear hE hE' hZ hZ0 hZ1 hZb hgC hlC hcE
    go_wp2_with fail
    refine (HI.out _).mono ?_
    rintro e w2 ⟨v, rfl, lv2, hb2⟩
    have Q2 := Q1.later hb2
    have B2 := B1.trans (hb2.mono B1.size)
    clear B1 hb2 Q1
    have cQ0 := Q2.cell0
    have cQ1 := Q2.cell1
    go_wp2_with fail
    refine (HS.out _).mono ?_
    rintro e w3 ⟨u, rfl, lu3, hb3⟩
    have Q3 := Q2.later hb3
    have lv3 := lv2.later hb3
    have B3 := B2.trans (hb3.mono B2.size)
    clear B2 hb3 Q2 lv2
    have cQ0 := Q3.cell0
    have cQ1 := Q3.cell1
    go_wp2_with fail
    refine (sameInts_any _ _ _ _ L L _ lv3 lu3 hlL hlL).mono ?_
    rintro e w4 ⟨rfl, hb4⟩
    have Q4 := Q3.later hb4
    have lv4 := lv3.later hb4
    have B4 := B3.trans (hb4.mono B3.size)
    clear B3 hb4 Q3 lv3
    have cQ0 := Q4.cell0
    have cQ1 := Q4.cell1
    have hxx : decide (L = L) = true := by simp
    rw [hxx]
    clear hxx
    go_wp2_with fail
    refine (HL.out _).mono ?_
    rintro e w5 ⟨rfl, hb5⟩
    have Q5 := Q4.later hb5
    have lv5 := lv4.later hb5
    have B5 := B4.trans (hb5.mono B4.size)
    clear B4 hb5 Q4 lv4
    have cQ0 := Q5.cell0
    have cQ1 := Q5.cell1
    go_wp2_with fail
    refine (HC.out _).mono ?_
    rintro e w6 ⟨rfl, hb6⟩
    have Q6 := Q5.later hb6
    have lv6 := lv5.later hb6
    have B6 := B5.trans (hb6.mono B5.size)
    clear B5 hb6 Q5 lv5
    have cQ0 := Q6.cell0
    have cQ1 := Q6.cell1
    obtain ⟨g, o, c, rfl, _, _, _, _⟩ := slc_some lv6 (by rw [HLC.out]; omega)
    rw [HLC.out] at lv6 ⊢
    clear Q6 cQ0 cQ1
    go_wp2_with fail
    go_loopw [14, 15] (fun n' i' wr => ∃ i N : Nat, i ≤ b ∧ N ≤ i * 16000 ∧ i' = .int .i64 i ∧ n' = .int .i64 N ∧ N = Z i ∧ Slc w1.heap.size wr (.slice (some ⟨g, o, none⟩) b c) L ∧ Below w.heap.size w wr) (fun _ i' _ => b - (intOf i').toNat)
    case atStart => exact ⟨0, 0, Nat.zero_le _, Nat.zero_le _, rfl, rfl, HZ0.out.symm, lv6.mono (by simp), B6⟩
    case round =>
      clear lv6 B6
      obtain ⟨i, N, hi, hNi, rfl, rfl, hN, lv, hb⟩ := hrel
      have HN := Lib.hid hN
      clear hN
      by_cases hlt : i < b
      · have j1 : (i : Int) < (b : Int) := by omega
        have kc := Slc.cell HLC.out lv i hlt
        rw [HGC.out i hlt] at kc
        have HST := Lib.hid (HZ1.out i)
        have hm := HCE.out i
        revert kc HST hm
        generalize E i = ei
        intro kc HST hm
        have hpr : i * ei ≤ 16 * 1000 := Nat.mul_le_mul (by omega) (by omega)
        have j2 : ((i * ei : Nat) : Int) = (i : Int) * ei := by simp
        have j3 : (0 : Int) ≤ (i : Int) * ei := by omega
        have j4 : (i : Int) * ei ≤ 16000 := by omega
        have j5 : IntKind.i64.wrap ((i : Int) * ei) = (i : Int) * ei := IntWalk.i64_in _ (by omega)
        have j6 : IntKind.i64.wrap ((N : Int) + (i : Int) * ei) = (N : Int) + (i : Int) * ei := IntWalk.i64_in _ (by omega)
        clear j2
        go_wp2_with fail
        exact ⟨⟨i + 1, N + i * ei, by omega, by omega, by go_num, by simp, by rw [HST.out, HN.out], lv, hb⟩, by simp [intOf]; omega⟩
      · obtain rfl : i = b := by omega
        have j1 : ¬ (i : Int) < (i : Int) := by omega
        rw [← HN.out]
        go_wp2_with fail
        refine (HT.out _ _ _ lv).mono ?_
        rintro e w5 ⟨rfl, rfl⟩
        go_wp2_with fail
        go_ret
        exact ⟨rfl, hb⟩

end Go.Proofs.Ytamcpoadpkgogab
