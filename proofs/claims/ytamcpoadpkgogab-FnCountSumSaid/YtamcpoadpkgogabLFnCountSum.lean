/-
  The law FnCountSum's walk.
-/
import Derived.Test.YtamcpoadpkgogabDrawS
import Derived.Test.YtamcpoadpkgogabCntB
import Derived.Test.YtamcpoadpkgogabRestL
import Derived.Test.YtamcpoadpkgogabTotI
import Derived.Test.YtamcpoadpkgogabPMath
namespace Go.Proofs.Ytamcpoadpkgogab
open Go.RowKit

theorem rrnL_getC (b T B n m k : Nat) (hk : k < m) : (rrnL b T B n m)[k]?.getD 0 = (rst b T B (n + k) : Int) := by
  unfold rrnL rstL
  rw [List.getElem?_drop, List.getElem?_map, List.getElem?_range (by omega)]
  rfl

set_option maxRecDepth 100000 in
set_option maxHeartbeats 4000000 in
theorem lawCountSum_any (H : ImCountSum) (a : Option Addr) (len cap : Nat) (zs : List Int) (w : World) (r : IsRow .u8 w a len cap zs) :
    Calls Try.prog 6 #[.slice a len cap] w fun e w' => e = .returned (.bool true) ∧ Below w.heap.size w w' := by
  have hB := byt_of_row r
  clear r
  by_cases hl : 1048576 < len
  · have hl' : (1048576 : Int) < (len : Int) := by omega
    go_enter Try.func6, Try.ntmps6
    go_wp2
    go_ret
    exact ⟨rfl, Below.refl _ _⟩
  have hl' : decide ((1048576 : Int) < (len : Int)) = false := by simp; omega
  go_enter Try.func6, Try.ntmps6
  go_wp2_with fail
  refine (drawCountSum_any a len cap _ hB).mono ?_
  rintro e w1 ⟨b, t, n, hd, rfl, hb1⟩
  clear hl hB hd
  have Q1 := Box2.new w1 26 (.int .i64 t) (.int .i64 n)
  have B1 := hb1.alloc hb1.size (.cells #[.int .i64 t, .int .i64 n] 26)
  clear hb1
  have cQ0 := Q1.cell0
  have cQ1 := Q1.cell1
  cases h : tldB b t n with
  | false =>
    have HI := Lib.hid (H.1 b t n h); have HS := Lib.hid (specCountSum_no b t n h)
    clear h
    go_wp2_with fail
    refine (HI.out _).mono ?_
    rintro e w2 ⟨rfl, hb2⟩
    have Q2 := Q1.later hb2
    have B2 := B1.trans (hb2.mono B1.size)
    clear B1 hb2 Q1
    have cQ0 := Q2.cell0
    have cQ1 := Q2.cell1
    go_wp2_with fail
    refine (HS.out _).mono ?_
    rintro e w3 ⟨rfl, hb3⟩
    have Q3 := Q2.later hb3
    have B3 := B2.trans (hb3.mono B2.size)
    clear B2 hb3 Q2
    have cQ0 := Q3.cell0
    have cQ1 := Q3.cell1
    go_wp2_with fail
    go_ret
    exact ⟨rfl, B3⟩
  | true =>
    obtain ⟨b, T, B, i0, m, rfl, rfl, rfl, hf⟩ := frd_some h
    clear h
    have hb2' := hf.b2; have hb16 := hf.b16; have hm1 := hf.pos; have hm2 := hf.le
    have hB1 := hf.bot; have hTB := hf.lt
    have HI := Lib.hid (H.2 b T B i0 m hf); have HS := Lib.hid (specCountSum_yes b T B i0 m hf)
    have hsd : smC (rdg b T B i0) m * B = (b - 1) * smC (fun i => rst b T B (i0 + i)) m := sum_dig_rst (by omega) (by omega) hf.len
    have hrr : sumI (rrnL b T B i0 m) = (smC (fun i => rst b T B (i0 + i)) m : Nat) := by
      rw [← sumI_map]
      congr 1
      refine List.ext_getElem (by rw [rrnL_len]; simp) fun k h1 h2 => ?_
      have h3 := rrnL_getC b T B i0 m k (by rw [rrnL_len] at h1; exact h1)
      rw [List.getElem?_eq_getElem h1] at h3
      simpa using h3
    have hrl : ∀ x ∈ rrnL b T B i0 m, 0 ≤ x ∧ x ≤ 1000 := fun x hx => by
      obtain ⟨k, hk, rfl⟩ := List.getElem_of_mem hx
      have h3 := rrnL_getC b T B i0 m k (by rw [rrnL_len] at hk; exact hk)
      rw [List.getElem?_eq_getElem hk] at h3
      have h4 := rst_lt (b := b) hTB (i0 + k)
      have h5 : (rrnL b T B i0 m)[k] = (rst b T B (i0 + k) : Int) := h3
      rw [h5]; omega
    have hSm : smC (rdg b T B i0) m ≤ m * 16 := by
      have := smC_le (f := rdg b T B i0) (g := fun _ => 16 * 1) (n := m) fun i _ => by have := hf.dig i; omega
      rw [smC_mul, smC_one] at this
      omega
    have hRm : smC (fun i => rst b T B (i0 + i)) m ≤ m * 1000 := by
      have := smC_le (f := fun i => rst b T B (i0 + i)) (g := fun _ => 1000 * 1) (n := m) fun i _ => by have := rst_lt (b := b) hTB (i0 + i); show rst b T B (i0 + i) ≤ 1000 * 1; omega
      rw [smC_mul, smC_one] at this
      omega
    have HR := Lib.hid (implRestRound_yes b T B i0 m hf.told hf.lt hf.cop hf.bot hf.b2 hf.b16 hf.len)
    have HT : Hid (∀ (n₀ : Nat) (v : Value) (wx : World), Slc n₀ wx v (rrnL b T B i0 m) → Calls Try.prog 18 #[v] wx fun e w' => e = .returned (.int .i64 (smC (fun i => rst b T B (i0 + i)) m : Nat)) ∧ wx = w') := fun n₀ v wx hv => by
      have := totalI_any n₀ v _ wx hv (by rw [rrnL_len]; omega) hrl
      rwa [hrr] at this
    clear hf hrr hrl
    generalize smC (rdg b T B i0) m = S at *
    generalize smC (fun i => rst b T B (i0 + i)) m = R at *
    have hSB : S * B ≤ 16000 * 1000 := Nat.mul_le_mul (by omega) hB1
    have hbR : (b - 1) * R ≤ 15 * 1000000 := Nat.mul_le_mul (by omega) (by omega)
    have j1 : ((S * B : Nat) : Int) = (S : Int) * B := by simp
    have j2 : (((b - 1) * R : Nat) : Int) = ((b : Int) - 1) * R := by
      rw [Int.natCast_mul]; congr 1; omega
    have j3 : (S : Int) * B = ((b : Int) - 1) * R := by rw [← j1, ← j2, hsd]
    have j4 : (0 : Int) ≤ ((b : Int) - 1) * R := by rw [← j2]; omega
    have j5 : ((b : Int) - 1) * R ≤ 15000000 := by rw [← j2]; omega
    have j6 : (((S : Int) * B) == (((b : Int) - 1) * R)) = true := by rw [j3]; simp
    clear hsd j1 j2
    go_wp2_with fail
    refine (HI.out _).mono ?_
    rintro e w2 ⟨rfl, hb2⟩
    have Q2 := Q1.later hb2
    have B2 := B1.trans (hb2.mono B1.size)
    clear B1 hb2 Q1
    have cQ0 := Q2.cell0
    have cQ1 := Q2.cell1
    go_wp2_with fail
    refine (HS.out _).mono ?_
    rintro e w3 ⟨rfl, hb3⟩
    have Q3 := Q2.later hb3
    have B3 := B2.trans (hb3.mono B2.size)
    clear B2 hb3 Q2
    have cQ0 := Q3.cell0
    have cQ1 := Q3.cell1
    go_wp2_with fail
    refine (HR.out _).mono ?_
    rintro e w4 ⟨x, rfl, lx4, hb4⟩
    have Q4 := Q3.later hb4
    have B4 := B3.trans (hb4.mono B3.size)
    clear B3 hb4 Q3
    have cQ0 := Q4.cell0
    have cQ1 := Q4.cell1
    have TT : Hid (∀ nn, Calls Try.prog 18 #[x] (w4.drewN nn) fun e w' => e = .returned (.int .i64 (R : Nat)) ∧ w' = w4.drewN nn) := fun nn => (HT.out _ x (w4.drewN nn) (lx4.later (below_drewN (Below.refl _ _) nn))).mono fun e w' h => ⟨h.1, h.2.symm⟩
    have i5 : IntKind.i64.wrap ((S : Int) * B) = (S : Int) * B := by rw [j3]; exact IntWalk.i64_in _ (by omega)
    have i6 : IntKind.i64.wrap (((b : Int) - 1) * R) = ((b : Int) - 1) * R := IntWalk.i64_in _ (by omega)
    have i7 : IntKind.i64.wrap ((b : Int) - 1) = (b : Int) - 1 := IntWalk.i64_in _ (by omega)
    clear j3 lx4 HT
    go_wp2_with fail
    go_quiet (exact Calls.quiet_of_same (TT.out _))
    go_wp2
    go_ret
    exact ⟨rfl, below_drewN B4 _⟩

end Go.Proofs.Ytamcpoadpkgogab
