/-
  Counts of digits and their sum: the model's side.
-/
import Derived.Test.YtamcpoadpkgogacCntI
import Derived.Test.YtamcpoadpkgogacEq
import Derived.Test.YtamcpoadpkgogacRow
import Derived.Test.YtamcpoadpkgogacPMath
import Derived.RegionTactic
import Derived.BigRegion
import Derived.Deep.QuietTactic
import Derived.BigQuiet
namespace Go.Proofs.Ytamcpoadpkgogac
open Go.RowKit

theorem row_slcC {W : World} {g n₀ : Nat} {zs : List Int} (h : RowI W g zs) (hg : n₀ ≤ g) (hm : zs.length ≤ maxLen) : Slc n₀ W (.slice (some ⟨g, 0, none⟩) zs.length zs.length) zs := by
  obtain ⟨cur, h1, h2⟩ := h
  have hl : cur.size = zs.length := by rw [← Array.length_toList, h2, List.length_map]
  refine .inr ⟨g, 0, zs.length, cur, rfl, hg, h1, Nat.le_refl _, hm, by omega, ?_⟩
  rw [List.drop_zero, h2]
  exact List.take_of_length_le (by simp)

theorem bel1C {w w1 : World} {o : Obj} (hb : Below (w.alloc o).heap.size (w.alloc o) w1) : Below w.heap.size w w1 := ((Below.refl w.heap.size w).alloc (Nat.le_refl _) o).trans (hb.mono (by simp))

set_option maxHeartbeats 2000000 in
theorem l7Counts_any (n₀ b m : Nat) (D : Nat → Nat) (v : Value) (L : List Int) (w : World) (hv : Slc n₀ w v L) (hL : L.length = m) (hd : ∀ i, i < m → L[i]?.getD 0 = (D i : Int)) (hD : ∀ i, i < m → D i < b) (hb : b ≤ 16) (hm1 : 1 ≤ m) (hm2 : m ≤ 1000) :
    Calls Try.prog 34 #[.int .i64 b, v] w fun e w' => ∃ u, e = .returned u ∧ Slc w.heap.size w' u (cntL b D m) ∧ Below w.heap.size w w' := by
  obtain ⟨g, o, c, rfl, _, hgl, _, _⟩ := slc_some hv (by omega)
  rw [hL] at hv ⊢
  have hmk := run_make_row' (P := Try.prog) 33 3 (.int .i64 0) 8 Try.underlying33 infoInt rfl .i64 .i64 b (by omega) (by omega)
  have HL := Lib.hid hL; have HD := Lib.hid hd; have HB := Lib.hid hD
  have hR0 := RowI.made (W := w) (g := w.heap.size) b rfl
  have hB0 : Below w.heap.size w (w.alloc (.cells (madeCells #[.int .i64 0] b) 3)) := (Below.refl _ _).alloc (Nat.le_refl _) _
  clear hL hd hD
  go_enter Try.func34, Try.ntmps34
  go_wp2_with fail
  go_loopw [6] (fun i' wr => ∃ i : Nat, i ≤ m ∧ i' = .int .i64 i ∧ RowI wr w.heap.size (cntL b D i) ∧ Below w.heap.size w wr) (fun i' _ => m - (intOf i').toNat)
  case atStart => exact ⟨0, Nat.zero_le _, rfl, by rw [cntL_zero]; exact hR0, hB0⟩
  case round =>
    clear hR0 hB0 hmk
    obtain ⟨i, hi, rfl, hR, hbl⟩ := hrel
    by_cases hlt : i < m
    · have j1 : (i : Int) < (m : Int) := by omega
      have j2 : (0 : Int) ≤ (i : Int) := by omega
      have kc := Slc.cell HL.out (hv.later hbl) i hlt
      have hDi := HB.out i hlt
      rw [HD.out i hlt] at kc
      have hcz := hR.cell (D i) (by rw [cntL_len]; exact hDi)
      rw [cntL_get hDi] at hcz
      have hfz := hR.frozen (D i)
      have hset := hR.set (D i) ((dgC D (D i) i : Int) + 1)
      rw [cntL_set] at hset
      have hcl := dgC_le D (D i) i
      have hbs : Below w.heap.size w (wr.setCell ⟨w.heap.size, D i, none⟩ (.int .i64 ((dgC D (D i) i : Int) + 1))) := hbl.setCell (p := ⟨w.heap.size, D i, none⟩) (Nat.le_refl _) _
      have HS := Lib.hid hset; have HBS := Lib.hid hbs
      clear hset hbs hR
      revert kc hcz hfz HS HBS hDi hcl
      generalize D i = d
      generalize dgC D d i = q
      intro kc hDi hcz hfz hcl HS HBS
      have i1 : (d : Int) < (b : Int) := by omega
      have i2 : (0 : Int) ≤ (d : Int) := by omega
      have i3 : IntKind.i64.wrap ((q : Int) + 1) = (q : Int) + 1 := IntWalk.i64_in _ (by omega)
      have i4 : IntKind.i64.wrap (i : Int) = i := IntWalk.i64_in _ (by omega)
      have i5 : IntKind.i64.wrap (d : Int) = d := IntWalk.i64_in _ (by omega)
      have kcD : wr.drew.cell? ⟨g, o + i, none⟩ = some (.int .i64 d) := kc
      have hczD : wr.drew.cell? ⟨w.heap.size, d, none⟩ = some (.int .i64 q) := hcz
      have hfzD : wr.drew.frozen? ⟨w.heap.size, d, none⟩ = false := hfz
      go_wp2_with fail
      go_region
      all_goals (
        go_wp2
        go_roundw
        case rel => exact ⟨i + 1, by omega, by go_num, HS.out, HBS.out.drew⟩
        case measure => simp [intOf]; omega)
    · obtain rfl : i = m := by omega
      have j1 : ¬ (i : Int) < (i : Int) := by omega
      go_wp2_with fail
      go_ret
      have := row_slcC hR (Nat.le_refl _) (by rw [cntL_len]; unfold maxLen; omega)
      rw [cntL_len] at this
      exact ⟨_, rfl, this, hbl⟩


set_option maxHeartbeats 1000000 in
theorem specCountDigits_no (b t n : Int) (h : tldB b t n = false) : Gives 14 #[.int .i64 b, .agg #[.int .i64 t, .int .i64 n]] [] false := by
  intro w
  go_enter Try.func14, Try.ntmps14
  go_wp2_with (go_at_call 33; refine (l1Given_any _ _ _ _).mono ?_; rintro e w1 ⟨rfl, hb1⟩)
  go_ret2
  have hb := bel1C hb1
  exact ⟨_, rfl, Slc.empty hb.size, hb.alloc hb.size _⟩

set_option maxHeartbeats 1000000 in
theorem specCountDigits_yes (b T B n m : Nat) (h : Frd b T B n m) : Gives 14 #[.int .i64 b, .agg #[.int .i64 T, .int .i64 B]] (cntL b (rdg b T B n) m) true := by
  intro w
  have ht := h.told
  have RN := Lib.hid (fun wx => l1Round_any b T B wx h.lt h.bot h.b2 h.b16)
  have HC := Lib.hid (fun (n₀ : Nat) (v : Value) (wx : World) (hv : Slc n₀ wx v (rndL b T B n m)) => l7Counts_any n₀ b m (rdg b T B n) v _ wx hv (rndL_len b T B n m) (fun i hi => rndL_get b T B n m i hi) (fun i _ => h.dig i) h.b16 h.pos h.le)
  have HM := Lib.hid h.len
  clear h
  go_enter Try.func14, Try.ntmps14
  go_wp2_with fail
  refine (l1Given_any _ _ _ _).mono ?_
  rintro e w1 ⟨rfl, hb1⟩
  rw [ht]
  have q1 := (Box2.newAt (W := w) (T := 24) (x := .int .i64 T) (y := .int .i64 B) rfl).later hb1
  have k0 := q1.cell0
  have k1 := q1.cell1
  have hb := bel1C hb1
  clear hb1 ht
  go_wp2_with fail
  refine (RN.out _).mono ?_
  rintro e w2 ⟨v, n', m', hm', rfl, hv, hb2⟩
  obtain ⟨rfl, rfl⟩ := HM.out.unique hm'
  have hbb := hb.trans (hb2.mono hb.size)
  clear hm' hb2 hb q1 k0 k1
  go_wp2_with fail
  refine (HC.out _ v w2 hv).mono ?_
  rintro e w3 ⟨u, rfl, hu, hb3⟩
  have hb4 := hbb.trans (hb3.mono hbb.size)
  go_wp2_with fail
  go_ret2
  exact ⟨_, rfl, hu.mono hbb.size, hb4⟩


end Go.Proofs.Ytamcpoadpkgogac
