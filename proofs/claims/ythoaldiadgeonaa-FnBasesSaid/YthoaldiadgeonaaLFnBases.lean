/-
  The law FnBases's walk.
-/
import Derived.Test.YthoaldiadgeonaaDrawO
import Derived.Test.YthoaldiadgeonaaGOrx
import Derived.Test.YthoaldiadgeonaaLenLaw
import Derived.Test.YthoaldiadgeonaaGRow
import Derived.Deep.QuietTactic
import Derived.BigQuiet
import Derived.Test.YthoaldiadgeonaaTq
namespace Go.Proofs.Ythoaldiadgeonaa
set_option maxRecDepth 100000
open Go.RowKit

set_option maxRecDepth 100000 in
set_option maxHeartbeats 4000000 in
theorem lawBases_any (HB : ImBases) (a : Option Addr) (len cap : Nat) (zs : List Int) (w : World) (r : IsRow .u8 w a len cap zs) :
    Calls Tryq.prog 5 #[.slice a len cap] w fun e w' => e = .returned (.bool true) ∧ Below w.heap.size w w' := by
  have hB := byt_of_row r
  clear r
  by_cases hl : 1048576 < len
  · have hl' : (1048576 : Int) < (len : Int) := by omega
    go_enter Tryq.func5, Try.ntmps5
    go_wp2
    go_ret
    exact ⟨rfl, Below.refl _ _⟩
  have hl' : decide ((1048576 : Int) < (len : Int)) = false := by simp; omega
  go_enter Tryq.func5, Try.ntmps5
  go_wp2_with fail
  refine (drawOrderBases_any a len cap _ hB).mono ?_
  rintro e w1 ⟨n, k, rfl, B1⟩
  clear hl hB
  by_cases h : (2 ≤ n ∧ n ≤ 1000) ∧ (1 ≤ k ∧ k ≤ 1000)
  case neg =>
    go_wp2_with fail
    refine (HB.1 n k h _).mono ?_
    rintro e w2 ⟨v, rfl, hv2, hb2⟩
    have B2 := B1.trans (hb2.mono B1.size)
    go_wp2_with fail
    refine (specOrderBases_no n k h _).mono ?_
    rintro e w3 ⟨u, rfl, hu3, hb3⟩
    have B3 := B2.trans (hb3.mono B2.size)
    have hv3 := hv2.later hb3
    have SM : ∀ (w4 : World) (n₀ n₁ : Nat), Slc n₀ w4 v [] → Slc n₁ w4 u [] → Calls Tryq.prog 15 #[v, u] w4 fun e w' => e = .returned (.bool true) ∧ Below w4.heap.size w4 w' := fun w4 n₀ n₁ h1 h2 => by
      have := sameInts_any n₀ n₁ v u [] [] w4 h1 h2 (by simp) (by simp)
      simpa using this
    clear hb2 hb3 B1 B2 hv2
    go_wp2_with fail
    refine (SM _ _ _ hv3 hu3).mono ?_
    rintro e w4 ⟨rfl, hb4⟩
    have B4 := B3.trans (hb4.mono B3.size)
    have hv4 := hv3.later hb4
    have hu4 := hu3.later hb4
    clear hb4 B3 hv3 hu3
    go_wp2_with fail
    refine (SM _ _ _ hv4 hu4).mono ?_
    rintro e w5 ⟨rfl, hb5⟩
    have B5 := B4.trans (hb5.mono B4.size)
    go_wp2_with fail
    go_ret
    exact ⟨rfl, B5⟩
  case pos =>
    obtain ⟨n, rfl⟩ := Int.eq_ofNat_of_zero_le (show 0 ≤ n by omega)
    obtain ⟨k, rfl⟩ := Int.eq_ofNat_of_zero_le (show 0 ≤ k by omega)
    have hn : 2 ≤ n := by omega
    have hn2 : n ≤ 1000 := by omega
    have hk : 1 ≤ k := by omega
    have hk2 : k ≤ 1000 := by omega
    obtain ⟨L, hL⟩ := bas_some hn k 17
    have hLl := hL.len
    have I := HB.2 n k L hn hn2 hk hk2 hL
    have S := specOrderBases_yes n k L hn hn2 hk hk2 hL
    have hget := bas_get hL
    have HGT := Lib.hid hget
    clear hL hget
    go_wp2_with fail
    refine (I _).mono ?_
    rintro e w2 ⟨v, rfl, hv2, hb2⟩
    have B2 := B1.trans (hb2.mono B1.size)
    go_wp2_with fail
    refine (S _).mono ?_
    rintro e w3 ⟨u, rfl, hu3, hb3⟩
    have B3 := B2.trans (hb3.mono B2.size)
    have hv3 := hv2.later hb3
    have SM : ∀ (w4 : World) (n₀ n₁ : Nat), Slc n₀ w4 v L → Slc n₁ w4 u L → Calls Tryq.prog 15 #[v, u] w4 fun e w' => e = .returned (.bool true) ∧ Below w4.heap.size w4 w' := fun w4 n₀ n₁ h1 h2 => by
      have := sameInts_any n₀ n₁ v u L L w4 h1 h2 (by omega) (by omega)
      simpa using this
    clear hb2 hb3 B1 B2 hv2
    go_wp2_with fail
    refine (SM _ _ _ hv3 hu3).mono ?_
    rintro e w4 ⟨rfl, hb4⟩
    have B4 := B3.trans (hb4.mono B3.size)
    have hv4 := hv3.later hb4
    have hu4 := hu3.later hb4
    clear hb4 B3 hv3 hu3
    obtain ⟨l, hl⟩ : ∃ l, L.length = l := ⟨_, rfl⟩
    obtain ⟨av, cv, rfl⟩ := slc_form hv4
    rw [hl] at hLl hv4 ⊢
    have HL := Lib.hid hl
    clear hl hu4 SM I S
    go_wp2_with fail
    go_loopw [9] (fun i wr => ∃ r : Nat, r ≤ l ∧ i = .int .i64 r ∧ Slc w1.heap.size wr (.slice av l cv) L ∧ Below w.heap.size w wr) (fun i _ => l - (intOf i).toNat)
    case atStart => exact ⟨0, Nat.zero_le _, rfl, hv4, B4⟩
    case round =>
      clear hv4 B4
      obtain ⟨r, hr, rfl, hv, hb⟩ := hrel
      by_cases hlt : r < l
      · have i1 : (r : Int) < l := by omega
        obtain ⟨b, j, hb1, hb2, hb3, hlen, hasc⟩ := HGT.out r (by rw [HL.out]; exact hlt)
        obtain ⟨gv, ov, cv', e1, _, _, _, _⟩ := slc_some hv (by rw [HL.out]; omega)
        rw [HL.out] at e1
        cases e1
        have hcell := hv.cell HL.out r hlt
        rw [hb1] at hcell
        have LL := fun w => implFracLengths_yes b 1 n j k w (tld_mk hb2 (by omega) (by omega) hn2 (Nat.gcd_one_left n)) (by omega) (Nat.gcd_one_left n) hn2 hb2 (by omega) hlen
        have L' : Hid (∀ wx : World, Calls Tryq.prog 20 #[.int .i64 b, .agg #[.int .i64 1, .int .i64 n]] wx fun e w' => e = .returned (.tuple #[.int .i64 j, .int .i64 k, .bool true]) ∧ Below wx.heap.size wx w') := LL
        have hjle := hlen.le (show 1 < n by omega)
        clear LL hlen
        go_wp2_with fail
        refine (L'.out _).mono ?_
        rintro e w5 ⟨rfl, hb5⟩
        have hv5 := hv.later hb5
        have B5 := hb.trans (hb5.mono hb.size)
        have hcell5 := hv5.cell HL.out r hlt
        rw [hb1] at hcell5
        clear hcell hv hb hb5 L'
        rcases Nat.eq_zero_or_pos r with rfl | h0
        · go_wp2_with fail
          go_quiet (fail)
          go_wp2
          exact ⟨⟨1, by omega, rfl, hv5.later (below_drewN (Below.refl _ _) _), below_drewN B5 _⟩, by simp [intOf]; omega⟩
        · have hpre := hv5.cell HL.out (r - 1) (by omega)
          have has := hasc h0
          have h0' : (0 : Int) < r := by omega
          have er : ((r : Int) - 1) = ((r - 1 : Nat) : Int) := by omega
          revert hpre has
          generalize L[r - 1]?.getD 0 = y
          intro hpre has
          have has' : ¬ (b : Int) ≤ y := by omega
          obtain ⟨r', rfl⟩ : ∃ r', r = r' + 1 := ⟨r - 1, by omega⟩
          rw [show r' + 1 - 1 = r' by omega] at hpre
          have i4 : (0 : Int) ≤ r' := by omega
          have i5 : (r' : Int) < l := by omega
          have i6 : IntKind.i64.wrap ((r' : Int) + 1 - 1) = r' := by rw [wrap_in _ (by omega) (by omega)]; omega
          have i7 : (0 : Int) ≤ (r' : Int) + 1 := by omega
          have i8 : (r' : Int) + 1 < l := by omega
          have i9 : (0 : Int) < (r' : Int) + 1 := by omega
          have i10 : decide ((b : Int) ≤ y) = false := by simp; omega
          clear er hasc has' i1 h0 h0'
          go_wp2_with fail
          go_quiet (fail)
          go_wp2
          exact ⟨⟨r' + 1 + 1, by omega, by simp, hv5.later (below_drewN (Below.refl _ _) _), below_drewN B5 _⟩, by simp [intOf]; omega⟩
      · obtain rfl : r = l := by omega
        have i1 : ¬ (r : Int) < r := by omega
        go_wp2_with fail
        go_ret
        exact ⟨rfl, hb⟩

end Go.Proofs.Ythoaldiadgeonaa
