/-
  The law FnOnes's walk.
-/
import Derived.Test.YtdeaikejfpmagaaDrawO
import Derived.Test.YtdeaikejfpmagaaOrdI
namespace Go.Proofs.Ytdeaikejfpmagaa
open Go.RowKit

set_option maxRecDepth 100000 in
set_option maxHeartbeats 4000000 in
theorem lawOnes_any (HO : ImOnes) (HF : ImOf) (a : Option Addr) (len cap : Nat) (zs : List Int) (w : World) (r : IsRow .u8 w a len cap zs) :
    Calls Try.prog 4 #[.slice a len cap] w fun e w' => e = .returned (.bool true) ∧ Below w.heap.size w w' := by
  have hB := byt_of_row r
  clear r
  by_cases hl : 1048576 < len
  · have hl' : (1048576 : Int) < (len : Int) := by omega
    go_enter Try.func4, Try.ntmps4
    go_wp2
    go_ret
    exact ⟨rfl, Below.refl _ _⟩
  have hl' : decide ((1048576 : Int) < (len : Int)) = false := by simp; omega
  go_enter Try.func4, Try.ntmps4
  go_wp2_with fail
  refine (drawOrderOnes_any a len cap _ hB).mono ?_
  rintro e w1 ⟨b, n, rfl, B1⟩
  clear hl hB
  cases h : prmB b n with
  | false =>
    go_wp2_with fail
    refine (HO.1 b n h _).mono ?_
    rintro e w2 ⟨rfl, hb2⟩
    have B2 := B1.trans (hb2.mono B1.size)
    clear B1 hb2
    go_wp2_with fail
    refine (specOrderOnes_no b n h _).mono ?_
    rintro e w3 ⟨rfl, hb3⟩
    have B3 := B2.trans (hb3.mono B2.size)
    clear B2 hb3
    go_wp2_with fail
    go_ret
    exact ⟨rfl, B3⟩
  | true =>
    obtain ⟨b, n, rfl, rfl, h3, h4, hn, hn2, hbn⟩ := prm_nat h
    obtain ⟨k, hkn, hk⟩ := isOne_some hbn (show 0 < n by omega)
    obtain ⟨m, hm⟩ := ord_some hbn hn
    have hmp := hm.pos
    have hml := hm.le (show 1 < n by omega)
    obtain ⟨hdv, heq⟩ := ones_ord h3 hn hm hk
    have I := HO.2 b n k h h3 h4 hn hn2 hk hkn
    have S := specOrderOnes_yes b n k h h3 h4 hn hn2 hk hkn
    have F := HF.2 b n m h h4 hn hn2 hm
    have hdv' : ((k : Int) + 1) % m = 0 := by
      have : (k + 1) % m = 0 := Nat.mod_eq_zero_of_dvd hdv
      exact_mod_cast this
    have HQ := Lib.hid heq
    clear hdv heq hk hm
    go_wp2_with fail
    refine (I _).mono ?_
    rintro e w2 ⟨rfl, hb2⟩
    have B2 := B1.trans (hb2.mono B1.size)
    clear B1 hb2
    go_wp2_with fail
    refine (S _).mono ?_
    rintro e w3 ⟨rfl, hb3⟩
    have B3 := B2.trans (hb3.mono B2.size)
    clear B2 hb3
    go_wp2_with fail
    refine (F _).mono ?_
    rintro e w4 ⟨rfl, hb4⟩
    have B4 := B3.trans (hb4.mono B3.size)
    clear B3 hb4
    have hm0 : ¬ m = 0 := by omega
    have hgp : 0 < Nat.gcd n (b - 1) := Nat.gcd_pos_of_pos_left _ (by omega)
    obtain ⟨G, hG⟩ : ∃ G, Nat.gcd n (b - 1) = G := ⟨_, rfl⟩
    rw [hG] at hgp
    have HQ2 : Hid (G = 1 → k + 1 = m) := fun e => HQ.out (hG.trans e)
    have HGG := Lib.hid hG
    clear HQ hG
    go_wp2_with fail
    go_loop [11, 12] (fun g h => ∃ x y : Nat, x ≤ 1000 ∧ y ≤ 1000 ∧ Nat.gcd x y = G ∧ g = .int .i64 x ∧ h = .int .i64 y) (fun _ h => (intOf h).toNat)
    case atStart => exact ⟨n, b - 1, hn2, by omega, HGG.out, rfl, by rw [show (b : Int) - 1 = ((b - 1 : Nat) : Int) by omega]⟩
    case round =>
      obtain ⟨x, y, hx, hy, hxy, rfl, rfl⟩ := hrel
      by_cases hy0 : y = 0
      · subst hy0
        rw [Nat.gcd_zero_right] at hxy
        subst hxy
        by_cases hg1 : 1 < x
        · have hg1' : (1 : Int) < x := by omega
          go_wp2_with fail
          go_ret
          exact ⟨rfl, B4⟩
        · have hkm := HQ2.out (by omega)
          have hg1' : ¬ (1 : Int) < x := by omega
          have hkm' : ((k : Int) + 1 == (m : Int)) = true := by simp; omega
          clear hkm
          go_wp2_with fail
          go_ret
          exact ⟨rfl, B4⟩
      · have hlt : x % y < y := Nat.mod_lt _ (by omega)
        have HX := Lib.hid (show Nat.gcd y (x % y) = G by rw [Nat.gcd_comm, ← Nat.gcd_rec, Nat.gcd_comm]; exact hxy)
        clear hxy
        have hyy : ¬ (y : Int) = 0 := by omega
        go_wp2_with fail
        refine ⟨⟨y, x % y, hy, by omega, HX.out, rfl, by simp⟩, ?_⟩
        have : (x : Int) % y = ((x % y : Nat) : Int) := rfl
        simp [intOf]
        omega

end Go.Proofs.Ytdeaikejfpmagaa
