/-
  The law FnSplit's walk.
-/
import Derived.Test.YtdeaikejfpmagaaDrawO
import Derived.Test.YtdeaikejfpmagaaOrdI
import Derived.Test.YtdeaikejfpmagaaLenLaw
namespace Go.Proofs.Ytdeaikejfpmagaa
open Go.RowKit

set_option maxRecDepth 100000 in
set_option maxHeartbeats 4000000 in
theorem lawSplit_any (HS : ImSplit) (HB : ImBegin) (HF : ImOf) (a : Option Addr) (len cap : Nat) (zs : List Int) (w : World) (r : IsRow .u8 w a len cap zs) :
    Calls Try.prog 5 #[.slice a len cap] w fun e w' => e = .returned (.bool true) ∧ Below w.heap.size w w' := by
  have hB := byt_of_row r
  clear r
  by_cases hl : 1048576 < len
  · have hl' : (1048576 : Int) < (len : Int) := by omega
    go_enter Try.func5, Try.ntmps5
    go_wp2
    go_ret
    exact ⟨rfl, Below.refl _ _⟩
  have hl' : decide ((1048576 : Int) < (len : Int)) = false := by simp; omega
  go_enter Try.func5, Try.ntmps5
  go_wp2_with fail
  refine (drawOrderSplit_any a len cap _ hB).mono ?_
  rintro e w1 ⟨b, n, rfl, B1⟩
  clear hl hB
  by_cases h : (2 ≤ b ∧ b ≤ 16) ∧ (2 ≤ n ∧ n ≤ 1000)
  case neg =>
    go_wp2_with fail
    refine (HS.1 b n h _).mono ?_
    rintro e w2 ⟨rfl, hb2⟩
    have B2 := B1.trans (hb2.mono B1.size)
    clear B1 hb2
    go_wp2_with fail
    refine (specOrderSplit_no b n h _).mono ?_
    rintro e w3 ⟨rfl, hb3⟩
    have B3 := B2.trans (hb3.mono B2.size)
    clear B2 hb3
    go_wp2_with fail
    go_ret
    exact ⟨rfl, B3⟩
  case pos =>
    obtain ⟨b, rfl⟩ := Int.eq_ofNat_of_zero_le (show 0 ≤ b by omega)
    obtain ⟨n, rfl⟩ := Int.eq_ofNat_of_zero_le (show 0 ≤ n by omega)
    have h3 : 2 ≤ b := by omega
    have h4 : b ≤ 16 := by omega
    have hn : 2 ≤ n := by omega
    have hn2 : n ≤ 1000 := by omega
    obtain ⟨f, s, hs⟩ := split_some (b := b) (show 0 < n by omega)
    obtain ⟨j, hj⟩ := isPow_some hs.pow
    have hsp : 0 < s := Nat.pos_of_ne_zero fun e => by have := hs.eq; rw [e, Nat.mul_zero] at this; omega
    have hfp : 0 < f := Nat.pos_of_ne_zero fun e => by have := hs.eq; rw [e, Nat.zero_mul] at this; omega
    have hsn : s ≤ n := by rw [← hs.eq]; exact Nat.le_mul_of_pos_left _ hfp
    obtain ⟨k, hk⟩ := rnd_some hsp hs.cop
    have hlen := len_split h3 hn hs hj hk
    have hle := hlen.le (show 1 < n by omega)
    obtain ⟨_, hj9⟩ := pow_bound hn hn2 hs hj
    have I := HS.2 b n f s h3 h4 hn hn2 hs
    have S := specOrderSplit_is b n f s h3 h4 hn hn2 hs
    have L := fun w => implFracLengths_yes b 1 n j k w (tld_mk h3 h4 (by omega) hn2 (Nat.gcd_one_left n)) (by omega) (Nat.gcd_one_left n) hn2 h3 h4 hlen
    have G := HB.2 b n f s j h3 h4 hn hn2 hs hj (by omega)
    have hfs : (f : Int) * s = n := by have := hs.eq; rw [← this]; simp
    have O : s = 1 ∧ k = 1 ∨ 2 ≤ s ∧ GivesI 14 #[.int .i64 b, .int .i64 s] k true := by
      rcases hk with h | ⟨h1, h2⟩
      · exact .inl h
      · exact .inr ⟨h1, HF.2 b s k (prm_mk h3 h4 h1 (by omega) (by rw [Nat.gcd_comm]; exact hs.cop)) h4 h1 (by omega) h2⟩
    have HO := Lib.hid O
    clear hs hj hk hlen O
    go_wp2_with fail
    refine (I _).mono ?_
    rintro e w2 ⟨rfl, hb2⟩
    have B2 := B1.trans (hb2.mono B1.size)
    clear B1 hb2
    go_wp2_with fail
    refine (S _).mono ?_
    rintro e w3 ⟨rfl, hb3⟩
    have B3 := B2.trans (hb3.mono B2.size)
    clear B2 hb3
    have L' : Hid (∀ wx : World, Calls Try.prog 18 #[.int .i64 b, .agg #[.int .i64 1, .int .i64 n]] wx fun e w' => e = .returned (.tuple #[.int .i64 j, .int .i64 k, .bool true]) ∧ Below wx.heap.size wx w') := L
    clear L
    go_wp2_with fail
    refine (L'.out _).mono ?_
    rintro e w4 ⟨rfl, hb4⟩
    have B4 := B3.trans (hb4.mono B3.size)
    clear B3 hb4
    go_wp2_with fail
    refine (G _).mono ?_
    rintro e w5 ⟨rfl, hb5⟩
    have B5 := B4.trans (hb5.mono B4.size)
    clear B4 hb5
    rcases HO.out with ⟨rfl, rfl⟩ | ⟨h1, O⟩
    · go_wp2_with fail
      go_ret
      exact ⟨rfl, B5⟩
    · have h1' : (1 : Int) < s := by omega
      go_wp2_with fail
      refine (O _).mono ?_
      rintro e w6 ⟨rfl, hb6⟩
      have B6 := B5.trans (hb6.mono B5.size)
      clear B5 hb6
      go_wp2_with fail
      go_ret
      exact ⟨rfl, B6⟩

end Go.Proofs.Ytdeaikejfpmagaa
