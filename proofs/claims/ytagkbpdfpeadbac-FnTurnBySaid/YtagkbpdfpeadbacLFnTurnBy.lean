/-
  The law FnTurnBy's walk.
-/
import Derived.Test.YtagkbpdfpeadbacDrawR
import Derived.Test.YtagkbpdfpeadbacTurnB
import Derived.Test.YtagkbpdfpeadbacGRow
import Derived.Test.YtagkbpdfpeadbacTotI
namespace Go.Proofs.Ytagkbpdfpeadbac
open Go.RowKit

set_option maxRecDepth 100000 in
set_option maxHeartbeats 4000000 in
theorem lawTurnBy_any (H : ImTurnBy) (a : Option Addr) (len cap : Nat) (zs : List Int) (w : World) (r : IsRow .u8 w a len cap zs) :
    Calls Try.prog 3 #[.slice a len cap] w fun e w' => e = .returned (.bool true) ∧ Below w.heap.size w w' := by
  have hB := byt_of_row r
  clear r
  by_cases hl : 1048576 < len
  · have hl' : (1048576 : Int) < (len : Int) := by omega
    go_enter Try.func3, Try.ntmps3
    go_wp2
    go_ret
    exact ⟨rfl, Below.refl _ _⟩
  have hl' : decide ((1048576 : Int) < (len : Int)) = false := by simp; omega
  go_enter Try.func3, Try.ntmps3
  go_wp2_with fail
  refine (drawTurnBy_any a len cap _ hB).mono ?_
  rintro e w1 ⟨b, k, y, d, d1, d2, hd, hk4, rfl, ly1, B1⟩
  clear hl hB
  have hdl : d.length ≤ 1048576 := by omega
  cases h : rngB b d && decide (0 ≤ (k : Int) ∧ (k : Int) ≤ 250) with
  | false =>
    have HI := Lib.hid (H.1 b k d hdl h); have HS := Lib.hid (specTurnBy_no b k d hdl h)
    clear h
    go_wp2_with fail
    refine (HI.out _ y w1 ly1).mono ?_
    rintro e w2 ⟨v, rfl, lv2, hb2⟩
    have B2 := B1.trans (hb2.mono B1.size)
    have ly2 := ly1.later hb2
    clear B1 hb2 ly1
    go_wp2_with fail
    refine (HS.out _ y w2 ly2).mono ?_
    rintro e w3 ⟨u, rfl, lu3, hb3⟩
    have B3 := B2.trans (hb3.mono B2.size)
    have lv3 := lv2.later hb3
    clear B2 hb3 lv2
    go_wp2_with fail
    refine (sameInts_any _ _ _ _ ([] : List Int) ([] : List Int) _ lv3 lu3 (by simp) (by simp)).mono ?_
    rintro e w4 ⟨rfl, hb4⟩
    have B4 := B3.trans (hb4.mono B3.size)
    have lv4 := lv3.later hb4
    have lu4 := lu3.later hb4
    clear B3 hb4 lv3 lu3
    have hxx : decide (([] : List Int) = ([] : List Int)) = true := by simp
    rw [hxx]
    clear hxx
    go_wp2_with fail
    refine (sameInts_any _ _ _ _ ([] : List Int) ([] : List Int) _ lv4 lu4 (by simp) (by simp)).mono ?_
    rintro e w5 ⟨rfl, hb5⟩
    have B5 := B4.trans (hb5.mono B4.size)
    clear B4 hb5
    have hxx : decide (([] : List Int) = ([] : List Int)) = true := by simp
    rw [hxx]
    clear hxx
    go_wp2_with fail
    go_ret
    exact ⟨rfl, B5⟩
  | true =>
    obtain ⟨b', k', e1, e2, hr, hk⟩ := rng_and h
    obtain rfl : b = b' := by omega
    obtain rfl : k = k' := by omega
    clear e1 e2 h
    have HI := Lib.hid (H.2 b k d hr (by omega)); have HS := Lib.hid (specTurnBy_yes b k d hr (by omega))
    have hb2 := hr.b2; have hb16 := hr.b16; have hd1 := hr.l1; have hd2 := hr.l2
    have hx1 : ∀ x ∈ d, 0 ≤ x ∧ x ≤ 1000 := fun x hx => by have := hr.dg x hx; omega
    have hrl : ∀ r, (rotL d r).length = d.length := fun r => rotL_len
    have hx2 : ∀ r, ∀ x ∈ rotL d r, 0 ≤ x ∧ x ≤ 1000 := fun r x hx => hx1 x (rotL_mem hx)
    have hsr : ∀ r, sumI (rotL d r) = sumI d := fun r => sumI_rot d r
    have T1 : Hid (∀ (n₀ : Nat) (v : Value) (wx : World), Slc n₀ wx v d → Calls Try.prog 11 #[v] wx fun e w' => e = .returned (.int .i64 (sumI d)) ∧ wx = w') := fun n₀ v wx hv => totalI_any n₀ v d wx hv (by omega) hx1
    have T2 : Hid (∀ (r n₀ : Nat) (v : Value) (wx : World), Slc n₀ wx v (rotL d r) → Calls Try.prog 11 #[v] wx fun e w' => e = .returned (.int .i64 (sumI d)) ∧ wx = w') := fun r n₀ v wx hv => by
      have := totalI_any n₀ v (rotL d r) wx hv (by rw [hrl]; omega) (hx2 r)
      rwa [hsr] at this
    have hback : rotL (rotL d (k % d.length)) ((d.length - k % d.length) % d.length) = d := by
      have hlt : k % d.length < d.length := Nat.mod_lt _ (by omega)
      rcases Nat.eq_zero_or_pos (k % d.length) with h0 | h0
      · rw [h0, rotL_zero, Nat.sub_zero, Nat.mod_self, rotL_zero]
      · rw [Nat.mod_eq_of_lt (show d.length - k % d.length < d.length by omega)]
        exact rotL_back (Nat.le_of_lt hlt)
    have HB2 := H.2 b ((d.length - k % d.length) % d.length) (rotL d (k % d.length)) (hr.rot _) (by have := Nat.mod_lt (d.length - k % d.length) (show 0 < d.length by omega); omega)
    rw [rotL_len, Nat.mod_mod, hback] at HB2
    have hle : (rotL d (k % d.length)).length ≤ 1048576 := by rw [rotL_len]; omega
    obtain ⟨n, hn⟩ : ∃ n, d.length = n := ⟨_, rfl⟩
    have hn0 : ¬ n = 0 := by omega
    rw [hn] at HB2 HI HS hle hd1 hd2
    have hkn : k % n < n := Nat.mod_lt _ (by omega)
    obtain ⟨r, hrr⟩ : ∃ r, k % n = r := ⟨_, rfl⟩
    rw [hrr] at HB2 hkn HI HS hle
    have hkI : (k : Int) % (n : Int) = (r : Int) := by omega
    have e1 : (-(r : Int)) % (n : Int) = (((n - r) % n : Nat) : Int) := by
      have h5 : -(r : Int) = ((n - r : Nat) : Int) + (n : Int) * (-1) := by omega
      rw [h5, Int.add_mul_emod_self_left]; simp
    rw [← e1] at HB2
    have HBB := Lib.hid HB2; have HN := Lib.hid hn
    clear hrr
    have hk250 : k ≤ 250 := by omega
    clear hr hx1 hrl hx2 hsr hback HB2 e1 hn
    go_wp2_with fail
    refine (HI.out _ y w1 ly1).mono ?_
    rintro e w2 ⟨v, rfl, lv2, hb02⟩
    have B2 := B1.trans (hb02.mono B1.size)
    have ly2 := ly1.later hb02
    clear B1 hb02 ly1
    go_wp2_with fail
    refine (HS.out _ y w2 ly2).mono ?_
    rintro e w3 ⟨u, rfl, lu3, hb3⟩
    have B3 := B2.trans (hb3.mono B2.size)
    have lv3 := lv2.later hb3
    have ly3 := ly2.later hb3
    clear B2 hb3 lv2 ly2
    go_wp2_with fail
    refine (sameInts_any _ _ _ _ (rotL d r) (rotL d r) _ lv3 lu3 hle hle).mono ?_
    rintro e w4 ⟨rfl, hb4⟩
    have B4 := B3.trans (hb4.mono B3.size)
    have lv4 := lv3.later hb4
    have ly4 := ly3.later hb4
    clear B3 hb4 lv3 ly3
    have hxx : decide ((rotL d r) = (rotL d r)) = true := by simp
    rw [hxx]
    clear hxx
    obtain ⟨ay, cy, rfl⟩ := slc_form ly4
    revert ly4
    rw [HN.out]
    intro ly4
    clear HI HS lu3 hle
    have BB4 := Lib.hid (HBB.out _ v w4 lv4)
    go_wp2_with fail
    refine BB4.out.mono ?_
    rintro e w5 ⟨x, rfl, lx5, hb5⟩
    have B5 := B4.trans (hb5.mono B4.size)
    have lv5 := lv4.later hb5
    have ly5 := ly4.later hb5
    clear lv4 ly4 B4 hb5 BB4 HBB
    go_wp2_with fail
    refine (sameInts_any _ _ _ _ d d _ lx5 ly5 hdl hdl).mono ?_
    rintro e w6 ⟨rfl, hb6⟩
    have hxx : decide (d = d) = true := by simp
    rw [hxx]
    clear hxx
    have B6 := B5.trans (hb6.mono B5.size)
    have lv6 := lv5.later hb6
    have ly6 := ly5.later hb6
    clear lv5 ly5 lx5 B5 hb6
    have T24 := Lib.hid (T2.out _ _ _ w6 lv6)
    have T14 := Lib.hid (T1.out _ _ w6 ly6)
    clear T1 T2 lv6 ly6
    go_wp2_with fail
    refine T24.out.mono ?_
    rintro e w7 ⟨rfl, rfl⟩
    go_wp2_with fail
    refine T14.out.mono ?_
    rintro e w7 ⟨rfl, rfl⟩
    go_wp2_with fail
    go_ret
    exact ⟨rfl, B6⟩

end Go.Proofs.Ytagkbpdfpeadbac
