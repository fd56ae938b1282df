/-
  The law FnTurnLeast's walk.
-/
import Derived.Test.YtagkbpdfpeadbacDrawR
import Derived.Test.YtagkbpdfpeadbacTurnB
import Derived.Test.YtagkbpdfpeadbacGRow
namespace Go.Proofs.Ytagkbpdfpeadbac
open Go.RowKit

set_option maxRecDepth 100000 in
set_option maxHeartbeats 4000000 in
theorem lawTurnLeast_any (H : ImTurnLeast) (HB : ImTurnBy) (a : Option Addr) (len cap : Nat) (zs : List Int) (w : World) (r : IsRow .u8 w a len cap zs) :
    Calls Try.prog 4 #[.slice a len cap] w fun e w' => e = .returned (.bool true) ∧ Below w.heap.size w w' := by
  have hB := byt_of_row r
  clear r
  by_cases hl : 1048576 < len
  · have hl' : (1048576 : Int) < (len : Int) := by omega
    go_enter Try.func4, Try.ntmps4
    go_wp2
    go_ret
    exact ⟨rfl, Below.refl _ _⟩
  have hl' : decide ((1048576 : Int) < (len : Int)) = false := by simp; omega
  go_enter Try.func4, Try.ntmps4
  go_wp2_with fail
  refine (drawTurnLeast_any a len cap _ hB).mono ?_
  rintro e w1 ⟨b, y, d, d1, d2, hd, rfl, ly1, B1⟩
  clear hl hB
  have hdl : d.length ≤ 1048576 := by omega
  cases h : rngB b d with
  | false =>
    have HI := Lib.hid (H.1 b d hdl h); have HS := Lib.hid (specTurnLeast_no b d hdl h)
    clear h
    go_wp2_with fail
    refine (HI.out _ y w1 ly1).mono ?_
    rintro e w2 ⟨rfl, hb2⟩
    have B2 := B1.trans (hb2.mono B1.size)
    have ly2 := ly1.later hb2
    clear B1 hb2 ly1
    go_wp2_with fail
    refine (HS.out _ y w2 ly2).mono ?_
    rintro e w3 ⟨rfl, hb3⟩
    have B3 := B2.trans (hb3.mono B2.size)
    clear B2 hb3
    go_wp2_with fail
    go_ret
    exact ⟨rfl, B3⟩
  | true =>
    obtain ⟨b', e1, hr⟩ := rng_nat h
    obtain rfl : b = b' := by omega
    clear e1 h
    obtain ⟨k, hk, hkl⟩ := turn_some (d := d) hr.l1
    have hk1 := hk.1
    have HI := Lib.hid (H.2 b k d hr hk); have HS := Lib.hid (specTurnLeast_yes b k d hr hk); have HBB := Lib.hid (HB.2 b k d hr (by have := hr.l2; omega))
    have hdv := hk.dvd hr.l1
    rw [hk.2.1] at HBB
    obtain ⟨n, hn⟩ : ∃ n, d.length = n := ⟨_, rfl⟩
    rw [hn] at hdv hkl
    have hdvI : (n : Int) % (k : Int) = 0 := by omega
    have hk0 : ¬ k = 0 := by omega
    have HN := Lib.hid hn
    clear hr hk hn
    go_wp2_with fail
    refine (HI.out _ y w1 ly1).mono ?_
    rintro e w2 ⟨rfl, hb2⟩
    have B2 := B1.trans (hb2.mono B1.size)
    have ly2 := ly1.later hb2
    clear B1 hb2 ly1
    go_wp2_with fail
    refine (HS.out _ y w2 ly2).mono ?_
    rintro e w3 ⟨rfl, hb3⟩
    have B3 := B2.trans (hb3.mono B2.size)
    have ly3 := ly2.later hb3
    clear B2 hb3 ly2
    go_wp2_with fail
    refine (HBB.out _ y w3 ly3).mono ?_
    rintro e w4 ⟨x, rfl, lx4, hb4⟩
    have B4 := B3.trans (hb4.mono B3.size)
    have ly4 := ly3.later hb4
    clear B3 hb4 ly3
    obtain ⟨ay, cy, rfl⟩ := slc_form ly4
    rw [HN.out] at ly4 ⊢
    go_wp2_with fail
    refine (sameInts_any _ _ _ _ d d _ lx4 ly4 hdl hdl).mono ?_
    rintro e w5 ⟨rfl, hb5⟩
    have B5 := B4.trans (hb5.mono B4.size)
    clear B4 hb5
    have hxx : decide (d = d) = true := by simp
    rw [hxx]
    clear hxx
    go_wp2_with fail
    go_ret
    exact ⟨rfl, B5⟩

end Go.Proofs.Ytagkbpdfpeadbac
