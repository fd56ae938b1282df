/-
  The draws of chapter 3: a number; a base and a number.
-/
import Derived.Test.YtmpbbflolbakhaaGreatDoorDraw1
import Derived.Test.YtmpbbflolbakhaaGreatDoorNext
import Derived.StillTailTactics
namespace Go.Proofs.YtmpbbflolbakhaaGreatDoor
open Go.RowKit


set_option maxHeartbeats 1000000 in
theorem l91Bottom_any (a : Option Addr) (len cap : Nat) (w : World) (h : Byt w a len cap) :
    Calls Tryz.prog 25 #[.slice a len cap] w fun e w' => ∃ b n : Int, e = .returned (.tuple #[.int .i64 b, .int .i64 n]) ∧ Below w.heap.size w w' := by
  go_enter Tryz.func25, Tryz.ntmps25
  go_wp2_with fail
  refine (l6Open_any a len cap _ h).mono ?_
  rintro e w1 ⟨g, rfl, hg, hR1, hb1⟩
  go_wp2_with fail
  refine (l91Base_any g 0 _ hR1 (by omega)).mono ?_
  rintro e w2 ⟨b, d1, d2, rfl, hR2, hG2⟩
  obtain ⟨b, rfl⟩ := Int.eq_ofNat_of_zero_le (show 0 ≤ b by omega)
  have B2 := hb1.grown hG2 hb1.size (fun k e => by cases e; exact hg)
  clear hR1 hb1 hG2
  go_wp2_with fail
  refine (pick_nat g 2 100 w2 hR2 (by omega) (by omega)).mono ?_
  rintro e w3 ⟨r1, h1, rfl, hR3, hG3⟩
  have B3 := B2.grown hG3 B2.size (fun k e => by cases e; exact hg)
  clear hR2 B2 hG3
  go_wp2_with fail
  refine (pick_nat g 3 24 w3 hR3 (by omega) (by omega)).mono ?_
  rintro e w4 ⟨r2, h2, rfl, hR4, hG4⟩
  have B4 := B3.grown hG4 B3.size (fun k e => by cases e; exact hg)
  clear hR3 B3 hG4
  go_wp2_with fail
  refine (pick_nat g 4 24 w4 hR4 (by omega) (by omega)).mono ?_
  rintro e w5 ⟨r3, h3, rfl, hR5, hG5⟩
  have B5 := B4.grown hG5 B4.size (fun k e => by cases e; exact hg)
  clear hR4 B4 hG5
  go_wp2_with fail
  obtain ⟨x0, hx0⟩ := Int.eq_ofNat_of_zero_le (show 0 ≤ 2 + (r1 : Int) + (r2 : Int) / 23 * 900 - (r3 : Int) / 23 by omega)
  have hx1 : x0 ≤ 1100 := by omega
  rw [hx0]
  clear hx0
  go_loop [6, 7] (fun n i => ∃ x j : Nat, j ≤ 10 ∧ x ≤ 1100 + j ∧ n = .int .i64 x ∧ i = .int .i64 j) (fun _ i => 10 - (intOf i).toNat)
  case atStart => exact ⟨x0, 0, by omega, by omega, rfl, rfl⟩
  case round =>
    obtain ⟨x, j, hj, hx, rfl, rfl⟩ := hrel
    have hg0 := hg
    have GC : Hid (∀ wx, Calls Tryz.prog 50 #[.int .i64 b, .int .i64 x] wx fun e w' => e = .returned (.int .i64 (Nat.gcd b x)) ∧ wx = w') := fun wx => by
      have := l1Gcd_any b x wx (by omega) (by omega) (by omega) (by omega)
      rw [gcdI_nat] at this
      exact this
    by_cases hlt : j < 10
    · have i1 : (j : Int) < 10 := by omega
      go_wp2_with fail
      refine (GC.out _).mono ?_
      rintro e w6 ⟨rfl, rfl⟩
      by_cases hg : 1 < Nat.gcd b x
      · have hg' : (1 : Int) < (Nat.gcd b x : Nat) := by omega
        clear GC hg
        generalize Nat.gcd b x = q at hg'
        go_wp2_with fail
        exact ⟨⟨x + 1, j + 1, hlt, by omega, rfl, rfl⟩, by simp [intOf]; omega⟩
      · have hg0 := hg0
        have hg' : ¬ (1 : Int) < (Nat.gcd b x : Nat) := by omega
        clear GC hg
        generalize Nat.gcd b x = q at hg'
        go_wp2_with fail
        refine (pick_nat g 5 6 w5 hR5 (by omega) (by omega)).mono ?_
        rintro e w6 ⟨r4, h4, rfl, hR6, hG6⟩
        have B6 := B5.grown hG6 B5.size (fun k e => by cases e; exact hg0)
        clear hR5 B5 hG6 hR6
        rcases Nat.eq_zero_or_pos r4 with rfl | h40
        · go_wp2_with fail
          refine bodyPost_ret (v := .tuple #[.int .i64 b, .int .i64 (2 * (b : Int))]) (by simp [results, Tryz.results25, go_sem]) rfl ?_
          exact ⟨_, _, rfl, B6⟩
        · have h41 : ¬ r4 = 0 := by omega
          go_wp2_with fail
          refine bodyPost_ret (v := .tuple #[.int .i64 b, .int .i64 x]) (by simp [results, Tryz.results25, go_sem]) rfl ?_
          exact ⟨_, _, rfl, B6⟩
    · obtain rfl : j = 10 := by omega
      clear GC
      go_wp2_with fail
      refine (pick_nat g 5 6 w5 hR5 (by omega) (by omega)).mono ?_
      rintro e w6 ⟨r4, h4, rfl, hR6, hG6⟩
      have B6 := B5.grown hG6 B5.size (fun k e => by cases e; exact hg0)
      clear hR5 B5 hG6 hR6
      rcases Nat.eq_zero_or_pos r4 with rfl | h40
      · go_wp2_with fail
        refine bodyPost_ret (v := .tuple #[.int .i64 b, .int .i64 (2 * (b : Int))]) (by simp [results, Tryz.results25, go_sem]) rfl ?_
        exact ⟨_, _, rfl, B6⟩
      · have h41 : ¬ r4 = 0 := by omega
        go_wp2_with fail
        refine bodyPost_ret (v := .tuple #[.int .i64 b, .int .i64 x]) (by simp [results, Tryz.results25, go_sem]) rfl ?_
        exact ⟨_, _, rfl, B6⟩




theorem drawOrderOf_any (a : Option Addr) (len cap : Nat) (w : World) (h : Byt w a len cap) :
    Calls Tryz.prog 12 #[.slice a len cap] w fun e w' => ∃ b n : Int, e = .returned (.tuple #[.int .i64 b, .int .i64 n]) ∧ Below w.heap.size w w' := by
  go_enter Tryz.func12, Tryz.ntmps12
  go_wp2_with fail
  refine (l91Bottom_any a len cap _ h).mono ?_
  rintro e w1 ⟨b, n, rfl, hb1⟩
  go_wp2_with fail
  refine bodyPost_ret (v := .tuple #[.int .i64 b, .int .i64 n]) (by simp [results, Tryz.results12, go_sem]) rfl ?_
  exact ⟨_, _, rfl, hb1⟩








end Go.Proofs.YtmpbbflolbakhaaGreatDoor
