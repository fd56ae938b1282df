/-
  More draws of chapter 5: rings that turn, bases and numbers.
-/
import Derived.Test.YtagkbpdfpeadbadDrawR
import Derived.Test.YtagkbpdfpeadbadLists
namespace Go.Proofs.Ytagkbpdfpeadbad
open Go.RowKit

set_option maxHeartbeats 2000000 in
theorem drawTurnIs_any (a : Option Addr) (len cap : Nat) (w : World) (h : Byt w a len cap) :
    Calls Try.prog 5 #[.slice a len cap] w fun e w' => ∃ (b k : Nat) (v : Value) (d : List Int), 2 ≤ b ∧ b ≤ 31 ∧ d.length ≤ 100 ∧ k ≤ 5 ∧ e = .returned (.tuple #[.int .i64 b, v, .int .i64 k]) ∧ Slc w.heap.size w' v d ∧ Below w.heap.size w w' := by
  go_enter Try.func5, Try.ntmps5
  go_wp2_with fail
  refine (l6Open_any a len cap _ h).mono ?_
  rintro e w1 ⟨g, rfl, hg, hR1, hb1⟩
  go_wp2_with fail
  refine (l91Base_any g 0 _ hR1 (by omega)).mono ?_
  rintro e w2 ⟨b, d1, d2, rfl, hR2, hG2⟩
  obtain ⟨b, rfl⟩ := Int.eq_ofNat_of_zero_le (show 0 ≤ b by omega)
  have B2 := hb1.grown hG2 hb1.size (fun k e => by cases e; exact hg)
  clear hR1 hb1 hG2
  go_wp2_with fail
  refine (pick_nat g 2 5 w2 hR2 (by omega) (by omega)).mono ?_
  rintro e w3 ⟨r1, h1, rfl, hR3, hG3⟩
  have B3 := B2.grown hG3 B2.size (fun k e => by cases e; exact hg)
  clear hR2 B2 hG3
  go_wp2_with fail
  refine (pick_nat g 3 4 w3 hR3 (by omega) (by omega)).mono ?_
  rintro e w4 ⟨r2, h2, rfl, hR4, hG4⟩
  have B4 := B3.grown hG4 B3.size (fun k e => by cases e; exact hg)
  clear hR3 B3 hG4
  obtain ⟨xs, p, hlx, hf⟩ := turnFind_drawn b (1 + (r1 : Int)) (1 + (r2 : Int))
  have HF := Lib.hid hf
  clear hf
  go_wp2_with fail
  refine (HF.out _).mono ?_
  rintro e w5 ⟨v, rfl, hv, hb5⟩
  have B5 := B4.trans (hb5.mono B4.size)
  have hR5 := hR4.later hb5
  have hv5 := hv.mono B4.size
  have hvo := fun q e => (hv.own q e).1
  have hg4 := hR4.lt
  clear hv hb5 hR4 B4 HF
  cases p with
  | false =>
    go_wp2_with fail
    refine (l92Ring_any g _ b w5 hR5 (by omega) (by omega) (by omega)).mono ?_
    rintro e w9 ⟨u, d, hd, rfl, hu, _, hG9⟩
    have B9 := B5.grown hG9 B5.size (fun k e => by cases e; exact hg)
    go_wp2_with fail
    refine bodyPost_ret (v := .tuple #[.int .i64 b, u, .int .i64 (1 + (r1 : Int))]) (by simp [results, Try.results5, go_sem]) rfl ?_
    exact ⟨b, 1 + r1, u, d, by omega, by omega, by omega, by omega, by simp, hu.mono B5.size, B9⟩
  | true =>
    go_wp2_with fail
    refine (pick_nat g _ 4 w5 hR5 (by omega) (by omega)).mono ?_
    rintro e w6 ⟨r3, h3, rfl, hR6, hG6⟩
    have B6 := B5.grown hG6 B5.size (fun k e => by cases e; exact hg)
    have hv6 := hv5.kept hG6 (fun q e1 e2 => by cases e2; have := hvo _ e1; omega)
    obtain ⟨av, cv, rfl⟩ := slc_form hv6
    obtain ⟨l, hl⟩ : ∃ l, xs.length = l := ⟨_, rfl⟩
    rw [hl] at hv6 hlx ⊢
    have HL := Lib.hid hl
    clear hl hv5 hG6 B5 hR5 hvo
    by_cases h30 : 0 < r3
    · have h30' : (0 : Int) < (r3 : Int) := by omega
      clear h30
      by_cases hl60 : l < 100
      · have j60 : (l : Int) < 100 := by omega
        go_wp2_with fail
        refine bodyPost_ret (v := .tuple #[.int .i64 b, .slice av l cv, .int .i64 (1 + (r1 : Int))]) (by simp [results, Try.results5, go_sem]) rfl ?_
        exact ⟨b, 1 + r1, _, xs, by omega, by omega, by rw [HL.out]; omega, by omega, by simp, hv6, B6⟩
      · have j60 : ¬ (l : Int) < 100 := by omega
        go_wp2_with fail
        refine (l92Ring_any g _ b w6 hR6 (by omega) (by omega) (by omega)).mono ?_
        rintro e w9 ⟨u, d, hd, rfl, hu, _, hG9⟩
        have B9 := B6.grown hG9 B6.size (fun k e => by cases e; exact hg)
        go_wp2_with fail
        refine bodyPost_ret (v := .tuple #[.int .i64 b, u, .int .i64 (1 + (r1 : Int))]) (by simp [results, Try.results5, go_sem]) rfl ?_
        exact ⟨b, 1 + r1, u, d, by omega, by omega, by omega, by omega, by simp, hu.mono B6.size, B9⟩
    · have h30' : ¬ (0 : Int) < (r3 : Int) := by omega
      clear h30
      go_wp2_with fail
      refine (l92Ring_any g _ b w6 hR6 (by omega) (by omega) (by omega)).mono ?_
      rintro e w9 ⟨u, d, hd, rfl, hu, _, hG9⟩
      have B9 := B6.grown hG9 B6.size (fun k e => by cases e; exact hg)
      go_wp2_with fail
      refine bodyPost_ret (v := .tuple #[.int .i64 b, u, .int .i64 (1 + (r1 : Int))]) (by simp [results, Try.results5, go_sem]) rfl ?_
      exact ⟨b, 1 + r1, u, d, by omega, by omega, by omega, by omega, by simp, hu.mono B6.size, B9⟩

def litT : Array Value := #[.int .i64 7, .int .i64 13, .int .i64 17, .int .i64 11, .int .i64 5, .int .i64 19]

theorem round_drawn (b n : Nat) (_hn0 : 2 ≤ n) (hn1 : n ≤ 19) : ∃ xs p, xs.length ≤ 60 ∧ Gives 26 #[.int .i64 b, .agg #[.int .i64 1, .int .i64 n]] xs p := by
  cases h : tldB b 1 n with
  | false => exact ⟨[], false, by simp, specFracRound_no b 1 n h⟩
  | true =>
    obtain ⟨b', T, B, e1, e2, e3, h3, h4, hT, hB, hg⟩ := tld_nat h
    obtain rfl : b = b' := by omega
    obtain rfl : T = 1 := by omega
    obtain rfl : n = B := by omega
    obtain ⟨k, m, hm⟩ := len_some (b := b) hT hg
    have := hm.le hT
    exact ⟨_, true, by rw [rndL_len]; omega, specFracRound_yes b 1 n k m h hT hB h3 h4 hm⟩

set_option maxHeartbeats 2000000 in
theorem drawTurnAll_any (a : Option Addr) (len cap : Nat) (w : World) (h : Byt w a len cap) :
    Calls Try.prog 8 #[.slice a len cap] w fun e w' => ∃ (b : Nat) (v : Value) (d : List Int), 2 ≤ b ∧ b ≤ 31 ∧ d.length ≤ 60 ∧ e = .returned (.tuple #[.int .i64 b, v]) ∧ Slc w.heap.size w' v d ∧ Below w.heap.size w w' := by
  go_enter Try.func8, Try.ntmps8
  go_wp2_with fail
  refine (l6Open_any a len cap _ h).mono ?_
  rintro e w1 ⟨g, rfl, hg, hR1, hb1⟩
  go_wp2_with fail
  refine (l91Base_any g 0 _ hR1 (by omega)).mono ?_
  rintro e w2 ⟨b, d1, d2, rfl, hR2, hG2⟩
  obtain ⟨b, rfl⟩ := Int.eq_ofNat_of_zero_le (show 0 ≤ b by omega)
  have B2 := hb1.grown hG2 hb1.size (fun k e => by cases e; exact hg)
  clear hR1 hb1 hG2
  have hg2 := hR2.lt
  go_wp2_with fail
  refine (pick_nat g 2 6 _ (hR2.alloc _) (by omega) (by omega)).mono ?_
  rintro e w3 ⟨r1, h1, rfl, hR3, hG3⟩
  have B3 := (B2.alloc B2.size (.cells litT 3)).grown hG3 (by have := B2.size; simp; omega) (fun k e => by cases e; exact hg)
  have hblk : w3.heap[w2.heap.size]? = some (.cells litT 3 (0, 0)) := by
    refine (hG3.block w2.heap.size (by simp) (fun e => by cases e; omega)).trans ?_
    exact heap_alloc_new w2 _
  obtain ⟨n, hn0, hn1, hn2⟩ : ∃ n : Nat, 2 ≤ n ∧ n ≤ 19 ∧ w3.cell? ⟨w2.heap.size, r1, none⟩ = some (.int .i64 n) := by
    have : r1 = 0 ∨ r1 = 1 ∨ r1 = 2 ∨ r1 = 3 ∨ r1 = 4 ∨ r1 = 5 := by omega
    rcases this with rfl | rfl | rfl | rfl | rfl | rfl <;> simp only [World.cell?, hblk]
    · exact ⟨7, by omega, by omega, rfl⟩
    · exact ⟨13, by omega, by omega, rfl⟩
    · exact ⟨17, by omega, by omega, rfl⟩
    · exact ⟨11, by omega, by omega, rfl⟩
    · exact ⟨5, by omega, by omega, rfl⟩
    · exact ⟨19, by omega, by omega, rfl⟩
  obtain ⟨xs, p, hlx, hf⟩ := round_drawn b n hn0 hn1
  have HF := Lib.hid hf
  have j1 : (r1 : Int) < 6 := by omega
  clear hf hblk hG3 B2 hR2
  go_wp2_with fail
  refine (HF.out _).mono ?_
  rintro e w5 ⟨v, rfl, hv, hb5⟩
  have B5 := B3.trans (hb5.mono B3.size)
  have hR5 := hR3.later hb5
  have hv5 := hv.mono B3.size
  have hvo := fun q e => (hv.own q e).1
  have hg3 := hR3.lt
  clear hv hb5 hR3 B3 HF hn2
  cases p with
  | false =>
    go_wp2_with fail
    refine (l92Ring_any g _ b w5 hR5 (by omega) (by omega) (by omega)).mono ?_
    rintro e w9 ⟨u, d, hd, rfl, hu, _, hG9⟩
    have B9 := B5.grown hG9 B5.size (fun k e => by cases e; exact hg)
    go_wp2_with fail
    go_ret2
    exact ⟨b, u, d, by omega, by omega, by omega, rfl, hu.mono B5.size, B9⟩
  | true =>
    go_wp2_with fail
    refine (pick_nat g _ 2 w5 hR5 (by omega) (by omega)).mono ?_
    rintro e w6 ⟨r3, h3, rfl, hR6, hG6⟩
    have B6 := B5.grown hG6 B5.size (fun k e => by cases e; exact hg)
    have hv6 := hv5.kept hG6 (fun q e1 e2 => by cases e2; have := hvo _ e1; omega)
    clear hv5 hG6 B5 hR5 hvo
    by_cases h30 : r3 = 0
    · have h30' : ((r3 : Int) == 0) = true := by simp; omega
      clear h30
      go_wp2_with fail
      go_ret2
      exact ⟨b, _, xs, by omega, by omega, by omega, rfl, hv6, B6⟩
    · have h30' : ((r3 : Int) == 0) = false := by simp; omega
      clear h30
      go_wp2_with fail
      refine (l92Ring_any g _ b w6 hR6 (by omega) (by omega) (by omega)).mono ?_
      rintro e w9 ⟨u, d, hd, rfl, hu, _, hG9⟩
      have B9 := B6.grown hG9 B6.size (fun k e => by cases e; exact hg)
      go_wp2_with fail
      go_ret2
      exact ⟨b, u, d, by omega, by omega, by omega, rfl, hu.mono B6.size, B9⟩


end Go.Proofs.Ytagkbpdfpeadbad
