/-
  More draws of chapter 5: rings that turn, bases and numbers.
-/
import Derived.Test.YtamcpoadpkgogadDrawR
import Derived.Test.YtamcpoadpkgogadOrdS
namespace Go.Proofs.Ytamcpoadpkgogad
open Go.RowKit



theorem orderFull_drawn (b : Nat) : ∃ xs p, xs.length ≤ 61 ∧ Gives 22 #[.int .i64 b, .int .i64 60] xs p := by
  by_cases h : 2 ≤ b ∧ b ≤ 16
  · have := specOrderFull_yes b 60 h.1 h.2 (by omega) (by omega)
    exact ⟨fulL b 61, true, fulL_len b 61, this⟩
  · exact ⟨[], false, by simp, specOrderFull_no b 60 (by omega)⟩

set_option maxHeartbeats 2000000 in
theorem drawTurnCyclic_str (a : Option Addr) (len cap : Nat) (w : World) (h : Byt w a len cap) :
    Calls Try.prog 8 #[.slice a len cap] w fun e w' => ∃ (b : Nat) (p : Int), 2 ≤ b ∧ b ≤ 31 ∧ e = .returned (.tuple #[.int .i64 b, .int .i64 p]) ∧ Below w.heap.size w w' := by
  go_enter Try.func8, Try.ntmps8
  go_wp2_with fail
  refine (l6Open_any a len cap _ h).mono ?_
  rintro e w1 ⟨g, rfl, hg, hR1, hb1⟩
  go_wp2_with fail
  refine (l91Base_any g 0 _ hR1 (by omega)).mono ?_
  rintro e w2 ⟨b, d1, d2, rfl, hR2, hG2⟩
  obtain ⟨b, rfl⟩ := Int.eq_ofNat_of_zero_le (show 0 ≤ b by omega)
  have B2 := hb1.grown hG2 hb1.size (fun k e => by cases e; exact hg)
  clear hR1 hb1 hG2
  obtain ⟨xs, p, hlx, hf⟩ := orderFull_drawn b
  have HF := Lib.hid hf
  clear hf
  go_wp2_with fail
  refine (HF.out _).mono ?_
  rintro e w3 ⟨v, rfl, hv, hb3⟩
  have B3 := B2.trans (hb3.mono B2.size)
  have hR3 := hR2.later hb3
  have hv3 := hv.mono B2.size
  have hvo := fun q e => (hv.own q e).1
  have hg2 := hR2.lt
  clear hv hb3 hR2 HF
  cases p with
  | false =>
    go_wp2_with fail
    refine (pick_nat g _ 60 w3 hR3 (by omega) (by omega)).mono ?_
    rintro e w6 ⟨r3, h3, rfl, hR6, hG6⟩
    have B6 := B3.grown hG6 B3.size (fun k e => by cases e; exact hg)
    go_wp2_with fail
    go_ret2
    exact ⟨b, _, by omega, by omega, rfl, B6⟩
  | true =>
    obtain ⟨av, cv, rfl⟩ := slc_form hv3
    obtain ⟨l, hl⟩ : ∃ l, xs.length = l := ⟨_, rfl⟩
    rw [hl] at hv3 hlx hvo ⊢
    have HL := Lib.hid hl
    clear hl
    by_cases hl0 : 0 < l
    · have j0 : (0 : Int) < (l : Int) := by omega
      go_wp2_with fail
      refine (pick_nat g _ 3 w3 hR3 (by omega) (by omega)).mono ?_
      rintro e w4 ⟨r4, h4, rfl, hR4, hG4⟩
      have B4 := B3.grown hG4 B3.size (fun k e => by cases e; exact hg)
      have hv4 := hv3.kept hG4 (fun q e1 e2 => by cases e2; have := hvo _ e1; omega)
      clear hv3 hR3 B3 hG4
      by_cases h40 : 0 < r4
      · have h40' : (0 : Int) < (r4 : Int) := by omega
        obtain ⟨gv, ov, cv', e1, _, _, _, _⟩ := slc_some (by rw [← HL.out] at hv4; exact hv4) (by rw [HL.out]; exact hl0)
        rw [HL.out] at e1
        cases e1
        have hne : ∀ q, (Value.slice (some ⟨gv, ov, none⟩) l cv).ownBlock = some q → some g ≠ some q := fun q e1 e2 => by cases e2; have := hvo _ e1; omega
        have hd4 : Rdr w4.drew g (0 + 2 + 1) := hR4
        have vd4 := hv4.later ((Below.refl _ _).drew)
        have gD : w4.grownBy w4.drew (some g) := ⟨rfl, rfl, rfl, Nat.le_refl _, fun _ _ _ => rfl⟩
        go_wp2_with fail
        go_region_with (go_at_call 10; (with_reducible refine Calls.mono (pick_nat g (0 + 2 + 1) l _ ?_ ?_ ?_) ?_; (· with_reducible assumption); (· omega); (· omega); rintro e w5 ⟨r2, hr2, rfl, hR5, hG5⟩; have hr3 : (r2 : Int) < (l : Int) := (by omega); have vd5 := Slc.kept vd4 hG5 hne; have kc := Slc.cell HL.out vd5 r2 hr2))
        all_goals (
          go_wp2
          go_ret2
          exact ⟨b, _, by omega, by omega, rfl, B4.drew.grown hG5 B4.drew.size (fun k e => by cases e; exact hg)⟩)
      · have h40' : ¬ (0 : Int) < (r4 : Int) := by omega
        go_wp2_with fail
        refine (pick_nat g _ 60 w4 hR4 (by omega) (by omega)).mono ?_
        rintro e w6 ⟨r3, h3, rfl, hR6, hG6⟩
        have B6 := B4.grown hG6 B4.size (fun k e => by cases e; exact hg)
        go_wp2_with fail
        go_ret2
        exact ⟨b, _, by omega, by omega, rfl, B6⟩
    · obtain rfl : l = 0 := by omega
      go_wp2_with fail
      refine (pick_nat g _ 60 w3 hR3 (by omega) (by omega)).mono ?_
      rintro e w6 ⟨r3, h3, rfl, hR6, hG6⟩
      have B6 := B3.grown hG6 B3.size (fun k e => by cases e; exact hg)
      go_wp2_with fail
      go_ret2
      exact ⟨b, _, by omega, by omega, rfl, B6⟩

theorem drawTurnCyclic_any (a : Option Addr) (len cap : Nat) (w : World) (h : Byt w a len cap) :
    Calls Try.prog 8 #[.slice a len cap] w fun e w' => ∃ b p : Int, e = .returned (.tuple #[.int .i64 b, .int .i64 p]) ∧ Below w.heap.size w w' :=
  (drawTurnCyclic_str a len cap w h).mono fun _ _ ⟨b, p, _, _, he, hb⟩ => ⟨b, p, he, hb⟩

end Go.Proofs.Ytamcpoadpkgogad
