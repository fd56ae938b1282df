/-
  Chapter 4, the program's side: the parts of a round, its halves.
-/
import Derived.Test.YtamcpoadpkgogacPartX
import Derived.Test.YtamcpoadpkgogacGWlk
namespace Go.Proofs.Ytamcpoadpkgogac
open Go.RowKit

set_option maxHeartbeats 1000000 in
/-- The parts of a round. -/
theorem partsRound_any (n₀ b T B k m : Nat) (v : Value) (w : World) (h : Prt b T B k m) (hv : Slc n₀ w v (digL b T B m)) :
    Calls Try.prog 37 #[v, .int .i64 k] w fun e w' => ∃ u, e = .returned u ∧ RowSR w.heap.size w' u (ptsL b T B k (m / k)) ∧ Below w.heap.size w w' := by
  have hd := h.div
  have hl := digL_len b T B m
  refine (parts_any n₀ k (m / k) v _ w hv h.k1 hd.2.1 (by rw [hl, hd.1]) (by rw [hl]; omega)).mono ?_
  rintro e w1 ⟨u, rfl, G, hown, hG, hrow, hb⟩
  refine ⟨u, rfl, ?_, hb⟩
  rw [← cut_pts h]
  exact (cut_rows hown hrow hG (by rw [hl, hd.1]) (by rw [hl]; omega)).2


set_option maxHeartbeats 1000000 in
theorem imPartHalves : ImPartHalves := by
  constructor
  · intro b t n h w
    go_enter Try.func16, Try.ntmps16
    go_wp2_with fail
    refine (partsTold_no b t n 2 _ h).mono ?_
    rintro e w1 ⟨rfl, hb1⟩
    have hb := bel1 hb1
    go_wp2_with fail
    go_ret
    exact ⟨rfl, hb⟩
  · intro b T B m h w
    have h3 := h.b2; have h4 := h.b16; have hT := h.lt; have hB := h.bot
    obtain ⟨hd1, hd2, hd3, hd4, hd5⟩ := h.div
    have hdg := fun i => dig_lt (b := b) hT i (by omega)
    have hhv := h.halves
    have hbk := h.halves_back
    obtain ⟨d, hdd⟩ : ∃ d, m / 2 = d := ⟨_, rfl⟩
    have hm2 : m = 2 * d := by omega
    have hm3 : d ≤ m := by omega
    have hl : (digL b T B m).length = 2 * d := by rw [digL_len, hm2]
    rw [hdd] at hhv hbk hd2 ⊢
    have HP := Lib.hid h; have HV := Lib.hid hhv; have HB := Lib.hid hbk; have HD := Lib.hid hdg; have HM2 := Lib.hid hm2; have HL := Lib.hid hl
    clear h hhv hbk hdg hdd hd1 hm2 hl
    go_enter Try.func16, Try.ntmps16
    go_wp2_with fail
    refine (partsTold_yes b T B 2 m _ HP.out).mono ?_
    rintro e w1 ⟨rfl, hb1⟩
    have q1 := (Box2.newAt (W := w) (T := 24) (x := .int .i64 T) (y := .int .i64 B) rfl).later hb1
    have k0 := q1.cell0
    have k1 := q1.cell1
    have hb := bel1 hb1
    clear hb1
    go_wp2_with fail
    refine (round_any b T B _ hT HP.out.gT hB h3 h4).mono ?_
    rintro e w2 ⟨v, n', m', hm, rfl, hv, hb2⟩
    obtain ⟨rfl, rfl⟩ := HP.out.len.unique hm
    rw [rndL_zero] at hv
    have hbb := hb.trans (hb2.mono hb.size)
    clear hm hb2 hb k0 k1 q1
    go_wp2_with fail
    refine (parts_any _ 2 d v _ _ hv (by omega) (by omega) HL.out (by rw [HL.out]; have := HM2.out; omega)).mono ?_
    rintro e w3 ⟨u, rfl, G, hown, hG, hrow, hb3⟩
    have hb4 := hbb.trans (hb3.mono hbb.size)
    obtain ⟨gu, cu, u0, e1, hc0, hu0⟩ := row_cell hown (cutV_len G d 2) 0 (by omega)
    obtain ⟨gu', cu', u1, e2, hc1, hu1⟩ := row_cell hown (cutV_len G d 2) 1 (by omega)
    subst e1
    cases e2
    simp [cutV] at hu0 hu1
    subst hu0 hu1
    have hcell : CellsR w3 G 0 m (fun i => dig b T B i) := fun i hi => by
      have := hrow.cell i (by rw [digL_len]; exact hi)
      rw [digL_get b T B m i hi] at this
      rw [Nat.zero_add]
      exact this
    clear hv hbb hb3 hown hrow HL
    have hcG := fun (i : Nat) (hi : i < m) => show w3.cell? ⟨G, i, none⟩ = some (.int .i64 (dig b T B i : Nat)) by have := hcell i hi; rwa [Nat.zero_add] at this
    have HC := Lib.hid hcG
    clear hcell hcG
    go_wp2_with fail
    go_loop [20] (fun i => ∃ p : Nat, p ≤ d ∧ i = .int .i64 p ∧ Hid (∀ c, c < p → dig b T B c + dig b T B (c + d) = b - 1)) (fun i => d - (intOf i).toNat)
    case atStart => exact ⟨0, Nat.zero_le _, rfl, fun c hc => by omega⟩
    case round =>
      obtain ⟨p, hp, rfl, hall⟩ := hrel
      by_cases hlt : p < d
      · have i1 : (p : Int) < d := by omega
        have kc1 := HC.out p (by omega)
        have kc2 := HC.out (d + p) (by have := HM2.out; omega)
        have g1 := HD.out p
        have g2 := HD.out (d + p)
        have hcase : dig b T B p + dig b T B (d + p) = b - 1 ∨ dig b T B p + dig b T B (d + p) ≠ b - 1 := by omega
        obtain ⟨x, hx⟩ : ∃ x, dig b T B p = x := ⟨_, rfl⟩
        obtain ⟨y, hy⟩ : ∃ y, dig b T B (d + p) = y := ⟨_, rfl⟩
        have HX := Lib.hid hx; have HY := Lib.hid hy
        simp only [hx, hy] at kc1 kc2 g1 g2 hcase
        clear hx hy
        rcases hcase with he | he
        · have i5 : (x : Int) + y = (b : Int) - 1 := by omega
          go_wp2_with fail
          refine ⟨⟨p + 1, by omega, rfl, fun c hcp => ?_⟩, by simp [intOf]; omega⟩
          rcases Nat.lt_or_ge c p with h0 | h0
          · exact hall.out c h0
          · obtain rfl : c = p := by omega
            rw [HX.out, Nat.add_comm c d, HY.out]; exact he
        · have i5 : ¬ (x : Int) + y = (b : Int) - 1 := by omega
          have hne : prS b T B 2 d ≠ B := fun e => by
            have := (HB.out (by rw [e]; exact Nat.dvd_refl _) p).2
            rw [HX.out, Nat.add_comm p d, HY.out] at this
            exact he this
          have hnd : Hid (decide (prS b T B 2 d = B) = false) := decide_eq_false hne
          clear hne
          go_wp2_with fail
          go_ret
          exact ⟨congrArg (fun x => Ending.returned (Value.bool x)) hnd.out.symm, hb4⟩
      · obtain rfl : p = d := by omega
        have i1 : ¬ (p : Int) < p := by omega
        have hnd : Hid (decide (prS b T B 2 p = B) = true) := decide_eq_true (HV.out hall.out)
        go_wp2_with fail
        go_ret
        exact ⟨congrArg (fun x => Ending.returned (Value.bool x)) hnd.out.symm, hb4⟩

end Go.Proofs.Ytamcpoadpkgogac
