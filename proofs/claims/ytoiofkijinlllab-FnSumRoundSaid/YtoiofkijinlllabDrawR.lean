/-
  The draws of chapter 5: a base and a ring.
-/
import Derived.Test.YtoiofkijinlllabDraw1
import Derived.Test.YtoiofkijinlllabDrawD
import Derived.Test.YtoiofkijinlllabTurnU
import Derived.StillTailTactics
namespace Go.Proofs.Ytoiofkijinlllab
open Go.RowKit

theorem grown_then {w w1 w2 : World} {g : Nat} (h1 : w.grownBy w1 (some g)) (h2 : Below w.heap.size w1 w2) : w.grownBy w2 (some g) :=
  ⟨h2.os.trans h1.os, h2.tape.trans h1.tape, h2.output.trans h1.output, Nat.le_trans h1.size h2.size, fun k hk hne => (h2.block k hk).trans (h1.block k hk hne)⟩

theorem owns_lt {w : World} {base k : Nat} {T : TypeId} {v : Value} {xs : List Value} (h : w.ownsRow base T 1 v k xs) {g : Nat} (hg : v.ownBlock = some g) : base ≤ g ∧ g < w.heap.size := by
  rcases h.2 with ⟨rfl, _⟩ | ⟨g', cap, cur, rfl, hb, hh, _⟩
  · cases hg
  · cases hg; exact ⟨hb, (Array.getElem?_eq_some_iff.1 hh).1⟩

set_option maxHeartbeats 2000000 in
theorem l92Ring_any (g p b : Nat) (w : World) (h : Rdr w g p) (hp : p ≤ 10000) (hb1 : 2 ≤ b) (hb2 : b ≤ 1000) :
    Calls Try.prog 33 #[.pointer (some ⟨g, 0, none⟩), .int .i64 b] w fun e w' => ∃ v d, d.length ≤ 8 ∧ e = .returned v ∧ Slc w.heap.size w' v d ∧ (∃ p', p' ≤ p + 20 ∧ Rdr w' g p') ∧ w.grownBy w' (some g) := by
  obtain ⟨i0, hi, hz0, hz1, hz2⟩ := info_parts infoInt
  have hgl := h.lt
  have hA := (Below.refl w.heap.size w).alloc (Nat.le_refl _) (.cells #[] 3)
  have hO := World.ownsRow_made (base := w.heap.size) (e := 3) (size := 1) w #[] 0 (Nat.le_refl _) (by simp) (by simp)
  go_enter Try.func33, Try.ntmps33
  go_wp2_with fail
  refine (pick_nat g p 7 _ (h.alloc _) (by omega) (by omega)).mono ?_
  rintro e w1 ⟨n, hn, rfl, hR1, hG1⟩
  have hO1 := World.ownsRow.kept hO hG1 (.inr (by simp [Value.ownBlock]; omega))
  have G1 := (World.grownBy_alloc w (.cells #[] 3) (some g)).trans hG1
  clear hO hG1 hA
  go_wp2_with fail
  refine (pick_nat g (p + 1) 3 _ hR1 (by omega) (by omega)).mono ?_
  rintro e w2 ⟨kd, hkd, rfl, hR2, hG2⟩
  have hO2 := hO1.kept hG2 (.inr (by simp [Value.ownBlock]; omega))
  have G2 := G1.trans hG2
  clear hO1 hG2 G1 hR1
  go_wp2_with fail
  go_loopw [5, 8] (fun u x wr => ∃ (q : Nat) (d : List Int), q ≤ 1 + n ∧ x = .int .i64 q ∧ d.length = q ∧ wr.ownsRow w.heap.size 3 1 u q (d.map (Value.int .i64)) ∧ Rdr wr g (p + 1 + 1 + q) ∧ w.grownBy wr (some g)) (fun _ x _ => 1 + n - (intOf x).toNat)
  case atStart => exact ⟨0, [], Nat.zero_le _, rfl, rfl, hO2, hR2, G2⟩
  case round =>
    clear hO2 hR2 G2
    obtain ⟨q, d, hq, rfl, hdl, hO, hR, hG⟩ := hrel
    have jb : (1 : Int) < (b : Int) := by omega
    by_cases hlt : q < 1 + n
    · have j1 : (q : Int) < 1 + (n : Int) := by omega
      have HO0 := Lib.hid hO
      clear hO
      go_wp2_with fail
      refine (pick_nat g (p + 1 + 1 + q) b wr hR (by omega) (by omega)).mono ?_
      rintro e w4 ⟨r, hr, rfl, hR4, hG4⟩
      have G4 := hG.trans hG4
      have HO := Lib.hid (HO0.out.kept hG4 (by
        cases hu : u5.ownBlock with
        | none => exact .inl rfl
        | some q' => exact .inr (by have := (owns_lt HO0.out hu).1; simp; omega)))
      clear hG hG4 HO0 hR
      by_cases hk1 : kd = 1
      · have hk1' : ((kd : Int) == 1) = true := by simp; omega
        clear hk1
        by_cases hk2 : 2 ≤ q
        · have hk2' : (q : Int) ≥ 2 := by omega
          have hs := Slc.of_owns (by rw [hdl]; exact HO.out)
          obtain ⟨gu, ou, cu, rfl, _, _, _, _⟩ := slc_some hs (by omega)
          obtain ⟨q2, hq2⟩ : ∃ q2, q = q2 + 2 := ⟨q - 2, by omega⟩
          have kc := Slc.cell hdl (by rw [hdl] at hs; exact hs) q2 (by omega)
          rw [hdl] at HO ⊢
          obtain ⟨x, hx⟩ : ∃ x, d[q2]?.getD 0 = x := ⟨_, rfl⟩
          rw [hx] at kc
          have hqI : (q : Int) - 2 = (q2 : Int) := by omega
          have hqlt : (q2 : Int) < (q : Int) := by omega
          have HQ := Lib.hid hq2
          clear hs hx hq2
          have hO5 := HO.out
          go_wp2_with (at_builtin; refine wpList_append_own_at _ rfl _ _ 22 rfl w.heap.size 3 i0 (.int .i64 0) 1 8 Try.underlying22 hi hz0 hz1 hz2 rfl (by decide) _ _ _ rfl (hO5.alloc _) ⟨w4.heap.size, 0, none⟩ 1 1 [.int .i64 x] rfl rfl (cell_one_new _ _ _) (by simp [Value.oneCell']) ?ra1 ?ra2 ?ra3 ?_)
          case ra1 => unfold maxLen; omega
          case ra2 => omega
          case ra3 => have := G4.size; (try simp); omega
          intro v' w5 hown' hgrow _ _
          have hb5 : Below w.heap.size w4 w5 := ((Below.refl _ _).alloc G4.size (.cells #[.int .i64 x] 3)).grown hgrow (by have := G4.size; simp; omega) (fun q e => (owns_lt hO5 e).1)
          have G5 := grown_then G4 hb5
          have R5 := hR4.below hb5 hgl
          clear hO5 HO hgrow hb5 hR4 G4
          go_wp2_with fail
          refine ⟨⟨q + 1, d ++ [(x : Int)], by omega, rfl, by rw [List.length_append, hdl]; rfl, ?_, R5, G5⟩, by simp [intOf]; omega⟩
          rw [List.map_append]
          simpa using hown'
        · have hk2' : ¬ (q : Int) ≥ 2 := by omega
          have hO5 := HO.out
          go_wp2_with (at_builtin; refine wpList_append_own_at _ rfl _ _ 22 rfl w.heap.size 3 i0 (.int .i64 0) 1 8 Try.underlying22 hi hz0 hz1 hz2 rfl (by decide) _ _ _ rfl (hO5.alloc _) ⟨w4.heap.size, 0, none⟩ 1 1 [.int .i64 r] rfl rfl (cell_one_new _ _ _) (by simp [Value.oneCell']) ?rb1 ?rb2 ?rb3 ?_)
          case rb1 => unfold maxLen; omega
          case rb2 => omega
          case rb3 => have := G4.size; (try simp); omega
          intro v' w5 hown' hgrow _ _
          have hb5 : Below w.heap.size w4 w5 := ((Below.refl _ _).alloc G4.size (.cells #[.int .i64 r] 3)).grown hgrow (by have := G4.size; simp; omega) (fun q e => (owns_lt hO5 e).1)
          have G5 := grown_then G4 hb5
          have R5 := hR4.below hb5 hgl
          clear hO5 HO hgrow hb5 hR4 G4
          go_wp2_with fail
          refine ⟨⟨q + 1, d ++ [(r : Int)], by omega, rfl, by rw [List.length_append, hdl]; rfl, ?_, R5, G5⟩, by simp [intOf]; omega⟩
          rw [List.map_append]
          simpa using hown'
      · have hk1' : ((kd : Int) == 1) = false := by simp; omega
        clear hk1
        have hO5 := HO.out
        go_wp2_with (at_builtin; refine wpList_append_own_at _ rfl _ _ 22 rfl w.heap.size 3 i0 (.int .i64 0) 1 8 Try.underlying22 hi hz0 hz1 hz2 rfl (by decide) _ _ _ rfl (hO5.alloc _) ⟨w4.heap.size, 0, none⟩ 1 1 [.int .i64 r] rfl rfl (cell_one_new _ _ _) (by simp [Value.oneCell']) ?rc1 ?rc2 ?rc3 ?_)
        case rc1 => unfold maxLen; omega
        case rc2 => omega
        case rc3 => have := G4.size; (try simp); omega
        intro v' w5 hown' hgrow _ _
        have hb5 : Below w.heap.size w4 w5 := ((Below.refl _ _).alloc G4.size (.cells #[.int .i64 r] 3)).grown hgrow (by have := G4.size; simp; omega) (fun q e => (owns_lt hO5 e).1)
        have G5 := grown_then G4 hb5
        have R5 := hR4.below hb5 hgl
        clear hO5 HO hgrow hb5 hR4 G4
        go_wp2_with fail
        refine ⟨⟨q + 1, d ++ [(r : Int)], by omega, rfl, by rw [List.length_append, hdl]; rfl, ?_, R5, G5⟩, by simp [intOf]; omega⟩
        rw [List.map_append]
        simpa using hown'
    · obtain rfl : q = 1 + n := by omega
      have j1 : ¬ (((1 + n : Nat) : Int) < 1 + (n : Int)) := by omega
      have HO0 := Lib.hid hO
      clear hO
      go_wp2_with fail
      refine (pick_nat g (p + 1 + 1 + (1 + n)) 40 wr hR (by omega) (by omega)).mono ?_
      rintro e w4 ⟨r, hr, rfl, hR4, hG4⟩
      have G4 := hG.trans hG4
      have HO := Lib.hid (HO0.out.kept hG4 (by
        cases hu : u5.ownBlock with
        | none => exact .inl rfl
        | some q' => exact .inr (by have := (owns_lt HO0.out hu).1; simp; omega)))
      clear hG hG4 HO0 hR
      by_cases h0 : r = 0
      · have h0' : ((r : Int) == 0) = true := by simp; omega
        clear h0
        have hO5 := HO.out
        go_wp2_with (at_builtin; refine wpList_append_own_at _ rfl _ _ 22 rfl w.heap.size 3 i0 (.int .i64 0) 1 8 Try.underlying22 hi hz0 hz1 hz2 rfl (by decide) _ _ _ rfl (hO5.alloc _) ⟨w4.heap.size, 0, none⟩ 1 1 [.int .i64 b] rfl rfl (cell_one_new _ _ _) (by simp [Value.oneCell']) ?rd1 ?rd2 ?rd3 ?_)
        case rd1 => unfold maxLen; omega
        case rd2 => omega
        case rd3 => have := G4.size; (try simp); omega
        intro v' w5 hown' hgrow _ _
        have hb5 : Below w.heap.size w4 w5 := ((Below.refl _ _).alloc G4.size (.cells #[.int .i64 b] 3)).grown hgrow (by have := G4.size; simp; omega) (fun q e => (owns_lt hO5 e).1)
        have G5 := grown_then G4 hb5
        have R5 := hR4.below hb5 hgl
        have hs := Slc.of_owns (n₀ := w.heap.size) (W := w5) (v := v') (xs := d ++ [(b : Int)]) (by rw [List.length_append, hdl, List.map_append]; simpa using hown')
        clear hO5 HO hgrow hb5 hR4 G4
        go_wp2_with fail
        go_ret
        exact ⟨_, _, by rw [List.length_append, hdl]; simp; omega, rfl, hs, ⟨_, by omega, R5⟩, G5⟩
      · have h0' : ((r : Int) == 0) = false := by simp; omega
        have hs := Slc.of_owns (by rw [hdl]; exact HO.out)
        clear h0 HO
        go_wp2_with fail
        go_ret
        exact ⟨_, _, by omega, rfl, hs, ⟨_, by omega, hR4⟩, G4⟩

theorem turnFind_drawn (b k d : Int) : ∃ xs p, xs.length ≤ 1000 ∧ Gives 50 #[.int .i64 b, .int .i64 k, .int .i64 d] xs p := by
  cases h : findB b k d with
  | false => exact ⟨[], false, by simp, specTurnFind_no b k d h⟩
  | true =>
    obtain ⟨b, k, d, g, T, B, m, rfl, rfl, rfl, h2, h16, hk1, hk2, hd1, hd2, hT, hB, hlt, hc, hm, hg, hkb⟩ := find_some h
    have hml := hm.le hlt
    have hBB : B ≤ B * g := Nat.le_mul_of_pos_right B hg
    exact ⟨_, true, by rw [digL_len]; omega, specTurnFind_yes b k d g T B m h h16 hT hB hlt hc hm⟩

set_option maxHeartbeats 2000000 in
theorem l92Round_any (a : Option Addr) (len cap : Nat) (w : World) (h : Byt w a len cap) :
    Calls Try.prog 37 #[.slice a len cap] w fun e w' => ∃ (b : Nat) (v : Value) (d : List Int), 2 ≤ b ∧ b ≤ 31 ∧ d.length ≤ 60 ∧ e = .returned (.tuple #[.int .i64 b, v]) ∧ Slc w.heap.size w' v d ∧ Below w.heap.size w w' := by
  go_enter Try.func37, Try.ntmps37
  go_wp2_with fail
  refine (l6Open_any a len cap _ h).mono ?_
  rintro e w1 ⟨g, rfl, hg, hR1, hb1⟩
  go_wp2_with fail
  refine (l91Base_any g 0 _ hR1 (by omega)).mono ?_
  rintro e w2 ⟨b, d1, d2, rfl, hR2, hG2⟩
  obtain ⟨b, rfl⟩ := Int.eq_ofNat_of_zero_le (show 0 ≤ b by omega)
  have B2 := hb1.grown hG2 hb1.size (fun k e => by cases e; exact hg)
  clear hR1 hb1 hG2
  go_wp2_with fail
  refine (pick_nat g 2 5 w2 hR2 (by omega) (by omega)).mono ?_
  rintro e w3 ⟨r1, h1, rfl, hR3, hG3⟩
  have B3 := B2.grown hG3 B2.size (fun k e => by cases e; exact hg)
  clear hR2 B2 hG3
  go_wp2_with fail
  refine (pick_nat g 3 4 w3 hR3 (by omega) (by omega)).mono ?_
  rintro e w4 ⟨r2, h2, rfl, hR4, hG4⟩
  have B4 := B3.grown hG4 B3.size (fun k e => by cases e; exact hg)
  clear hR3 B3 hG4
  obtain ⟨xs, p, hlx, hf⟩ := turnFind_drawn b (1 + (r1 : Int)) (1 + (r2 : Int))
  have HF := Lib.hid hf
  clear hf
  go_wp2_with fail
  refine (HF.out _).mono ?_
  rintro e w5 ⟨v, rfl, hv, hb5⟩
  have B5 := B4.trans (hb5.mono B4.size)
  have hR5 := hR4.later hb5
  have hv5 := hv.mono B4.size
  have hvo := fun q e => (hv.own q e).1
  have hg4 := hR4.lt
  clear hR4 B4 hb5 hv HF
  cases p
  · go_wp2_with fail
    refine (l92Ring_any g _ b w5 hR5 (by omega) (by omega) (by omega)).mono ?_
    rintro e w6 ⟨u, d, hd, rfl, hu, _, hG6⟩
    have B6 := B5.grown hG6 B5.size (fun k e => by cases e; exact hg)
    go_wp2_with fail
    go_ret2
    exact ⟨b, u, d, by omega, by omega, by omega, rfl, hu.mono B5.size, B6⟩
  · go_wp2_with fail
    refine (pick_nat g _ 2 w5 hR5 (by omega) (by omega)).mono ?_
    rintro e w6 ⟨r3, h3, rfl, hR6, hG6⟩
    have B6 := B5.grown hG6 B5.size (fun k e => by cases e; exact hg)
    have hv6 := hv5.kept hG6 (fun q e1 e2 => by cases e2; have := hvo _ e1; omega)
    obtain ⟨av, cv, rfl⟩ := slc_form hv6
    obtain ⟨l, hl⟩ : ∃ l, xs.length = l := ⟨_, rfl⟩
    rw [hl] at hv6 hlx ⊢
    have HL := Lib.hid hl
    clear hl hv5 hG6 B5 hR5 hvo
    by_cases h30 : r3 = 0
    · have h30' : ((r3 : Int) == 0) = true := by simp; omega
      clear h30
      by_cases hl60 : l < 60
      · have j60 : (l : Int) < 60 := by omega
        go_wp2_with fail
        go_ret2
        exact ⟨b, _, xs, by omega, by omega, by rw [HL.out]; omega, rfl, hv6, B6⟩
      · have j60 : ¬ (l : Int) < 60 := by omega
        go_wp2_with fail
        refine (l92Ring_any g _ b w6 hR6 (by omega) (by omega) (by omega)).mono ?_
        rintro e w7 ⟨u, d, hd, rfl, hu, _, hG7⟩
        have B7 := B6.grown hG7 B6.size (fun k e => by cases e; exact hg)
        go_wp2_with fail
        go_ret2
        exact ⟨b, u, d, by omega, by omega, by omega, rfl, hu.mono B6.size, B7⟩
    · have h30' : ((r3 : Int) == 0) = false := by simp; omega
      clear h30
      go_wp2_with fail
      refine (l92Ring_any g _ b w6 hR6 (by omega) (by omega) (by omega)).mono ?_
      rintro e w7 ⟨u, d, hd, rfl, hu, _, hG7⟩
      have B7 := B6.grown hG7 B6.size (fun k e => by cases e; exact hg)
      go_wp2_with fail
      go_ret2
      exact ⟨b, u, d, by omega, by omega, by omega, rfl, hu.mono B6.size, B7⟩





end Go.Proofs.Ytoiofkijinlllab
