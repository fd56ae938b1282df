/-
  The draws of chapter 6: two fractions; a fraction and a number; a base and two rings; a base and two fractions.
-/
import Derived.Test.YtoiofkijinlllabDrawR
import Derived.Test.YtoiofkijinlllabSumT
namespace Go.Proofs.Ytoiofkijinlllab
open Go.RowKit







theorem drawSumOther_any (a : Option Addr) (len cap : Nat) (w : World) (h : Byt w a len cap) :
    Calls Try.prog 19 #[.slice a len cap] w fun e w' => ∃ (b : Nat) (v : Value) (d : List Int), 2 ≤ b ∧ b ≤ 31 ∧ d.length ≤ 60 ∧ e = .returned (.tuple #[.int .i64 b, v]) ∧ Slc w.heap.size w' v d ∧ Below w.heap.size w w' := by
  go_enter Try.func19, Try.ntmps19
  go_wp2_with fail
  refine (l92Round_any a len cap w h).mono ?_
  rintro e w1 ⟨b, v, d, d1, d2, hd, rfl, hv, B1⟩
  go_wp2_with fail
  refine bodyPost_ret (v := .tuple #[.int .i64 b, v]) (by simp [results, Try.results19, go_sem]) rfl ?_
  exact ⟨b, v, d, d1, d2, hd, rfl, hv, B1⟩

set_option maxHeartbeats 4000000 in
theorem drawSumRound_any (a : Option Addr) (len cap : Nat) (w : World) (h : Byt w a len cap) :
    Calls Try.prog 16 #[.slice a len cap] w fun e w' => ∃ (b : Int) (v u : Value) (x y : List Int), x.length ≤ 250 ∧ y.length ≤ 250 ∧ e = .returned (.tuple #[.int .i64 b, v, u]) ∧ Slc w.heap.size w' v x ∧ Slc w.heap.size w' u y ∧ Below w.heap.size w w' := by
  obtain ⟨i0, hi, hz0, hz1, hz2⟩ := info_parts infoInt
  go_enter Try.func16, Try.ntmps16
  go_wp2_with fail
  refine (l6Open_any a len cap _ h).mono ?_
  rintro e w1 ⟨g, rfl, hg, hR1, hb1⟩
  go_wp2_with fail
  refine (l91Base_any g 0 _ hR1 (by omega)).mono ?_
  rintro e w2 ⟨b, d1, d2, rfl, hR2, hG2⟩
  obtain ⟨b, rfl⟩ := Int.eq_ofNat_of_zero_le (show 0 ≤ b by omega)
  have B2 := hb1.grown hG2 hb1.size (fun k e => by cases e; exact hg)
  clear hR1 hb1 hG2
  go_wp2_with fail
  refine (l92Ring_any g _ b w2 hR2 (by omega) (by omega) (by omega)).mono ?_
  rintro e w3 ⟨vx, x, hxl, rfl, hx, ⟨p3, hp3, hR3⟩, hG3⟩
  have B3 := B2.grown hG3 B2.size (fun k e => by cases e; exact hg)
  have hx3 := hx.mono B2.size
  have hxo := fun q e => hx.own q e
  have hg2 := hR2.lt
  clear hR2 B2 hG3 hx
  have hso : ∃ (ys : List Int) (p : Bool), ys.length ≤ 250 ∧ GivesD 21 (fun v => #[.int .i64 b, v]) x ys p := by
    cases hrg : rngB b x with
    | false => exact ⟨[], false, by simp, specSumOther_no b x (by omega) hrg⟩
    | true =>
      obtain ⟨b', e1, hr⟩ := rng_nat hrg
      obtain rfl : b = b' := by omega
      exact ⟨_, true, by rw [othL_len]; omega, specSumOther_yes b x hr⟩
  obtain ⟨ys, p, hyl, hso⟩ := hso
  have HSO := Lib.hid hso
  clear hso
  go_wp2_with fail
  refine (HSO.out _ vx w3 hx3).mono ?_
  rintro e w4 ⟨vy, rfl, hy, hb4⟩
  have B4 := B3.trans (hb4.mono B3.size)
  have hR4 := hR3.later hb4
  have hx4 := hx3.later hb4
  have hy4 := hy.mono B3.size
  have hyo := fun q e => (hy.own q e).1
  have hs34 := hR3.lt
  clear hR3 B3 hb4 hy hx3 HSO
  obtain ⟨ax, cx, rfl⟩ := slc_form hx4
  obtain ⟨lx, hlx⟩ : ∃ lx, x.length = lx := ⟨_, rfl⟩
  rw [hlx] at hx4 hxo hxl ⊢
  have HLX := Lib.hid hlx
  clear hlx
  cases p with
  | false =>
    obtain ⟨w5, hw5⟩ : ∃ w5, w4 = w5 := ⟨_, rfl⟩
    subst hw5
    obtain ⟨p5, hp5⟩ : ∃ p5, p3 = p5 := ⟨_, rfl⟩
    subst hp5
    have hR5 := hR4; have B5 := B4; have hx5 := hx4
    clear hR4 B4 hx4 hy4
    have hO0 := World.ownsRow_made (base := w4.heap.size) (e := 3) (size := 1) w4 #[] 0 (Nat.le_refl _) (by simp) (by simp)
    have hR6 := hR5.alloc (.cells #[] 3)
    have G0 := World.grownBy_alloc w4 (.cells #[] 3) (some g)
    have hg5 := hR5.lt
    clear hR5
    go_wp2_with fail
    go_loopw [8, 10] (fun u i' wr => ∃ (q p' : Nat) (d : List Int), q ≤ lx + 1 ∧ i' = .int .i64 q ∧ d.length = q ∧ wr.ownsRow w4.heap.size 3 1 u q (d.map (Value.int .i64)) ∧ Rdr wr g p' ∧ p' ≤ p3 + 2 * q ∧ w4.grownBy wr (some g)) (fun _ i' _ => lx + 2 - (intOf i').toNat)
    case atStart => exact ⟨0, p3, [], Nat.zero_le _, rfl, rfl, hO0, hR6, by omega, G0⟩
    case round =>
      clear hO0 hR6 G0
      obtain ⟨q, p', d, hq, rfl, hdl, hO, hR, hp', hG⟩ := hrel
      have jb : (1 : Int) < (b : Int) := by omega
      have HO0 := Lib.hid hO
      clear hO
      go_wp2_with fail
      refine (pick_nat g p' 24 wr hR (by omega) (by omega)).mono ?_
      rintro e w6 ⟨r, hr, rfl, hR6, hG6⟩
      have G6 := hG.trans hG6
      have HO := Lib.hid (HO0.out.kept hG6 (by
        cases hu : u8.ownBlock with
        | none => exact .inl rfl
        | some q' => exact .inr (by have := (owns_lt HO0.out hu).1; simp; omega)))
      clear hG hG6 HO0 hR
      obtain ⟨k, hk⟩ : ∃ k : Nat, r / 23 = k := ⟨_, rfl⟩
      have hk1 : k ≤ 1 := by omega
      have hkI : (r : Int) / 23 = (k : Int) := by omega
      clear hk
      by_cases hlt : q < lx + k
      · have j1 : (q : Int) < (lx : Int) + (k : Int) := by omega
        go_wp2_with fail
        refine (pick_nat g (p' + 1) b w6 hR6 (by omega) (by omega)).mono ?_
        rintro e w7 ⟨z, hz, rfl, hR7, hG7⟩
        have G7 := G6.trans hG7
        have HO7 := HO.out.kept hG7 (by
          cases hu : u8.ownBlock with
          | none => exact .inl rfl
          | some q' => exact .inr (by have := (owns_lt HO.out hu).1; simp; omega))
        clear G6 hG7 HO hR6
        go_wp2_with (at_builtin; refine wpList_append_own_at _ rfl _ _ 22 rfl w4.heap.size 3 i0 (.int .i64 0) 1 8 Try.underlying22 hi hz0 hz1 hz2 rfl (by decide) _ _ _ rfl (HO7.alloc _) ⟨w7.heap.size, 0, none⟩ 1 1 [.int .i64 z] rfl rfl (cell_one_new _ _ _) (by simp [Value.oneCell']) ?ra1 ?ra2 ?ra3 ?_)
        case ra1 => unfold maxLen; omega
        case ra2 => omega
        case ra3 => have := G7.size; (try simp); omega
        intro v' w9 hown' hgrow _ _
        have hb9 : Below w4.heap.size w7 w9 := ((Below.refl _ _).alloc G7.size (.cells #[.int .i64 z] 3)).grown hgrow (by have := G7.size; simp; omega) (fun q e => (owns_lt HO7 e).1)
        have G9 := grown_then G7 hb9
        have R9 := hR7.below hb9 hg5
        clear HO7 hgrow hb9 hR7 G7
        go_wp2_with fail
        refine ⟨⟨q + 1, p' + 1 + 1, d ++ [(z : Int)], by omega, rfl, by rw [List.length_append, hdl]; rfl, ?_, R9, by omega, G9⟩, by simp [intOf]; omega⟩
        rw [List.map_append]
        simpa using hown'
      · have j1 : ¬ (q : Int) < (lx : Int) + (k : Int) := by omega
        have hs := Slc.of_owns (by rw [hdl]; exact HO.out)
        have B6 := B5.grown G6 B5.size (fun k e => by cases e; exact hg)
        have hx6 := hx5.kept G6 (fun q e1 e2 => by cases e2; have := (hxo _ e1).1; omega)
        clear HO hR6 G6
        go_wp2_with fail
        go_ret3
        exact ⟨b, _, _, x, d, by rw [HLX.out]; omega, by omega, rfl, hx6, hs.mono B5.size, B6⟩
  | true =>
    go_wp2_with fail
    refine (pick_nat g p3 4 w4 hR4 (by omega) (by omega)).mono ?_
    rintro e w5 ⟨r4, h4, rfl, hR5, hG5⟩
    have B5 := B4.grown hG5 B4.size (fun k e => by cases e; exact hg)
    have hx5 := hx4.kept hG5 (fun q e1 e2 => by cases e2; have := (hxo _ e1).1; omega)
    have hy5 := hy4.kept hG5 (fun q e1 e2 => by cases e2; have := hyo _ e1; omega)
    clear hR4 B4 hx4 hy4 hG5
    by_cases h40 : r4 = 0
    · have h40' : ((r4 : Int) == 0) = true := by simp; omega
      clear h40
      go_wp2_with fail
      go_ret3
      exact ⟨b, _, _, x, ys, by rw [HLX.out]; omega, by omega, rfl, hx5, hy5, B5⟩
    · have h40' : ((r4 : Int) == 0) = false := by simp; omega
      clear h40 hy5
      have hO0 := World.ownsRow_made (base := w5.heap.size) (e := 3) (size := 1) w5 #[] 0 (Nat.le_refl _) (by simp) (by simp)
      have hR6 := hR5.alloc (.cells #[] 3)
      have G0 := World.grownBy_alloc w5 (.cells #[] 3) (some g)
      have hg5 := hR5.lt
      clear hR5
      go_wp2_with fail
      go_loopw [8, 10] (fun u i' wr => ∃ (q p' : Nat) (d : List Int), q ≤ lx + 1 ∧ i' = .int .i64 q ∧ d.length = q ∧ wr.ownsRow w5.heap.size 3 1 u q (d.map (Value.int .i64)) ∧ Rdr wr g p' ∧ p' ≤ p3 + 1 + 2 * q ∧ w5.grownBy wr (some g)) (fun _ i' _ => lx + 2 - (intOf i').toNat)
      case atStart => exact ⟨0, p3 + 1, [], Nat.zero_le _, rfl, rfl, hO0, hR6, by omega, G0⟩
      case round =>
        clear hO0 hR6 G0
        obtain ⟨q, p', d, hq, rfl, hdl, hO, hR, hp', hG⟩ := hrel
        have jb : (1 : Int) < (b : Int) := by omega
        have HO0 := Lib.hid hO
        clear hO
        go_wp2_with fail
        refine (pick_nat g p' 24 wr hR (by omega) (by omega)).mono ?_
        rintro e w6 ⟨r, hr, rfl, hR6, hG6⟩
        have G6 := hG.trans hG6
        have HO := Lib.hid (HO0.out.kept hG6 (by
          cases hu : u8.ownBlock with
          | none => exact .inl rfl
          | some q' => exact .inr (by have := (owns_lt HO0.out hu).1; simp; omega)))
        clear hG hG6 HO0 hR
        obtain ⟨k, hk⟩ : ∃ k : Nat, r / 23 = k := ⟨_, rfl⟩
        have hk1 : k ≤ 1 := by omega
        have hkI : (r : Int) / 23 = (k : Int) := by omega
        clear hk
        by_cases hlt : q < lx + k
        · have j1 : (q : Int) < (lx : Int) + (k : Int) := by omega
          go_wp2_with fail
          refine (pick_nat g (p' + 1) b w6 hR6 (by omega) (by omega)).mono ?_
          rintro e w7 ⟨z, hz, rfl, hR7, hG7⟩
          have G7 := G6.trans hG7
          have HO7 := HO.out.kept hG7 (by
            cases hu : u8.ownBlock with
            | none => exact .inl rfl
            | some q' => exact .inr (by have := (owns_lt HO.out hu).1; simp; omega))
          clear G6 hG7 HO hR6
          go_wp2_with (at_builtin; refine wpList_append_own_at _ rfl _ _ 22 rfl w5.heap.size 3 i0 (.int .i64 0) 1 8 Try.underlying22 hi hz0 hz1 hz2 rfl (by decide) _ _ _ rfl (HO7.alloc _) ⟨w7.heap.size, 0, none⟩ 1 1 [.int .i64 z] rfl rfl (cell_one_new _ _ _) (by simp [Value.oneCell']) ?ra1 ?ra2 ?ra3 ?_)
          case ra1 => unfold maxLen; omega
          case ra2 => omega
          case ra3 => have := G7.size; (try simp); omega
          intro v' w9 hown' hgrow _ _
          have hb9 : Below w5.heap.size w7 w9 := ((Below.refl _ _).alloc G7.size (.cells #[.int .i64 z] 3)).grown hgrow (by have := G7.size; simp; omega) (fun q e => (owns_lt HO7 e).1)
          have G9 := grown_then G7 hb9
          have R9 := hR7.below hb9 hg5
          clear HO7 hgrow hb9 hR7 G7
          go_wp2_with fail
          refine ⟨⟨q + 1, p' + 1 + 1, d ++ [(z : Int)], by omega, rfl, by rw [List.length_append, hdl]; rfl, ?_, R9, by omega, G9⟩, by simp [intOf]; omega⟩
          rw [List.map_append]
          simpa using hown'
        · have j1 : ¬ (q : Int) < (lx : Int) + (k : Int) := by omega
          have hs := Slc.of_owns (by rw [hdl]; exact HO.out)
          have B6 := B5.grown G6 B5.size (fun k e => by cases e; exact hg)
          have hx6 := hx5.kept G6 (fun q e1 e2 => by cases e2; have := (hxo _ e1).1; omega)
          clear HO hR6 G6
          go_wp2_with fail
          go_ret3
          exact ⟨b, _, _, x, d, by rw [HLX.out]; omega, by omega, rfl, hx6, hs.mono B5.size, B6⟩

end Go.Proofs.Ytoiofkijinlllab
