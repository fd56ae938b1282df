/-
  The law FnExactSumRound's walk, where the program answers what its sentence says.
-/
import Derived.Test.YtoiofkijinlllabSumB
import Derived.Test.YtoiofkijinlllabToInt
import Derived.Test.YtoiofkijinlllabEq
import Derived.Test.YtoiofkijinlllabGRow
namespace Go.Proofs.Ytoiofkijinlllab
open Go.RowKit

set_option maxHeartbeats 8000000 in
theorem lawSumRound_any (H : ImSumRound) (b : Int) (a : Option Addr) (l c : Nat) (z : List Int) (a' : Option Addr) (l' c' : Nat) (z' : List Int) (w : World) (_wb : (Lit.int .i64 b).wf = true) (r : IsRow .i64 w a l c z) (r' : IsRow .i64 w a' l' c' z') :
    Calls Try.prog 3 #[.int .i64 b, .slice a l c, .slice a' l' c'] w fun e w' => e = .returned (.bool true) ∧ Below w.heap.size w w' := by
  obtain ⟨hx, sx⟩ := row_src r
  obtain ⟨hy, sy⟩ := row_src r'
  clear r r'
  revert hx sx hy sy
  generalize z.take l = ds
  generalize z'.take l' = es
  intro hx sx hy sy
  subst hx hy
  by_cases h1 : 1048576 < ds.length
  · have h1'' : (1048576 : Int) < (ds.length : Int) := by omega
    clear sx sy
    revert h1 h1''
    generalize ds.length = n
    generalize es.length = m
    intro h1 h1''
    go_enter Try.func3, Try.ntmps3
    go_wp2
    go_ret
    exact ⟨rfl, Below.refl _ _⟩
  have h1' : decide ((1048576 : Int) < (ds.length : Int)) = false := by simp; omega
  have hlx : ds.length ≤ 1048576 := by omega
  by_cases h2 : 1048576 < es.length
  · have h2'' : (1048576 : Int) < (es.length : Int) := by omega
    clear sx sy
    revert h1' h1 h2 h2'' hlx
    generalize ds.length = n
    generalize es.length = m
    intro h1' h1 h2 h2'' hlx
    go_enter Try.func3, Try.ntmps3
    go_wp2
    go_ret
    exact ⟨rfl, Below.refl _ _⟩
  have h2' : decide ((1048576 : Int) < (es.length : Int)) = false := by simp; omega
  have hly : es.length ≤ 1048576 := by omega
  obtain ⟨zs, p, hlen, hs, hi⟩ := bothSumRound H b ds es hlx hly
  have TX : Hid (∀ wx, Below w.heap.size w wx → Calls Try.prog 8 #[.slice a ds.length c] wx fun e w' => ∃ v, e = .returned v ∧ Slc wx.heap.size w' v ds ∧ Below wx.heap.size wx w') := fun wx hb => toIntS_any a c ds wx (sx.later hb) hlx
  have EDX : Hid (∀ n₀ n₁ v u wx, Slc n₀ wx v ds → Slc n₁ wx u ds → Calls Try.prog 10 #[v, u] wx fun e w' => e = .returned (.bool true) ∧ Below wx.heap.size wx w') := fun n₀ n₁ v u wx ha hb => by
    have := eqIntS_any n₀ n₁ v u ds ds wx ha hb hlx hlx
    simpa using this
  have TY : Hid (∀ wx, Below w.heap.size w wx → Calls Try.prog 8 #[.slice a' es.length c'] wx fun e w' => ∃ v, e = .returned v ∧ Slc wx.heap.size w' v es ∧ Below wx.heap.size wx w') := fun wx hb => toIntS_any a' c' es wx (sy.later hb) hly
  have EDY : Hid (∀ n₀ n₁ v u wx, Slc n₀ wx v es → Slc n₁ wx u es → Calls Try.prog 10 #[v, u] wx fun e w' => e = .returned (.bool true) ∧ Below wx.heap.size wx w') := fun n₀ n₁ v u wx ha hb => by
    have := eqIntS_any n₀ n₁ v u es es wx ha hb hly hly
    simpa using this
  have HS := Lib.hid hs; have HI := Lib.hid hi; clear hs hi sx sy h1 h2
  have EX : Hid (∀ n₀ n₁ v u wx, Slc n₀ wx v zs → Slc n₁ wx u zs → Calls Try.prog 10 #[v, u] wx fun e w' => e = .returned (.bool true) ∧ Below wx.heap.size wx w') := fun n₀ n₁ v u wx ha hb => by
    have := eqIntS_any n₀ n₁ v u zs zs wx ha hb (by omega) (by omega)
    simpa using this
  have MX : Hid (∀ n₀ v wx, Slc n₀ wx v ds → Calls Try.prog 11 #[v, .int .i64 1] wx fun e w' => e = .returned (.int .i64 (1 + ds.length)) ∧ wx.grownBy w' v.ownBlock) := fun n₀ v wx hv =>
    (markIntS_any n₀ v ds 1 wx hv hlx (by omega) (by omega)).mono fun e w' h => ⟨h.1, h.2.2⟩
  have MY : Hid (∀ n₀ v wx, Slc n₀ wx v es → Calls Try.prog 11 #[v, .int .i64 (1 + (ds.length : Int))] wx fun e w' => e = .returned (.int .i64 (1 + (ds.length : Int) + es.length)) ∧ wx.grownBy w' v.ownBlock) := fun n₀ v wx hv =>
    (markIntS_any n₀ v es (1 + ds.length) wx hv hly (by omega) (by omega)).mono fun e w' h => ⟨h.1, h.2.2⟩
  clear hlx hly
  revert h1' h2' TX TY MX MY
  generalize ds.length = n
  generalize es.length = m
  intro h1' h2' TX TY MX MY
  cases p
  all_goals (
    go_enter Try.func3, Try.ntmps3
    go_wp2_with fail
    refine (TX.out _ (Below.refl _ _)).mono ?_
    rintro e w1 ⟨vx, rfl, lx1, B1⟩
    go_wp2_with fail
    refine (TY.out w1 B1).mono ?_
    rintro e w2 ⟨vy, rfl, ly2, b2⟩
    have B2 := B1.trans (b2.mono B1.size)
    have lx2 := lx1.later b2
    clear B1 b2 lx1
    go_wp2_with fail
    refine (HS.out _ _ vx vy w2 lx2 ly2).mono ?_
    rintro e w3 ⟨v, rfl, lv3, b3⟩
    have B3 := B2.trans (b3.mono B2.size)
    clear B2 b3
    have hvo := fun q e => (lv3.own q e).2
    go_wp2_with fail
    refine (TX.out w3 B3).mono ?_
    rintro e w4 ⟨x1, rfl, lp4, b4⟩
    have B4 := B3.trans (b4.mono B3.size)
    have lv4 := lv3.later b4
    have hs3 := B3.size
    have hs34 := b4.size
    clear B3 b4 lv3
    have hpo := fun q e => lp4.own q e
    go_wp2_with fail
    refine (TY.out w4 B4).mono ?_
    rintro e w5 ⟨x2, rfl, lq5, b5⟩
    have B5 := B4.trans (b5.mono B4.size)
    have lv5 := lv4.later b5
    have lp5 := lp4.later b5
    have hs4 := B4.size
    have hs45 := b5.size
    clear B4 b5 lv4 lp4
    have hqo := fun q e => lq5.own q e
    go_wp2_with fail
    refine (HI.out _ _ x1 x2 w5 lp5 lq5).mono ?_
    rintro e w6 ⟨g, rfl, lg6, b6⟩
    have B6 := B5.trans (b6.mono B5.size)
    have lv6 := lv5.later b6
    have lp6 := lp5.later b6
    have lq6 := lq5.later b6
    have hs5 := B5.size
    have hs56 := b6.size
    clear B5 b6 lv5 lp5 lq5
    have hgo := fun q e => (lg6.own q e).1
    go_wp2_with fail
    refine (EX.out _ _ g v w6 lg6 lv6).mono ?_
    rintro e w7 ⟨rfl, b7⟩
    have B7 := B6.trans (b7.mono B6.size)
    have lv7 := lv6.later b7
    have lp7 := lp6.later b7
    have lq7 := lq6.later b7
    have lg7 := lg6.later b7
    clear B6 b7 lv6 lp6 lq6 lg6
    go_wp2_with fail
    refine (TX.out w7 B7).mono ?_
    rintro e w8 ⟨u, rfl, lu8, b8⟩
    have B8 := B7.trans (b8.mono B7.size)
    have lv8 := lv7.later b8
    have lp8 := lp7.later b8
    have lq8 := lq7.later b8
    have lg8 := lg7.later b8
    clear B7 b8 lv7 lp7 lq7 lg7
    go_wp2_with fail
    refine (EDX.out _ _ x1 u w8 lp8 lu8).mono ?_
    rintro e w9 ⟨rfl, b9⟩
    have B9 := B8.trans (b9.mono B8.size)
    have lv9 := lv8.later b9
    have lp9 := lp8.later b9
    have lq9 := lq8.later b9
    have lg9 := lg8.later b9
    clear B8 b9 lv8 lp8 lq8 lg8
    go_wp2_with fail
    refine (TY.out w9 B9).mono ?_
    rintro e w10 ⟨u', rfl, lu10, b10⟩
    have B10 := B9.trans (b10.mono B9.size)
    have lv10 := lv9.later b10
    have lp10 := lp9.later b10
    have lq10 := lq9.later b10
    have lg10 := lg9.later b10
    clear B9 b10 lv9 lp9 lq9 lg9
    go_wp2_with fail
    refine (EDY.out _ _ x2 u' w10 lq10 lu10).mono ?_
    rintro e w11 ⟨rfl, b11⟩
    have B11 := B10.trans (b11.mono B10.size)
    have lv11 := lv10.later b11
    have lp11 := lp10.later b11
    have lq11 := lq10.later b11
    have lg11 := lg10.later b11
    clear B10 b11 lv10 lp10 lq10 lg10
    go_wp2_with fail
    refine (MX.out _ x1 w11 lp11).mono ?_
    rintro e w12 ⟨rfl, hg12⟩
    have lv12 := lv11.kept hg12 (fun q e1 e2 => by have := hvo q e1; have := (hpo q e2).1; omega)
    have lg12 := lg11.kept hg12 (fun q e1 e2 => by have := hgo q e1; have := (hpo q e2).2; omega)
    have lq12 := lq11.kept hg12 (fun q e1 e2 => by have := (hqo q e1).1; have := (hpo q e2).2; omega)
    have B12 := B11.grown hg12 B11.size (fun q e => by have := (hpo q e).1; omega)
    clear lv11 lg11 lp11 lq11 hg12 B11
    go_wp2_with fail
    refine (MY.out _ x2 w12 lq12).mono ?_
    rintro e w13 ⟨rfl, hg13⟩
    have lv13 := lv12.kept hg13 (fun q e1 e2 => by have := hvo q e1; have := (hqo q e2).1; omega)
    have lg13 := lg12.kept hg13 (fun q e1 e2 => by have := hgo q e1; have := (hqo q e2).2; omega)
    have B13 := B12.grown hg13 B12.size (fun q e => by have := (hqo q e).1; omega)
    clear lv12 lg12 lq12 hg13 B12
    have i0 : ¬ (1 + (n : Int) + (m : Int)) < 0 := by omega
    go_wp2_with fail
    refine (EX.out _ _ g v w13 lg13 lv13).mono ?_
    rintro e w14 ⟨rfl, b14⟩
    have B14 := B13.trans (b14.mono B13.size)
    have lv14 := lv13.later b14
    have lg14 := lg13.later b14
    clear B13 b14 lv13 lg13
    go_wp2_with fail
    refine (markIntS_any _ _ zs 1 _ lg14 (by omega) (by omega) (by omega)).mono ?_
    rintro e w15 ⟨rfl, lm15, hg15⟩
    have lv15 := lv14.kept hg15 (fun q e1 e2 => by have := hvo q e1; have := hgo q e2; omega)
    have B15 := B14.grown hg15 B14.size (fun q e => by have := hgo q e; omega)
    clear lv14 lg14 hg15 B14
    go_wp2_with fail
    refine (heldIntS_any _ _ zs.length 1 _ lm15 (by omega) (by omega) (by omega)).mono ?_
    rintro e w16 ⟨rfl, rfl⟩
    have i1 : ¬ (1 + (zs.length : Int)) < 0 := by omega
    go_wp2_with fail
    refine (TX.out w15 B15).mono ?_
    rintro e w16 ⟨y1, rfl, lr16, b16⟩
    have B16 := B15.trans (b16.mono B15.size)
    have lv16 := lv15.later b16
    have lm16 := lm15.later b16
    clear B15 b16 lv15 lm15
    go_wp2_with fail
    refine (TY.out w16 B16).mono ?_
    rintro e w17 ⟨y2, rfl, ls17, b17⟩
    have B17 := B16.trans (b17.mono B16.size)
    have lv17 := lv16.later b17
    have lm17 := lm16.later b17
    have lr17 := lr16.later b17
    clear B16 b17 lv16 lm16 lr16
    go_wp2_with fail
    refine (HI.out _ _ y1 y2 w17 lr17 ls17).mono ?_
    rintro e w18 ⟨h, rfl, lh18, b18⟩
    have B18 := B17.trans (b18.mono B17.size)
    have lv18 := lv17.later b18
    have lm18 := lm17.later b18
    clear B17 b18 lv17 lm17
    go_wp2_with fail
    refine (EX.out _ _ h v w18 lh18 lv18).mono ?_
    rintro e w19 ⟨rfl, b19⟩
    have B19 := B18.trans (b19.mono B18.size)
    have lm19 := lm18.later b19
    clear B18 b19 lm18
    go_wp2_with fail
    refine (heldIntS_any _ _ zs.length 1 _ lm19 (by omega) (by omega) (by omega)).mono ?_
    rintro e w20 ⟨rfl, rfl⟩
    go_wp2_with fail
    go_ret
    exact ⟨rfl, B19⟩)

end Go.Proofs.Ytoiofkijinlllab
