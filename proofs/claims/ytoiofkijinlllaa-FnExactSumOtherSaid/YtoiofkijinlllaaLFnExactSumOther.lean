/-
  The law FnExactSumOther's walk, where the program answers what its sentence says.
-/
import Derived.Test.YtoiofkijinlllaaSumB
import Derived.Test.YtoiofkijinlllaaToInt
import Derived.Test.YtoiofkijinlllaaEq
import Derived.Test.YtoiofkijinlllaaGRow
namespace Go.Proofs.Ytoiofkijinlllaa
open Go.RowKit

set_option maxHeartbeats 4000000 in
theorem lawSumOther_any (H : ImSumOther) (b : Int) (a : Option Addr) (l c : Nat) (z : List Int) (w : World) (_wb : (Lit.int .i64 b).wf = true) (r : IsRow .i64 w a l c z) :
    Calls Try.prog 5 #[.int .i64 b, .slice a l c] w fun e w' => e = .returned (.bool true) ∧ Below w.heap.size w w' := by
  obtain ⟨hx, sx⟩ := row_src r
  clear r
  revert hx sx
  generalize z.take l = ds
  intro hx sx
  subst hx
  by_cases h1 : 1048576 < ds.length
  · have h1'' : (1048576 : Int) < (ds.length : Int) := by omega
    clear sx
    revert h1 h1''
    generalize ds.length = n
    intro h1 h1''
    go_enter Try.func5, Try.ntmps5
    go_wp2
    go_ret
    exact ⟨rfl, Below.refl _ _⟩
  have h1' : decide ((1048576 : Int) < (ds.length : Int)) = false := by simp; omega
  have hlx : ds.length ≤ 1048576 := by omega
  obtain ⟨xs, p, hlen, hs, hi⟩ := bothSumOther H b ds hlx
  have TX : Hid (∀ wx, Below w.heap.size w wx → Calls Try.prog 14 #[.slice a ds.length c] wx fun e w' => ∃ v, e = .returned v ∧ Slc wx.heap.size w' v ds ∧ Below wx.heap.size wx w') := fun wx hb => toIntS_any a c ds wx (sx.later hb) hlx
  have ED : Hid (∀ n₀ n₁ v u wx, Slc n₀ wx v ds → Slc n₁ wx u ds → Calls Try.prog 16 #[v, u] wx fun e w' => e = .returned (.bool true) ∧ Below wx.heap.size wx w') := fun n₀ n₁ v u wx ha hb => by
    have := eqIntS_any n₀ n₁ v u ds ds wx ha hb hlx hlx
    simpa using this
  have HS := Lib.hid hs; have HI := Lib.hid hi; clear hs hi sx h1
  have EX : Hid (∀ n₀ n₁ v u wx, Slc n₀ wx v xs → Slc n₁ wx u xs → Calls Try.prog 16 #[v, u] wx fun e w' => e = .returned (.bool true) ∧ Below wx.heap.size wx w') := fun n₀ n₁ v u wx ha hb => by
    have := eqIntS_any n₀ n₁ v u xs xs wx ha hb (by omega) (by omega)
    simpa using this
  have MD : Hid (∀ n₀ v wx, Slc n₀ wx v ds → Calls Try.prog 17 #[v, .int .i64 1] wx fun e w' => e = .returned (.int .i64 (1 + ds.length)) ∧ wx.grownBy w' v.ownBlock) := fun n₀ v wx hv =>
    (markIntS_any n₀ v ds 1 wx hv hlx (by omega) (by omega)).mono fun e w' h => ⟨h.1, h.2.2⟩
  clear hlx
  revert h1' TX MD
  generalize ds.length = n
  intro h1' TX MD
  cases p
  all_goals (
    go_enter Try.func5, Try.ntmps5
    go_wp2_with fail
    refine (TX.out _ (Below.refl _ _)).mono ?_
    rintro e w1 ⟨v1, rfl, s1, B1⟩
    go_wp2_with fail
    refine (HS.out _ v1 w1 s1).mono ?_
    rintro e w2 ⟨v, rfl, lv2, b2⟩
    have B2 := B1.trans (b2.mono B1.size)
    have hvo := fun q e => (lv2.own q e).2
    clear s1 b2 B1
    go_wp2_with fail
    refine (TX.out w2 B2).mono ?_
    rintro e w3 ⟨y, rfl, ly3, b3⟩
    have B3 := B2.trans (b3.mono B2.size)
    have lv3 := lv2.later b3
    have hyo := fun q e => ly3.own q e
    have hs2 := B2.size
    have hs23 := b3.size
    clear lv2 b3 B2
    go_wp2_with fail
    refine (HI.out _ y w3 ly3).mono ?_
    rintro e w4 ⟨g, rfl, lg4, b4⟩
    have B4 := B3.trans (b4.mono B3.size)
    have lv4 := lv3.later b4
    have ly4 := ly3.later b4
    have hgo := fun q e => (lg4.own q e).1
    have hs3 := B3.size
    clear lv3 ly3 b4 B3
    go_wp2_with fail
    refine (EX.out _ _ g v w4 lg4 lv4).mono ?_
    rintro e w5 ⟨rfl, b5⟩
    have B5 := B4.trans (b5.mono B4.size)
    have lv5 := lv4.later b5
    have ly5 := ly4.later b5
    have lg5 := lg4.later b5
    clear lv4 ly4 lg4 b5 B4
    go_wp2_with fail
    refine (TX.out w5 B5).mono ?_
    rintro e w6 ⟨u, rfl, lu6, b6⟩
    have B6 := B5.trans (b6.mono B5.size)
    have lv6 := lv5.later b6
    have ly6 := ly5.later b6
    have lg6 := lg5.later b6
    clear lv5 ly5 lg5 b6 B5
    go_wp2_with fail
    refine (ED.out _ _ y u w6 ly6 lu6).mono ?_
    rintro e w7 ⟨rfl, b7⟩
    have B7 := B6.trans (b7.mono B6.size)
    have lv7 := lv6.later b7
    have ly7 := ly6.later b7
    have lg7 := lg6.later b7
    clear lv6 ly6 lg6 lu6 b7 B6
    go_wp2_with fail
    refine (MD.out _ y w7 ly7).mono ?_
    rintro e w8 ⟨rfl, hg8⟩
    have lv8 := lv7.kept hg8 (fun q e1 e2 => by have := hvo q e1; have := (hyo q e2).1; omega)
    have lg8 := lg7.kept hg8 (fun q e1 e2 => by have := hgo q e1; have := (hyo q e2).2; omega)
    have B8 := B7.grown hg8 B7.size (fun q e => by have := (hyo q e).1; omega)
    clear lv7 ly7 lg7 hg8 B7
    have i0 : ¬ (1 + (n : Int)) < 0 := by omega
    go_wp2_with fail
    refine (EX.out _ _ g v w8 lg8 lv8).mono ?_
    rintro e w9 ⟨rfl, b9⟩
    have B9 := B8.trans (b9.mono B8.size)
    have lv9 := lv8.later b9
    have lg9 := lg8.later b9
    clear lv8 lg8 b9 B8
    go_wp2_with fail
    refine (markIntS_any _ _ xs 1 _ lg9 (by omega) (by omega) (by omega)).mono ?_
    rintro e w10 ⟨rfl, lm10, hg10⟩
    have lv10 := lv9.kept hg10 (fun q e1 e2 => by have := hvo q e1; have := hgo q e2; omega)
    have B10 := B9.grown hg10 B9.size (fun q e => by have := hgo q e; omega)
    clear lv9 lg9 hg10 B9
    go_wp2_with fail
    refine (heldIntS_any _ _ xs.length 1 _ lm10 (by omega) (by omega) (by omega)).mono ?_
    rintro e w11 ⟨rfl, rfl⟩
    have i1 : ¬ (1 + (xs.length : Int)) < 0 := by omega
    go_wp2_with fail
    refine (TX.out _ B10).mono ?_
    rintro e w11 ⟨x2, rfl, lx11, b11⟩
    have B11 := B10.trans (b11.mono B10.size)
    have lv11 := lv10.later b11
    have lm11 := lm10.later b11
    clear lv10 lm10 b11 B10
    go_wp2_with fail
    refine (HI.out _ x2 w11 lx11).mono ?_
    rintro e w12 ⟨h, rfl, lh12, b12⟩
    have B12 := B11.trans (b12.mono B11.size)
    have lv12 := lv11.later b12
    have lm12 := lm11.later b12
    clear lv11 lm11 lx11 b12 B11
    go_wp2_with fail
    refine (EX.out _ _ h v w12 lh12 lv12).mono ?_
    rintro e w13 ⟨rfl, b13⟩
    have B13 := B12.trans (b13.mono B12.size)
    have lm13 := lm12.later b13
    clear lv12 lm12 lh12 b13 B12
    go_wp2_with fail
    refine (heldIntS_any _ _ xs.length 1 _ lm13 (by omega) (by omega) (by omega)).mono ?_
    rintro e w14 ⟨rfl, rfl⟩
    go_wp2_with fail
    go_ret
    exact ⟨rfl, B13⟩)

end Go.Proofs.Ytoiofkijinlllaa
