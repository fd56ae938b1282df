/-
  The same round, turned: the program's test.
-/
import Derived.Test.YteanlblcppcgbaaRestL
import Derived.Test.YteanlblcppcgbaaPower
import Derived.Deep.RegionWith
import Derived.BigRegion
import Derived.Deep.Cut
import Derived.Test.YteanlblcppcgbaaGrown
import Derived.Test.YteanlblcppcgbaaPMath
namespace Go.Proofs.Yteanlblcppcgbaa
open Go.RowKit Go.Maps

/-- Some place of the first round is the first one of the other. -/
def samB (b T B n m T' B' n' : Nat) : Bool := decide (∃ i, i < m ∧ frT b T B (n + i) = frT b T' B' n')
def samK (b T B n k T' B' n' : Nat) : Bool := decide (∃ i, i < k ∧ frT b T B (n + i) = frT b T' B' n')

theorem samK_step {b T B n i T' B' n' : Nat} (h : samK b T B n i T' B' n' = false) (hne : frT b T B (n + i) ≠ frT b T' B' n') : samK b T B n (i + 1) T' B' n' = false := by
  unfold samK at h ⊢
  rw [decide_eq_false_iff_not] at h ⊢
  rintro ⟨j, hj, e⟩
  rcases Nat.lt_or_ge j i with h0 | h0
  · exact h ⟨j, h0, e⟩
  · obtain rfl : j = i := by omega
    exact hne e

theorem rrnL_get (b T B n m k : Nat) (hk : k < m) : (rrnL b T B n m)[k]?.getD 0 = (rst b T B (n + k) : Int) := by
  unfold rrnL rstL
  rw [List.getElem?_drop, List.getElem?_map, List.getElem?_range (by omega)]
  rfl

theorem lowest_rst (b T B k : Nat) (w : World) (hT : T < B) (hg : Nat.gcd T B = 1) (hB : B ≤ 1000) :
    Calls Try.prog 21 #[.int .i64 (rst b T B k), .int .i64 B] w fun e w' =>
      e = .returned (.agg #[.int .i64 (frT b T B k).1, .int .i64 (frT b T B k).2]) ∧ Below w.heap.size w w' := by
  have hr := rst_lt (b := b) hT k
  have hl := low_rst (b := b) hT hg k
  have h := lowest_any (rst b T B k) B w (by omega) (by omega) (by omega)
  rw [hl.1, hl.2] at h
  exact h

set_option maxHeartbeats 1000000 in
theorem implRestSame_no1 (b t n t2 n2 : Int) (h : tldB b t n = false) : GivesB 8 #[.int .i64 b, .agg #[.int .i64 t, .int .i64 n], .agg #[.int .i64 t2, .int .i64 n2]] false := by
  intro w
  go_enter Try.func8, Try.ntmps8
  go_wp2_with fail
  refine (fracTold_any _ _ _ _).mono ?_
  rintro e w1 ⟨rfl, hb1⟩
  go_wp2_with fail
  go_ret
  exact ⟨rfl, bel2' hb1⟩

set_option maxHeartbeats 1000000 in
theorem implRestSame_no2 (b t n t2 n2 : Int) (h : tldB b t n = true) (h2 : tldB b t2 n2 = false) : GivesB 8 #[.int .i64 b, .agg #[.int .i64 t, .int .i64 n], .agg #[.int .i64 t2, .int .i64 n2]] false := by
  intro w
  go_enter Try.func8, Try.ntmps8
  go_wp2_with fail
  refine (fracTold_any _ _ _ _).mono ?_
  rintro e w1 ⟨rfl, hb1⟩
  have x1 : Box2 w1 (w.heap.size + 1) 25 (.int .i64 t2) (.int .i64 n2) := (Box2.newAt (by simp)).later hb1
  have k0 := x1.cell0
  have k1 := x1.cell1
  have B1 := bel2' hb1
  go_wp2_with fail
  refine (fracTold_any _ _ _ _).mono ?_
  rintro e w2 ⟨rfl, hb2⟩
  go_wp2_with fail
  go_ret
  exact ⟨rfl, B1.trans (hb2.mono B1.size)⟩

set_option maxRecDepth 100000 in
set_option maxHeartbeats 4000000 in
theorem implRestSame_yes (b T B n m T' B' n' m' : Nat) (h : tldB b T B = true) (h' : tldB b T' B' = true) (hT : T < B) (hg : Nat.gcd T B = 1) (hB : B ≤ 1000) (hT' : T' < B') (hg' : Nat.gcd T' B' = 1) (hB' : B' ≤ 1000) (h3 : 2 ≤ b) (h4 : b ≤ 16)
    (hnm : IsLen b T B n m) (hnm' : IsLen b T' B' n' m') :
    GivesB 8 #[.int .i64 b, .agg #[.int .i64 T, .int .i64 B], .agg #[.int .i64 T', .int .i64 B']] (samB b T B n m T' B' n') := by
  intro w
  have hmm := @run_makeMap Try.prog
  have HG := Lib.hid hg; have HG' := Lib.hid hg'; clear hg hg'
  go_enter Try.func8, Try.ntmps8
  go_wp2_with fail
  refine (fracTold_any _ _ _ _).mono ?_
  rintro e w1 ⟨rfl, hb1⟩
  have x1 : Box2 w1 (w.heap.size + 1) 25 (.int .i64 T') (.int .i64 B') := (Box2.newAt (by simp)).later hb1
  have y1 : Box2 w1 w.heap.size 25 (.int .i64 T) (.int .i64 B) := ((Box2.newAt rfl).alloc _).later hb1
  have k0 := x1.cell0
  have k1 := x1.cell1
  have B1 := bel2' hb1
  go_wp2_with fail
  refine (fracTold_any _ _ _ _).mono ?_
  rintro e w2 ⟨rfl, hb2⟩
  have x2 := (x1.later hb2).alloc (.map #[] 0)
  have y2 := (y1.later hb2).alloc (.map #[] 0)
  have B2 := (B1.trans (hb2.mono B1.size)).alloc (B1.trans (hb2.mono B1.size)).size (.map #[] 0)
  have hb2s : w.heap.size + 1 < w2.heap.size := by have := (x1.later hb2).lt; omega
  have m2 : MapI (w2.alloc (.map #[] 0)) w2.heap.size 0 (.map []) := World.ownsMap_made _ _ _ _
  clear k0 k1 x1 y1 hb1 hb2 B1
  have k0 := x2.cell0
  have k1 := x2.cell1
  have l0 := y2.cell0
  have l1 := y2.cell1
  go_wp2_with fail
  have hwl := hb2s
  have ne1 : some (w.heap.size + 1) ≠ some w2.heap.size := by intro e; injection e with e; omega
  have ne0 : some w.heap.size ≠ some w2.heap.size := by intro e; injection e with e; omega
  have mD : MapI (w2.alloc (.map #[] 0)).drew w2.heap.size 0 (.map []) := m2
  have xD : Box2 (w2.alloc (.map #[] 0)).drew (w.heap.size + 1) 25 (.int .i64 T') (.int .i64 B') := x2
  have yD : Box2 (w2.alloc (.map #[] 0)).drew w.heap.size 25 (.int .i64 T) (.int .i64 B) := y2
  have BD : Below w.heap.size w (w2.alloc (.map #[] 0)).drew := B2.drew
  clear x2 y2 m2 B2
  go_cut [8, 9] from 13 (fun a c wc => ∃ (g3 of3 cp3 g4 of4 cp4 : Nat), a = .slice (some ⟨g3, of3, none⟩) m cp3 ∧ c = .slice (some ⟨g4, of4, none⟩) m' cp4 ∧ CellsR wc g3 of3 m (fun k => rst b T B (n + k)) ∧ wc.cell? ⟨g4, of4, none⟩ = some (.int .i64 (rst b T' B' n')) ∧
    Box2 wc w.heap.size 25 (.int .i64 T) (.int .i64 B) ∧ Box2 wc (w.heap.size + 1) 25 (.int .i64 T') (.int .i64 B') ∧ Below w.heap.size w wc)
  case first =>
    go_region_with (first | (go_at_call 20; with_reducible refine Calls.mono (rround_any b T B n m _ _ _ _ hT hB h3 h4 HG.out hnm mD) ?_; rintro e w3 ⟨v3, c3, D3, rfl, hv3, hm3, hgr3⟩; have x3 := xD.grown hgr3 ne1; have y3 := yD.grown hgr3 ne0; have x30 := x3.cell0; have x31 := x3.cell1) | (go_at_call 20; with_reducible refine Calls.mono (rround_any b T' B' n' m' _ _ _ _ hT' hB' h3 h4 HG'.out hnm' hm3) ?_; rintro e w4 ⟨v4, c4, D4, rfl, hv4, hm4, hgr4⟩))
    all_goals (
      have hlx := rrnL_len b T B n m
      have hly := rrnL_len b T' B' n' m'
      have hp := hnm.pos
      have hp' := hnm'.pos
      have x4 := x3.grown hgr4 ne1
      have y4 := y3.grown hgr4 ne0
      have B3 := BD.grown hgr3 BD.size (fun k e => by cases e; omega)
      have B4 := B3.grown hgr4 B3.size (fun k e => by cases e; omega)
      have o3 := hv3.own
      have hv3' := hv3.kept hgr4 (fun g e => by have := (o3 g e).1; simp at this; intro e'; injection e' with e'; omega)
      obtain ⟨g3, of3, cp3, rfl, _, _, _, _⟩ := slc_some hv3' (by omega)
      obtain ⟨g4, of4, cp4, rfl, _, _, _, _⟩ := slc_some hv4 (by omega)
      rw [hlx] at hv3' ⊢
      rw [hly] at hv4 ⊢
      have kt := Slc.cell hly hv4 0 hp'
      rw [rrnL_get _ _ _ _ _ _ hp', Nat.add_zero, Nat.add_zero] at kt
      have kc4 : CellsR w4 g3 of3 m (fun k => rst b T B (n + k)) := fun k hk => by
        have := Slc.cell hlx hv3' k hk
        rwa [rrnL_get _ _ _ _ _ _ hk] at this
      go_wp2
      go_meet
      case rel => exact ⟨g3, of3, cp3, g4, of4, cp4, rfl, rfl, kc4, kt, y4, x4, B4⟩)
  case rest =>
    clear k0 k1 l0 l1 mD xD yD BD
    obtain ⟨g3, of3, cp3, g4, of4, cp4, rfl, rfl, kc4, kt, y4, x4, B4⟩ := hcut
    have hp := hnm.pos
    have hp' := hnm'.pos
    have hle := hnm.le hT
    have j1 : (0 : Int) < m' := by omega
    have j2 : (0 : Int) ≤ 0 := by omega
    obtain ⟨w4, hw4⟩ : ∃ w4, wc = w4 := ⟨_, rfl⟩
    subst hw4
    have x40 := x4.cell0
    have x41 := x4.cell1
    go_wp2_with fail
    go_cut [10] from 13 (fun gp wd => ∃ gb : Nat, gp = .pointer (some ⟨gb, 0, none⟩) ∧ Box2 wd gb 25 (.int .i64 (frT b T' B' n').1) (.int .i64 (frT b T' B' n').2) ∧ Box2 wd w.heap.size 25 (.int .i64 T) (.int .i64 B) ∧ CellsR wd g3 of3 m (fun k => rst b T B (n + k)) ∧ Below w.heap.size w wd)
    case first =>
      have zD : Box2 (wc.alloc (.cells #[.int .i64 0, .int .i64 0] 25)).drew wc.heap.size 25 (.int .i64 0) (.int .i64 0) := Box2.new wc _ _ _
      have BA : Below wc.heap.size wc (wc.alloc (.cells #[.int .i64 0, .int .i64 0] 25)) := (Below.refl _ _).alloc (Nat.le_refl _) _
      have xA := x4.later BA
      have xA1 := xA.cell1
      have ktA := (BA.cell (p := ⟨g4, of4, none⟩) (cell_lt kt)).trans kt
      have yD4 : Box2 wc.drew w.heap.size 25 (.int .i64 T) (.int .i64 B) := y4
      have yA4 : Box2 (wc.alloc (.cells #[.int .i64 0, .int .i64 0] 25)).drew w.heap.size 25 (.int .i64 T) (.int .i64 B) := y4.alloc _
      have BD4 : Below w.heap.size w wc.drew := B4.drew
      have BA4 : Below w.heap.size w (wc.alloc (.cells #[.int .i64 0, .int .i64 0] 25)).drew := (B4.alloc B4.size _).drew
      have kD4 : CellsR wc.drew g3 of3 m (fun k => rst b T B (n + k)) := kc4
      have kA4 : CellsR (wc.alloc (.cells #[.int .i64 0, .int .i64 0] 25)).drew g3 of3 m (fun k => rst b T B (n + k)) := kc4.later ⟨BA.os, BA.tape, BA.output, BA.size, BA.block⟩
      have hneb : w.heap.size ≠ wc.heap.size := by have := y4.lt; omega
      go_region_with (go_at_call 21; with_reducible refine Calls.mono (lowest_rst b T' B' n' _ hT' HG'.out hB') ?_; rintro e w5 ⟨rfl, hb5⟩; first | with_reducible (have z5 := Box2.later zD hb5; have z50 := z5.cell0; have z51 := z5.cell1; have zf0 := z5.frozen0; have zf1 := z5.frozen1) | skip)
      all_goals (
        go_wp2
        go_meet
        case rel =>
          first
          | (with_reducible (have y5 := Box2.later yD4 hb5; have k5 := CellsR.later kD4 hb5; have B5 := Below.trans BD4 (Below.mono hb5 BD4.size))
             exact ⟨_, rfl, Box2.new w5 _ _ _, y5.alloc _, k5.later ((Below.refl w5.heap.size w5).alloc (Nat.le_refl _) _), B5.alloc B5.size _⟩)
          | (with_reducible (have y5 := Box2.later yA4 hb5; have k5 := CellsR.later kA4 hb5; have B5 := Below.trans BA4 (Below.mono hb5 BA4.size))
             have hb6 : Below wc.heap.size w5 ((w5.setCell ⟨wc.heap.size, 0, none⟩ (.int .i64 (frT b T' B' n').1)).setCell ⟨wc.heap.size, 1, none⟩ (.int .i64 (frT b T' B' n').2)) := ((Below.refl _ _).setCell (p := ⟨wc.heap.size, 0, none⟩) (Nat.le_refl _) _).setCell (p := ⟨wc.heap.size, 1, none⟩) (Nat.le_refl _) _
             exact ⟨_, rfl, z5.set _ _, (y5.other (o := 0) hneb _).other (o := 1) hneb _, fun k hk => (hb6.cell (p := ⟨g3, of3 + k, none⟩) (cell_lt (kc4 k hk))).trans (k5 k hk), B5.trans (hb6.mono B4.size)⟩))
    case rest =>
      clear x40 x41 kt kc4 x4 y4 B4
      obtain ⟨gb, rfl, gz, y6, k6, B6⟩ := hcut
      go_wp2_with fail
      go_loopw [40] (fun i' wr => ∃ i : Nat, i ≤ m ∧ i' = .int .i64 i ∧ samK b T B n i T' B' n' = false ∧ CellsR wr g3 of3 m (fun k => rst b T B (n + k)) ∧ Box2 wr w.heap.size 25 (.int .i64 T) (.int .i64 B) ∧ Box2 wr gb 25 (.int .i64 (frT b T' B' n').1) (.int .i64 (frT b T' B' n').2) ∧ Below w.heap.size w wr) (fun i' _ => m - (intOf i').toNat)
      case atStart => exact ⟨0, Nat.zero_le _, rfl, by simp [samK], k6, y6, gz, B6⟩
      case round =>
        obtain ⟨i, hi, rfl, hs, hk, hy, hg, hbel⟩ := hrel
        have c0 := hy.cell0
        have c1 := hy.cell1
        have d0 := hg.cell0
        have d1 := hg.cell1
        by_cases hlt : i < m
        · have j0 : (i : Int) < m := by omega
          have j1 : (0 : Int) ≤ i := by omega
          have kc := hk i hlt
          have gD : Box2 wr.drew gb 25 (.int .i64 (frT b T' B' n').1) (.int .i64 (frT b T' B' n').2) := hg
          have yD : Box2 wr.drew w.heap.size 25 (.int .i64 T) (.int .i64 B) := hy
          have kD : CellsR wr.drew g3 of3 m (fun k => rst b T B (n + k)) := hk
          have bD : Below w.heap.size w wr.drew := hbel.drew
          by_cases h1 : (frT b T B (n + i)).1 = (frT b T' B' n').1
          · by_cases h2 : (frT b T B (n + i)).2 = (frT b T' B' n').2
            · have hS : samB b T B n m T' B' n' = true := by unfold samB; rw [decide_eq_true_eq]; exact ⟨i, hlt, Prod.ext h1 h2⟩
              have HSS := Lib.hid hS; clear hS
              have LW : ∀ w : World, Calls Try.prog 21 #[.int .i64 (rst b T B (n + i)), .int .i64 B] w fun e w' => e = .returned (.agg #[.int .i64 (frT b T' B' n').1, .int .i64 (frT b T' B' n').2]) ∧ Below w.heap.size w w' := fun w => by
                have := lowest_rst b T B (n + i) w hT HG.out hB
                rwa [h1, h2] at this
              clear h1 h2
              go_wp2_with fail
              go_region_with (go_at_call 21; with_reducible refine Calls.mono (LW _) ?_; rintro e w7 ⟨rfl, hb7⟩; have g7 := Box2.later gD hb7; have g70 := g7.cell0; have g71 := g7.cell1)
              all_goals (
                go_wp2_with fail
                go_ret
                exact ⟨ret_bool HSS.out.symm, bD.trans (hb7.mono bD.size)⟩)
            · have e2 : (((frT b T B (n + i)).2 : Int) == ((frT b T' B' n').2 : Int)) = false := by simp; omega
              have e1 : ((frT b T B (n + i)).1 : Int) = ((frT b T' B' n').1 : Int) := by omega
              have hS : samK b T B n (i + 1) T' B' n' = false := samK_step hs (fun e => h2 (congrArg Prod.snd e))
              have LW : ∀ w : World, Calls Try.prog 21 #[.int .i64 (rst b T B (n + i)), .int .i64 B] w fun e w' => e = .returned (.agg #[.int .i64 (frT b T' B' n').1, .int .i64 (frT b T B (n + i)).2]) ∧ Below w.heap.size w w' := fun w => by
                have := lowest_rst b T B (n + i) w hT HG.out hB
                rwa [h1] at this
              clear h1 h2 e1
              go_wp2_with fail
              go_region_with (go_at_call 21; with_reducible refine Calls.mono (LW _) ?_; rintro e w7 ⟨rfl, hb7⟩; have g7 := Box2.later gD hb7; have g70 := g7.cell0; have g71 := g7.cell1)
              all_goals (
                go_wp2_with fail
                go_roundw
                case rel => exact ⟨i + 1, by omega, by go_num, hS, kD.later hb7, yD.later hb7, g7, bD.trans (hb7.mono bD.size)⟩
                case measure => simp [intOf]; omega)
          · have e1 : (((frT b T B (n + i)).1 : Int) == ((frT b T' B' n').1 : Int)) = false := by simp; omega
            have hS : samK b T B n (i + 1) T' B' n' = false := samK_step hs (fun e => h1 (congrArg Prod.fst e))
            clear h1
            go_wp2_with fail
            go_region_with (go_at_call 21; with_reducible refine Calls.mono (lowest_rst b T B (n + i) _ hT HG.out hB) ?_; rintro e w7 ⟨rfl, hb7⟩; have g7 := Box2.later gD hb7; have g70 := g7.cell0; have g71 := g7.cell1)
            all_goals (
              go_wp2_with fail
              go_roundw
              case rel => exact ⟨i + 1, by omega, by go_num, hS, kD.later hb7, yD.later hb7, g7, bD.trans (hb7.mono bD.size)⟩
              case measure => simp [intOf]; omega)
        · obtain rfl : i = m := by omega
          have HSS : Hid (samB b T B n i T' B' n' = false) := hs
          clear hs
          go_wp2
          go_ret
          exact ⟨ret_bool HSS.out.symm, hbel⟩

end Go.Proofs.Yteanlblcppcgbaa
