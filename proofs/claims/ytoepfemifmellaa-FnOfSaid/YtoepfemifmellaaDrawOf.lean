/-
  The draw of a base and two lists of digits.
-/
import Derived.Test.YtoepfemifmellaaDrawS
import Derived.Test.YtoepfemifmellaaLists
import Derived.Maps.AppendAt
namespace Go.Proofs.Ytoepfemifmellaa
open Go.RowKit

theorem spec_begin (b t n : Int) : ∃ xs p, xs.length ≤ 1000 ∧ Gives 25 #[.int .i64 b, .agg #[.int .i64 t, .int .i64 n]] xs p := by
  cases h : tldB b t n with
  | false => exact ⟨[], false, by simp, specFracBegin_no _ _ _ h⟩
  | true =>
    have h' := h
    obtain ⟨b', T, B, rfl, rfl, rfl, h3, h4, hT, hB, hg⟩ := tld_nat h'
    obtain ⟨n, m, hnm⟩ := len_some (b := b') hT hg
    have hle := hnm.le hT
    exact ⟨digL b' T B n, true, by rw [digL_len]; omega, specFracBegin_yes _ _ _ _ _ h hT hB h3 h4 hnm⟩

theorem spec_round (b t n : Int) : ∃ xs p, xs.length ≤ 1000 ∧ Gives 26 #[.int .i64 b, .agg #[.int .i64 t, .int .i64 n]] xs p := by
  cases h : tldB b t n with
  | false => exact ⟨[], false, by simp, specFracRound_no _ _ _ h⟩
  | true =>
    have h' := h
    obtain ⟨b', T, B, rfl, rfl, rfl, h3, h4, hT, hB, hg⟩ := tld_nat h'
    obtain ⟨n, m, hnm⟩ := len_some (b := b') hT hg
    have hle := hnm.le hT
    exact ⟨rndL b' T B n m, true, by rw [rndL_len]; omega, specFracRound_yes _ _ _ _ _ h hT hB h3 h4 hnm⟩

theorem row_ge2 {w : World} {base : Nat} {e : TypeId} {size : Nat} {v : Value} {n : Nat} {xs : List Value} (h : w.ownsRow base e size v n xs) {g : Nat} (hg : v.ownBlock = some g) : base ≤ g ∧ g < w.heap.size := by
  rcases h.2 with ⟨rfl, _⟩ | ⟨g', cap, cur, rfl, hb, hh, _⟩
  · cases hg
  · cases hg; exact ⟨hb, (Array.getElem?_eq_some_iff.1 hh).1⟩

theorem row_ne {w : World} {base : Nat} {e : TypeId} {size : Nat} {v : Value} {n : Nat} {xs : List Value} (h : w.ownsRow base e size v n xs) {g : Nat} (hg : g < base) : v.ownBlock = none ∨ v.ownBlock ≠ some g := by
  refine .inr fun e => ?_
  have := (row_ge2 h e).1
  omega

set_option maxHeartbeats 4000000 in
theorem drawFracOf_any (a : Option Addr) (len cap : Nat) (w : World) (h : Byt w a len cap) (hl : len ≤ 1048576) :
    Calls Try.prog 7 #[.slice a len cap] w fun e w' => ∃ (b : Int) (v u : Value) (xs ys : List Int), e = .returned (.tuple #[.int .i64 b, v, u]) ∧ Slc w.heap.size w' v xs ∧ Slc w.heap.size w' u ys ∧ xs.length ≤ 1000 ∧ ys.length ≤ 1000 ∧ Below w.heap.size w w' := by
  obtain ⟨i0, hi, hz0, hz1, hz2⟩ := info_parts infoInt
  go_enter Try.func7, Try.ntmps7
  go_wp2_with fail
  refine (l91Some_any a len cap _ h).mono ?_
  rintro e w1 ⟨b, t, n, hd, rfl, hb1⟩
  have f1 := Box2.new w1 27 (.int .i64 t) (.int .i64 n)
  have B1 := hb1.alloc hb1.size (.cells #[.int .i64 t, .int .i64 n] 27)
  clear hb1 hd
  obtain ⟨xs, p, hlx, hgx⟩ := spec_begin b t n
  obtain ⟨ys, q, hly, hgy⟩ := spec_round b t n
  have c0 := f1.cell0
  have c1 := f1.cell1
  go_wp2_with fail
  refine (hgx _).mono ?_
  rintro e w2 ⟨v, rfl, x2, hb2⟩
  have f2 := f1.later hb2
  have B2 := B1.trans (hb2.mono B1.size)
  clear hb2 c0 c1 f1
  have c0 := f2.cell0
  have c1 := f2.cell1
  go_wp2_with fail
  refine (hgy _).mono ?_
  rintro e w3 ⟨u, rfl, y3, hb3⟩
  have x3 := x2.later hb3
  have B3 := B2.trans (hb3.mono B2.size)
  clear hb3 c0 c1 f2 x2 hgx hgy
  have x3' := x3.mono B1.size
  have y3' := y3.mono B2.size
  clear x3 y3 B1 B2
  obtain ⟨ax, cx, rfl⟩ := slc_form x3'
  obtain ⟨ay, cy, rfl⟩ := slc_form y3'
  obtain ⟨nx, hnx⟩ : ∃ nx, xs.length = nx := ⟨_, rfl⟩
  obtain ⟨ny, hny⟩ : ∃ ny, ys.length = ny := ⟨_, rfl⟩
  rw [hnx] at x3' hlx ⊢
  rw [hny] at y3' hly ⊢
  have HNX := Lib.hid hnx; have HNY := Lib.hid hny; clear hnx hny
  have hno : (p = true ∧ q = true ∧ nx + ny ≤ 5 ∧ 0 < len % 4) ∨ p = false ∨ (p = true ∧ q = false) ∨ (p = true ∧ q = true ∧ 5 < nx + ny) ∨ (p = true ∧ q = true ∧ nx + ny ≤ 5 ∧ len % 4 = 0) := by
    cases p <;> cases q <;> simp <;> omega
  rcases hno with ⟨rfl, rfl, h5, h0⟩ | rfl | ⟨rfl, rfl⟩ | ⟨rfl, rfl, h5⟩ | ⟨rfl, rfl, h5, h0⟩
  · have j1 : (nx : Int) + ny ≤ 5 := by omega
    have j2 : 0 < ((len : Int)).tmod 4 := by rw [Int.tmod_eq_emod_of_nonneg (by omega)]; omega
    go_wp2_with fail
    refine bodyPost_ret (v := .tuple #[.int .i64 b, .slice ax nx cx, .slice ay ny cy]) (by simp [results, Try.results7, go_sem]) rfl ?_
    exact ⟨b, _, _, xs, ys, rfl, x3', y3', by rw [HNX.out]; omega, by rw [HNY.out]; omega, B3⟩
  case' inr.inr.inr.inl =>
    have j1 : decide ((nx : Int) + ny ≤ 5) = false := by simp; omega
  case' inr.inr.inr.inr =>
    have j1 : (nx : Int) + ny ≤ 5 := by omega
    have j2 : decide (0 < ((len : Int)).tmod 4) = false := by rw [Int.tmod_eq_emod_of_nonneg (by omega)]; simp; omega
  all_goals (
    go_wp2_with fail
    refine (l6Open_any a len cap _ (h.later B3)).mono ?_
    rintro e w4 ⟨g, rfl, hg, hR4, hb4⟩
    have B4 := B3.trans (hb4.mono B3.size)
    have hgw : w.heap.size ≤ g := Nat.le_trans B3.size hg
    have hR5 : Rdr (w4.setCell ⟨g, 1, none⟩ (.int .i64 61)) g 61 := hR4.setp 61
    have hG5 : w4.grownBy (w4.setCell ⟨g, 1, none⟩ (.int .i64 61)) (some g) := grown_set1 w4 g (.int .i64 61)
    have B5 := B4.grown hG5 B4.size (fun k e => by cases e; exact hgw)
    have p1 := hR4.cell1
    have p2 := hR4.frozen1
    clear x3' y3' HNX HNY hlx hly B3 B4 hb4 hG5 hR4 h hg
    go_wp2_with fail
    have hsz5 : (w4.setCell ⟨g, 1, none⟩ (.int .i64 61)).heap.size = w4.heap.size := by simp
    revert hR5 B5 hsz5
    clear p1 p2
    generalize w4.setCell ⟨g, 1, none⟩ (.int .i64 61) = w5
    intro hR5 B5 hsz5'
    have hsz5 := Lib.hid hsz5'; clear hsz5'
    have hg5 : g < w5.heap.size := hR5.lt
    go_loopw [12, 13, 14] (fun v u i wr => ∃ (k : Nat) (xs2 ys2 : List Int) (p : Nat), k ≤ 5 ∧ i = .int .i64 k ∧ wr.ownsRow w5.heap.size 3 1 v xs2.length (xs2.map (Value.int .i64)) ∧ wr.ownsRow w5.heap.size 3 1 u ys2.length (ys2.map (Value.int .i64)) ∧
      xs2.length ≤ k ∧ ys2.length ≤ k ∧ (∀ q, v.ownBlock = some q → u.ownBlock = some q → False) ∧ Rdr wr g p ∧ p ≤ 61 + 2 * k ∧ w5.heap.size ≤ wr.heap.size ∧ Below w.heap.size w wr) (fun _ _ i _ => 5 - (intOf i).toNat)
    case atStart =>
      refine ⟨0, [], [], 61, by omega, rfl, ?_, ?_, by simp, by simp, ?_, (hR5.alloc _).alloc _, by omega, by simp; omega, (B5.alloc B5.size _).alloc (by simp; have := B5.size; omega) _⟩
      · rw [← hsz5.out]
        exact (World.ownsRow_made (base := w5.heap.size) (e := 3) (size := 1) w5 #[] 0 (Nat.le_refl _) (by simp) (by simp)).alloc _
      · have := World.ownsRow_made (base := w5.heap.size) (e := 3) (size := 1) (w5.alloc (.cells #[] 3)) #[] 0 (by simp) (by simp) (by simp)
        rw [← hsz5.out]
        simpa using this
      · intro q h1 h2
        cases h1
        simp [Value.ownBlock] at h2
    case round =>
      obtain ⟨k, xs2, ys2, p, hk, rfl, hv, hu, lx, ly, hne, hR, hp, hsz, hbel⟩ := hrel
      by_cases hlt : k < 5
      · go_wp2_with fail
        refine (pick_any g p 3 wr hR (by omega) (by omega)).mono ?_
        rintro e w6 ⟨r, hr0, hr3, rfl, hR6, hG6⟩
        have hv6 := hv.kept hG6 (row_ne hv hg5)
        have hu6 := hu.kept hG6 (row_ne hu hg5)
        have B6 := hbel.grown hG6 hbel.size (fun k e => by cases e; exact hgw)
        have hs6 := hG6.size
        clear hv hu hG6 hR hbel
        rcases (show r = 0 ∨ r = 1 ∨ r = 2 by omega) with rfl | rfl | rfl
        · go_wp2_with fail
          refine (pick_any g (p + 1) 2 w6 hR6 (by omega) (by omega)).mono ?_
          rintro e w7 ⟨d, hd0, hd2, rfl, hR7, hG7⟩
          have hv7 := hv6.kept hG7 (row_ne hv6 hg5)
          have hu7 := hu6.kept hG7 (row_ne hu6 hg5)
          have B7 := B6.grown hG7 B6.size (fun k e => by cases e; exact hgw)
          have hs7 := hG7.size
          clear hv6 hu6 B6 hG7 hR6
          go_wp2_with (at_builtin; refine wpList_append_own_at _ rfl _ _ 23 rfl w5.heap.size 3 i0 (.int .i64 0) 1 8 Try.underlying23 hi hz0 hz1 hz2 rfl (by decide) _ _ _ rfl (hv7.alloc _) ⟨w7.heap.size, 0, none⟩ 1 1 [.int .i64 d] rfl rfl ?c1 ?c2 ?c3 ?c4 ?c5 ?_)
          case c1 => exact cell_one_new _ _ _
          case c2 => simp [Value.oneCell']
          case c3 => unfold maxLen; omega
          case c4 => omega
          case c5 => simp; omega
          intro v' w8 hown' hgrow _ hblk
          have hA := World.ownsRow.alloc hu7 (.cells #[.int .i64 d] 3)
          have hk8 := hA.kept hgrow (by
            cases hq : u13.ownBlock with
            | none => exact .inl rfl
            | some q => exact .inr (fun e => hne q e.symm hq))
          have hb8 : Below w5.heap.size w7 w8 := ((Below.refl _ w7).alloc (by omega) _).grown hgrow (by simp; omega) (fun q e => (row_ge2 hv7 e).1)
          have hR8 := hR7.below hb8 hg5
          have hs8 := hb8.size
          have B8 := B7.trans (hb8.mono (Nat.le_trans B5.size (Nat.le_refl _)))
          go_wp2_with fail
          go_roundw
          case rel =>
            refine ⟨k + 1, xs2 ++ [d], ys2, p + 1 + 1, by omega, by go_num, ?_, hk8, by (try simp); omega, by (try simp); omega, ?_, hR8, by omega, by omega, B8⟩
            · rw [List.length_append, List.map_append]; simpa using hown'
            · intro q hq1 hq2
              rcases hblk with hblk | hblk
              · exact hne q (hblk ▸ hq1) hq2
              · rw [hblk] at hq1
                have hlt2 := (row_ge2 hu7 hq2).2
                cases hq1
                first | omega | (simp at hlt2; done) | (simp at hlt2; omega)
          case measure => simp [intOf]; omega
        · go_wp2_with fail
          refine (pick_any g (p + 1) 2 w6 hR6 (by omega) (by omega)).mono ?_
          rintro e w7 ⟨d, hd0, hd2, rfl, hR7, hG7⟩
          have hv7 := hv6.kept hG7 (row_ne hv6 hg5)
          have hu7 := hu6.kept hG7 (row_ne hu6 hg5)
          have B7 := B6.grown hG7 B6.size (fun k e => by cases e; exact hgw)
          have hs7 := hG7.size
          clear hv6 hu6 B6 hG7 hR6
          go_wp2_with (at_builtin; refine wpList_append_own_at _ rfl _ _ 23 rfl w5.heap.size 3 i0 (.int .i64 0) 1 8 Try.underlying23 hi hz0 hz1 hz2 rfl (by decide) _ _ _ rfl (hu7.alloc _) ⟨w7.heap.size, 0, none⟩ 1 1 [.int .i64 d] rfl rfl ?c1 ?c2 ?c3 ?c4 ?c5 ?_)
          case c1 => exact cell_one_new _ _ _
          case c2 => simp [Value.oneCell']
          case c3 => unfold maxLen; omega
          case c4 => omega
          case c5 => simp; omega
          intro v' w8 hown' hgrow _ hblk
          have hA := World.ownsRow.alloc hv7 (.cells #[.int .i64 d] 3)
          have hk8 := hA.kept hgrow (by
            cases hq : u12.ownBlock with
            | none => exact .inl rfl
            | some q => exact .inr (fun e => hne q hq e.symm))
          have hb8 : Below w5.heap.size w7 w8 := ((Below.refl _ w7).alloc (by omega) _).grown hgrow (by simp; omega) (fun q e => (row_ge2 hu7 e).1)
          have hR8 := hR7.below hb8 hg5
          have hs8 := hb8.size
          have B8 := B7.trans (hb8.mono (Nat.le_trans B5.size (Nat.le_refl _)))
          go_wp2_with fail
          go_roundw
          case rel =>
            refine ⟨k + 1, xs2, ys2 ++ [d], p + 1 + 1, by omega, by go_num, hk8, ?_, by (try simp); omega, by (try simp); omega, ?_, hR8, by omega, by omega, B8⟩
            · rw [List.length_append, List.map_append]; simpa using hown'
            · intro q hq1 hq2
              rcases hblk with hblk | hblk
              · exact hne q hq1 (hblk ▸ hq2)
              · rw [hblk] at hq2
                have hlt2 := (row_ge2 hv7 hq1).2
                cases hq2
                first | omega | (simp at hlt2; done) | (simp at hlt2; omega)
          case measure => simp [intOf]; omega
        · go_wp2_with fail
          go_roundw
          case rel => exact ⟨k + 1, xs2, ys2, p + 1, by omega, by go_num, hv6, hu6, by omega, by omega, hne, hR6, by omega, by omega, B6⟩
          case measure => simp [intOf]; omega
      · obtain rfl : k = 5 := by omega
        go_wp2_with fail
        refine bodyPost_ret (v := .tuple #[.int .i64 b, u12, u13]) (by simp [results, Try.results7, go_sem]) rfl ?_
        exact ⟨b, u12, u13, xs2, ys2, rfl, (Slc.of_owns hv).mono B5.size, (Slc.of_owns hu).mono B5.size, by omega, by omega, hbel⟩)

end Go.Proofs.Ytoepfemifmellaa
