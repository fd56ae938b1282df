/-
  The draws of chapter 4: a base, a fraction, a number of parts.
-/
import Derived.Test.YtbgpdhnfaacenadDraw1
import Derived.Test.YtbgpdhnfaacenadDrawD
import Derived.Test.YtbgpdhnfaacenadRed
import Derived.Test.YtbgpdhnfaacenadGrown
import Derived.Test.YtbgpdhnfaacenadLenLaw
import Derived.StillTailTactics
namespace Go.Proofs.Ytbgpdhnfaacenad
open Go.RowKit

def litP : Array Value := #[.int .i64 7, .int .i64 13, .int .i64 17, .int .i64 11, .int .i64 41, .int .i64 101, .int .i64 21, .int .i64 9, .int .i64 73, .int .i64 37, .int .i64 91, .int .i64 19]
theorem litP_get (i : Nat) (hi : i < 12) : ∃ x : Int, 7 ≤ x ∧ x ≤ 101 ∧ litP[i]? = some (.int .i64 x) := by
  unfold litP
  rcases i with _ | _ | _ | _ | _ | _ | _ | _ | _ | _ | _ | _ | i
  all_goals first | exact ⟨_, by decide, by decide, rfl⟩ | omega
theorem litP_cell (w : World) (i : Nat) (x : Int) (h : litP[i]? = some (.int .i64 x)) : (w.alloc (.cells litP 3)).cell? ⟨w.heap.size, i, none⟩ = some (.int .i64 x) := by
  have hb : (w.alloc (.cells litP 3)).heap[w.heap.size]? = some (.cells litP 3 (0, 0)) := heap_alloc_new w _
  unfold World.cell?
  rw [show (w.alloc (.cells litP 3)).heap[(⟨w.heap.size, i, none⟩ : Addr).block]? = _ from hb]
  exact h

/-- The lengths, whatever the fraction: told or not, and then from 1 to 1000. -/
theorem lens_drawn (b t n : Int) : ∃ (x m : Int) (p : Bool), (p = true → 1 ≤ m ∧ m ≤ 1000) ∧ ∀ w : World, Calls Try.prog 23 #[.int .i64 b, .agg #[.int .i64 t, .int .i64 n]] w fun e w' => e = .returned (.tuple #[.int .i64 x, .int .i64 m, .bool p]) ∧ Below w.heap.size w w' := by
  cases h : tldB b t n with
  | false => exact ⟨0, 0, false, (fun e => by simp at e), fun w => specFracLengths_no b t n w h⟩
  | true =>
    obtain ⟨b, T, B, rfl, rfl, rfl, h3, h4, hT, hB, hg⟩ := tld_nat h
    obtain ⟨n0, m, hnm⟩ := len_some (b := b) hT hg
    have := hnm.le hT
    have := hnm.pos
    exact ⟨n0, m, true, (fun _ => by omega), fun w => specFracLengths_yes b T B n0 m w h hT hB h3 h4 hnm⟩

set_option maxHeartbeats 2000000 in
theorem l92Part_any (a : Option Addr) (len cap : Nat) (w : World) (h : Byt w a len cap) :
    Calls Try.prog 9 #[.slice a len cap] w fun e w' => ∃ b t n k : Int, Drw b t n ∧ 0 ≤ k ∧ k ≤ 6 ∧ e = .returned (.tuple #[.int .i64 b, .agg #[.int .i64 t, .int .i64 n], .int .i64 k]) ∧ Below w.heap.size w w' := by
  go_enter Try.func9, Try.ntmps9
  go_wp2_with fail
  have z0 := Box2.new w 24 (.int .i64 0) (.int .i64 0)
  have B0 : Below w.heap.size w (w.alloc (.cells #[.int .i64 0, .int .i64 0] 24)) := (Below.refl _ _).alloc (Nat.le_refl _) _
  refine (l6Open_any a len cap _ (h.later B0)).mono ?_
  rintro e w1 ⟨g, rfl, hg, hR1, hb1⟩
  have z1 := z0.later hb1
  have B1 := B0.trans (hb1.mono B0.size)
  have hgw : w.heap.size < g := by simp at hg; omega
  have hne : some w.heap.size ≠ some g := by simp; omega
  clear z0 B0 hb1 hg
  go_wp2_with fail
  refine (l91Base_any g 0 _ hR1 (by omega)).mono ?_
  rintro e w2 ⟨b, d1, d2, rfl, hR2, hG2⟩
  have z2 := z1.grown hG2 hne
  have B2 := B1.grown hG2 B1.size (fun k e => by cases e; omega)
  clear z1 B1 hG2 hR1
  go_wp2_with fail
  refine (pick_any g _ 12 _ (hR2.alloc _) (by omega) (by omega)).mono ?_
  rintro e w3 ⟨r, hr0, hr1, rfl, hR3, hG3⟩
  obtain ⟨r3, rfl⟩ := Int.eq_ofNat_of_zero_le hr0
  obtain ⟨x, hx1, hx2, hx0⟩ := litP_get r3 (by omega)
  have hne3 : some w2.heap.size ≠ some g := by have := hR2.lt; simp; omega
  have z3 := (z2.alloc (.cells litP 3)).grown hG3 hne
  have hy : w3.cell? ⟨w2.heap.size, r3, none⟩ = some (.int .i64 x) := World.grownBy.cell (a := ⟨w2.heap.size, r3, none⟩) hG3 (litP_cell w2 r3 x hx0) hne3
  have B3 := (B2.alloc B2.size (.cells litP 3)).grown hG3 (B2.alloc B2.size _).size (fun k e => by cases e; omega)
  clear z2 B2 hG3 hR2 hne3
  go_wp2_with fail
  refine (pick_any g _ (x - 1) _ hR3 (by omega) (by omega)).mono ?_
  rintro e w4 ⟨r4, h40, h41, rfl, hR4, hG4⟩
  have z4 := z3.grown hG4 hne
  have B4 := B3.grown hG4 B3.size (fun k e => by cases e; omega)
  clear z3 B3 hG4 hR3 hy
  obtain ⟨e1, e2, e3⟩ := red_bd (t := 1 + r4) (n := x) (by omega) (by omega)
  go_wp2_with fail
  refine (l2Reduced_int (1 + r4) x w4 (by omega) (by omega) (by omega) (by omega)).mono ?_
  rintro e w5 ⟨rfl, hb5⟩
  have z5 := z4.later hb5
  have hR5 := hR4.later hb5
  have B5 := B4.trans (hb5.mono B4.size)
  clear z4 B4 hb5 hR4
  revert e1 e2 e3
  generalize (1 + r4) / gcdI (1 + r4) x = tt
  generalize x / gcdI (1 + r4) x = nn
  intro e1 e2 e3
  obtain ⟨xl, m, p, hpm, hlen⟩ := lens_drawn b tt nn
  have HLN := Lib.hid hlen; clear hlen
  have q5 := Box2.new w5 24 (.int .i64 tt) (.int .i64 nn)
  have z5a := z5.alloc (.cells #[.int .i64 tt, .int .i64 nn] 24)
  have R5a := hR5.alloc (.cells #[.int .i64 tt, .int .i64 nn] 24)
  have B5a := B5.alloc B5.size (.cells #[.int .i64 tt, .int .i64 nn] 24)
  have hne5 : some w5.heap.size ≠ some g := by have := hR5.lt; simp; omega
  have hlt5 := z5.lt
  clear z5 hR5 B5
  go_wp2_with fail
  refine (HLN.out _).mono ?_
  rintro e w6 ⟨rfl, hb6⟩
  have q6 := q5.later hb6
  have z6 := z5a.later hb6
  have hR6 := R5a.later hb6
  have B6 := B5a.trans (hb6.mono B5a.size)
  clear q5 z5a R5a B5a hb6 HLN
  go_wp2_with fail
  refine (pick_any g _ 6 _ hR6 (by omega) (by omega)).mono ?_
  rintro e w7 ⟨r7, h70, h71, rfl, hR7, hG7⟩
  have q7 := q6.grown hG7 hne5
  have z7 := z6.grown hG7 hne
  have B7 := B6.grown hG7 B6.size (fun k e => by cases e; omega)
  clear q6 z6 hR6 B6 hG7
  go_wp2_with fail
  refine (pick_any g _ 24 _ hR7 (by omega) (by omega)).mono ?_
  rintro e w8 ⟨r8, h80, h81, rfl, hR8, hG8⟩
  have q8 := q7.grown hG8 hne5
  have z8 := z7.grown hG8 hne
  have B8 := B7.grown hG8 B7.size (fun k e => by cases e; omega)
  clear q7 z7 hR7 B7 hG8
  have hk : ∃ k : Nat, 1 + r7 - r8 / 23 = (k : Int) ∧ k ≤ 6 := ⟨(1 + r7 - r8 / 23).toNat, by omega, by omega⟩
  obtain ⟨k, hk1, hk2⟩ := hk
  have t1 : IntKind.i64.wrap (r8.tdiv 23) = r8 / 23 := by rw [Int.tdiv_eq_ediv_of_nonneg h80]; exact wrap_in _ (by omega) (by omega)
  have hbw1 : ¬ w5.heap.size = w.heap.size := by omega
  have hbw2 : ¬ w.heap.size = w5.heap.size := by omega
  cases p
  · go_wp2_with fail
    have zD : Box2 w8.drew w.heap.size 24 (.int .i64 0) (.int .i64 0) := z8
    have qD : Box2 w8.drew w5.heap.size 24 (.int .i64 tt) (.int .i64 nn) := q8
    have kq0 := qD.cell0; have kq1 := qD.cell1; have kz0 := zD.frozen0; have kz1 := zD.frozen1; have kzc0 := zD.cell0; have kzc1 := zD.cell1
    have lq0 := q8.cell0; have lq1 := q8.cell1; have lz0 := z8.frozen0; have lz1 := z8.frozen1; have lzc0 := z8.cell0; have lzc1 := z8.cell1
    go_region
    all_goals (
      go_wp2
      refine bodyPost_ret (v := .tuple #[.int .i64 b, .agg #[.int .i64 tt, .int .i64 nn], .int .i64 k]) (by simp [results, Try.results9, go_sem, (z8.set _ _).cell0, (z8.set _ _).cell1]) rfl ?_
      exact ⟨b, tt, nn, k, ⟨d1, d2, e1, e2, by omega⟩, by omega, by omega, rfl, ((B8.drew).setCell (p := ⟨w.heap.size, 0, none⟩) (Nat.le_refl _) _).setCell (p := ⟨w.heap.size, 1, none⟩) (Nat.le_refl _) _⟩)
  · obtain ⟨hm1, hm2⟩ := hpm rfl
    go_wp2_with fail
    refine (pick_any g _ 5 _ hR8 (by omega) (by omega)).mono ?_
    rintro e w9 ⟨r9, h90, h91, rfl, hR9, hG9⟩
    have q9 := q8.grown hG9 hne5
    have z9 := z8.grown hG9 hne
    have B9 := B8.grown hG9 B8.size (fun k e => by cases e; omega)
    clear q8 z8 hR8 B8 hG9 hR9
    by_cases h9 : 0 < r9
    · go_wp2_with fail
      go_loop [12] (fun x => ∃ q : Nat, q ≤ 6 ∧ x = .int .i64 q) (fun x => (intOf x).toNat)
      case atStart => exact ⟨k, hk2, rfl⟩
      case round =>
        obtain ⟨q, hq, rfl⟩ := hrel
        by_cases hq1 : 1 < q
        · have hq2 : (1 : Int) < (q : Int) := by omega
          have hq0 : ¬ q = 0 := by omega
          by_cases hmq : m % (q : Int) = 0
          · go_wp2_with fail
            have zD : Box2 w9.drew w.heap.size 24 (.int .i64 0) (.int .i64 0) := z9
            have qD : Box2 w9.drew w5.heap.size 24 (.int .i64 tt) (.int .i64 nn) := q9
            have kq0 := qD.cell0; have kq1 := qD.cell1; have kz0 := zD.frozen0; have kz1 := zD.frozen1; have kzc0 := zD.cell0; have kzc1 := zD.cell1
            have lq0 := q9.cell0; have lq1 := q9.cell1; have lz0 := z9.frozen0; have lz1 := z9.frozen1; have lzc0 := z9.cell0; have lzc1 := z9.cell1
            go_region
            all_goals (
              go_wp2
              refine bodyPost_ret (v := .tuple #[.int .i64 b, .agg #[.int .i64 tt, .int .i64 nn], .int .i64 q]) (by simp [results, Try.results9, go_sem, (z9.set _ _).cell0, (z9.set _ _).cell1]) rfl ?_
              exact ⟨b, tt, nn, q, ⟨d1, d2, e1, e2, by omega⟩, by omega, by omega, rfl, ((B9.drew).setCell (p := ⟨w.heap.size, 0, none⟩) (Nat.le_refl _) _).setCell (p := ⟨w.heap.size, 1, none⟩) (Nat.le_refl _) _⟩)
          · have hmq' : (m % (q : Int) == 0) = false := by simpa using hmq
            go_wp2_with fail
            exact ⟨⟨q - 1, by omega, by congr 1; omega⟩, by simp [intOf]; omega⟩
        · have hq2 : ¬ (1 : Int) < (q : Int) := by omega
          have hq3 : (q : Int) ≤ 1 := by omega
          go_wp2_with fail
          have zD : Box2 w9.drew w.heap.size 24 (.int .i64 0) (.int .i64 0) := z9
          have qD : Box2 w9.drew w5.heap.size 24 (.int .i64 tt) (.int .i64 nn) := q9
          have kq0 := qD.cell0; have kq1 := qD.cell1; have kz0 := zD.frozen0; have kz1 := zD.frozen1; have kzc0 := zD.cell0; have kzc1 := zD.cell1
          have lq0 := q9.cell0; have lq1 := q9.cell1; have lz0 := z9.frozen0; have lz1 := z9.frozen1; have lzc0 := z9.cell0; have lzc1 := z9.cell1
          go_region
          all_goals (
            go_wp2
            refine bodyPost_ret (v := .tuple #[.int .i64 b, .agg #[.int .i64 tt, .int .i64 nn], .int .i64 q]) (by simp [results, Try.results9, go_sem, (z9.set _ _).cell0, (z9.set _ _).cell1]) rfl ?_
            exact ⟨b, tt, nn, q, ⟨d1, d2, e1, e2, by omega⟩, by omega, by omega, rfl, ((B9.drew).setCell (p := ⟨w.heap.size, 0, none⟩) (Nat.le_refl _) _).setCell (p := ⟨w.heap.size, 1, none⟩) (Nat.le_refl _) _⟩)
    · have h9' : decide ((0 : Int) < r9) = false := by simpa using h9
      go_wp2_with fail
      have zD : Box2 w9.drew w.heap.size 24 (.int .i64 0) (.int .i64 0) := z9
      have qD : Box2 w9.drew w5.heap.size 24 (.int .i64 tt) (.int .i64 nn) := q9
      have kq0 := qD.cell0; have kq1 := qD.cell1; have kz0 := zD.frozen0; have kz1 := zD.frozen1; have kzc0 := zD.cell0; have kzc1 := zD.cell1
      have lq0 := q9.cell0; have lq1 := q9.cell1; have lz0 := z9.frozen0; have lz1 := z9.frozen1; have lzc0 := z9.cell0; have lzc1 := z9.cell1
      go_region
      all_goals (
        go_wp2
        refine bodyPost_ret (v := .tuple #[.int .i64 b, .agg #[.int .i64 tt, .int .i64 nn], .int .i64 k]) (by simp [results, Try.results9, go_sem, (z9.set _ _).cell0, (z9.set _ _).cell1]) rfl ?_
        exact ⟨b, tt, nn, k, ⟨d1, d2, e1, e2, by omega⟩, by omega, by omega, rfl, ((B9.drew).setCell (p := ⟨w.heap.size, 0, none⟩) (Nat.le_refl _) _).setCell (p := ⟨w.heap.size, 1, none⟩) (Nat.le_refl _) _⟩)







end Go.Proofs.Ytbgpdhnfaacenad
