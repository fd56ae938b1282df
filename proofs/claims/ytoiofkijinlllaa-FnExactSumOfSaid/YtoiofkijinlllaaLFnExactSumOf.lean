/-
  The law FnExactSumOf's walk, where the program answers what its sentence says.
-/
import Derived.Test.YtoiofkijinlllaaSumB
import Derived.Deep.RegionHeld3
import Derived.Deep.Cut
namespace Go.Proofs.Ytoiofkijinlllaa
open Go.RowKit

set_option maxRecDepth 100000 in
set_option maxHeartbeats 8000000 in
theorem lawSumOf_any (H : ImSumOf) (t n t2 n2 : Int) (w : World) (_wt : (Lit.int .i64 t).wf = true) (_wn : (Lit.int .i64 n).wf = true) (_wt2 : (Lit.int .i64 t2).wf = true) (_wn2 : (Lit.int .i64 n2).wf = true) :
    Calls Try.prog 3 #[.agg #[.int .i64 t, .int .i64 n], .agg #[.int .i64 t2, .int .i64 n2]] w fun e w' => e = .returned (.bool true) ∧ Below w.heap.size w w' := by
  obtain ⟨x, y, p, hs, hi⟩ := bothSumOf H t n t2 n2
  have HS : Hid (∀ wx : World, Calls Try.prog 7 #[.agg #[.int .i64 t, .int .i64 n], .agg #[.int .i64 t2, .int .i64 n2]] wx fun e w' => e = .returned (.tuple #[.agg #[.int .i64 x, .int .i64 y], .bool p]) ∧ Below wx.heap.size wx w') := hs
  have HI : Hid (∀ wx : World, Calls Try.prog 9 #[.agg #[.int .i64 t, .int .i64 n], .agg #[.int .i64 t2, .int .i64 n2]] wx fun e w' => e = .returned (.tuple #[.agg #[.int .i64 x, .int .i64 y], .bool p]) ∧ Below wx.heap.size wx w') := hi
  clear hs hi
  go_enter Try.func3, Try.ntmps3
  have qQ := (Box2.new w 23 (.int .i64 t) (.int .i64 n)).alloc (.cells #[.int .i64 t2, .int .i64 n2] 23)
  have rQ : Box2 _ (w.heap.size + 1) 23 (.int .i64 t2) (.int .i64 n2) := Box2.newAt (W := w.alloc (.cells #[.int .i64 t, .int .i64 n] 23)) (by simp)
  have BQ := ((Below.refl w.heap.size w).alloc (Nat.le_refl _) (.cells #[.int .i64 t, .int .i64 n] 23)).alloc (by simp) (.cells #[.int .i64 t2, .int .i64 n2] 23)
  go_wp2_with fail
  revert qQ rQ BQ
  generalize (w.alloc (.cells #[.int .i64 t, .int .i64 n] 23)).alloc (.cells #[.int .i64 t2, .int .i64 n2] 23) = W0
  intro qQ rQ BQ
  go_cut [5, 6] from 9 (fun a c wc => ∃ ab : Nat, a = .pointer (some ⟨ab, 0, none⟩) ∧ c = .bool p ∧ Box2 wc ab 24 (.int .i64 x) (.int .i64 y) ∧ Box2 wc w.heap.size 23 (.int .i64 t) (.int .i64 n) ∧ Box2 wc (w.heap.size + 1) 23 (.int .i64 t2) (.int .i64 n2) ∧ Below w.heap.size w wc)
  case first =>
    have BD0 : Below w.heap.size w W0.drew := BQ.drew
    have BA0 : Below w.heap.size w (W0.alloc (.cells #[.int .i64 0, .int .i64 0] 24)).drew := (BQ.alloc BQ.size _).drew
    have qD0 : Box2 W0.drew w.heap.size 23 (.int .i64 t) (.int .i64 n) := qQ
    have qA0 : Box2 (W0.alloc (.cells #[.int .i64 0, .int .i64 0] 24)).drew w.heap.size 23 (.int .i64 t) (.int .i64 n) := qQ.alloc _
    have rD0 : Box2 W0.drew (w.heap.size + 1) 23 (.int .i64 t2) (.int .i64 n2) := rQ
    have rA0 : Box2 (W0.alloc (.cells #[.int .i64 0, .int .i64 0] 24)).drew (w.heap.size + 1) 23 (.int .i64 t2) (.int .i64 n2) := rQ.alloc _
    have zA0 : Box2 (W0.alloc (.cells #[.int .i64 0, .int .i64 0] 24)).drew W0.heap.size 24 (.int .i64 0) (.int .i64 0) := Box2.new W0 _ _ _
    have kqD0 := qD0.cell0; have kqD1 := qD0.cell1; have kqA0 := qA0.cell0; have kqA1 := qA0.cell1
    have krD0 := rD0.cell0; have krD1 := rD0.cell1; have krA0 := rA0.cell0; have krA1 := rA0.cell1
    have hwQ := Box2.lt rQ
    go_region_held3 (fun w' => (w'.cell? ⟨w.heap.size, 0, none⟩ = some (.int .i64 t) ∧ w'.cell? ⟨w.heap.size, 1, none⟩ = some (.int .i64 n) ∧ w'.cell? ⟨w.heap.size + 1, 0, none⟩ = some (.int .i64 t2) ∧ w'.cell? ⟨w.heap.size + 1, 1, none⟩ = some (.int .i64 n2)) ∧ Below w.heap.size w w' ∧ Box2 w' w.heap.size 23 (.int .i64 t) (.int .i64 n) ∧ Box2 w' (w.heap.size + 1) 23 (.int .i64 t2) (.int .i64 n2)) (first | exact ⟨⟨by assumption, by assumption, by assumption, by assumption⟩, by assumption, by assumption, by assumption⟩ | exact ⟨⟨Box2.cell0 (Box2.alloc (T := 23) (y := .int .i64 n) (by assumption) _), Box2.cell1 (Box2.alloc (T := 23) (x := .int .i64 t) (by assumption) _), Box2.cell0 (Box2.alloc (T := 23) (y := .int .i64 n2) (by assumption) _), Box2.cell1 (Box2.alloc (T := 23) (x := .int .i64 t2) (by assumption) _)⟩, Below.alloc (by assumption) (Below.size (by assumption)) _, Box2.alloc (by assumption) _, Box2.alloc (by assumption) _⟩ | exact ⟨⟨Box2.cell0 (T := 23) (y := .int .i64 n) (Box2.other (o := 1) (Box2.other (o := 0) (by assumption) (by omega) _) (by omega) _), Box2.cell1 (T := 23) (x := .int .i64 t) (Box2.other (o := 1) (Box2.other (o := 0) (by assumption) (by omega) _) (by omega) _), Box2.cell0 (T := 23) (y := .int .i64 n2) (Box2.other (o := 1) (Box2.other (o := 0) (by assumption) (by omega) _) (by omega) _), Box2.cell1 (T := 23) (x := .int .i64 t2) (Box2.other (o := 1) (Box2.other (o := 0) (by assumption) (by omega) _) (by omega) _)⟩, Below.setCell (Below.setCell (by assumption) (by simp; omega) _) (by simp; omega) _, (Box2.other (o := 1) (Box2.other (o := 0) (by assumption) (by omega) _) (by omega) _), (Box2.other (o := 1) (Box2.other (o := 0) (by assumption) (by omega) _) (by omega) _)⟩)
      (first
      | (go_at_call 8; (with_reducible refine Calls.mono (toFrac_any t n _) ?_); rintro e w1 ⟨rfl, b1⟩; have B1 : Below w.heap.size w w1 := Below.trans (by assumption) (Below.mono b1 (Below.size (by assumption))); have q1 : Box2 w1 w.heap.size 23 (.int .i64 t) (.int .i64 n) := Box2.later (by assumption) b1; have r1 : Box2 w1 (w.heap.size + 1) 23 (.int .i64 t2) (.int .i64 n2) := Box2.later (by assumption) b1; have kq10 := q1.cell0; have kq11 := q1.cell1; have kr10 := r1.cell0; have kr11 := r1.cell1; (try (have z01 : Box2 w1 W0.heap.size 24 (.int .i64 0) (.int .i64 0) := Box2.later (by assumption) b1; have kz010 := z01.cell0; have kz011 := z01.cell1; have kf010 := z01.frozen0; have kf011 := z01.frozen1)); have hw1 := Box2.lt r1; have BA1 := Below.alloc B1 (Below.size B1) (.cells #[.int .i64 0, .int .i64 0] 24); have qA1 := Box2.alloc q1 (.cells #[.int .i64 0, .int .i64 0] 24); have rA1 := Box2.alloc r1 (.cells #[.int .i64 0, .int .i64 0] 24); have zA1 := Box2.new w1 24 (.int .i64 0) (.int .i64 0))
      | (go_at_call 8; (with_reducible refine Calls.mono (toFrac_any t2 n2 _) ?_); rintro e w2 ⟨rfl, b2⟩; have B2 : Below w.heap.size w w2 := Below.trans (by assumption) (Below.mono b2 (Below.size (by assumption))); have q2 : Box2 w2 w.heap.size 23 (.int .i64 t) (.int .i64 n) := Box2.later (by assumption) b2; have r2 : Box2 w2 (w.heap.size + 1) 23 (.int .i64 t2) (.int .i64 n2) := Box2.later (by assumption) b2; have kq20 := q2.cell0; have kq21 := q2.cell1; have kr20 := r2.cell0; have kr21 := r2.cell1; (try (have z02 : Box2 w2 W0.heap.size 24 (.int .i64 0) (.int .i64 0) := Box2.later (by assumption) b2; have kz020 := z02.cell0; have kz021 := z02.cell1; have kf020 := z02.frozen0; have kf021 := z02.frozen1)); (try (have z12 : Box2 w2 w1.heap.size 24 (.int .i64 0) (.int .i64 0) := Box2.later (by assumption) b2; have kz120 := z12.cell0; have kz121 := z12.cell1; have kf120 := z12.frozen0; have kf121 := z12.frozen1)); have hw2 := Box2.lt r2; have BA2 := Below.alloc B2 (Below.size B2) (.cells #[.int .i64 0, .int .i64 0] 24); have qA2 := Box2.alloc q2 (.cells #[.int .i64 0, .int .i64 0] 24); have rA2 := Box2.alloc r2 (.cells #[.int .i64 0, .int .i64 0] 24); have zA2 := Box2.new w2 24 (.int .i64 0) (.int .i64 0))
      | (go_at_call 7; (with_reducible refine Calls.mono (HS.out _) ?_); rintro e w3 ⟨rfl, b3⟩; have B3 : Below w.heap.size w w3 := Below.trans (by assumption) (Below.mono b3 (Below.size (by assumption))); have q3 : Box2 w3 w.heap.size 23 (.int .i64 t) (.int .i64 n) := Box2.later (by assumption) b3; have r3 : Box2 w3 (w.heap.size + 1) 23 (.int .i64 t2) (.int .i64 n2) := Box2.later (by assumption) b3; have kq30 := q3.cell0; have kq31 := q3.cell1; have kr30 := r3.cell0; have kr31 := r3.cell1; (try (have z03 : Box2 w3 W0.heap.size 24 (.int .i64 0) (.int .i64 0) := Box2.later (by assumption) b3; have kz030 := z03.cell0; have kz031 := z03.cell1; have kf030 := z03.frozen0; have kf031 := z03.frozen1)); (try (have z13 : Box2 w3 w1.heap.size 24 (.int .i64 0) (.int .i64 0) := Box2.later (by assumption) b3; have kz130 := z13.cell0; have kz131 := z13.cell1; have kf130 := z13.frozen0; have kf131 := z13.frozen1)); (try (have z23 : Box2 w3 w2.heap.size 24 (.int .i64 0) (.int .i64 0) := Box2.later (by assumption) b3; have kz230 := z23.cell0; have kz231 := z23.cell1; have kf230 := z23.frozen0; have kf231 := z23.frozen1)); have hw3 := Box2.lt r3; have BA3 := Below.alloc B3 (Below.size B3) (.cells #[.int .i64 0, .int .i64 0] 24); have qA3 := Box2.alloc q3 (.cells #[.int .i64 0, .int .i64 0] 24); have rA3 := Box2.alloc r3 (.cells #[.int .i64 0, .int .i64 0] 24); have zA3 := Box2.new w3 24 (.int .i64 0) (.int .i64 0); have kz0 := zA3.cell0; have kz1 := zA3.cell1; have kf0 := zA3.frozen0; have kf1 := zA3.frozen1))
    all_goals (
      go_wp2
      go_meet
      case rel =>
        have hz : w.heap.size + 1 < w3.heap.size := Box2.lt r3
        first
        | (have hc : w.heap.size + 1 < W0.heap.size := by (first | exact Box2.lt rQ | exact Box2.lt (by assumption))
           exact ⟨W0.heap.size, rfl, rfl, Box2.set z03 _ _, Box2.other (o := 1) (Box2.other (o := 0) q3 (by omega) _) (by omega) _, Box2.other (o := 1) (Box2.other (o := 0) r3 (by omega) _) (by omega) _, Below.setCell (p := ⟨W0.heap.size, 1, none⟩) (Below.setCell (p := ⟨W0.heap.size, 0, none⟩) B3 (by simp; omega) _) (by simp; omega) _⟩)
        | (have hc : w.heap.size + 1 < w1.heap.size := by (first | exact Box2.lt rQ | exact Box2.lt (by assumption))
           exact ⟨w1.heap.size, rfl, rfl, Box2.set z13 _ _, Box2.other (o := 1) (Box2.other (o := 0) q3 (by omega) _) (by omega) _, Box2.other (o := 1) (Box2.other (o := 0) r3 (by omega) _) (by omega) _, Below.setCell (p := ⟨w1.heap.size, 1, none⟩) (Below.setCell (p := ⟨w1.heap.size, 0, none⟩) B3 (by simp; omega) _) (by simp; omega) _⟩)
        | (have hc : w.heap.size + 1 < w2.heap.size := by (first | exact Box2.lt rQ | exact Box2.lt (by assumption))
           exact ⟨w2.heap.size, rfl, rfl, Box2.set z23 _ _, Box2.other (o := 1) (Box2.other (o := 0) q3 (by omega) _) (by omega) _, Box2.other (o := 1) (Box2.other (o := 0) r3 (by omega) _) (by omega) _, Below.setCell (p := ⟨w2.heap.size, 1, none⟩) (Below.setCell (p := ⟨w2.heap.size, 0, none⟩) B3 (by simp; omega) _) (by simp; omega) _⟩)
        | (have hc : w.heap.size + 1 < w3.heap.size := by (first | exact Box2.lt rQ | exact Box2.lt (by assumption))
           exact ⟨w3.heap.size, rfl, rfl, Box2.new w3 _ _ _, Box2.alloc q3 _, Box2.alloc r3 _, Below.alloc B3 (Below.size B3) _⟩))
  case rest =>
    clear qQ rQ BQ
    obtain ⟨ab, rfl, rfl, sQ, qQ, rQ, BQ⟩ := hcut
    obtain ⟨W1, hW1⟩ : ∃ W1, wc = W1 := ⟨_, rfl⟩
    subst hW1
    go_wp2_with fail
    go_cut [7, 8] from 17 (fun a c wd => ∃ gb : Nat, a = .pointer (some ⟨gb, 0, none⟩) ∧ c = .bool p ∧ Box2 wd gb 24 (.int .i64 x) (.int .i64 y) ∧ Box2 wd w.heap.size 23 (.int .i64 t) (.int .i64 n) ∧ Box2 wd (w.heap.size + 1) 23 (.int .i64 t2) (.int .i64 n2) ∧ Box2 wd ab 24 (.int .i64 x) (.int .i64 y) ∧ Below w.heap.size w wd)
    case first =>
      have BD0 : Below w.heap.size w wc.drew := BQ.drew
      have BA0 : Below w.heap.size w (wc.alloc (.cells #[.int .i64 0, .int .i64 0] 24)).drew := (BQ.alloc BQ.size _).drew
      have qD0 : Box2 wc.drew w.heap.size 23 (.int .i64 t) (.int .i64 n) := qQ
      have qA0 : Box2 (wc.alloc (.cells #[.int .i64 0, .int .i64 0] 24)).drew w.heap.size 23 (.int .i64 t) (.int .i64 n) := qQ.alloc _
      have rD0 : Box2 wc.drew (w.heap.size + 1) 23 (.int .i64 t2) (.int .i64 n2) := rQ
      have rA0 : Box2 (wc.alloc (.cells #[.int .i64 0, .int .i64 0] 24)).drew (w.heap.size + 1) 23 (.int .i64 t2) (.int .i64 n2) := rQ.alloc _
      have sD0 : Box2 wc.drew ab 24 (.int .i64 x) (.int .i64 y) := sQ
      have sA0 : Box2 (wc.alloc (.cells #[.int .i64 0, .int .i64 0] 24)).drew ab 24 (.int .i64 x) (.int .i64 y) := sQ.alloc _
      have zA0 : Box2 (wc.alloc (.cells #[.int .i64 0, .int .i64 0] 24)).drew wc.heap.size 24 (.int .i64 0) (.int .i64 0) := Box2.new wc _ _ _
      have kqD0 := qD0.cell0; have kqD1 := qD0.cell1; have kqA0 := qA0.cell0; have kqA1 := qA0.cell1
      have krD0 := rD0.cell0; have krD1 := rD0.cell1; have krA0 := rA0.cell0; have krA1 := rA0.cell1
      have hwQ := Box2.lt rQ
      have hwQs := Box2.lt sQ
      go_region_held3 (fun w' => (w'.cell? ⟨w.heap.size, 0, none⟩ = some (.int .i64 t) ∧ w'.cell? ⟨w.heap.size, 1, none⟩ = some (.int .i64 n) ∧ w'.cell? ⟨w.heap.size + 1, 0, none⟩ = some (.int .i64 t2) ∧ w'.cell? ⟨w.heap.size + 1, 1, none⟩ = some (.int .i64 n2)) ∧ Below w.heap.size w w' ∧ Box2 w' w.heap.size 23 (.int .i64 t) (.int .i64 n) ∧ Box2 w' (w.heap.size + 1) 23 (.int .i64 t2) (.int .i64 n2) ∧ Box2 w' ab 24 (.int .i64 x) (.int .i64 y)) (first | exact ⟨⟨by assumption, by assumption, by assumption, by assumption⟩, by assumption, by assumption, by assumption, by assumption⟩ | exact ⟨⟨Box2.cell0 (Box2.alloc (T := 23) (y := .int .i64 n) (by assumption) _), Box2.cell1 (Box2.alloc (T := 23) (x := .int .i64 t) (by assumption) _), Box2.cell0 (Box2.alloc (T := 23) (y := .int .i64 n2) (by assumption) _), Box2.cell1 (Box2.alloc (T := 23) (x := .int .i64 t2) (by assumption) _)⟩, Below.alloc (by assumption) (Below.size (by assumption)) _, Box2.alloc (by assumption) _, Box2.alloc (by assumption) _, Box2.alloc (by assumption) _⟩ | exact ⟨⟨Box2.cell0 (T := 23) (y := .int .i64 n) (Box2.other (o := 1) (Box2.other (o := 0) (by assumption) (by omega) _) (by omega) _), Box2.cell1 (T := 23) (x := .int .i64 t) (Box2.other (o := 1) (Box2.other (o := 0) (by assumption) (by omega) _) (by omega) _), Box2.cell0 (T := 23) (y := .int .i64 n2) (Box2.other (o := 1) (Box2.other (o := 0) (by assumption) (by omega) _) (by omega) _), Box2.cell1 (T := 23) (x := .int .i64 t2) (Box2.other (o := 1) (Box2.other (o := 0) (by assumption) (by omega) _) (by omega) _)⟩, Below.setCell (Below.setCell (by assumption) (by simp; omega) _) (by simp; omega) _, (Box2.other (o := 1) (Box2.other (o := 0) (by assumption) (by omega) _) (by omega) _), (Box2.other (o := 1) (Box2.other (o := 0) (by assumption) (by omega) _) (by omega) _), (Box2.other (o := 1) (Box2.other (o := 0) (by assumption) (by omega) _) (by omega) _)⟩)
        (first
        | (go_at_call 8; (with_reducible refine Calls.mono (toFrac_any t n _) ?_); rintro e w1 ⟨rfl, b1⟩; have B1 : Below w.heap.size w w1 := Below.trans (by assumption) (Below.mono b1 (Below.size (by assumption))); have q1 : Box2 w1 w.heap.size 23 (.int .i64 t) (.int .i64 n) := Box2.later (by assumption) b1; have r1 : Box2 w1 (w.heap.size + 1) 23 (.int .i64 t2) (.int .i64 n2) := Box2.later (by assumption) b1; have s1 : Box2 w1 ab 24 (.int .i64 x) (.int .i64 y) := Box2.later (by assumption) b1; have kq10 := q1.cell0; have kq11 := q1.cell1; have kr10 := r1.cell0; have kr11 := r1.cell1; (try (have z01 : Box2 w1 wc.heap.size 24 (.int .i64 0) (.int .i64 0) := Box2.later (by assumption) b1; have kz010 := z01.cell0; have kz011 := z01.cell1; have kf010 := z01.frozen0; have kf011 := z01.frozen1)); have hw1 := Box2.lt r1; have hws1 := Box2.lt s1; have BA1 := Below.alloc B1 (Below.size B1) (.cells #[.int .i64 0, .int .i64 0] 24); have qA1 := Box2.alloc q1 (.cells #[.int .i64 0, .int .i64 0] 24); have rA1 := Box2.alloc r1 (.cells #[.int .i64 0, .int .i64 0] 24); have sA1 := Box2.alloc s1 (.cells #[.int .i64 0, .int .i64 0] 24); have zA1 := Box2.new w1 24 (.int .i64 0) (.int .i64 0))
        | (go_at_call 8; (with_reducible refine Calls.mono (toFrac_any t2 n2 _) ?_); rintro e w2 ⟨rfl, b2⟩; have B2 : Below w.heap.size w w2 := Below.trans (by assumption) (Below.mono b2 (Below.size (by assumption))); have q2 : Box2 w2 w.heap.size 23 (.int .i64 t) (.int .i64 n) := Box2.later (by assumption) b2; have r2 : Box2 w2 (w.heap.size + 1) 23 (.int .i64 t2) (.int .i64 n2) := Box2.later (by assumption) b2; have s2 : Box2 w2 ab 24 (.int .i64 x) (.int .i64 y) := Box2.later (by assumption) b2; have kq20 := q2.cell0; have kq21 := q2.cell1; have kr20 := r2.cell0; have kr21 := r2.cell1; (try (have z02 : Box2 w2 wc.heap.size 24 (.int .i64 0) (.int .i64 0) := Box2.later (by assumption) b2; have kz020 := z02.cell0; have kz021 := z02.cell1; have kf020 := z02.frozen0; have kf021 := z02.frozen1)); (try (have z12 : Box2 w2 w1.heap.size 24 (.int .i64 0) (.int .i64 0) := Box2.later (by assumption) b2; have kz120 := z12.cell0; have kz121 := z12.cell1; have kf120 := z12.frozen0; have kf121 := z12.frozen1)); have hw2 := Box2.lt r2; have hws2 := Box2.lt s2; have BA2 := Below.alloc B2 (Below.size B2) (.cells #[.int .i64 0, .int .i64 0] 24); have qA2 := Box2.alloc q2 (.cells #[.int .i64 0, .int .i64 0] 24); have rA2 := Box2.alloc r2 (.cells #[.int .i64 0, .int .i64 0] 24); have sA2 := Box2.alloc s2 (.cells #[.int .i64 0, .int .i64 0] 24); have zA2 := Box2.new w2 24 (.int .i64 0) (.int .i64 0))
        | (go_at_call 9; (with_reducible refine Calls.mono (HI.out _) ?_); rintro e w3 ⟨rfl, b3⟩; have B3 : Below w.heap.size w w3 := Below.trans (by assumption) (Below.mono b3 (Below.size (by assumption))); have q3 : Box2 w3 w.heap.size 23 (.int .i64 t) (.int .i64 n) := Box2.later (by assumption) b3; have r3 : Box2 w3 (w.heap.size + 1) 23 (.int .i64 t2) (.int .i64 n2) := Box2.later (by assumption) b3; have s3 : Box2 w3 ab 24 (.int .i64 x) (.int .i64 y) := Box2.later (by assumption) b3; have kq30 := q3.cell0; have kq31 := q3.cell1; have kr30 := r3.cell0; have kr31 := r3.cell1; (try (have z03 : Box2 w3 wc.heap.size 24 (.int .i64 0) (.int .i64 0) := Box2.later (by assumption) b3; have kz030 := z03.cell0; have kz031 := z03.cell1; have kf030 := z03.frozen0; have kf031 := z03.frozen1)); (try (have z13 : Box2 w3 w1.heap.size 24 (.int .i64 0) (.int .i64 0) := Box2.later (by assumption) b3; have kz130 := z13.cell0; have kz131 := z13.cell1; have kf130 := z13.frozen0; have kf131 := z13.frozen1)); (try (have z23 : Box2 w3 w2.heap.size 24 (.int .i64 0) (.int .i64 0) := Box2.later (by assumption) b3; have kz230 := z23.cell0; have kz231 := z23.cell1; have kf230 := z23.frozen0; have kf231 := z23.frozen1)); have hw3 := Box2.lt r3; have hws3 := Box2.lt s3; have BA3 := Below.alloc B3 (Below.size B3) (.cells #[.int .i64 0, .int .i64 0] 24); have qA3 := Box2.alloc q3 (.cells #[.int .i64 0, .int .i64 0] 24); have rA3 := Box2.alloc r3 (.cells #[.int .i64 0, .int .i64 0] 24); have sA3 := Box2.alloc s3 (.cells #[.int .i64 0, .int .i64 0] 24); have zA3 := Box2.new w3 24 (.int .i64 0) (.int .i64 0); have kz0 := zA3.cell0; have kz1 := zA3.cell1; have kf0 := zA3.frozen0; have kf1 := zA3.frozen1))
      all_goals (
        go_wp2
        go_meet
        case rel =>
          have hz : w.heap.size + 1 < w3.heap.size := Box2.lt r3
          have hzs : ab < w3.heap.size := Box2.lt s3
          first
          | (have hc : w.heap.size + 1 < wc.heap.size := by (first | exact Box2.lt rQ | exact Box2.lt (by assumption))
             have hcs : ab < wc.heap.size := by (first | exact Box2.lt sQ | exact Box2.lt (by assumption))
             exact ⟨wc.heap.size, rfl, rfl, Box2.set z03 _ _, Box2.other (o := 1) (Box2.other (o := 0) q3 (by omega) _) (by omega) _, Box2.other (o := 1) (Box2.other (o := 0) r3 (by omega) _) (by omega) _, Box2.other (o := 1) (Box2.other (o := 0) s3 (by omega) _) (by omega) _, Below.setCell (p := ⟨wc.heap.size, 1, none⟩) (Below.setCell (p := ⟨wc.heap.size, 0, none⟩) B3 (by simp; omega) _) (by simp; omega) _⟩)
          | (have hc : w.heap.size + 1 < w1.heap.size := by (first | exact Box2.lt rQ | exact Box2.lt (by assumption))
             have hcs : ab < w1.heap.size := by (first | exact Box2.lt sQ | exact Box2.lt (by assumption))
             exact ⟨w1.heap.size, rfl, rfl, Box2.set z13 _ _, Box2.other (o := 1) (Box2.other (o := 0) q3 (by omega) _) (by omega) _, Box2.other (o := 1) (Box2.other (o := 0) r3 (by omega) _) (by omega) _, Box2.other (o := 1) (Box2.other (o := 0) s3 (by omega) _) (by omega) _, Below.setCell (p := ⟨w1.heap.size, 1, none⟩) (Below.setCell (p := ⟨w1.heap.size, 0, none⟩) B3 (by simp; omega) _) (by simp; omega) _⟩)
          | (have hc : w.heap.size + 1 < w2.heap.size := by (first | exact Box2.lt rQ | exact Box2.lt (by assumption))
             have hcs : ab < w2.heap.size := by (first | exact Box2.lt sQ | exact Box2.lt (by assumption))
             exact ⟨w2.heap.size, rfl, rfl, Box2.set z23 _ _, Box2.other (o := 1) (Box2.other (o := 0) q3 (by omega) _) (by omega) _, Box2.other (o := 1) (Box2.other (o := 0) r3 (by omega) _) (by omega) _, Box2.other (o := 1) (Box2.other (o := 0) s3 (by omega) _) (by omega) _, Below.setCell (p := ⟨w2.heap.size, 1, none⟩) (Below.setCell (p := ⟨w2.heap.size, 0, none⟩) B3 (by simp; omega) _) (by simp; omega) _⟩)
          | (have hc : w.heap.size + 1 < w3.heap.size := by (first | exact Box2.lt rQ | exact Box2.lt (by assumption))
             have hcs : ab < w3.heap.size := by (first | exact Box2.lt sQ | exact Box2.lt (by assumption))
             exact ⟨w3.heap.size, rfl, rfl, Box2.new w3 _ _ _, Box2.alloc q3 _, Box2.alloc r3 _, Box2.alloc s3 _, Below.alloc B3 (Below.size B3) _⟩))
    case rest =>
      clear qQ rQ BQ sQ
      obtain ⟨gb, rfl, rfl, g6, _, _, s6, B6⟩ := hcut
      have ks0 := s6.cell0
      have ks1 := s6.cell1
      have kg0 := g6.cell0
      have kg1 := g6.cell1
      go_wp2_with fail
      refine (eqFr_any _ _ _).mono ?_
      rintro e w8 ⟨rfl, b7⟩
      have B7 := B6.trans (b7.mono B6.size)
      cases p <;> (go_wp2_with fail; go_ret; exact ⟨rfl, B7⟩)

end Go.Proofs.Ytoiofkijinlllaa
