/-
  The digits of the beginning: the program's.
-/
import Derived.Test.YtoiofkijinllladWalk
import Derived.Test.YtoiofkijinllladGRnd
import Derived.Maps.OwnIn
import Derived.Shelf.Abstract
namespace Go.Proofs.Ytoiofkijinlllad
open Go.RowKit Go.Shelf

attribute [local go_sem] Oper.semAt_some

/-- What holds between two rounds of the beginning. -/
def BegInv (b T B : Nat) (w : World) (k : Nat) (W : World) : Prop :=
  (∀ j, j < k → ¬ trn b T B j) ∧ Boxed W (w.heap.size + 1) 3 (.int .i64 b) ∧ GrowRow (w.heap.size + 1 + 1) (w.heap.size + 1 + 1 + 1) (w.heap.size + 1 + 1 + 1 + 1 + 1) k (digL b T B k) W ∧
    Below w.heap.size w W ∧ w.heap.size + 6 ≤ W.heap.size

theorem BegInv.abide (b T B : Nat) (w : World) : Abide (okT 24) (w.heap.size + 6) (BegInv b T B w) := by
  rintro k W W' row ⟨h1, h2, h3, h4, h5⟩ hg hr
  exact ⟨h1, boxed_abide h2 (by omega) hg (fun r e => (hr r e).1), h3.abide (by omega) hg hr, h4.grown hg (by omega) (fun r e => by have := (hr r e).1; omega), by have := hg.size; omega⟩

set_option maxRecDepth 100000 in
set_option maxHeartbeats 1000000 in
theorem begin_any (b T B : Nat) (w : World) (hT : T < B) (hg : Nat.gcd T B = 1) (hB : B ≤ 1000) (h3 : 2 ≤ b) (h4 : b ≤ 16) :
    Calls Try.prog 20 #[.agg #[.int .i64 T, .int .i64 B], .int .i64 b] w fun e w' =>
      ∃ v n m, IsLen b T B n m ∧ e = .returned v ∧ Slc w.heap.size w' v (digL b T B n) ∧ Below w.heap.size w w' := by
  obtain ⟨n, m, hnm⟩ := len_some (b := b) hT hg
  obtain ⟨hn1, hn2⟩ := begin_of_len hT hg hnm
  have hle := hnm.le hT
  have HG := Lib.hid hg; clear hg
  obtain ⟨i0, hi, hz0, hz1, hz2⟩ := info_parts infoInt
  refine (callsIn_wide (n := 3)).1 ?_
  refine callsIn_of_wp_marks Try.func20 rfl trivial ?_ rfl
  simp only [Try.ntmps20, List.size_toArray, List.length_cons, List.length_nil, Nat.reduceAdd, Nat.reduceSub, Array.replicate_succ, Array.replicate_zero, List.push_toArray, List.append_toArray, List.nil_append, List.cons_append]
  gi_wp2_with fail
  refine ⟨trivial, (callsIn_wide.2 (walk_any _ _ _ _)).mono ?_⟩
  rintro e w1 ⟨rfl, rfl⟩
  gi_wp2_with fail
  obtain ⟨W0, hW0⟩ : ∃ W0, (((((w.alloc (.cells #[.int .i64 T, .int .i64 B] 24)).alloc (.cells #[.int .i64 b] 3)).alloc (.cells #[] 3)).alloc (.cells #[.slice (some ⟨w.heap.size + 1 + 1, 0, none⟩) 0 0] 33)).alloc
      (.cells #[.int .i64 T, .int .i64 B] 24)).alloc (.cells #[.int .i64 b] 3) = W0 := ⟨_, rfl⟩
  have hs0 : W0.heap.size = w.heap.size + 6 := by rw [← hW0]; simp
  have x0 : Box2 W0 (w.heap.size + 1 + 1 + 1 + 1) 24 (.int .i64 T) (.int .i64 B) := by rw [← hW0]; exact (Box2.newAt (by simp)).alloc _
  have hbel0 : Below w.heap.size w W0 := by
    rw [← hW0]
    repeat (first | exact Below.refl _ _ | refine Below.alloc ?_ (by simp; try omega) _)
  have b0 : Boxed W0 (w.heap.size + 1 + 1 + 1 + 1 + 1) 3 (.int .i64 b) := by
    rw [← hW0]; exact boxed_newAt (by simp)
  have b1 : Boxed W0 (w.heap.size + 1) 3 (.int .i64 b) := by
    rw [← hW0]; exact ((((boxed_newAt (by simp)).alloc _).alloc _).alloc _).alloc _
  have r0 : GrowRow (w.heap.size + 1 + 1) (w.heap.size + 1 + 1 + 1) (w.heap.size + 1 + 1 + 1 + 1 + 1) 0 (digL b T B 0) W0 := by
    rw [← hW0]
    refine ⟨.slice (some ⟨w.heap.size + 1 + 1, 0, none⟩) 0 0, ((boxed_newAt (by simp)).alloc _).alloc _, ?_, by simp [Value.ownBlock]⟩
    have := ((((World.ownsRow_made (base := w.heap.size + 1 + 1) (e := 3) (size := 1) ((w.alloc (.cells #[.int .i64 T, .int .i64 B] 24)).alloc (.cells #[.int .i64 b] 3)) #[] 0 (by simp) (by simp) (by simp)).alloc
      (.cells #[.slice (some ⟨w.heap.size + 1 + 1, 0, none⟩) 0 0] 33)).alloc (.cells #[.int .i64 T, .int .i64 B] 24)).alloc (.cells #[.int .i64 b] 3))
    simpa [digL] using this
  rw [hW0]
  have HW := Lib.hid hW0; clear hW0
  have hk := walk_seq 2 b T B hT HG.out hB h3 h4 _ _ W0 x0 b0
  refine wpIn_range_k rfl (by omega) (gf := 33) (lb := #[.pointer (some ⟨w.heap.size + 1 + 1 + 1 + 1, 0, none⟩), .pointer (some ⟨w.heap.size + 1 + 1 + 1 + 1 + 1, 0, none⟩)]) rfl trivial (enters_of Try.func33 (by kernel_rfl) rfl)
    hk (Below.refl _ _) b0.lt (fun _ => rfl) 0 (n + 1) (BegInv b T B w) (fun k W => trn b T B k ∧ BegInv b T B w k W) ?_ ?_ ?_ ⟨fun j hj => by omega, b1, r0, hbel0, by omega⟩
    (fun k a' W => ∃ Bx, w.heap.size + 6 ≤ Bx ∧ Box2 W Bx 24 (.int .i64 (frT b T B k).1) (.int .i64 (frT b T B k).2) ∧ a' = { tmps := #[Value.agg #[Value.int .i64 T, Value.int .i64 B], Value.int .i64 b,
          Value.pointer (some ⟨w.heap.size, 0, none⟩), Value.pointer (some ⟨w.heap.size + 1, 0, none⟩), Value.slice none 0 0,
          Value.pointer (some ⟨w.heap.size + 1 + 1 + 1, 0, none⟩), Value.pointer (some ⟨Bx, 0, none⟩), .int .i64 (dig b T B k),
          Value.slice (some ⟨w.heap.size + 1 + 1, 0, none⟩) 0 0,
          Value.agg #[Value.int .i64 T, Value.int .i64 B], Value.int .i64 b,
          Value.func (Fn.func 33) #[] #[Value.pointer (some ⟨w.heap.size + 1 + 1 + 1 + 1, 0, none⟩), Value.pointer (some ⟨w.heap.size + 1 + 1 + 1 + 1 + 1, 0, none⟩)],
          .agg #[.int .i64 (frT b T B k).1, .int .i64 (frT b T B k).2], .int .i64 (dig b T B k), undef, undef, undef, undef, undef, undef, undef, undef], defers := [] }) ?_ ?assign ?body ?stop
  · rw [hs0]; exact BegInv.abide b T B w
  · rw [hs0]; rintro k W W' row ⟨h0, h⟩ hg hr; exact ⟨h0, BegInv.abide b T B w k W W' row h hg hr⟩
  · rintro k W ⟨h, _⟩
    rcases Nat.lt_or_ge n k with hlt | hge
    · exact absurd hn1 (h n hlt)
    · omega
  · rintro a' k W W' row ⟨Bx, hBx, hx, ha⟩ hg hr
    exact ⟨Bx, hBx, (hg.block Bx hx.lt (fun e => by obtain ⟨_, o, ho, hk⟩ := hr Bx e.symm; rw [show W.heap[Bx]? = _ from hx] at ho; cases ho; simp [okB, Obj.isCells] at hk)).trans hx, ha⟩
  case assign =>
    intro l k W K hi hK
    have hlt := hi.2.2.2.2
    unfold itArgs
    gi_wp2
    have hb : Below W.heap.size W (W.alloc (.cells #[.int .i64 (frT b T B k).1, .int .i64 (frT b T B k).2] 24)) := (Below.refl _ _).alloc (Nat.le_refl _) _
    exact hK _ _ (keepsFrom_below hb) (KeepsT.below hb) ((BegInv.abide b T B w).alloc _ hi) ⟨W.heap.size, hlt, Box2.new _ _ _ _, rfl⟩
  case body =>
    rintro l k a' W ⟨g1, g2, g3, g4, g5⟩ ⟨Bx, hBx, hx, rfl⟩
    obtain ⟨q1, q2, q3⟩ := fr_lt (b := b) hT HG.out k
    have k0 := hx.cell0
    have k1 := hx.cell1
    have kb := g2.cell
    by_cases ht : Nat.gcd b (frT b T B k).2 = 1
    · have hd : decide (Nat.gcd b (frT b T B k).2 = 1) = true := by simpa using ht
      have HT := Lib.hid ht; clear ht
      gi_wp2_with fail
      refine ⟨trivial, (CallsIn.inRound l (callsIn_wide.2 (turns_any _ _ _ _ (by omega) (by omega)))).mono ?_⟩
      rintro e w1 ⟨rfl, hb1⟩
      gi_wp2_with fail
      exact ⟨rfl, keepsFrom_below hb1, HT.out, BegInv.abide b T B w k W w1 none ⟨g1, g2, g3, g4, g5⟩ (grownBy_of_below hb1) (fun r e => by cases e)⟩
    · have hd : decide (Nat.gcd b (frT b T B k).2 = 1) = false := by simpa using ht
      have HT := Lib.hid ht; clear ht
      have hkn : k ≤ n := by
        rcases Nat.lt_or_ge n k with hlt | hge
        · exact absurd hn1 (g1 n hlt)
        · exact hge
      have hi1 : BegInv b T B w k W := ⟨g1, g2, g3, g4, g5⟩
      gi_wp2_with fail
      refine ⟨trivial, (CallsIn.inRound l (callsIn_wide.2 (turns_any _ _ _ _ (by omega) (by omega)))).mono ?_⟩
      rintro e w1 ⟨rfl, hb1⟩
      obtain ⟨v, hv1, hv2, hv3⟩ := g3.later hb1
      have hc := hv1.cell
      have hs1 := hb1.size
      gi_wp2_with (gi_at_builtin; refine wpListIn_append_own_at _ rfl _ _ 33 rfl (w.heap.size + 1 + 1) 3 i0 (.int .i64 0) 1 8 Try.underlying33 hi hz0 hz1 hz2 rfl (by decide) _ _ _ rfl (hv2.alloc _) ⟨w1.heap.size, 0, none⟩ 1 1 [.int .i64 (dig b T B k)] rfl rfl ?c1 ?c2 ?c3 ?c4 ?c5 ?_)
      case c1 => exact cell_one_new _ _ _
      case c2 => simp [Value.oneCell']
      case c3 => unfold maxLen; omega
      case c4 => omega
      case c5 => simp; omega
      intro v' w2 hown' hgrow _ hat
      obtain ⟨a1, a2, a3, a4, a5⟩ := grow_step hv1 hv2 hv3 (by omega) (by omega) hown' hgrow hat (by omega) (by omega)
      obtain ⟨g', cap', rfl⟩ := ownsRow_succ hown'
      have hc1 := a1.cell
      have hf1 := a1.frozen
      gi_wp2_with fail
      have hbw : Below (w.heap.size + 1 + 1) W (w2.setCell ⟨w.heap.size + 1 + 1 + 1, 0, none⟩ (.slice (some ⟨g', 0, none⟩) (k + 1) cap')) := (hb1.mono (by omega)).trans a5
      refine ⟨(keepsFrom_below hb1).trans (a2.from _), (KeepsT.below hb1).trans a3, ⟨?_, ?_, ?_, ?_, ?_⟩⟩
      · intro j hj
        rcases Nat.lt_or_ge j k with h | h
        · exact g1 j h
        · obtain rfl : j = k := by omega
          exact HT.out
      · exact (hbw.block (w.heap.size + 1) (by omega)).trans g2
      · rw [digL_succ]; exact a4
      · exact g4.trans (hbw.mono (by omega))
      · have := hbw.size; omega
  case stop =>
    rintro D k W hD ⟨hk, g1, g2, g3, g4, g5⟩ hDD
    obtain rfl : k = n := by
      rcases Nat.lt_trichotomy k n with h | h | h
      · exact absurd hk (hn2 k h)
      · exact h
      · exact absurd hn1 (g1 n h)
    obtain ⟨v, hv1, hv2, hv3⟩ := g3
    have hc := hv1.cell
    gi_wp2
    refine ⟨by simp, .inl ⟨_, _, rfl, run_takeDeferred hDD, ?_⟩⟩
    have hs := Slc.of_owns (n₀ := w.heap.size + 1 + 1) (xs := digL b T B k) (by rw [digL_len]; exact ownsRow_putObj hv2 (.deferred none) hDD rfl)
    exact ⟨_, results_tmp rfl _ _ _, ⟨v, k, m, hnm, rfl, hs.mono (by omega), g4.trans (belowK_b (w := w) (Nat.le_refl _) W D _ _ (by omega) hDD rfl rfl)⟩⟩

end Go.Proofs.Ytoiofkijinlllad
