/-
  The first digits of a fraction: the program's.
-/
import Derived.Test.YtmpbbflolbakhaaGreatDoorGWlk
import Derived.Test.YtmpbbflolbakhaaGreatDoorTold
namespace Go.Proofs.YtmpbbflolbakhaaGreatDoor
open Go.RowKit Go.Shelf

attribute [local go_sem] Oper.semAt_some

set_option maxHeartbeats 1000000 in
theorem implFracDigits_no (b t n k : Int) (w : World) (h : tldB b t n = false) :
    Calls Tryz.prog 115 #[.int .i64 b, .agg #[.int .i64 t, .int .i64 n], .int .i64 k] w fun e w' => e = .returned (.tuple #[.slice none 0 0, .bool false]) ∧ Below w.heap.size w w' := by
  go_enter Tryz.func115, Tryz.ntmps115
  go_wp2_with (go_at_call 16; refine (fracTold_any _ _ _ _).mono ?_; rintro e w1 ⟨rfl, hb1⟩)
  go_ret2
  exact ⟨rfl, (((Below.refl w.heap.size w).alloc (Nat.le_refl _) _).alloc (by simp) _).trans (hb1.mono (by simp; omega))⟩

set_option maxHeartbeats 1000000 in
theorem implFracDigits_off (b t n k : Int) (w : World) (h : tldB b t n = true) (hk : k < 0 ∨ 200 < k) :
    Calls Tryz.prog 115 #[.int .i64 b, .agg #[.int .i64 t, .int .i64 n], .int .i64 k] w fun e w' => e = .returned (.tuple #[.slice none 0 0, .bool false]) ∧ Below w.heap.size w w' := by
  by_cases h1 : k < 0
  · have h1' : decide (k < 0) = true := by simpa using h1
    clear hk
    go_enter Tryz.func115, Tryz.ntmps115
    go_wp2_with fail
    refine (fracTold_any _ _ _ _).mono ?_
    rintro e w1 ⟨rfl, hb1⟩
    have y1 : Boxed w1 (w.heap.size + 1) 3 (.int .i64 k) := (hb1.block (w.heap.size + 1) (by simp)).trans (boxed_newAt (by simp))
    have c2 := y1.cell
    go_wp2_with fail
    go_ret2
    exact ⟨rfl, (((Below.refl w.heap.size w).alloc (Nat.le_refl _) _).alloc (by simp) _).trans (hb1.mono (by simp; omega))⟩
  · have h2 : 200 < k := by omega
    have h1' : decide (k < 0) = false := by simpa using h1
    have h2' : decide (200 < k) = true := by simpa using h2
    clear hk
    go_enter Tryz.func115, Tryz.ntmps115
    go_wp2_with fail
    refine (fracTold_any _ _ _ _).mono ?_
    rintro e w1 ⟨rfl, hb1⟩
    have y1 : Boxed w1 (w.heap.size + 1) 3 (.int .i64 k) := (hb1.block (w.heap.size + 1) (by simp)).trans (boxed_newAt (by simp))
    have c2 := y1.cell
    go_wp2_with fail
    go_ret2
    exact ⟨rfl, (((Below.refl w.heap.size w).alloc (Nat.le_refl _) _).alloc (by simp) _).trans (hb1.mono (by simp; omega))⟩

/-- What holds between two rounds of the first digits. -/
def FstInv (b T B K : Nat) (w : World) (k : Nat) (W : World) : Prop :=
  k ≤ K ∧ GrowRow w.heap.size (w.heap.size + 1) (w.heap.size + 1 + 1 + 1) k (digL b T B k) W ∧ Below w.heap.size w W ∧ w.heap.size + 4 ≤ W.heap.size

theorem FstInv.abide (b T B K : Nat) (w : World) : Abide (okT 24) (w.heap.size + 4) (FstInv b T B K w) := by
  rintro k W W' row ⟨h1, h3, h4, h5⟩ hg hr
  exact ⟨h1, h3.abide (by omega) hg hr, h4.grown hg (by omega) (fun r e => by have := (hr r e).1; omega), by have := hg.size; omega⟩

theorem make_cap (K : Nat) (hK : K ≤ 200) (w : World) : (Instr.makeSlice 27 (.int .i64 0) (.int .i64 (K : Int))).run Tryz.prog w = .ok (.slice (some ⟨w.heap.size, 0, none⟩) 0 K) (w.alloc (.cells (madeCells #[.int .i64 0] K) 3)) := by
  obtain ⟨i0, hi, hz0, hz1, hz2⟩ := info_parts infoInt
  have hr := run_make (P := Tryz.prog) w 27 3 i0 (.int .i64 0) Tryz.underlying27 hi hz0 .i64 .i64 0 K (by omega) (by omega) (by rw [hz2]; omega) (by omega)
  simp only [Int.toNat_natCast, hz1, Nat.mul_one] at hr
  exact hr

set_option maxRecDepth 100000 in
set_option maxHeartbeats 1000000 in
theorem implFracDigits_yes (b T B K : Nat) (w : World) (h : tldB b T B = true) (hT : T < B) (hg : Nat.gcd T B = 1) (hB : B ≤ 1000) (h3 : 2 ≤ b) (h4 : b ≤ 16) (hK : K ≤ 200) :
    Calls Tryz.prog 115 #[.int .i64 b, .agg #[.int .i64 T, .int .i64 B], .int .i64 K] w fun e w' =>
      ∃ v, e = .returned (.tuple #[v, .bool true]) ∧ Slc w.heap.size w' v (digL b T B K) ∧ Below w.heap.size w w' := by
  have HG := Lib.hid hg; clear hg
  obtain ⟨i0, hi, hz0, hz1, hz2⟩ := info_parts infoInt
  have h1' : decide ((K : Int) < 0) = false := by simp
  have h2' : decide (200 < (K : Int)) = false := by simp; omega
  have h3' : decide (200 < K) = false := by simp; omega
  have hmk := make_cap K hK
  refine (callsIn_wide (n := 3)).1 ?_
  refine callsIn_of_wp_marks Tryz.func115 rfl trivial ?_ rfl
  simp only [Tryz.ntmps115, List.size_toArray, List.length_cons, List.length_nil, Nat.reduceAdd, Nat.reduceSub, Array.replicate_succ, Array.replicate_zero, List.push_toArray, List.append_toArray, List.nil_append, List.cons_append]
  gi_wp2_with fail
  refine ⟨trivial, (callsIn_wide.2 (fracTold_any _ _ _ _)).mono ?_⟩
  rintro e w1 ⟨rfl, hb1⟩
  have hs1 := hb1.size
  simp at hs1
  have x1 : Box2 w1 w.heap.size 24 (.int .i64 T) (.int .i64 B) := (hb1.block w.heap.size (by simp; omega)).trans ((Box2.newAt rfl).alloc (.cells #[.int .i64 K] 3))
  have y1 : Boxed w1 (w.heap.size + 1) 3 (.int .i64 K) := (hb1.block (w.heap.size + 1) (by simp)).trans (boxed_newAt (by simp))
  have c0 := x1.cell0
  have c1 := x1.cell1
  have c2 := y1.cell
  have hlt := x1.lt
  have hlt2 := y1.lt
  gi_wp2_with fail
  refine ⟨trivial, (callsIn_wide.2 (walk_any _ _ _ _)).mono ?_⟩
  rintro e w2 ⟨rfl, rfl⟩
  gi_wp2_with fail
  obtain ⟨W0, hW0⟩ : ∃ W0, (((w1.alloc (.cells (madeCells #[.int .i64 0] K) 3)).alloc (.cells #[.slice (some ⟨w1.heap.size, 0, none⟩) 0 K] 27)).alloc
      (.cells #[.int .i64 T, .int .i64 B] 24)).alloc (.cells #[.int .i64 b] 3) = W0 := ⟨_, rfl⟩
  have hs0 : W0.heap.size = w1.heap.size + 4 := by rw [← hW0]; simp
  have x0 : Box2 W0 (w1.heap.size + 1 + 1) 24 (.int .i64 T) (.int .i64 B) := by rw [← hW0]; exact (Box2.newAt (by simp)).alloc _
  have hbel0 : Below w1.heap.size w1 W0 := by
    rw [← hW0]
    repeat (first | exact Below.refl _ _ | refine Below.alloc ?_ (by simp; try omega) _)
  have b0 : Boxed W0 (w1.heap.size + 1 + 1 + 1) 3 (.int .i64 b) := by
    rw [← hW0]; exact boxed_newAt (by simp)
  have r0 : GrowRow w1.heap.size (w1.heap.size + 1) (w1.heap.size + 1 + 1 + 1) 0 (digL b T B 0) W0 := by
    rw [← hW0]
    refine ⟨.slice (some ⟨w1.heap.size, 0, none⟩) 0 K, ((boxed_newAt (by simp)).alloc _).alloc _, ?_, by simp [Value.ownBlock]; omega⟩
    have := ((((World.ownsRow_made (base := w1.heap.size) (e := 3) (size := 1) w1 (madeCells #[.int .i64 0] K) K (by simp) (by unfold maxLen; omega) (by simp [size_madeCells])).alloc
      (.cells #[.slice (some ⟨w1.heap.size, 0, none⟩) 0 K] 27)).alloc (.cells #[.int .i64 T, .int .i64 B] 24)).alloc (.cells #[.int .i64 b] 3))
    simpa [digL] using this
  rw [hW0]
  have HW := Lib.hid hW0; clear hW0
  have hk := walk_seq 2 b T B hT HG.out hB h3 h4 _ _ W0 x0 b0
  refine wpIn_range_k rfl (by omega) (gf := 56) (lb := #[.pointer (some ⟨w1.heap.size + 1 + 1, 0, none⟩), .pointer (some ⟨w1.heap.size + 1 + 1 + 1, 0, none⟩)]) rfl trivial (enters_of Tryz.func56 (by kernel_rfl) rfl)
    hk (Below.refl _ _) b0.lt (fun _ => rfl) 0 (K + 1) (FstInv b T B K w1) (fun k W => k = K ∧ FstInv b T B K w1 k W) ?_ ?_ ?_ ⟨by omega, r0, hbel0, by omega⟩
    (fun k a' _ => a' = { tmps := #[Value.int .i64 b, Value.agg #[Value.int .i64 T, Value.int .i64 B], Value.int .i64 K, undef, Value.pointer (some ⟨w.heap.size, 0, none⟩),
          Value.pointer (some ⟨w.heap.size + 1, 0, none⟩), Value.slice none 0 0, Value.bool false,
          Value.pointer (some ⟨w1.heap.size + 1, 0, none⟩), undef, .int .i64 (dig b T B k), Value.int .i64 b,
          Value.agg #[Value.int .i64 T, Value.int .i64 B], Value.bool true, Value.bool false,
          Value.bool false, Value.int .i64 K, Value.bool false, Value.bool false, Value.bool false,
          Value.int .i64 K, Value.bool false, Value.bool false, Value.int .i64 K,
          Value.slice (some ⟨w1.heap.size, 0, none⟩) 0 K, Value.agg #[Value.int .i64 T, Value.int .i64 B], Value.int .i64 b,
          Value.func (Fn.func 56) #[] #[Value.pointer (some ⟨w1.heap.size + 1 + 1, 0, none⟩), Value.pointer (some ⟨w1.heap.size + 1 + 1 + 1, 0, none⟩)],
          .agg #[.int .i64 (frT b T B k).1, .int .i64 (frT b T B k).2], .int .i64 (dig b T B k), undef, undef, undef, undef, undef, undef, undef, undef, undef], defers := [] }) ?_ ?assign ?body ?stop
  · rw [hs0]; exact FstInv.abide b T B K w1
  · rw [hs0]; rintro k W W' row ⟨h0, h⟩ hg hr; exact ⟨h0, FstInv.abide b T B K w1 k W W' row h hg hr⟩
  · rintro k W ⟨h, _⟩; omega
  · rintro a' k W W' row ha hg hr; exact ha
  case assign =>
    intro l k W Kc hi hKc
    unfold itArgs
    gi_wp2
    exact hKc _ _ (KeepsFrom.refl _ _) (KeepsT.refl _ _ _) hi rfl
  case body =>
    rintro l k a' W ⟨g1, g3, g4, g5⟩ rfl
    have hi1 : FstInv b T B K w1 k W := ⟨g1, g3, g4, g5⟩
    have hbk : Boxed W (w.heap.size + 1) 3 (.int .i64 K) := (g4.block (w.heap.size + 1) hlt2).trans y1
    have f0 := hbk.cell
    obtain ⟨v, hv1, hv2, hv3⟩ := g3
    have hc := hv1.cell
    obtain ⟨a0, c0', rfl⟩ := owns_form hv2
    by_cases hkm : k = K
    · subst hkm
      gi_wp2_with fail
      exact ⟨rfl, KeepsFrom.refl _ _, rfl, hi1⟩
    · have hn1' : ((k : Int) == (K : Int)) = false := by simp; omega
      have hn2' : ¬ k = K := hkm
      gi_wp2_with (gi_at_builtin; refine wpListIn_append_own_at _ rfl _ _ 27 rfl w1.heap.size 3 i0 (.int .i64 0) 1 8 Tryz.underlying27 hi hz0 hz1 hz2 rfl (by decide) _ _ _ rfl (hv2.alloc _) ⟨W.heap.size, 0, none⟩ 1 1 [.int .i64 (dig b T B k)] rfl rfl (cell_one_new _ _ _) (by simp [Value.oneCell']) (by unfold maxLen; omega) (by omega) (by simp; omega) ?_)
      intro v' w2 hown' hgrow _ hat
      obtain ⟨a1, a2, a3, a4, a5⟩ := grow_step hv1 hv2 hv3 (by omega) (by omega) hown' hgrow hat (by omega) (by omega)
      obtain ⟨g', cap', rfl⟩ := ownsRow_succ hown'
      have hc1 := a1.cell
      have hf1 := a1.frozen
      gi_wp2_with fail
      refine ⟨a2.from _, a3, ⟨by omega, ?_, g4.trans (a5.mono (by omega)), by have := a5.size; omega⟩⟩
      rw [digL_succ]; exact a4
  case stop =>
    rintro D k W hD ⟨rfl, g1, g3, g4, g5⟩ hDD
    obtain ⟨v, hv1, hv2, hv3⟩ := g3
    have hc := hv1.cell
    gi_wp2
    refine ⟨by simp, .inl ⟨_, _, rfl, run_takeDeferred hDD, ?_⟩⟩
    have hs := Slc.of_owns (n₀ := w1.heap.size) (xs := digL b T B k) (by rw [digL_len]; exact ownsRow_putObj hv2 (.deferred none) hDD rfl)
    have hbb := (((Below.refl w.heap.size w).alloc (Nat.le_refl _) (.cells #[.int .i64 T, .int .i64 B] 24)).alloc (by simp) (.cells #[.int .i64 k] 3)).trans (hb1.mono (by simp; omega))
    exact ⟨_, results_tmp2 rfl _ _ _, ⟨v, rfl, hs.mono (by omega), (hbb.trans (g4.mono (by omega))).trans (belowK_b (w := w) (Nat.le_refl _) W D _ _ (by omega) hDD rfl rfl)⟩⟩

end Go.Proofs.YtmpbbflolbakhaaGreatDoor
