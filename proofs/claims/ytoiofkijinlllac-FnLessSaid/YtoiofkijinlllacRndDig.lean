/-
  The digits of the round: the program's.
-/
import Derived.Test.YtoiofkijinlllacBegDig
import Derived.Test.YtoiofkijinlllacBegin
namespace Go.Proofs.Ytoiofkijinlllac
open Go.RowKit Go.Shelf

attribute [local go_sem] Oper.semAt_some

theorem digL_rnd {b T B : Nat} (hT : T < B) (hg : Nat.gcd T B = 1) (n m : Nat) : digL b (frT b T B n).1 (frT b T B n).2 m = rndL b T B n m := by
  apply List.ext_getElem?
  intro i
  unfold rndL digL
  rw [List.getElem?_drop, List.getElem?_map, List.getElem?_map]
  by_cases hi : i < m
  · rw [List.getElem?_range hi, List.getElem?_range (by omega)]
    simp [dig_add hT hg]
  · rw [List.getElem?_eq_none (by simp; omega), List.getElem?_eq_none (by simp; omega)]
    rfl

theorem owns_form {W : World} {base e k : Nat} {v : Value} {xs : List Value} (h : W.ownsRow base e 1 v k xs) : ∃ a c, v = .slice a k c := by
  rcases h.2 with ⟨rfl, rfl⟩ | ⟨g, cap, cur, rfl, _⟩
  · exact ⟨none, 0, rfl⟩
  · exact ⟨_, _, rfl⟩

/-- What holds between two rounds of the round. -/
def RndInv (b t n m : Nat) (w : World) (k : Nat) (W : World) : Prop :=
  k ≤ m ∧ Box2 W w.heap.size 24 (.int .i64 t) (.int .i64 n) ∧ GrowRow (w.heap.size + 1) (w.heap.size + 1 + 1) (w.heap.size + 1 + 1 + 1 + 1) k (digL b t n k) W ∧
    Below w.heap.size w W ∧ w.heap.size + 5 ≤ W.heap.size

theorem RndInv.abide (b t n m : Nat) (w : World) : Abide (okT 24) (w.heap.size + 5) (RndInv b t n m w) := by
  rintro k W W' row ⟨h1, h2, h3, h4, h5⟩ hg hr
  exact ⟨h1, (hg.block _ h2.lt (fun e => by have := (hr _ e.symm).1; omega)).trans h2, h3.abide (by omega) hg hr, h4.grown hg (by omega) (fun r e => by have := (hr r e).1; omega), by have := hg.size; omega⟩

theorem rnd_ne {b T B n m : Nat} (hT : T < B) (hg : Nat.gcd T B = 1) (hn : trn b T B n) (hm2 : ∀ k, 0 < k → k < m → rst b T B (n + k) ≠ rst b T B n) {k : Nat} (h0 : 0 < k) (hk : k < m) : (frT b (frT b T B n).1 (frT b T B n).2 k).1 ≠ (frT b T B n).1 := by
  intro e
  rw [frT_add] at e
  have h2 := (trn_add hn k).1
  exact hm2 k h0 hk ((fr_again hT hg).1 (Prod.ext e h2))

set_option maxRecDepth 100000 in
set_option maxHeartbeats 1000000 in
theorem round_any (b T B : Nat) (w : World) (hT : T < B) (hg : Nat.gcd T B = 1) (hB : B ≤ 1000) (h3 : 2 ≤ b) (h4 : b ≤ 16) :
    Calls Try.prog 37 #[.agg #[.int .i64 T, .int .i64 B], .int .i64 b] w fun e w' =>
      ∃ v n m, IsLen b T B n m ∧ e = .returned v ∧ Slc w.heap.size w' v (rndL b T B n m) ∧ Below w.heap.size w w' := by
  have HG := Lib.hid hg; clear hg
  obtain ⟨i0, hi, hz0, hz1, hz2⟩ := info_parts infoInt
  refine (callsIn_wide (n := 3)).1 ?_
  refine callsIn_of_wp_marks Try.func37 rfl trivial ?_ rfl
  simp only [Try.ntmps37, List.size_toArray, List.length_cons, List.length_nil, Nat.reduceAdd, Nat.reduceSub, Array.replicate_succ, Array.replicate_zero, List.push_toArray, List.append_toArray, List.nil_append, List.cons_append]
  gi_wp2_with fail
  refine ⟨trivial, (callsIn_wide.2 (behindBegin_any b T B _ hT HG.out hB h3 h4)).mono ?_⟩
  rintro e w1 ⟨n, ⟨hn1, hn2⟩, rfl, hb1⟩
  obtain ⟨m, hnm, hm2⟩ := len_of_begin hT HG.out hn1 hn2
  have hle := hnm.le hT
  obtain ⟨q1, q2, q3⟩ := fr_lt (b := b) hT HG.out n
  have hc1 := (fr_ok (b := b) hT HG.out n).cop
  obtain ⟨t', ht'⟩ : ∃ t', (frT b T B n).1 = t' := ⟨_, rfl⟩
  obtain ⟨n', hn'⟩ : ∃ n', (frT b T B n).2 = n' := ⟨_, rfl⟩
  rw [ht', hn'] at q1 hc1
  rw [hn'] at q2
  have HC := Lib.hid hc1
  unfold frV
  rw [ht', hn']
  have HT := Lib.hid ht'; have HN := Lib.hid hn'
  clear hc1 ht' hn'
  have hs1 := hb1.size
  simp at hs1
  gi_wp2_with fail
  refine ⟨trivial, (callsIn_wide.2 (walk_any _ _ _ _)).mono ?_⟩
  rintro e w2 ⟨rfl, rfl⟩
  gi_wp2_with fail
  obtain ⟨W0, hW0⟩ : ∃ W0, ((((w1.alloc (.cells #[.int .i64 t', .int .i64 n'] 24)).alloc (.cells #[] 3)).alloc (.cells #[.slice (some ⟨w1.heap.size + 1, 0, none⟩) 0 0] 37)).alloc
      (.cells #[.int .i64 t', .int .i64 n'] 24)).alloc (.cells #[.int .i64 b] 3) = W0 := ⟨_, rfl⟩
  have hs0 : W0.heap.size = w1.heap.size + 5 := by rw [← hW0]; simp
  have x0 : Box2 W0 (w1.heap.size + 1 + 1 + 1) 24 (.int .i64 t') (.int .i64 n') := by rw [← hW0]; exact (Box2.newAt (by simp)).alloc _
  have x1 : Box2 W0 w1.heap.size 24 (.int .i64 t') (.int .i64 n') := by rw [← hW0]; exact ((((Box2.newAt (by simp)).alloc _).alloc _).alloc _).alloc _
  have hbel0 : Below w1.heap.size w1 W0 := by
    rw [← hW0]
    repeat (first | exact Below.refl _ _ | refine Below.alloc ?_ (by simp; try omega) _)
  have b0 : Boxed W0 (w1.heap.size + 1 + 1 + 1 + 1) 3 (.int .i64 b) := by
    rw [← hW0]; exact boxed_newAt (by simp)
  have r0 : GrowRow (w1.heap.size + 1) (w1.heap.size + 1 + 1) (w1.heap.size + 1 + 1 + 1 + 1) 0 (digL b t' n' 0) W0 := by
    rw [← hW0]
    refine ⟨.slice (some ⟨w1.heap.size + 1, 0, none⟩) 0 0, ((boxed_newAt (by simp)).alloc _).alloc _, ?_, by simp [Value.ownBlock]⟩
    have := ((((World.ownsRow_made (base := w1.heap.size + 1) (e := 3) (size := 1) (w1.alloc (.cells #[.int .i64 t', .int .i64 n'] 24)) #[] 0 (by simp) (by simp) (by simp)).alloc
      (.cells #[.slice (some ⟨w1.heap.size + 1, 0, none⟩) 0 0] 37)).alloc (.cells #[.int .i64 t', .int .i64 n'] 24)).alloc (.cells #[.int .i64 b] 3))
    simpa [digL] using this
  rw [hW0]
  have HW := Lib.hid hW0; clear hW0
  have hne : ∀ k, 0 < k → k < m → (frT b t' n' k).1 ≠ t' := fun k h0 hk => by
    have := rnd_ne hT HG.out hn1 hm2 h0 hk
    rw [HT.out, HN.out] at this; exact this
  have hlast : frT b t' n' m = (t', n') := by
    have := frT_add b T B n m
    rw [HT.out, HN.out, (fr_again hT HG.out).2 hnm.eq] at this
    rw [this]; exact Prod.ext HT.out HN.out
  have hrnd : digL b t' n' m = rndL b T B n m := by
    have := digL_rnd (b := b) hT HG.out n m
    rw [HT.out, HN.out] at this; exact this
  have HNE := Lib.hid hne; have HL := Lib.hid hlast; have HR := Lib.hid hrnd; have HM2 := Lib.hid hm2
  clear hne hlast hrnd hm2
  have hk := walk_seq 2 b t' n' q1 HC.out (by omega) h3 h4 _ _ W0 x0 b0
  refine wpIn_range_k rfl (by omega) (gf := 46) (lb := #[.pointer (some ⟨w1.heap.size + 1 + 1 + 1, 0, none⟩), .pointer (some ⟨w1.heap.size + 1 + 1 + 1 + 1, 0, none⟩)]) rfl trivial (enters_of Try.func46 (by kernel_rfl) rfl)
    hk (Below.refl _ _) b0.lt (fun _ => rfl) 0 (m + 1) (RndInv b t' n' m w1) (fun k W => k = m ∧ RndInv b t' n' m w1 k W) ?_ ?_ ?_ ⟨by omega, x1, r0, hbel0, by omega⟩
    (fun k a' W => ∃ Bx, w1.heap.size + 5 ≤ Bx ∧ Box2 W Bx 24 (.int .i64 (frT b t' n' k).1) (.int .i64 (frT b t' n' k).2) ∧ a' = { tmps := #[Value.agg #[Value.int .i64 T, Value.int .i64 B], Value.int .i64 b,
          Value.pointer (some ⟨w.heap.size, 0, none⟩), undef, Value.slice none 0 0, Value.pointer (some ⟨w1.heap.size, 0, none⟩),
          Value.pointer (some ⟨w1.heap.size + 1 + 1, 0, none⟩), Value.pointer (some ⟨Bx, 0, none⟩), .int .i64 (dig b t' n' k),
          Value.agg #[Value.int .i64 T, Value.int .i64 B], Value.int .i64 b, Value.agg #[Value.int .i64 t', Value.int .i64 n'],
          Value.slice (some ⟨w1.heap.size + 1, 0, none⟩) 0 0, Value.agg #[Value.int .i64 t', Value.int .i64 n'], Value.int .i64 b,
          Value.func (Fn.func 46) #[] #[Value.pointer (some ⟨w1.heap.size + 1 + 1 + 1, 0, none⟩), Value.pointer (some ⟨w1.heap.size + 1 + 1 + 1 + 1, 0, none⟩)],
          .agg #[.int .i64 (frT b t' n' k).1, .int .i64 (frT b t' n' k).2], .int .i64 (dig b t' n' k), undef, undef, undef, undef, undef, undef, undef, undef, undef, undef, undef, undef, undef], defers := [] }) ?_ ?assign ?body ?stop
  · rw [hs0]; exact RndInv.abide b t' n' m w1
  · rw [hs0]; rintro k W W' row ⟨h0, h⟩ hg hr; exact ⟨h0, RndInv.abide b t' n' m w1 k W W' row h hg hr⟩
  · rintro k W ⟨h, _⟩; omega
  · rintro a' k W W' row ⟨Bx, hBx, hx, ha⟩ hg hr
    exact ⟨Bx, hBx, (hg.block Bx hx.lt (fun e => by obtain ⟨_, o, ho, hk⟩ := hr Bx e.symm; rw [show W.heap[Bx]? = _ from hx] at ho; cases ho; simp [okB, Obj.isCells] at hk)).trans hx, ha⟩
  case assign =>
    intro l k W K hi hK
    have hlt := hi.2.2.2.2
    unfold itArgs
    gi_wp2
    have hb : Below W.heap.size W (W.alloc (.cells #[.int .i64 (frT b t' n' k).1, .int .i64 (frT b t' n' k).2] 24)) := (Below.refl _ _).alloc (Nat.le_refl _) _
    exact hK _ _ (keepsFrom_below hb) (KeepsT.below hb) ((RndInv.abide b t' n' m w1).alloc _ hi) ⟨W.heap.size, hlt, Box2.new _ _ _ _, rfl⟩
  case body =>
    rintro l k a' W ⟨g1, g2, g3, g4, g5⟩ ⟨Bx, hBx, hx, rfl⟩
    have hi1 : RndInv b t' n' m w1 k W := ⟨g1, g2, g3, g4, g5⟩
    have u0 := hx.cell0
    have u1 := hx.cell1
    have f0 := g2.cell0
    have f1 := g2.cell1
    obtain ⟨v, hv1, hv2, hv3⟩ := g3
    have hc := hv1.cell
    by_cases hkm : k = m
    · subst hkm
      rw [HL.out] at u0 u1
      have hpos := hnm.pos
      obtain ⟨g', cap', rfl⟩ : ∃ g' cap', v = .slice (some ⟨g', 0, none⟩) k cap' := by
        obtain ⟨k', rfl⟩ : ∃ k', k = k' + 1 := ⟨k - 1, by omega⟩
        exact ownsRow_succ hv2
      gi_wp2_with fail
      exact ⟨rfl, KeepsFrom.refl _ _, rfl, hi1⟩
    obtain ⟨a0, c0, rfl⟩ := owns_form hv2
    by_cases hk0 : k = 0
    · subst hk0
      have hfr0 : frT b t' n' 0 = (t', n') := rfl
      rw [hfr0] at u0 u1
      clear hfr0
      gi_wp2_with (gi_at_builtin; refine wpListIn_append_own_at _ rfl _ _ 37 rfl (w1.heap.size + 1) 3 i0 (.int .i64 0) 1 8 Try.underlying37 hi hz0 hz1 hz2 rfl (by decide) _ _ _ rfl (hv2.alloc _) ⟨W.heap.size, 0, none⟩ 1 1 [.int .i64 (dig b t' n' 0)] rfl rfl (cell_one_new _ _ _) (by simp [Value.oneCell']) (by unfold maxLen; omega) (by omega) (by simp; omega) ?_)
      intro v' w2 hown' hgrow _ hat
      obtain ⟨a1, a2, a3, a4, a5⟩ := grow_step hv1 hv2 hv3 (by omega) (by omega) hown' hgrow hat (by omega) (by omega)
      obtain ⟨g', cap', rfl⟩ := ownsRow_succ hown'
      have hc1 := a1.cell
      have hf1 := a1.frozen
      gi_wp2_with fail
      refine ⟨a2.from _, a3, ⟨by omega, (a5.block w1.heap.size (by omega)).trans g2, ?_, g4.trans (a5.mono (by omega)), by have := a5.size; simp at this ⊢; omega⟩⟩
      rw [digL_succ]; exact a4
    · have hnx := HNE.out k (by omega) (by omega)
      have hn1' : (((frT b t' n' k).1 : Int) == (t' : Int)) = false := by simp; omega
      have hn2' : ¬ ((frT b t' n' k).1 : Int) = (t' : Int) := by omega
      clear hnx
      gi_wp2_with (gi_at_builtin; refine wpListIn_append_own_at _ rfl _ _ 37 rfl (w1.heap.size + 1) 3 i0 (.int .i64 0) 1 8 Try.underlying37 hi hz0 hz1 hz2 rfl (by decide) _ _ _ rfl (hv2.alloc _) ⟨W.heap.size, 0, none⟩ 1 1 [.int .i64 (dig b t' n' k)] rfl rfl (cell_one_new _ _ _) (by simp [Value.oneCell']) (by unfold maxLen; omega) (by omega) (by simp; omega) ?_)
      intro v' w2 hown' hgrow _ hat
      obtain ⟨a1, a2, a3, a4, a5⟩ := grow_step hv1 hv2 hv3 (by omega) (by omega) hown' hgrow hat (by omega) (by omega)
      obtain ⟨g', cap', rfl⟩ := ownsRow_succ hown'
      have hc1 := a1.cell
      have hf1 := a1.frozen
      gi_wp2_with fail
      refine ⟨a2.from _, a3, ⟨by omega, (a5.block w1.heap.size (by omega)).trans g2, ?_, g4.trans (a5.mono (by omega)), by have := a5.size; omega⟩⟩
      rw [digL_succ]; exact a4
  case stop =>
    rintro D k W hD ⟨rfl, g1, g2, g3, g4, g5⟩ hDD
    obtain ⟨v, hv1, hv2, hv3⟩ := g3
    have hc := hv1.cell
    gi_wp2
    refine ⟨by simp, .inl ⟨_, _, rfl, run_takeDeferred hDD, ?_⟩⟩
    have hs := Slc.of_owns (n₀ := w1.heap.size + 1) (xs := digL b t' n' k) (by rw [digL_len]; exact ownsRow_putObj hv2 (.deferred none) hDD rfl)
    rw [HR.out] at hs
    have hbb := ((Below.refl w.heap.size w).alloc (Nat.le_refl _) (.cells #[.int .i64 T, .int .i64 B] 24)).trans (hb1.mono (by simp))
    exact ⟨_, results_tmp rfl _ _ _, ⟨v, n, k, hnm, rfl, hs.mono (by omega), (hbb.trans (g4.mono (by omega))).trans (belowK_b (w := w) (Nat.le_refl _) W D _ _ (by omega) hDD rfl rfl)⟩⟩

end Go.Proofs.Ytoiofkijinlllac
