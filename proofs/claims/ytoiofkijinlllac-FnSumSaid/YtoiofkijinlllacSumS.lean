/-
  Sums of fractions: the model's side.
-/
import Derived.Test.YtoiofkijinlllacSumI
import Derived.Test.YtoiofkijinlllacRed
import Derived.Test.YtoiofkijinlllacOther
import Derived.Test.YtoiofkijinlllacGRnd
import Derived.Deep.RegionHeld3
namespace Go.Proofs.Ytoiofkijinlllac
open Go.RowKit

theorem bel3 {w w1 : World} {o o' o'' : Obj} (hb : Below (((w.alloc o).alloc o').alloc o'').heap.size (((w.alloc o).alloc o').alloc o'') w1) : Below w.heap.size w w1 :=
  ((((Below.refl w.heap.size w).alloc (Nat.le_refl _) o).alloc (by simp) o').alloc (by simp; omega) o'').trans (hb.mono (by simp; omega))

theorem reduced_nat (t n : Nat) (w : World) (hn : 0 < n) (ht : t ≤ 100000000000) (hn2 : n ≤ 100000000000) :
    Calls Try.prog 25 #[.int .i64 t, .int .i64 n] w fun e w' => e = .returned (.agg #[.int .i64 (redT t n : Nat), .int .i64 (redN t n : Nat)]) ∧ Below w.heap.size w w' := by
  have := l2Reduced_int (t : Int) (n : Int) w (by omega) (by omega) (by omega) (by omega)
  rw [gcdI_nat] at this
  exact this

theorem sum_cast (T B U C : Nat) : ((T : Int) * C + U * B) % ((B : Int) * C) = (smT T B U C : Nat) := by unfold smT; simp

set_option maxHeartbeats 2000000 in
theorem specSumOf_no (t n u m : Int) (h : (finB t n && finB u m) = false) : GivesF 9 #[.agg #[.int .i64 t, .int .i64 n], .agg #[.int .i64 u, .int .i64 m]] 0 0 false := by
  intro w
  cases h1 : finB t n with
  | false =>
    clear h
    go_enter Try.func9, Try.ntmps9
    go_wp2_with fail
    refine (specFracIn_any _ _ _).mono ?_
    rintro e w1 ⟨rfl, hb1⟩
    rw [h1]
    have z1 : Box2 w1 (w.heap.size + 1 + 1) 24 (.int .i64 0) (.int .i64 0) := (Box2.newAt (by simp)).later hb1
    have k0 := z1.cell0
    have k1 := z1.cell1
    have f0 := z1.frozen0
    have f1 := z1.frozen1
    have hb := bel3 hb1
    clear hb1
    go_wp2_with fail
    refine bodyPost_ret (v := .tuple #[.agg #[.int .i64 0, .int .i64 0], .bool false]) (by simp [results, Try.results9, go_sem, (z1.set' _ _).cell0, (z1.set' _ _).cell1]) rfl ⟨rfl, ?_⟩
    exact (hb.setCell (p := ⟨w.heap.size + 1 + 1, 0, none⟩) (by simp; omega) _).setCell (p := ⟨w.heap.size + 1 + 1, 1, none⟩) (by simp; omega) _
  | true =>
    rw [h1, Bool.true_and] at h
    go_enter Try.func9, Try.ntmps9
    go_wp2_with fail
    refine (specFracIn_any _ _ _).mono ?_
    rintro e w1 ⟨rfl, hb1⟩
    rw [h1]
    have y1 : Box2 w1 (w.heap.size + 1) 24 (.int .i64 u) (.int .i64 m) := ((Box2.newAt (by simp)).alloc _).later hb1
    have z1 : Box2 w1 (w.heap.size + 1 + 1) 24 (.int .i64 0) (.int .i64 0) := (Box2.newAt (by simp)).later hb1
    have y0 := y1.cell0
    have y1' := y1.cell1
    have hb := bel3 hb1
    clear hb1
    go_wp2_with fail
    refine (specFracIn_any _ _ _).mono ?_
    rintro e w2 ⟨rfl, hb2⟩
    rw [h]
    have z2 := z1.later hb2
    have k0 := z2.cell0
    have k1 := z2.cell1
    have f0 := z2.frozen0
    have f1 := z2.frozen1
    have hbb := hb.trans (hb2.mono hb.size)
    clear hb2 hb z1 y1 y0 y1'
    go_wp2_with fail
    refine bodyPost_ret (v := .tuple #[.agg #[.int .i64 0, .int .i64 0], .bool false]) (by simp [results, Try.results9, go_sem, (z2.set' _ _).cell0, (z2.set' _ _).cell1]) rfl ⟨rfl, ?_⟩
    exact (hbb.setCell (p := ⟨w.heap.size + 1 + 1, 0, none⟩) (by simp; omega) _).setCell (p := ⟨w.heap.size + 1 + 1, 1, none⟩) (by simp; omega) _

set_option maxHeartbeats 2000000 in
theorem specSumOf_off (T B U C : Nat) (h : FOk T B) (h' : FOk U C) (hle : 1000 < sumN' T B U C) : GivesF 9 #[.agg #[.int .i64 T, .int .i64 B], .agg #[.int .i64 U, .int .i64 C]] 0 0 false := by
  intro w
  have h1 := h.fin
  have h2 := h'.fin
  have hT := h.lt; have hB := h.bot; have hU := h'.lt; have hC := h'.bot
  obtain ⟨r1, r2, r3, r4, r5, r6⟩ := red_ok (sm_lt (T := T) (U := U) (show 0 < B by omega) (show 0 < C by omega))
  have hsl := sm_lt (T := T) (U := U) (show 0 < B by omega) (show 0 < C by omega)
  have hbc : B * C ≤ 1000 * 1000 := Nat.mul_le_mul hB hC
  have hbc0 : 0 < B * C := Nat.mul_pos (by omega) (by omega)
  have htc : T * C ≤ 1000 * 1000 := Nat.mul_le_mul (by omega) hC
  have hub : U * B ≤ 1000 * 1000 := Nat.mul_le_mul (by omega) hB
  have i1 : ((B * C : Nat) : Int) = (B : Int) * C := by simp
  have i2 : ((T * C : Nat) : Int) = (T : Int) * C := by simp
  have i3 : ((U * B : Nat) : Int) = (U : Int) * B := by simp
  have i4 : (B : Int) * C ≤ 1000000 := by omega
  have i5 : (0 : Int) < (B : Int) * C := by omega
  have i6 : (T : Int) * C ≤ 1000000 := by omega
  have i7 : (0 : Int) ≤ (T : Int) * C := by omega
  have i8 : (U : Int) * B ≤ 1000000 := by omega
  have i9 : (0 : Int) ≤ (U : Int) * B := by omega
  have i0 : ¬ (B : Int) * C = 0 := by omega
  have HR : Hid (∀ wx, Calls Try.prog 25 #[.int .i64 (((T : Int) * C + U * B) % ((B : Int) * C)), .int .i64 ((B : Int) * C)] wx fun e w' => e = .returned (.agg #[.int .i64 (sumT T B U C : Nat), .int .i64 (sumN' T B U C : Nat)]) ∧ Below wx.heap.size wx w') := fun wx => by
    rw [sum_cast, ← i1]
    exact reduced_nat _ _ wx hbc0 (by omega) (by omega)
  have HF : Hid (finB (sumT T B U C : Nat) (sumN' T B U C : Nat) = decide (sumN' T B U C ≤ 1000)) := by
    by_cases hle : sumN' T B U C ≤ 1000
    · rw [decide_eq_true hle]; exact FOk.fin ⟨r1, hle, r2⟩
    · rw [decide_eq_false hle]; exact finB_false_of (by omega)
  clear r1 r2 r3 r4 r5 r6 hsl h h' i1 i2 i3
  go_enter Try.func9, Try.ntmps9
  go_wp2_with fail
  refine (specFracIn_any _ _ _).mono ?_
  rintro e w1 ⟨rfl, hb1⟩
  rw [h1]
  have x1 : Box2 w1 w.heap.size 24 (.int .i64 T) (.int .i64 B) := (((Box2.newAt rfl).alloc _).alloc _).later hb1
  have y1 : Box2 w1 (w.heap.size + 1) 24 (.int .i64 U) (.int .i64 C) := ((Box2.newAt (by simp)).alloc _).later hb1
  have z1 : Box2 w1 (w.heap.size + 1 + 1) 24 (.int .i64 0) (.int .i64 0) := (Box2.newAt (by simp)).later hb1
  have y0 := y1.cell0
  have y1' := y1.cell1
  have hb := bel3 hb1
  clear hb1
  go_wp2_with fail
  refine (specFracIn_any _ _ _).mono ?_
  rintro e w2 ⟨rfl, hb2⟩
  rw [h2]
  have x2 := x1.later hb2
  have y2 := y1.later hb2
  have z2 := z1.later hb2
  have x0 := x2.cell0
  have x1' := x2.cell1
  have y0 := y2.cell0
  have y1' := y2.cell1
  have hbb := hb.trans (hb2.mono hb.size)
  clear hb2 hb z1 y1 x1 h1 h2
  go_wp2_with fail
  refine (HR.out _).mono ?_
  rintro e w3 ⟨rfl, hb3⟩
  have z3 := z2.later hb3
  have hb3' := hbb.trans (hb3.mono hbb.size)
  clear hb3 hbb z2 y2 x2 x0 x1' y0 y1' i4 i5 i6 i7 i8 i9 i0 HR
  have q3 : Box2 (w3.alloc (.cells #[.int .i64 (sumT T B U C : Nat), .int .i64 (sumN' T B U C : Nat)] 24)) w3.heap.size 24 (.int .i64 (sumT T B U C : Nat)) (.int .i64 (sumN' T B U C : Nat)) := Box2.newAt rfl
  have z4 := z3.alloc (.cells #[.int .i64 (sumT T B U C : Nat), .int .i64 (sumN' T B U C : Nat)] 24)
  have hb4 := hb3'.alloc hb3'.size (.cells #[.int .i64 (sumT T B U C : Nat), .int .i64 (sumN' T B U C : Nat)] 24)
  go_wp2_with fail
  refine (specFracIn_any _ _ _).mono ?_
  rintro e w5 ⟨rfl, hb5⟩
  rw [HF.out]
  have q5 := q3.later hb5
  have z5 := z4.later hb5
  have hb5' := hb4.trans (hb5.mono hb4.size)
  have k0 := z5.cell0
  have k1 := z5.cell1
  have f0 := z5.frozen0
  have f1 := z5.frozen1
  have q0 := q5.cell0
  have q1 := q5.cell1
  clear hb5 hb4 z4 q3 z3 hb3' HF
  rw [decide_eq_false (by omega)]
  go_wp2_with fail
  refine bodyPost_ret (v := .tuple #[.agg #[.int .i64 0, .int .i64 0], .bool false]) (by simp [results, Try.results9, go_sem, (z5.set' _ _).cell0, (z5.set' _ _).cell1]) rfl ⟨rfl, ?_⟩
  exact (hb5'.setCell (p := ⟨w.heap.size + 1 + 1, 0, none⟩) (by simp; omega) _).setCell (p := ⟨w.heap.size + 1 + 1, 1, none⟩) (by simp; omega) _

set_option maxHeartbeats 2000000 in
theorem specSumOf_yes (T B U C : Nat) (h : FOk T B) (h' : FOk U C) (hle : sumN' T B U C ≤ 1000) : GivesF 9 #[.agg #[.int .i64 T, .int .i64 B], .agg #[.int .i64 U, .int .i64 C]] (sumT T B U C) (sumN' T B U C) true := by
  intro w
  have h1 := h.fin
  have h2 := h'.fin
  have hT := h.lt; have hB := h.bot; have hU := h'.lt; have hC := h'.bot
  obtain ⟨r1, r2, r3, r4, r5, r6⟩ := red_ok (sm_lt (T := T) (U := U) (show 0 < B by omega) (show 0 < C by omega))
  have hsl := sm_lt (T := T) (U := U) (show 0 < B by omega) (show 0 < C by omega)
  have hbc : B * C ≤ 1000 * 1000 := Nat.mul_le_mul hB hC
  have hbc0 : 0 < B * C := Nat.mul_pos (by omega) (by omega)
  have htc : T * C ≤ 1000 * 1000 := Nat.mul_le_mul (by omega) hC
  have hub : U * B ≤ 1000 * 1000 := Nat.mul_le_mul (by omega) hB
  have i1 : ((B * C : Nat) : Int) = (B : Int) * C := by simp
  have i2 : ((T * C : Nat) : Int) = (T : Int) * C := by simp
  have i3 : ((U * B : Nat) : Int) = (U : Int) * B := by simp
  have i4 : (B : Int) * C ≤ 1000000 := by omega
  have i5 : (0 : Int) < (B : Int) * C := by omega
  have i6 : (T : Int) * C ≤ 1000000 := by omega
  have i7 : (0 : Int) ≤ (T : Int) * C := by omega
  have i8 : (U : Int) * B ≤ 1000000 := by omega
  have i9 : (0 : Int) ≤ (U : Int) * B := by omega
  have i0 : ¬ (B : Int) * C = 0 := by omega
  have HR : Hid (∀ wx, Calls Try.prog 25 #[.int .i64 (((T : Int) * C + U * B) % ((B : Int) * C)), .int .i64 ((B : Int) * C)] wx fun e w' => e = .returned (.agg #[.int .i64 (sumT T B U C : Nat), .int .i64 (sumN' T B U C : Nat)]) ∧ Below wx.heap.size wx w') := fun wx => by
    rw [sum_cast, ← i1]
    exact reduced_nat _ _ wx hbc0 (by omega) (by omega)
  have HF : Hid (finB (sumT T B U C : Nat) (sumN' T B U C : Nat) = decide (sumN' T B U C ≤ 1000)) := by
    by_cases hle : sumN' T B U C ≤ 1000
    · rw [decide_eq_true hle]; exact FOk.fin ⟨r1, hle, r2⟩
    · rw [decide_eq_false hle]; exact finB_false_of (by omega)
  clear r1 r2 r3 r4 r5 r6 hsl h h' i1 i2 i3
  go_enter Try.func9, Try.ntmps9
  go_wp2_with fail
  refine (specFracIn_any _ _ _).mono ?_
  rintro e w1 ⟨rfl, hb1⟩
  rw [h1]
  have x1 : Box2 w1 w.heap.size 24 (.int .i64 T) (.int .i64 B) := (((Box2.newAt rfl).alloc _).alloc _).later hb1
  have y1 : Box2 w1 (w.heap.size + 1) 24 (.int .i64 U) (.int .i64 C) := ((Box2.newAt (by simp)).alloc _).later hb1
  have z1 : Box2 w1 (w.heap.size + 1 + 1) 24 (.int .i64 0) (.int .i64 0) := (Box2.newAt (by simp)).later hb1
  have y0 := y1.cell0
  have y1' := y1.cell1
  have hb := bel3 hb1
  clear hb1
  go_wp2_with fail
  refine (specFracIn_any _ _ _).mono ?_
  rintro e w2 ⟨rfl, hb2⟩
  rw [h2]
  have x2 := x1.later hb2
  have y2 := y1.later hb2
  have z2 := z1.later hb2
  have x0 := x2.cell0
  have x1' := x2.cell1
  have y0 := y2.cell0
  have y1' := y2.cell1
  have hbb := hb.trans (hb2.mono hb.size)
  clear hb2 hb z1 y1 x1 h1 h2
  go_wp2_with fail
  refine (HR.out _).mono ?_
  rintro e w3 ⟨rfl, hb3⟩
  have z3 := z2.later hb3
  have hb3' := hbb.trans (hb3.mono hbb.size)
  clear hb3 hbb z2 y2 x2 x0 x1' y0 y1' i4 i5 i6 i7 i8 i9 i0 HR
  have q3 : Box2 (w3.alloc (.cells #[.int .i64 (sumT T B U C : Nat), .int .i64 (sumN' T B U C : Nat)] 24)) w3.heap.size 24 (.int .i64 (sumT T B U C : Nat)) (.int .i64 (sumN' T B U C : Nat)) := Box2.newAt rfl
  have z4 := z3.alloc (.cells #[.int .i64 (sumT T B U C : Nat), .int .i64 (sumN' T B U C : Nat)] 24)
  have hb4 := hb3'.alloc hb3'.size (.cells #[.int .i64 (sumT T B U C : Nat), .int .i64 (sumN' T B U C : Nat)] 24)
  go_wp2_with fail
  refine (specFracIn_any _ _ _).mono ?_
  rintro e w5 ⟨rfl, hb5⟩
  rw [HF.out]
  have q5 := q3.later hb5
  have z5 := z4.later hb5
  have hb5' := hb4.trans (hb5.mono hb4.size)
  have k0 := z5.cell0
  have k1 := z5.cell1
  have f0 := z5.frozen0
  have f1 := z5.frozen1
  have q0 := q5.cell0
  have q1 := q5.cell1
  clear hb5 hb4 z4 q3 z3 hb3' HF
  rw [decide_eq_true hle]
  go_wp2_with fail
  refine bodyPost_ret (v := .tuple #[.agg #[.int .i64 (sumT T B U C : Nat), .int .i64 (sumN' T B U C : Nat)], .bool true]) (by simp [results, Try.results9, go_sem, (z5.set' _ _).cell0, (z5.set' _ _).cell1]) rfl ⟨rfl, ?_⟩
  exact (hb5'.setCell (p := ⟨w.heap.size + 1 + 1, 0, none⟩) (by simp; omega) _).setCell (p := ⟨w.heap.size + 1 + 1, 1, none⟩) (by simp; omega) _

set_option maxHeartbeats 2000000 in
theorem specSumTimes_no (t n k : Int) (h : (finB t n && decide (0 ≤ k ∧ k ≤ 1000)) = false) : GivesF 13 #[.agg #[.int .i64 t, .int .i64 n], .int .i64 k] 0 0 false := by
  intro w
  cases h1 : finB t n with
  | false =>
    clear h
    go_enter Try.func13, Try.ntmps13
    go_wp2_with fail
    refine (specFracIn_any _ _ _).mono ?_
    rintro e w1 ⟨rfl, hb1⟩
    rw [h1]
    have z1 : Box2 w1 (w.heap.size + 1) 24 (.int .i64 0) (.int .i64 0) := (Box2.newAt (by simp)).later hb1
    have k0 := z1.cell0
    have k1 := z1.cell1
    have f0 := z1.frozen0
    have f1 := z1.frozen1
    have hb := bel2' hb1
    clear hb1
    go_wp2_with fail
    refine bodyPost_ret (v := .tuple #[.agg #[.int .i64 0, .int .i64 0], .bool false]) (by simp [results, Try.results13, go_sem, (z1.set' _ _).cell0, (z1.set' _ _).cell1]) rfl ⟨rfl, ?_⟩
    exact (hb.setCell (p := ⟨w.heap.size + 1, 0, none⟩) (by simp) _).setCell (p := ⟨w.heap.size + 1, 1, none⟩) (by simp) _
  | true =>
    rw [h1, Bool.true_and] at h
    go_enter Try.func13, Try.ntmps13
    go_wp2_with fail
    refine (specFracIn_any _ _ _).mono ?_
    rintro e w1 ⟨rfl, hb1⟩
    rw [h1]
    have z1 : Box2 w1 (w.heap.size + 1) 24 (.int .i64 0) (.int .i64 0) := (Box2.newAt (by simp)).later hb1
    have k0 := z1.cell0
    have k1 := z1.cell1
    have f0 := z1.frozen0
    have f1 := z1.frozen1
    have hb := bel2' hb1
    clear hb1
    go_wp2_with fail
    refine (l6In_any _ _ _ _).mono ?_
    rintro e w' ⟨rfl, rfl⟩
    rw [h]
    go_wp2_with fail
    refine bodyPost_ret (v := .tuple #[.agg #[.int .i64 0, .int .i64 0], .bool false]) (by simp [results, Try.results13, go_sem, (z1.set' _ _).cell0, (z1.set' _ _).cell1]) rfl ⟨rfl, ?_⟩
    exact (hb.setCell (p := ⟨w.heap.size + 1, 0, none⟩) (by simp) _).setCell (p := ⟨w.heap.size + 1, 1, none⟩) (by simp) _

set_option maxHeartbeats 2000000 in
theorem specSumTimes_yes (T B k : Nat) (h : FOk T B) (hk : k ≤ 1000) : GivesF 13 #[.agg #[.int .i64 T, .int .i64 B], .int .i64 k] (tmsT T B k) (tmsN T B k) true := by
  intro w
  have h1 := h.fin
  have hT := h.lt; have hB := h.bot
  have hkd : decide (0 ≤ (k : Int) ∧ (k : Int) ≤ 1000) = true := by simp; omega
  have htk : T * k ≤ 1000 * 1000 := Nat.mul_le_mul (by omega) hk
  have i2 : ((T * k : Nat) : Int) = (T : Int) * k := by simp
  have hmod : T * k % B < B := Nat.mod_lt _ (by omega)
  have HR : Hid (∀ wx, Calls Try.prog 25 #[.int .i64 ((T * k % B : Nat) : Int), .int .i64 B] wx fun e w' => e = .returned (.agg #[.int .i64 (tmsT T B k : Nat), .int .i64 (tmsN T B k : Nat)]) ∧ Below wx.heap.size wx w') := fun wx =>
    reduced_nat _ _ wx (by omega) (by omega) (by omega)
  have j1 : IntKind.i64.wrap ((T : Int) * k) = (T : Int) * k := IntWalk.i64_in _ (by omega)
  have j2 : ((T : Int) * k).tmod B = (T * k % B : Nat) := by
    rw [← i2, Int.tmod_eq_emod_of_nonneg (by omega)]; rfl
  have j3 : IntKind.i64.wrap ((T * k % B : Nat) : Int) = (T * k % B : Nat) := IntWalk.i64_in _ (by omega)
  have hB0 : ¬ B = 0 := by omega
  revert HR j2 j3
  generalize T * k % B = x at *
  intro HR j2 j3
  clear h i2 htk
  go_enter Try.func13, Try.ntmps13
  go_wp2_with fail
  refine (specFracIn_any _ _ _).mono ?_
  rintro e w1 ⟨rfl, hb1⟩
  rw [h1]
  have z1 : Box2 w1 (w.heap.size + 1) 24 (.int .i64 0) (.int .i64 0) := (Box2.newAt (by simp)).later hb1
  have x1 : Box2 w1 w.heap.size 24 (.int .i64 T) (.int .i64 B) := ((Box2.newAt rfl).alloc _).later hb1
  have hb := bel2' hb1
  clear hb1 h1
  go_wp2_with fail
  refine (l6In_any _ _ _ _).mono ?_
  rintro e w' ⟨rfl, rfl⟩
  rw [hkd]
  have dx : Box2 w1.drew w.heap.size 24 (.int .i64 T) (.int .i64 B) := x1
  have dz : Box2 w1.drew (w.heap.size + 1) 24 (.int .i64 0) (.int .i64 0) := z1
  have x0 := dx.cell0
  have x1' := dx.cell1
  clear x1 z1 hkd
  go_wp2_with fail
  go_region_with (go_at_call 25; with_reducible refine Calls.mono (HR.out _) ?_; rintro e w4 ⟨rfl, hb4⟩; have z4 := Box2.later dz hb4; have x4 := Box2.later dx hb4; have hz0 := z4.cell0; have hz1 := z4.cell1; have hf0 := z4.frozen0; have hf1 := z4.frozen1; have hx0 := x4.cell0; have hx1 := x4.cell1)
  all_goals (
    go_wp2
    refine bodyPost_ret (v := .tuple #[.agg #[.int .i64 (tmsT T B k), .int .i64 (tmsN T B k)], .bool true]) (by simp [results, Try.results13, go_sem, (z4.set' _ _).cell0, (z4.set' _ _).cell1]) rfl ⟨rfl, ?_⟩
    have hbx : Below w.heap.size w w4 := hb.drew.trans (hb4.mono hb.size)
    exact (hbx.setCell (p := ⟨w.heap.size + 1, 0, none⟩) (by simp) _).setCell (p := ⟨w.heap.size + 1, 1, none⟩) (by simp) _)

set_option maxHeartbeats 2000000 in
theorem specSumLengths_no (b t n u m : Int) (h : (tldB b t n && tldB b u m) = false) : GivesI 20 #[.int .i64 b, .agg #[.int .i64 t, .int .i64 n], .agg #[.int .i64 u, .int .i64 m]] 0 false := by
  intro w
  cases h1 : tldB b t n with
  | false =>
    clear h
    go_enter Try.func20, Try.ntmps20
    go_wp2_with fail
    refine (l1Given_any _ _ _ _).mono ?_
    rintro e w1 ⟨rfl, hb1⟩
    rw [h1]
    have hb := bel2' hb1
    go_wp2_with fail
    go_ret2
    exact ⟨rfl, hb⟩
  | true =>
    rw [h1, Bool.true_and] at h
    go_enter Try.func20, Try.ntmps20
    go_wp2_with fail
    refine (l1Given_any _ _ _ _).mono ?_
    rintro e w1 ⟨rfl, hb1⟩
    rw [h1]
    have y1 : Box2 w1 (w.heap.size + 1) 24 (.int .i64 u) (.int .i64 m) := (Box2.newAt (by simp)).later hb1
    have y0 := y1.cell0
    have y1' := y1.cell1
    have hb := bel2' hb1
    clear hb1
    go_wp2_with fail
    refine (l1Given_any _ _ _ _).mono ?_
    rintro e w2 ⟨rfl, hb2⟩
    rw [h]
    have hbb := hb.trans (hb2.mono hb.size)
    go_wp2_with fail
    go_ret2
    exact ⟨rfl, hbb⟩

theorem lcm_cast (m k : Nat) : (m : Int) / (Nat.gcd m k : Nat) * k = (lcmL m k : Nat) := by unfold lcmL; simp

set_option maxHeartbeats 2000000 in
theorem specSumLengths_yes (b T B U C n m i k : Nat) (h3 : 2 ≤ b) (h4 : b ≤ 16) (h : FOk T B) (h' : FOk U C) (hm : IsLen b T B n m) (hk : IsLen b U C i k) :
    GivesI 20 #[.int .i64 b, .agg #[.int .i64 T, .int .i64 B], .agg #[.int .i64 U, .int .i64 C]] (lcmL m k) true := by
  intro w
  have t1 := h.told h3 h4
  have t2 := h'.told h3 h4
  have hT := h.lt; have hB := h.bot; have hU := h'.lt; have hC := h'.bot
  have hml := hm.le hT
  have hkl := hk.le hU
  have hmp := hm.pos
  have hkp := hk.pos
  have hg1 : 0 < Nat.gcd m k := Nat.gcd_pos_of_pos_left _ hmp
  have hg2 : Nat.gcd m k ≤ m := Nat.gcd_le_left _ hmp
  have hdm : m / Nat.gcd m k ≤ m := Nat.div_le_self _ _
  have hlm : lcmL m k ≤ 1000 * 1000 := Nat.mul_le_mul (by omega) (by omega)
  have HC := Lib.hid (lcm_cast m k)
  have hg0 : ¬ Nat.gcd m k = 0 := by omega
  have q1 : (m : Int) / (Nat.gcd m k : Nat) ≤ 1000 := by
    have : ((m / Nat.gcd m k : Nat) : Int) ≤ 1000 := by omega
    exact this
  have q0 : (0 : Int) ≤ (m : Int) / (Nat.gcd m k : Nat) := Int.ediv_nonneg (by omega) (by omega)
  have q2 : (0 : Int) ≤ (m : Int) / (Nat.gcd m k : Nat) * k := by rw [HC.out]; omega
  have q3 : (m : Int) / (Nat.gcd m k : Nat) * k ≤ 1000000 := by rw [HC.out]; omega
  have HM := Lib.hid hm; have HK := Lib.hid hk
  clear h h' hm hk hdm hlm
  go_enter Try.func20, Try.ntmps20
  go_wp2_with fail
  refine (l1Given_any _ _ _ _).mono ?_
  rintro e w1 ⟨rfl, hb1⟩
  rw [t1]
  have x1 : Box2 w1 w.heap.size 24 (.int .i64 T) (.int .i64 B) := ((Box2.newAt rfl).alloc _).later hb1
  have y1 : Box2 w1 (w.heap.size + 1) 24 (.int .i64 U) (.int .i64 C) := (Box2.newAt (by simp)).later hb1
  have y0 := y1.cell0
  have y1' := y1.cell1
  have hb := bel2' hb1
  clear hb1
  go_wp2_with fail
  refine (l1Given_any _ _ _ _).mono ?_
  rintro e w2 ⟨rfl, hb2⟩
  rw [t2]
  have x2 := x1.later hb2
  have y2 := y1.later hb2
  have x0 := x2.cell0
  have x1' := x2.cell1
  have hbb := hb.trans (hb2.mono hb.size)
  clear hb2 hb t1 t2 x1 y1 y0 y1'
  go_wp2_with fail
  refine (l1Lengths_any b T B _ hT hB h3 h4).mono ?_
  rintro e w3 ⟨n', m', hnm, rfl, hb3⟩
  obtain ⟨rfl, rfl⟩ := HM.out.unique hnm
  have y3 := y2.later hb3
  have y0 := y3.cell0
  have y1' := y3.cell1
  have hb4 := hbb.trans (hb3.mono hbb.size)
  clear hb3 hbb x2 y2 x0 x1' hnm
  go_wp2_with fail
  refine (l1Lengths_any b U C _ hU hC h3 h4).mono ?_
  rintro e w5 ⟨n', m', hnm, rfl, hb5⟩
  obtain ⟨rfl, rfl⟩ := HK.out.unique hnm
  have hb6 := hb4.trans (hb5.mono hb4.size)
  clear hb5 hb4 y3 y0 y1' hnm
  go_wp2_with fail
  refine (l1Gcd_any _ _ _ (by omega) (by omega) (by omega) (by omega)).mono ?_
  rintro e w7 ⟨rfl, rfl⟩
  rw [gcdI_nat]
  go_wp2_with fail
  go_ret2
  rw [← HC.out]
  exact ⟨rfl, hb6⟩

end Go.Proofs.Ytoiofkijinlllac
