/-
  Chapter 6, the program's side: sums of fractions behind the interface.
-/
import Derived.Test.YtoiofkijinlllabSumX
namespace Go.Proofs.Ytoiofkijinlllab
open Go.RowKit

/-- A block of its own with four cells. -/
def Box4 (W : World) (B : Nat) (T : TypeId) (a b c d : Value) : Prop := W.heap[B]? = some (.cells #[a, b, c, d] T)
theorem Box4.new (W : World) (T : TypeId) (a b c d : Value) : Box4 (W.alloc (.cells #[a, b, c, d] T)) W.heap.size T a b c d := heap_alloc_new W _
theorem Box4.lt {W : World} {B : Nat} {T : TypeId} {a b c d : Value} (h : Box4 W B T a b c d) : B < W.heap.size := (Array.getElem?_eq_some_iff.1 h).1
theorem Box4.later {W W' : World} {B : Nat} {T : TypeId} {a b c d : Value} (h : Box4 W B T a b c d) (hb : Below W.heap.size W W') : Box4 W' B T a b c d := (hb.block B h.lt).trans h
theorem Box4.cell0 {W : World} {B : Nat} {T : TypeId} {a b c d : Value} (h : Box4 W B T a b c d) : W.cell? ⟨B, 0, none⟩ = some a := by simp [World.cell?, show W.heap[B]? = _ from h]
theorem Box4.cell1 {W : World} {B : Nat} {T : TypeId} {a b c d : Value} (h : Box4 W B T a b c d) : W.cell? ⟨B, 1, none⟩ = some b := by simp [World.cell?, show W.heap[B]? = _ from h]
theorem Box4.cell2 {W : World} {B : Nat} {T : TypeId} {a b c d : Value} (h : Box4 W B T a b c d) : W.cell? ⟨B, 2, none⟩ = some c := by simp [World.cell?, show W.heap[B]? = _ from h]
theorem Box4.cell3 {W : World} {B : Nat} {T : TypeId} {a b c d : Value} (h : Box4 W B T a b c d) : W.cell? ⟨B, 3, none⟩ = some d := by simp [World.cell?, show W.heap[B]? = _ from h]

set_option maxHeartbeats 1000000 in
theorem fracSumTold_any (t n u m : Int) (w : World) :
    Calls Try.prog 79 #[.agg #[.int .i64 t, .int .i64 n, .int .i64 u, .int .i64 m]] w fun e w' => e = .returned (.bool (finB t n && finB u m)) ∧ Below w.heap.size w w' := by
  have hb0 : Below w.heap.size w (w.alloc (.cells #[.int .i64 t, .int .i64 n, .int .i64 u, .int .i64 m] 67)) := (Below.refl _ _).alloc (Nat.le_refl _) _
  have q0 := Box4.new w 67 (.int .i64 t) (.int .i64 n) (.int .i64 u) (.int .i64 m)
  cases h : finB t n with
  | false =>
    go_enter Try.func79, Try.ntmps79
    go_wp2_with fail
    refine (implFracIn_any _ _ _).mono ?_
    rintro e w1 ⟨rfl, hb1⟩
    rw [h]
    have hb := hb0.trans (hb1.mono hb0.size)
    go_wp2_with fail
    go_ret
    exact ⟨rfl, hb⟩
  | true =>
    go_enter Try.func79, Try.ntmps79
    go_wp2_with fail
    refine (implFracIn_any _ _ _).mono ?_
    rintro e w1 ⟨rfl, hb1⟩
    rw [h]
    have hb := hb0.trans (hb1.mono hb0.size)
    have q1 := q0.later hb1
    have k2 := q1.cell2
    have k3 := q1.cell3
    clear hb0 q0 hb1
    go_wp2_with fail
    refine (implFracIn_any _ _ _).mono ?_
    rintro e w2 ⟨rfl, hb2⟩
    have hbb := hb.trans (hb2.mono hb.size)
    go_wp2_with fail
    go_ret
    exact ⟨by rw [Bool.true_and]; rfl, hbb⟩

theorem sum_castX (T B U C : Nat) : ((T : Int) * C + U * B) % ((B : Int) * C) = (smT T B U C : Nat) := by unfold smT; simp

set_option maxHeartbeats 2000000 in
theorem fracSumTotal_any (T B U C : Nat) (w : World) (h : FOk T B) (h' : FOk U C) :
    Calls Try.prog 41 #[.agg #[.int .i64 T, .int .i64 B, .int .i64 U, .int .i64 C]] w fun e w' => e = .returned (.agg #[.int .i64 (sumT T B U C : Nat), .int .i64 (sumN' T B U C : Nat)]) ∧ Below w.heap.size w w' := by
  have hT := h.lt; have hB := h.bot; have hU := h'.lt; have hC := h'.bot
  have hsl := sm_lt (T := T) (U := U) (show 0 < B by omega) (show 0 < C by omega)
  have hbc : B * C ≤ 1000 * 1000 := Nat.mul_le_mul hB hC
  have hbc0 : 0 < B * C := Nat.mul_pos (by omega) (by omega)
  have htc : T * C ≤ 1000 * 1000 := Nat.mul_le_mul (by omega) hC
  have hub : U * B ≤ 1000 * 1000 := Nat.mul_le_mul (by omega) hB
  have i1 : ((B * C : Nat) : Int) = (B : Int) * C := by simp
  have i2 : ((T * C : Nat) : Int) = (T : Int) * C := by simp
  have i3 : ((U * B : Nat) : Int) = (U : Int) * B := by simp
  have i4 : (B : Int) * C ≤ 1000000 := by omega
  have i5 : (0 : Int) < (B : Int) * C := by omega
  have i6 : (T : Int) * C ≤ 1000000 := by omega
  have i7 : (0 : Int) ≤ (T : Int) * C := by omega
  have i8 : (U : Int) * B ≤ 1000000 := by omega
  have i9 : (0 : Int) ≤ (U : Int) * B := by omega
  have i0 : ¬ (B : Int) * C = 0 := by omega
  have HR : Hid (∀ wx, Calls Try.prog 51 #[.int .i64 (((T : Int) * C + U * B) % ((B : Int) * C)), .int .i64 ((B : Int) * C)] wx fun e w' => e = .returned (.agg #[.int .i64 (sumT T B U C : Nat), .int .i64 (sumN' T B U C : Nat)]) ∧ Below wx.heap.size wx w') := fun wx => by
    rw [sum_castX, ← i1]
    exact lowest_red _ _ wx hbc0 (by omega) (by omega)
  have hb0 : Below w.heap.size w ((w.alloc (.cells #[.int .i64 T, .int .i64 B, .int .i64 U, .int .i64 C] 67)).alloc (.cells #[.int .i64 0, .int .i64 0] 33)) := ((Below.refl _ _).alloc (Nat.le_refl _) _).alloc (by simp) _
  have z0 : Box2 ((w.alloc (.cells #[.int .i64 T, .int .i64 B, .int .i64 U, .int .i64 C] 67)).alloc (.cells #[.int .i64 0, .int .i64 0] 33)) (w.heap.size + 1) 33 (.int .i64 0) (.int .i64 0) := Box2.newAt (by simp)
  clear h h' hsl i1 i2 i3
  go_enter Try.func41, Try.ntmps41
  go_wp2_with fail
  refine (HR.out _).mono ?_
  rintro e w1 ⟨rfl, hb1⟩
  have z1 := z0.later hb1
  have hb := hb0.trans (hb1.mono hb0.size)
  have k0 := z1.cell0
  have k1 := z1.cell1
  have f0 := z1.frozen0
  have f1 := z1.frozen1
  clear z0 hb0 hb1 HR i4 i5 i6 i7 i8 i9 i0
  go_wp2_with fail
  refine bodyPost_ret (v := .agg #[.int .i64 (sumT T B U C : Nat), .int .i64 (sumN' T B U C : Nat)]) (by simp [results, Try.results41, go_sem, (z1.set' _ _).cell0, (z1.set' _ _).cell1]) rfl ⟨rfl, ?_⟩
  exact (hb.setCell (p := ⟨w.heap.size + 1, 0, none⟩) (by simp) _).setCell (p := ⟨w.heap.size + 1, 1, none⟩) (by simp) _

theorem told_method (v : Value) (w : World) : (Go.method 209 67 v "loop.example/fractionrounds/impl.told").run Try.prog w = .ok (79, v) w := by kernel_rfl

theorem frac_assert (v : Value) (w : World) : (Instr.typeAssert (.iface 67 v) 64 67 true).run Try.prog w = .ok (.tuple #[v, .bool true]) w := by kernel_rfl

set_option maxHeartbeats 2000000 in
theorem addedFrac_no (t n u m : Int) (w : World) (h : (finB t n && finB u m) = false) :
    Calls Try.prog 24 #[.iface 67 (.agg #[.int .i64 t, .int .i64 n, .int .i64 u, .int .i64 m])] w fun e w' => e = .returned (.tuple #[.agg #[.int .i64 0, .int .i64 0], .slice none 0 0, .bool false]) ∧ Below w.heap.size w w' := by
  have HM := told_method (.agg #[.int .i64 t, .int .i64 n, .int .i64 u, .int .i64 m])
  go_enter Try.func24, Try.ntmps24
  go_wp2_with fail
  refine (fracSumTold_any _ _ _ _ _).mono ?_
  rintro e w1 ⟨rfl, hb1⟩
  rw [h]
  have z1 : Box2 w1 w.heap.size 33 (.int .i64 0) (.int .i64 0) := (Box2.new w 33 _ _).later hb1
  have k0 := z1.cell0
  have k1 := z1.cell1
  have f0 := z1.frozen0
  have f1 := z1.frozen1
  have hb := bel1 hb1
  clear hb1 HM
  go_wp2_with fail
  refine bodyPost_ret (v := .tuple #[.agg #[.int .i64 0, .int .i64 0], .slice none 0 0, .bool false]) (by simp [results, Try.results24, go_sem, (z1.set' _ _).cell0, (z1.set' _ _).cell1]) rfl ⟨rfl, ?_⟩
  exact (hb.setCell (p := ⟨w.heap.size, 0, none⟩) (Nat.le_refl _) _).setCell (p := ⟨w.heap.size, 1, none⟩) (Nat.le_refl _) _

set_option maxHeartbeats 4000000 in
theorem addedFrac_is (T B U C : Nat) (w : World) (h : FOk T B) (h' : FOk U C) (p : Bool) (xr yr : Int) (hp : decide (sumN' T B U C ≤ 1000) = p) (hx : p = true → xr = (sumT T B U C : Nat) ∧ yr = (sumN' T B U C : Nat)) (hz : p = false → xr = 0 ∧ yr = 0) :
    Calls Try.prog 24 #[.iface 67 (.agg #[.int .i64 T, .int .i64 B, .int .i64 U, .int .i64 C])] w fun e w' => e = .returned (.tuple #[.agg #[.int .i64 xr, .int .i64 yr], .slice none 0 0, .bool p]) ∧ Below w.heap.size w w' := by
  have HM := told_method (.agg #[.int .i64 T, .int .i64 B, .int .i64 U, .int .i64 C])
  have HA := frac_assert (.agg #[.int .i64 T, .int .i64 B, .int .i64 U, .int .i64 C])
  have TO := Lib.hid (fun wx => fracSumTotal_any T B U C wx h h')
  have ht : (finB T B && finB U C) = true := by rw [h.fin, h'.fin]; rfl
  have hbd : sumN' T B U C ≤ 1000000 := by
    have h1 := (red_ok (sm_lt (T := T) (U := U) (show 0 < B by have := h.lt; omega) (show 0 < C by have := h'.lt; omega))).2.2.1
    have h2 : B * C ≤ 1000 * 1000 := Nat.mul_le_mul h.bot h'.bot
    show redN (smT T B U C) (B * C) ≤ 1000000
    omega
  obtain ⟨X, hX⟩ : ∃ X, sumT T B U C = X := ⟨_, rfl⟩
  obtain ⟨Y, hY⟩ : ∃ Y, sumN' T B U C = Y := ⟨_, rfl⟩
  rw [hX, hY] at TO
  rw [hY] at hp hbd
  rw [hX, hY] at hx
  clear h h' hX hY
  go_enter Try.func24, Try.ntmps24
  go_wp2_with fail
  refine (fracSumTold_any _ _ _ _ _).mono ?_
  rintro e w1 ⟨rfl, hb1⟩
  rw [ht]
  have z1 : Box2 w1 w.heap.size 33 (.int .i64 0) (.int .i64 0) := (Box2.new w 33 _ _).later hb1
  have hb := bel1 hb1
  clear hb1 HM ht
  go_wp2_with fail
  refine (TO.out _).mono ?_
  rintro e w2 ⟨rfl, hb2⟩
  have z20 := (z1.alloc (.cells #[.int .i64 T, .int .i64 B, .int .i64 U, .int .i64 C] 67)).later hb2
  have z2 := z20.alloc (.cells #[.int .i64 X, .int .i64 Y] 33)
  have r0 := z20.cell0
  have r1 := z20.cell1
  have s0 := z20.frozen0
  have s1 := z20.frozen1
  have q2 := Box2.new w2 33 (.int .i64 X) (.int .i64 Y)
  have hba := hb.alloc hb.size (.cells #[.int .i64 T, .int .i64 B, .int .i64 U, .int .i64 C] 67)
  have hbb := hba.trans (hb2.mono hba.size)
  have hb3 := hbb.alloc hbb.size (.cells #[.int .i64 X, .int .i64 Y] 33)
  have k0 := z2.cell0
  have k1 := z2.cell1
  have f0 := z2.frozen0
  have f1 := z2.frozen1
  have q0 := q2.cell0
  have q1 := q2.cell1
  have hlt : w.heap.size < w2.heap.size := ((z1.alloc (.cells #[.int .i64 T, .int .i64 B, .int .i64 U, .int .i64 C] 67)).later hb2).lt
  clear z1 hb hba hb3 hb2 TO HA
  cases p with
  | true =>
    have hy : (Y : Int) ≤ 1000 := by have := of_decide_eq_true hp; omega
    obtain ⟨rfl, rfl⟩ := hx rfl
    clear hp hz
    go_wp2_with fail
    refine bodyPost_ret (v := .tuple #[.agg #[.int .i64 X, .int .i64 Y], .slice none 0 0, .bool true]) (by simp [results, Try.results24, go_sem, ((z20.set' (.int .i64 X) (.int .i64 Y)).alloc (.cells #[.int .i64 X, .int .i64 Y] 33)).cell0, ((z20.set' (.int .i64 X) (.int .i64 Y)).alloc (.cells #[.int .i64 X, .int .i64 Y] 33)).cell1]) rfl ⟨rfl, ?_⟩
    repeat (first | exact hbb | refine Below.alloc ?_ (by simp; omega) _ | refine Below.setCell ?_ (by simp) _)
  | false =>
    have hy : ¬ (Y : Int) ≤ 1000 := by have := of_decide_eq_false hp; omega
    obtain ⟨rfl, rfl⟩ := hz rfl
    clear hp hx
    go_wp2_with fail
    refine bodyPost_ret (v := .tuple #[.agg #[.int .i64 0, .int .i64 0], .slice none 0 0, .bool false]) (by simp [results, Try.results24, go_sem, ((z20.set' (.int .i64 0) (.int .i64 0)).alloc (.cells #[.int .i64 X, .int .i64 Y] 33)).cell0, ((z20.set' (.int .i64 0) (.int .i64 0)).alloc (.cells #[.int .i64 X, .int .i64 Y] 33)).cell1]) rfl ⟨rfl, ?_⟩
    repeat (first | exact hbb | refine Below.alloc ?_ (by simp; omega) _ | refine Below.setCell ?_ (by simp) _)


end Go.Proofs.Ytoiofkijinlllab
