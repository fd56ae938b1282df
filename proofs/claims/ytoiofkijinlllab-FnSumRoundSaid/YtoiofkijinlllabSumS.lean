/-
  Sums of fractions: the model's side.
-/
import Derived.Test.YtoiofkijinlllabSumI
import Derived.Test.YtoiofkijinlllabRed
import Derived.Test.YtoiofkijinlllabOther
import Derived.Test.YtoiofkijinlllabGRnd
import Derived.Deep.RegionHeld3
namespace Go.Proofs.Ytoiofkijinlllab
open Go.RowKit

theorem bel3 {w w1 : World} {o o' o'' : Obj} (hb : Below (((w.alloc o).alloc o').alloc o'').heap.size (((w.alloc o).alloc o').alloc o'') w1) : Below w.heap.size w w1 :=
  ((((Below.refl w.heap.size w).alloc (Nat.le_refl _) o).alloc (by simp) o').alloc (by simp; omega) o'').trans (hb.mono (by simp; omega))

theorem reduced_nat (t n : Nat) (w : World) (hn : 0 < n) (ht : t ≤ 100000000000) (hn2 : n ≤ 100000000000) :
    Calls Try.prog 60 #[.int .i64 t, .int .i64 n] w fun e w' => e = .returned (.agg #[.int .i64 (redT t n : Nat), .int .i64 (redN t n : Nat)]) ∧ Below w.heap.size w w' := by
  have := l2Reduced_int (t : Int) (n : Int) w (by omega) (by omega) (by omega) (by omega)
  rw [gcdI_nat] at this
  exact this

theorem sum_cast (T B U C : Nat) : ((T : Int) * C + U * B) % ((B : Int) * C) = (smT T B U C : Nat) := by unfold smT; simp



set_option maxHeartbeats 2000000 in
theorem specSumLengths_no (b t n u m : Int) (h : (tldB b t n && tldB b u m) = false) : GivesI 13 #[.int .i64 b, .agg #[.int .i64 t, .int .i64 n], .agg #[.int .i64 u, .int .i64 m]] 0 false := by
  intro w
  cases h1 : tldB b t n with
  | false =>
    clear h
    go_enter Try.func13, Try.ntmps13
    go_wp2_with fail
    refine (l1Given_any _ _ _ _).mono ?_
    rintro e w1 ⟨rfl, hb1⟩
    rw [h1]
    have hb := bel2' hb1
    go_wp2_with fail
    go_ret2
    exact ⟨rfl, hb⟩
  | true =>
    rw [h1, Bool.true_and] at h
    go_enter Try.func13, Try.ntmps13
    go_wp2_with fail
    refine (l1Given_any _ _ _ _).mono ?_
    rintro e w1 ⟨rfl, hb1⟩
    rw [h1]
    have y1 : Box2 w1 (w.heap.size + 1) 33 (.int .i64 u) (.int .i64 m) := (Box2.newAt (by simp)).later hb1
    have y0 := y1.cell0
    have y1' := y1.cell1
    have hb := bel2' hb1
    clear hb1
    go_wp2_with fail
    refine (l1Given_any _ _ _ _).mono ?_
    rintro e w2 ⟨rfl, hb2⟩
    rw [h]
    have hbb := hb.trans (hb2.mono hb.size)
    go_wp2_with fail
    go_ret2
    exact ⟨rfl, hbb⟩

theorem lcm_cast (m k : Nat) : (m : Int) / (Nat.gcd m k : Nat) * k = (lcmL m k : Nat) := by unfold lcmL; simp

set_option maxHeartbeats 2000000 in
theorem specSumLengths_yes (b T B U C n m i k : Nat) (h3 : 2 ≤ b) (h4 : b ≤ 16) (h : FOk T B) (h' : FOk U C) (hm : IsLen b T B n m) (hk : IsLen b U C i k) :
    GivesI 13 #[.int .i64 b, .agg #[.int .i64 T, .int .i64 B], .agg #[.int .i64 U, .int .i64 C]] (lcmL m k) true := by
  intro w
  have t1 := h.told h3 h4
  have t2 := h'.told h3 h4
  have hT := h.lt; have hB := h.bot; have hU := h'.lt; have hC := h'.bot
  have hml := hm.le hT
  have hkl := hk.le hU
  have hmp := hm.pos
  have hkp := hk.pos
  have hg1 : 0 < Nat.gcd m k := Nat.gcd_pos_of_pos_left _ hmp
  have hg2 : Nat.gcd m k ≤ m := Nat.gcd_le_left _ hmp
  have hdm : m / Nat.gcd m k ≤ m := Nat.div_le_self _ _
  have hlm : lcmL m k ≤ 1000 * 1000 := Nat.mul_le_mul (by omega) (by omega)
  have HC := Lib.hid (lcm_cast m k)
  have hg0 : ¬ Nat.gcd m k = 0 := by omega
  have q1 : (m : Int) / (Nat.gcd m k : Nat) ≤ 1000 := by
    have : ((m / Nat.gcd m k : Nat) : Int) ≤ 1000 := by omega
    exact this
  have q0 : (0 : Int) ≤ (m : Int) / (Nat.gcd m k : Nat) := Int.ediv_nonneg (by omega) (by omega)
  have q2 : (0 : Int) ≤ (m : Int) / (Nat.gcd m k : Nat) * k := by rw [HC.out]; omega
  have q3 : (m : Int) / (Nat.gcd m k : Nat) * k ≤ 1000000 := by rw [HC.out]; omega
  have HM := Lib.hid hm; have HK := Lib.hid hk
  clear h h' hm hk hdm hlm
  go_enter Try.func13, Try.ntmps13
  go_wp2_with fail
  refine (l1Given_any _ _ _ _).mono ?_
  rintro e w1 ⟨rfl, hb1⟩
  rw [t1]
  have x1 : Box2 w1 w.heap.size 33 (.int .i64 T) (.int .i64 B) := ((Box2.newAt rfl).alloc _).later hb1
  have y1 : Box2 w1 (w.heap.size + 1) 33 (.int .i64 U) (.int .i64 C) := (Box2.newAt (by simp)).later hb1
  have y0 := y1.cell0
  have y1' := y1.cell1
  have hb := bel2' hb1
  clear hb1
  go_wp2_with fail
  refine (l1Given_any _ _ _ _).mono ?_
  rintro e w2 ⟨rfl, hb2⟩
  rw [t2]
  have x2 := x1.later hb2
  have y2 := y1.later hb2
  have x0 := x2.cell0
  have x1' := x2.cell1
  have hbb := hb.trans (hb2.mono hb.size)
  clear hb2 hb t1 t2 x1 y1 y0 y1'
  go_wp2_with fail
  refine (l1Lengths_any b T B _ hT hB h3 h4).mono ?_
  rintro e w3 ⟨n', m', hnm, rfl, hb3⟩
  obtain ⟨rfl, rfl⟩ := HM.out.unique hnm
  have y3 := y2.later hb3
  have y0 := y3.cell0
  have y1' := y3.cell1
  have hb4 := hbb.trans (hb3.mono hbb.size)
  clear hb3 hbb x2 y2 x0 x1' hnm
  go_wp2_with fail
  refine (l1Lengths_any b U C _ hU hC h3 h4).mono ?_
  rintro e w5 ⟨n', m', hnm, rfl, hb5⟩
  obtain ⟨rfl, rfl⟩ := HK.out.unique hnm
  have hb6 := hb4.trans (hb5.mono hb4.size)
  clear hb5 hb4 y3 y0 y1' hnm
  go_wp2_with fail
  refine (l1Gcd_any _ _ _ (by omega) (by omega) (by omega) (by omega)).mono ?_
  rintro e w7 ⟨rfl, rfl⟩
  rw [gcdI_nat]
  go_wp2_with fail
  go_ret2
  rw [← HC.out]
  exact ⟨rfl, hb6⟩

end Go.Proofs.Ytoiofkijinlllab
