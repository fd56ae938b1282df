/-
  The shifted fraction: the model's, at a fraction.
-/
import Derived.Test.YtdbijigbggjmgaaShift
import Derived.Deep.RegionWith
import Derived.BigRegion
namespace Go.Proofs.Ytdbijigbggjmgaa
open Go.RowKit

set_option maxHeartbeats 1000000 in
theorem specRestShift_yes (b T B k : Nat) (h : tldB b T B = true) (hT : T < B) (hg : Nat.gcd T B = 1) (hB : B ≤ 1000) (h3 : 2 ≤ b) (h4 : b ≤ 16) (hk : k ≤ 200) :
    GivesF 7 #[.int .i64 b, .agg #[.int .i64 T, .int .i64 B], .int .i64 k] (frT b T B k).1 (frT b T B k).2 true := by
  intro w
  have hkb : decide ((k : Int) ≤ 200) = true := by simp; omega
  have HG := Lib.hid hg; clear hg
  go_enter Try.func7, Try.ntmps7
  go_wp2_with fail
  refine (l1Given_any _ _ _ _).mono ?_
  rintro e w1 ⟨rfl, hb1⟩
  have z1 : Box2 w1 (w.heap.size + 1) 24 (.int .i64 0) (.int .i64 0) := (Box2.newAt (by simp)).later hb1
  have x1 : Box2 w1 w.heap.size 24 (.int .i64 T) (.int .i64 B) := ((Box2.newAt rfl).alloc _).later hb1
  have k0 := z1.cell0
  have k1 := z1.cell1
  have f0 := z1.frozen0
  have f1 := z1.frozen1
  have x0 := x1.cell0
  have x1' := x1.cell1
  go_wp2_with fail
  refine (l6In_any _ _ _ _).mono ?_
  rintro e w' ⟨rfl, rfl⟩
  go_wp2_with fail
  have hb0 := bel2' hb1
  have dx : Box2 w1.drew w.heap.size 24 (.int .i64 T) (.int .i64 B) := x1
  have dz : Box2 w1.drew (w.heap.size + 1) 24 (.int .i64 0) (.int .i64 0) := z1
  clear z1 x1 k0 k1 f0 f1
  have i1 : IntKind.i64.wrap ((k : Int) + 1) = (k : Int) + 1 := IntWalk.i64_in _ (by omega)
  have i2 : (0 : Int) ≤ (k : Int) := by omega
  have i3 : (k : Int) < ((k + 1 : Nat) : Int) := by omega
  have i4 : (k : Int) < (k : Int) + 1 := by omega
  go_region_with
    (first | (go_at_call 20; refine (l2List_get b T B k _ hT hB h3 h4 (by omega)).mono ?_; rintro e w2 ⟨g2, o2, c2, rfl, kc, hb2⟩; have x2 := Box2.later dx hb2; have z2 := Box2.later dz hb2; have e0 := x2.cell0; have e1 := x2.cell1) | (go_at_call 19; refine (l2Reduced_rst b T B k _ hT HG.out hB).mono ?_; rintro e w4 ⟨rfl, hb4⟩; have x4 := Box2.later x2 hb4; have z4 := Box2.later z2 hb4; have i0 := x4.cell0; have i1 := x4.cell1; have hz0 := z4.cell0; have hz1 := z4.cell1; have hf0 := z4.frozen0; have hf1 := z4.frozen1))
  all_goals (
    go_wp2
    refine bodyPost_ret (v := .tuple #[.agg #[.int .i64 (frT b T B k).1, .int .i64 (frT b T B k).2], .bool true]) (by simp [results, Try.results7, go_sem, (z4.set' _ _).cell0, (z4.set' _ _).cell1]) rfl ⟨rfl, ?_⟩
    have hbx : Below w.heap.size w w2 := hb0.drew.trans (hb2.mono hb0.size)
    exact ((hbx.trans (hb4.mono hbx.size)).setCell (p := ⟨w.heap.size + 1, 0, none⟩) (by simp) _).setCell (p := ⟨w.heap.size + 1, 1, none⟩) (by simp) _)

/-- Both answer the same. -/
theorem both_shift (b t n k : Int) : ∃ x y p, GivesF 7 #[.int .i64 b, .agg #[.int .i64 t, .int .i64 n], .int .i64 k] x y p ∧ GivesF 6 #[.int .i64 b, .agg #[.int .i64 t, .int .i64 n], .int .i64 k] x y p ∧
    (p = false ∨ ∃ b' T B k' : Nat, b = b' ∧ t = T ∧ n = B ∧ k = k' ∧ 2 ≤ b' ∧ b' ≤ 16 ∧ T < B ∧ B ≤ 1000 ∧ Nat.gcd T B = 1 ∧ k' ≤ 200 ∧ p = true ∧ x = (frT b' T B k').1 ∧ y = (frT b' T B k').2) := by
  cases h : tldB b t n with
  | false => exact ⟨0, 0, false, specRestShift_no _ _ _ _ h, implRestShift_no _ _ _ _ h, .inl rfl⟩
  | true =>
    by_cases hk : 0 ≤ k ∧ k ≤ 200
    · have h' := h
      obtain ⟨b', T, B, rfl, rfl, rfl, h3, h4, hT, hB, hg⟩ := tld_nat h'
      obtain ⟨k, rfl⟩ := Int.eq_ofNat_of_zero_le hk.1
      exact ⟨_, _, true, specRestShift_yes _ _ _ _ h hT hg hB h3 h4 (by omega), implRestShift_yes _ _ _ _ h hT hg hB h4 (by omega), .inr ⟨b', T, B, k, rfl, rfl, rfl, rfl, h3, h4, hT, hB, hg, by omega, rfl, rfl, rfl⟩⟩
    · exact ⟨0, 0, false, specRestShift_off _ _ _ _ h (by simpa using hk), implRestShift_off _ _ _ _ h (by omega), .inl rfl⟩

end Go.Proofs.Ytdbijigbggjmgaa
