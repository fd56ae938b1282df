/-
  Rings: the model's side.
-/
import Derived.Test.YtagkbpdfpeadbacTurnI
import Derived.Test.YtagkbpdfpeadbacStepA
import Derived.Test.YtagkbpdfpeadbacEq
import Derived.Deep.RegionLaw
import Derived.BigRegion
namespace Go.Proofs.Ytagkbpdfpeadbac
open Go.RowKit

set_option maxHeartbeats 1000000 in
theorem l5Ring_any (n₀ : Nat) (b : Int) (v : Value) (d : List Int) (w : World) (hv : Slc n₀ w v d) (hl : d.length ≤ 1048576) :
    Calls Try.prog 29 #[.int .i64 b, v] w fun e w' => e = .returned (.bool (rngB b d)) ∧ w = w' := by
  by_cases h1 : 2 ≤ b ∧ b ≤ 16
  · have j1 : decide (2 ≤ b ∧ b ≤ 16) = true := by simpa using h1
    have DG := Lib.hid (l1DigitsIn_any n₀ b v d w hv hl h1.1 h1.2)
    by_cases h2 : 1 ≤ d.length ∧ d.length ≤ 250
    · have j2 : decide (1 ≤ (d.length : Int) ∧ (d.length : Int) ≤ 250) = true := by simp; omega
      have HF : Hid (rngB b d = digB b d) := by unfold Hid rngB; rw [j1, decide_eq_true h2, Bool.true_and, Bool.true_and]
      obtain ⟨a, c, rfl⟩ := slc_form hv
      clear hv h2
      go_enter Try.func29, Try.ntmps29
      go_wp2_with (first | (go_at_call 30; refine (l6In_any _ _ _ _).mono ?_; rintro e w' ⟨rfl, rfl⟩) | (go_at_call 52; refine DG.out.mono ?_; rintro e w' ⟨rfl, rfl⟩))
      go_ret
      exact ⟨ret_bool HF.out.symm, rfl⟩
    · have j2 : decide (1 ≤ (d.length : Int) ∧ (d.length : Int) ≤ 250) = false := by simp; omega
      have HF : Hid (rngB b d = false) := by unfold Hid rngB; rw [j1, decide_eq_false h2, Bool.true_and, Bool.false_and]
      obtain ⟨a, c, rfl⟩ := slc_form hv
      clear hv h2 h1
      go_enter Try.func29, Try.ntmps29
      go_wp2_with (go_at_call 30; refine (l6In_any _ _ _ _).mono ?_; rintro e w' ⟨rfl, rfl⟩)
      go_ret
      exact ⟨ret_bool HF.out.symm, rfl⟩
  · have j1 : decide (2 ≤ b ∧ b ≤ 16) = false := by simpa using h1
    have HF : Hid (rngB b d = false) := by unfold Hid rngB; rw [j1, Bool.false_and]
    obtain ⟨a, c, rfl⟩ := slc_form hv
    clear hv h1
    go_enter Try.func29, Try.ntmps29
    go_wp2_with (go_at_call 30; refine (l6In_any _ _ _ _).mono ?_; rintro e w' ⟨rfl, rfl⟩)
    go_ret
    exact ⟨ret_bool HF.out.symm, rfl⟩

theorem rot_slc {xs : List Int} {k m base : Nat} {W : World} {v : Value} (hx : xs.length = m) (hk : k ≤ m)
    (h : W.ownsRow base 3 1 v (0 + (m - k) + k) ([] ++ (xs.drop k).map (Value.int .i64) ++ (xs.take k).map (Value.int .i64))) : Slc base W v (rotL xs k) := by
  refine Slc.of_owns ?_
  have e1 : (rotL xs k).length = 0 + (m - k) + k := by rw [rotL_len, hx]; omega
  rw [e1]
  simpa [rotL] using h

set_option maxRecDepth 100000 in
set_option maxHeartbeats 2000000 in
theorem l5Turned_any (n₀ : Nat) (v : Value) (xs : List Int) (k0 : Nat) (w : World) (hv : Slc n₀ w v xs) (hl1 : 1 ≤ xs.length) (hl2 : xs.length ≤ 1000) :
    Calls Try.prog 31 #[v, .int .i64 k0] w fun e w' => ∃ u, e = .returned u ∧ Slc w.heap.size w' u (rotL xs (k0 % xs.length)) ∧ Below w.heap.size w w' := by
  obtain ⟨i0, hi, hz0, hz1, hz2⟩ := info_parts infoInt
  obtain ⟨gx, ox, cx, rfl, _, hg, hc1, hc2⟩ := slc_some hv (by omega)
  obtain ⟨m, hm⟩ : ∃ m, xs.length = m := ⟨_, rfl⟩
  rw [hm] at hv hl1 hl2 hc1 ⊢
  have hkm : k0 % m < m := Nat.mod_lt _ (by omega)
  have hm0 : ¬ m = 0 := by omega
  have hmod : ((k0 : Int) % (m : Int)) = ((k0 % m : Nat) : Int) := by simp
  have HMOD := Lib.hid hmod
  have HLX := Lib.hid hm
  clear hm hmod
  go_enter Try.func31, Try.ntmps31
  go_wp2_with fail
  rw [HMOD.out]
  revert hkm
  generalize hkk : k0 % m = k
  intro hkm
  have HKK := Lib.hid hkk
  clear hkk
  have hk : k ≤ m := Nat.le_of_lt hkm
  have i1 : (0 : Int) ≤ (k : Int) := by omega
  have i2 : (k : Int) ≤ (m : Int) := by omega
  have i3 : (k : Int) ≤ (cx : Int) := by omega
  have i4 : (k : Int) < (m : Int) := by omega
  have i5 : ¬ cx = k := by omega
  have hown0 : (w.alloc (.cells #[] 3)).drew.ownsRow w.heap.size 3 1 (.slice (some ⟨w.heap.size, 0, none⟩) 0 0) 0 [] :=
    World.ownsRow.drew (World.ownsRow_made w #[] 0 (Nat.le_refl _) (by simp) (by simp))
  have hbel0 : Below w.heap.size w (w.alloc (.cells #[] 3)).drew := ((Below.refl _ _).alloc (Nat.le_refl _) _).drew
  have hn1' := slc_news HLX.out hv hbel0 (xs.drop k) k (fun j v hj => by rw [List.getElem?_drop] at hj; exact hj)
  have hl1 : ((xs.drop k).map (Value.int .i64)).length = (m - k) * 1 := by simp [HLX.out]
  have hl2 : ((xs.take k).map (Value.int .i64)).length = k * 1 := by simp [HLX.out]; omega
  have ho1 : ∀ u ∈ (xs.drop k).map (Value.int .i64), u.oneCell' = true := by
    intro u hu; obtain ⟨x, _, rfl⟩ := List.mem_map.1 hu; simp [Value.oneCell']
  have ho2 : ∀ u ∈ (xs.take k).map (Value.int .i64), u.oneCell' = true := by
    intro u hu; obtain ⟨x, _, rfl⟩ := List.mem_map.1 hu; simp [Value.oneCell']
  go_region_law? (first
    | ((refine step_append_own _ (by rfl) _ _ _ (by rfl) w.heap.size 3 i0 (.int .i64 0) 1 8 Try.underlying23 hi hz0 hz1 hz2 rfl (by omega) (.slice (some ⟨w.heap.size, 0, none⟩) 0 0) 0 [] (by rfl) hown0 ⟨gx, ox + k, none⟩ (m - k) (cx - k) ((xs.drop k).map (Value.int .i64)) (by rfl) hl1 hn1' ho1 (by simp [maxLen]; omega) (by omega) (by simp) ?_; intro v1 w5 hown1 hgrow1))
    | ((refine step_append_own _ (by rfl) _ _ _ (by rfl) w.heap.size 3 i0 (.int .i64 0) 1 8 Try.underlying23 hi hz0 hz1 hz2 rfl (by omega) v1 _ _ (by rfl) hown1 ⟨gx, ox, none⟩ k cx ((xs.take k).map (Value.int .i64)) (by rfl) hl2 (slc_news HLX.out hv (Below.grown hbel0 hgrow1 hbel0.size (fun r e => by cases e; exact Nat.le_refl _)) (xs.take k) 0 (fun j v hj => by rw [List.getElem?_take] at hj; split at hj <;> simp_all)) ho2 (by simp [maxLen]; omega) (by omega) (by have := hgrow1.size; simp at this ⊢; omega) ?_; intro v2 w6 hown2 hgrow2)))
  all_goals (
    go_wp2
    go_ret
    have hbel5 := Below.grown hbel0 hgrow1 hbel0.size (fun r e => by cases e; exact Nat.le_refl _)
    have hbel6 := Below.grown hbel5 hgrow2 hbel5.size (fun r e => row_ge hown1 e)
    exact ⟨_, rfl, by rw [HKK.out]; exact rot_slc HLX.out hk hown2, hbel6⟩)

set_option maxHeartbeats 1000000 in
theorem specTurnBy_no (b k : Int) (d : List Int) (hl : d.length ≤ 1048576) (h : (rngB b d && decide (0 ≤ k ∧ k ≤ 250)) = false) : GivesD 9 (fun v => #[.int .i64 b, v, .int .i64 k]) d [] false := by
  intro n₀ v w hv
  have RG := Lib.hid (l5Ring_any n₀ b v d w hv hl)
  cases hr : rngB b d with
  | false =>
    rw [hr] at RG
    clear h hr
    go_enter Try.func9, Try.ntmps9
    go_wp2_with (go_at_call 29; refine RG.out.mono ?_; rintro e w' ⟨rfl, rfl⟩)
    go_ret2
    exact ⟨_, rfl, Slc.empty (Nat.le_refl _), (Below.refl _ _).alloc (Nat.le_refl _) _⟩
  | true =>
    rw [hr, Bool.true_and] at h
    rw [hr] at RG
    clear hr
    go_enter Try.func9, Try.ntmps9
    go_wp2_with (first | (go_at_call 29; refine RG.out.mono ?_; rintro e w' ⟨rfl, rfl⟩) | (go_at_call 30; refine (l6In_any _ _ _ _).mono ?_; rintro e w' ⟨rfl, rfl⟩))
    go_ret2
    exact ⟨_, rfl, Slc.empty (Nat.le_refl _), (Below.refl _ _).alloc (Nat.le_refl _) _⟩

set_option maxHeartbeats 1000000 in
theorem specTurnBy_yes (b k : Nat) (d : List Int) (h : Rng b d) (hk : k ≤ 250) : GivesD 9 (fun v => #[.int .i64 b, v, .int .i64 k]) d (rotL d (k % d.length)) true := by
  intro n₀ v w hv
  have h2 := h.l2
  have RG := Lib.hid (l5Ring_any n₀ b v d w hv (by omega))
  have TD := Lib.hid (l5Turned_any n₀ v d k w hv h.l1 (by omega))
  rw [h.told] at RG
  have j1 : (k : Int) ≤ 250 := by omega
  go_enter Try.func9, Try.ntmps9
  go_wp2_with (first | (go_at_call 29; refine RG.out.mono ?_; rintro e w' ⟨rfl, rfl⟩) | (go_at_call 30; refine (l6In_any _ _ _ _).mono ?_; rintro e w' ⟨rfl, rfl⟩))
  refine TD.out.mono ?_
  rintro e w1 ⟨u, rfl, hu, hb⟩
  go_wp2_with fail
  go_ret2
  exact ⟨_, rfl, hu, hb⟩

end Go.Proofs.Ytagkbpdfpeadbac
