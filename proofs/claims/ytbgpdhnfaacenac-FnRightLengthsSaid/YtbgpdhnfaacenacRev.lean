/-
  slices.Reverse at a list of numbers.
-/
import Derived.Test.YtbgpdhnfaacenacRow
import Derived.Test.YtbgpdhnfaacenacEq
import Derived.Test.YtbgpdhnfaacenacStepA
namespace Go.Proofs.Ytbgpdhnfaacenac
open Go.RowKit

/-- A list turned about from both ends, p of them. -/
structure Rvd (xs ys : List Int) (p : Nat) : Prop where
  len : ys.length = xs.length
  out : ∀ q, q < xs.length → (q < p ∨ xs.length ≤ q + p) → ys[q]?.getD 0 = xs[xs.length - 1 - q]?.getD 0
  mid : ∀ q, q < xs.length → ¬ (q < p ∨ xs.length ≤ q + p) → ys[q]?.getD 0 = xs[q]?.getD 0

theorem Rvd.zero (xs : List Int) : Rvd xs xs 0 := ⟨rfl, fun q hq h => by omega, fun _ _ _ => rfl⟩

theorem Rvd.step {xs ys : List Int} {p : Nat} (h : Rvd xs ys p) (hp : p + p + 1 < xs.length) : Rvd xs ((ys.set p (ys[xs.length - 1 - p]?.getD 0)).set (xs.length - 1 - p) (ys[p]?.getD 0)) (p + 1) := by
  have hl := h.len
  have e1 := h.mid p (by omega) (by omega)
  have e2 := h.mid (xs.length - 1 - p) (by omega) (by omega)
  refine ⟨by simp [hl], fun q hq hc => ?_, fun q hq hc => ?_⟩
  · rw [List.getElem?_set]
    by_cases h1 : xs.length - 1 - p = q
    · subst h1
      rw [if_pos rfl, if_pos (by simp; omega)]
      rw [e1, show xs.length - 1 - (xs.length - 1 - p) = p by omega]
      rfl
    · rw [if_neg h1, List.getElem?_set]
      by_cases h2 : p = q
      · subst h2
        rw [if_pos rfl, if_pos (by omega), e2]
        rfl
      · rw [if_neg h2]
        exact h.out q hq (by omega)
  · rw [List.getElem?_set_ne (by omega), List.getElem?_set_ne (by omega)]
    exact h.mid q hq (by omega)

theorem Rvd.all {xs ys : List Int} {p : Nat} (h : Rvd xs ys p) (hp : ¬ p + p + 1 < xs.length) : ys = xs.reverse := by
  refine List.ext_getElem? fun q => ?_
  rcases Nat.lt_or_ge q xs.length with hq | hq
  · have hv : ys[q]?.getD 0 = xs[xs.length - 1 - q]?.getD 0 := by
      by_cases hc : q < p ∨ xs.length ≤ q + p
      · exact h.out q hq hc
      · rw [h.mid q hq hc]
        rw [show xs.length - 1 - q = q by omega]
    rw [List.getElem?_reverse hq]
    have hl := h.len
    rw [List.getElem?_eq_getElem (by omega), List.getElem?_eq_getElem (by omega)] at hv ⊢
    simpa using hv
  · rw [List.getElem?_eq_none (by rw [h.len]; exact hq), List.getElem?_eq_none (by simpa using hq)]

set_option maxHeartbeats 1000000 in
theorem reverse_any (n₀ : Nat) (v : Value) (xs : List Int) (w : World) (hv : Slc n₀ w v xs) (hx : xs.length ≤ 10000) (h0 : 0 < xs.length) :
    Calls Try.prog 28 #[v] w fun e w' => e = .returned (.tuple #[]) ∧ Slc n₀ w' v xs.reverse ∧ w.grownBy w' v.ownBlock := by
  obtain ⟨g, off, cap, rfl, hg1, hg2, hc1, hc2⟩ := slc_some hv h0
  obtain ⟨n, hn⟩ : ∃ n, xs.length = n := ⟨_, rfl⟩
  rw [hn] at hv hx h0 hc1 ⊢
  have HN := Lib.hid hn; clear hn
  have hr0 := Rvd.zero xs
  go_enter Try.func28, Try.ntmps28
  go_wp2_with fail
  go_loopw [2, 3] (fun i i' wr => ∃ (p : Nat) (ys : List Int), p ≤ n ∧ i = .int .i64 p ∧ i' = .int .i64 ((n : Int) - 1 - p) ∧ Hid (Rvd xs ys p) ∧ Slc n₀ wr (.slice (some ⟨g, off, none⟩) n cap) ys ∧ w.grownBy wr (some g)) (fun i _ _ => n - (intOf i).toNat)
  case atStart => exact ⟨0, xs, Nat.zero_le _, rfl, by simp, hr0, hv, ⟨rfl, rfl, rfl, Nat.le_refl _, fun _ _ _ => rfl⟩⟩
  case round =>
    clear hr0 hv
    obtain ⟨p, ys, hp, rfl, rfl, hr, hs, hgr⟩ := hrel
    by_cases hlt : p + p + 1 < n
    · obtain ⟨q, hq⟩ : ∃ q, q + 1 + p = n := ⟨n - 1 - p, by omega⟩
      have eq : (n : Int) - 1 - p = q := by omega
      rw [eq]
      clear eq
      have hyl : ys.length = n := hr.out.len.trans HN.out
      have HY := Lib.hid hyl; clear hyl
      have kc1 := Slc.cell HY.out hs p (by omega)
      have kc2 := Slc.cell HY.out hs q (by omega)
      have kf1 := hs.frozen (off + p)
      have kf2 := hs.frozen (off + q)
      have i1 : (p : Int) < (q : Int) := by omega
      have i2 : (q : Int) < (n : Int) := by omega
      have i3 : (p : Int) < (n : Int) := by omega
      have i4 : (0 : Int) ≤ (p : Int) := by omega
      have i5 : (0 : Int) ≤ (q : Int) := by omega
      have i6 : ¬ off + q = off + p := by omega
      have i7 : ¬ off + p = off + q := by omega
      have hd : (⟨g, off + p, none⟩ : Addr) ≠ ⟨g, off + q, none⟩ := fun e => i7 (congrArg Addr.off e)
      have hd' : (⟨g, off + q, none⟩ : Addr) ≠ ⟨g, off + p, none⟩ := fun e => i6 (congrArg Addr.off e)
      go_wp2_with fail
      go_region
      have hs1 := Slc.set HY.out hs p (ys[q]?.getD 0) (by omega)
      have hs2 := Slc.set (by rw [List.length_set]; exact HY.out) hs1 q (ys[p]?.getD 0) (by omega)
      have hs3 := hs2.later ((Below.refl _ _).drew)
      have hgr3 : w.grownBy ((wr.setCell ⟨g, off + p, none⟩ (.int .i64 (ys[q]?.getD 0))).setCell ⟨g, off + q, none⟩ (.int .i64 (ys[p]?.getD 0))).drew (some g) := by
        refine ⟨hgr.os, hgr.tape, hgr.output, by simpa using hgr.size, fun k hk hne => ?_⟩
        show ((wr.setCell _ _).setCell _ _).heap[k]? = _
        rw [Below.heap_setCell _ ⟨g, off + q, none⟩ _ k (fun e => hne (by rw [e])), Below.heap_setCell _ ⟨g, off + p, none⟩ _ k (fun e => hne (by rw [e]))]
        exact hgr.block k hk hne
      have hr3 : Hid (Rvd xs ((ys.set p (ys[q]?.getD 0)).set q (ys[p]?.getD 0)) (p + 1)) := by
        have h1 := hr.out.step (by rw [HN.out]; exact hlt)
        rw [HN.out, show n - 1 - p = q by omega] at h1
        exact h1
      clear hs1 hs2 hs hgr kc1 kc2 kf1 kf2
      go_wp2_with fail
      go_roundw
      case rel => exact ⟨p + 1, _, by omega, by go_num, by go_num, hr3, hs3, hgr3⟩
      case measure => simp [intOf]; omega
    · have hall := hr.out.all (by rw [HN.out]; exact hlt)
      have i1 : ¬ (p : Int) < (n : Int) - 1 - p := by omega
      subst hall
      go_wp2_with fail
      go_end0
      exact ⟨rfl, hs, hgr⟩

theorem reverse0_any (n₀ : Nat) (v : Value) (w : World) (hv : Slc n₀ w v []) :
    Calls Try.prog 28 #[v] w fun e w' => e = .returned (.tuple #[]) ∧ Slc n₀ w' v [] ∧ w.grownBy w' v.ownBlock := by
  obtain ⟨a, c, rfl⟩ := slc_form hv
  have HV := Lib.hid hv; clear hv
  go_enter Try.func28, Try.ntmps28
  go_wp2_with fail
  go_loopw [2, 3] (fun i i' wr => i = .int .i64 0 ∧ i' = .int .i64 (-1) ∧ wr = w) (fun _ _ _ => 0)
  case atStart => exact ⟨rfl, rfl, rfl⟩
  case round =>
    obtain ⟨rfl, rfl, rfl⟩ := hrel
    go_wp2_with fail
    go_end0
    exact ⟨rfl, HV.out, ⟨rfl, rfl, rfl, Nat.le_refl _, fun _ _ _ => rfl⟩⟩

end Go.Proofs.Ytbgpdhnfaacenac
