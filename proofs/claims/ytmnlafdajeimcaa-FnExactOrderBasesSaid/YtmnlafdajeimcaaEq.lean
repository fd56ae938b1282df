/-
  Lists as results: how they are read; how the laws compare them.
-/
import Derived.Test.YtmnlafdajeimcaaRow
import Derived.Test.YtmnlafdajeimcaaLeaf
import Derived.RegionTactic
import Derived.Deep.QuietTactic
import Derived.BigQuiet
import Derived.Test.YtmnlafdajeimcaaTq
namespace Go.Proofs.Ytmnlafdajeimcaa
open Go.RowKit

theorem slc_form {n₀ : Nat} {W : World} {v : Value} {xs : List Int} (h : Slc n₀ W v xs) : ∃ a c, v = .slice a xs.length c := by
  rcases h with ⟨rfl, rfl⟩ | ⟨g, off, cap, cur, rfl, _⟩
  · exact ⟨none, 0, rfl⟩
  · exact ⟨_, _, rfl⟩

theorem slc_some {n₀ : Nat} {W : World} {v : Value} {xs : List Int} (h : Slc n₀ W v xs) (hl : 0 < xs.length) : ∃ g off c, v = .slice (some ⟨g, off, none⟩) xs.length c ∧ n₀ ≤ g ∧ g < W.heap.size ∧ xs.length ≤ c ∧ c ≤ maxLen := by
  rcases h with ⟨rfl, rfl⟩ | ⟨g, off, cap, cur, rfl, h1, h2, h3, h4, _⟩
  · simp at hl
  · exact ⟨g, off, cap, rfl, h1, (Array.getElem?_eq_some_iff.1 h2).1, h3, h4⟩

theorem slc_addr {n₀ : Nat} {W : World} {a : Option Addr} {l c : Nat} {xs : List Int} (h : Slc n₀ W (.slice a l c) xs) (hl : 0 < l) : ∃ g off, a = some ⟨g, off, none⟩ := by
  rcases h with ⟨h, _⟩ | ⟨g, off, cap, cur, h, _⟩
  · cases h; omega
  · cases h; exact ⟨g, off, rfl⟩

theorem Slc.frozen {n₀ : Nat} {W : World} {g off cap l : Nat} {xs : List Int} (h : Slc n₀ W (.slice (some ⟨g, off, none⟩) l cap) xs) (k : Nat) : W.frozen? ⟨g, k, none⟩ = false := by
  rcases h with ⟨h, _⟩ | ⟨g', off', cap', cur, hv, hg, hh, _⟩
  · cases h
  · simp only [Value.slice.injEq, Option.some.injEq, Addr.mk.injEq, and_true] at hv
    obtain ⟨⟨rfl, rfl⟩, rfl, rfl⟩ := hv
    simp [World.frozen?, hh]

theorem Slc.set {n₀ : Nat} {W : World} {g off cap l : Nat} {xs : List Int} (hx : xs.length = l) (h : Slc n₀ W (.slice (some ⟨g, off, none⟩) l cap) xs) (k : Nat) (x : Int) (hk : k < l) :
    Slc n₀ (W.setCell ⟨g, off + k, none⟩ (.int .i64 x)) (.slice (some ⟨g, off, none⟩) l cap) (xs.set k x) := by
  subst hx
  rcases h with ⟨h, _⟩ | ⟨g', off', cap', cur, hv, hg, hh, hl, hc, hs, ht⟩
  · cases h
  · simp only [Value.slice.injEq, Option.some.injEq, Addr.mk.injEq, and_true, true_and] at hv
    obtain ⟨⟨rfl, rfl⟩, rfl⟩ := hv
    refine .inr ⟨g, off, cap, cur.setIfInBounds (off + k) (.int .i64 x), by rw [List.length_set], hg, heap_setCell_same W g (off + k) cur 3 _ hh, by rw [List.length_set]; exact hl, hc, by simpa using hs, ?_⟩
    rw [List.length_set, Array.toList_setIfInBounds, List.map_set, ← ht]
    rw [List.drop_set]
    rw [if_neg (by omega), show off + k - off = k by omega, List.take_set]

theorem Slc.kept {n₀ : Nat} {W W' : World} {v : Value} {xs : List Int} {row : Option Nat} (h : Slc n₀ W v xs) (hg : W.grownBy W' row) (hne : ∀ g, v.ownBlock = some g → row ≠ some g) : Slc n₀ W' v xs := by
  rcases h with h | ⟨g, off, cap, cur, rfl, h1, h2, r⟩
  · exact .inl h
  · exact .inr ⟨g, off, cap, cur, rfl, h1, (hg.block g (Array.getElem?_eq_some_iff.1 h2).1 (fun e => hne g rfl e.symm)).trans h2, r⟩

theorem Slc.own {n₀ : Nat} {W : World} {v : Value} {xs : List Int} (h : Slc n₀ W v xs) : ∀ g, v.ownBlock = some g → n₀ ≤ g ∧ g < W.heap.size := by
  rcases h with ⟨rfl, _⟩ | ⟨g, off, cap, cur, rfl, h1, h2, r⟩
  · intro g e; cases e
  · intro g' e; cases e; exact ⟨h1, (Array.getElem?_eq_some_iff.1 h2).1⟩

set_option maxHeartbeats 1000000 in
theorem eqIntS_any (n₀ n₁ : Nat) (v u : Value) (xs ys : List Int) (w : World) (hv : Slc n₀ w v xs) (hu : Slc n₁ w u ys) (hlx : xs.length ≤ 1048576) (hly : ys.length ≤ 1048576) :
    Calls Tryq.prog 10 #[v, u] w fun e w' => e = .returned (.bool (decide (xs = ys))) ∧ Below w.heap.size w w' := by
  obtain ⟨a, c, rfl⟩ := slc_form hv
  obtain ⟨a', c', rfl⟩ := slc_form hu
  obtain ⟨n, hn⟩ : ∃ n, xs.length = n := ⟨_, rfl⟩
  obtain ⟨m, hm⟩ : ∃ m, ys.length = m := ⟨_, rfl⟩
  rw [hn] at hv hlx ⊢
  rw [hm] at hu hly ⊢
  by_cases hnm : n = m
  · subst hnm
    have HN := Lib.hid hn; have HM := Lib.hid hm; clear hn hm
    by_cases h0 : n = 0
    · subst h0
      have hx : xs = [] := List.length_eq_zero_iff.1 HN.out
      have hy : ys = [] := List.length_eq_zero_iff.1 HM.out
      have HX := Lib.hid hx; have HY := Lib.hid hy; clear hx hy
      go_enter Tryq.func10, Try.ntmps10
      go_wp2
      go_loopw [5] (fun i wr => i = .int .i64 0 ∧ wr = w) (fun _ _ => 0)
      case atStart => exact ⟨rfl, rfl⟩
      case round =>
        obtain ⟨rfl, rfl⟩ := hrel
        go_wp2
        go_ret
        exact ⟨ret_bool (by rw [HX.out, HY.out]; rfl), Below.refl _ _⟩
    · obtain ⟨g, off, c1, e1, _, _, hc1, hc2⟩ := slc_some hv (by rw [HN.out]; omega)
      obtain ⟨g', off', c2, e2, _, _, hc3, hc4⟩ := slc_some hu (by rw [HM.out]; omega)
      simp only [Value.slice.injEq] at e1 e2
      obtain ⟨rfl, _, rfl⟩ := e1
      obtain ⟨rfl, _, rfl⟩ := e2
      go_enter Tryq.func10, Try.ntmps10
      go_wp2
      go_loopw [5] (fun i wr => ∃ k : Nat, k ≤ n ∧ i = .int .i64 k ∧ (∀ j, j < k → xs[j]?.getD 0 = ys[j]?.getD 0) ∧ Below w.heap.size w wr) (fun i _ => n - (intOf i).toNat)
      case atStart => exact ⟨0, Nat.zero_le _, rfl, fun j hj => by omega, Below.refl _ _⟩
      case round =>
        obtain ⟨k, hk, rfl, heq, hbel⟩ := hrel
        have HE := Lib.hid heq; clear heq
        by_cases hlt : k < n
        · have kx := Slc.cell HN.out (hv.later hbel) k hlt
          have ky := Slc.cell HM.out (hu.later hbel) k hlt
          by_cases hxy : xs[k]?.getD 0 = ys[k]?.getD 0
          · rw [← hxy] at ky
            have HXY := Lib.hid hxy; clear hxy
            go_wp2
            go_region
            go_wp2
            go_roundw
            case rel =>
              refine ⟨k + 1, by omega, by simp, fun j hj => ?_, hbel.drew⟩
              rcases Nat.lt_or_ge j k with h | h
              · exact HE.out j h
              · obtain rfl : j = k := by omega
                exact HXY.out
            case measure => simp [intOf]; omega
          · have HXY := Lib.hid hxy
            revert kx ky hxy
            generalize xs[k]?.getD 0 = x
            generalize ys[k]?.getD 0 = y
            intro kx ky hxy
            have hd : (x == y) = false := by simpa using hxy
            have hd2 : (x != y) = true := by simpa using hxy
            go_wp2
            go_region
            go_wp2
            go_ret
            have hne : ¬ xs = ys := fun e => HXY.out (by rw [e])
            exact ⟨ret_bool (by simp [hne]), hbel.drew⟩
        · obtain rfl : k = n := by omega
          go_wp2
          go_ret
          have he : xs = ys := by
            apply List.ext_getElem?
            intro j
            rcases Nat.lt_or_ge j k with h | h
            · have := HE.out j h
              rw [List.getElem?_eq_getElem (by rw [HN.out]; exact h), List.getElem?_eq_getElem (by rw [HM.out]; exact h)] at this ⊢
              simpa using this
            · rw [List.getElem?_eq_none (by rw [HN.out]; exact h), List.getElem?_eq_none (by rw [HM.out]; exact h)]
          exact ⟨ret_bool (by simp [he]), hbel⟩
  · have hd : (n == m) = false := by simpa using hnm
    have hd2 : ((n : Int) == (m : Int)) = false := by simp; omega
    have hne : ¬ xs = ys := fun e => hnm (by rw [← hn, ← hm, e])
    have HNE := Lib.hid hne; clear hne hn hm
    go_enter Tryq.func10, Try.ntmps10
    go_wp2
    go_ret
    exact ⟨ret_bool (by simp [HNE.out]), Below.refl _ _⟩

end Go.Proofs.Ytmnlafdajeimcaa
