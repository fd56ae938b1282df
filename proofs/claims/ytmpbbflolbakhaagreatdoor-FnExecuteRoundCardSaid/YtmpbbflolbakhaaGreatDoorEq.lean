/-
  Lists as results: how they are read; how the laws compare them.
-/
import Derived.Test.YtmpbbflolbakhaaGreatDoorRow
import Derived.Test.YtmpbbflolbakhaaGreatDoorLeaf
import Derived.RegionTactic
import Derived.Deep.QuietTactic
import Derived.BigQuiet
namespace Go.Proofs.YtmpbbflolbakhaaGreatDoor
open Go.RowKit

theorem slc_form {n₀ : Nat} {W : World} {v : Value} {xs : List Int} (h : Slc n₀ W v xs) : ∃ a c, v = .slice a xs.length c := by
  rcases h with ⟨rfl, rfl⟩ | ⟨g, off, cap, cur, rfl, _⟩
  · exact ⟨none, 0, rfl⟩
  · exact ⟨_, _, rfl⟩

theorem slc_some {n₀ : Nat} {W : World} {v : Value} {xs : List Int} (h : Slc n₀ W v xs) (hl : 0 < xs.length) : ∃ g off c, v = .slice (some ⟨g, off, none⟩) xs.length c ∧ n₀ ≤ g ∧ g < W.heap.size ∧ xs.length ≤ c ∧ c ≤ maxLen := by
  rcases h with ⟨rfl, rfl⟩ | ⟨g, off, cap, cur, rfl, h1, h2, h3, h4, _⟩
  · simp at hl
  · exact ⟨g, off, cap, rfl, h1, (Array.getElem?_eq_some_iff.1 h2).1, h3, h4⟩

theorem slc_addr {n₀ : Nat} {W : World} {a : Option Addr} {l c : Nat} {xs : List Int} (h : Slc n₀ W (.slice a l c) xs) (hl : 0 < l) : ∃ g off, a = some ⟨g, off, none⟩ := by
  rcases h with ⟨h, _⟩ | ⟨g, off, cap, cur, h, _⟩
  · cases h; omega
  · cases h; exact ⟨g, off, rfl⟩

theorem Slc.frozen {n₀ : Nat} {W : World} {g off cap l : Nat} {xs : List Int} (h : Slc n₀ W (.slice (some ⟨g, off, none⟩) l cap) xs) (k : Nat) : W.frozen? ⟨g, k, none⟩ = false := by
  rcases h with ⟨h, _⟩ | ⟨g', off', cap', cur, hv, hg, hh, _⟩
  · cases h
  · simp only [Value.slice.injEq, Option.some.injEq, Addr.mk.injEq, and_true] at hv
    obtain ⟨⟨rfl, rfl⟩, rfl, rfl⟩ := hv
    simp [World.frozen?, hh]

theorem Slc.set {n₀ : Nat} {W : World} {g off cap l : Nat} {xs : List Int} (hx : xs.length = l) (h : Slc n₀ W (.slice (some ⟨g, off, none⟩) l cap) xs) (k : Nat) (x : Int) (hk : k < l) :
    Slc n₀ (W.setCell ⟨g, off + k, none⟩ (.int .i64 x)) (.slice (some ⟨g, off, none⟩) l cap) (xs.set k x) := by
  subst hx
  rcases h with ⟨h, _⟩ | ⟨g', off', cap', cur, hv, hg, hh, hl, hc, hs, ht⟩
  · cases h
  · simp only [Value.slice.injEq, Option.some.injEq, Addr.mk.injEq, and_true, true_and] at hv
    obtain ⟨⟨rfl, rfl⟩, rfl⟩ := hv
    refine .inr ⟨g, off, cap, cur.setIfInBounds (off + k) (.int .i64 x), by rw [List.length_set], hg, heap_setCell_same W g (off + k) cur 3 _ hh, by rw [List.length_set]; exact hl, hc, by simpa using hs, ?_⟩
    rw [List.length_set, Array.toList_setIfInBounds, List.map_set, ← ht]
    rw [List.drop_set]
    rw [if_neg (by omega), show off + k - off = k by omega, List.take_set]

theorem Slc.kept {n₀ : Nat} {W W' : World} {v : Value} {xs : List Int} {row : Option Nat} (h : Slc n₀ W v xs) (hg : W.grownBy W' row) (hne : ∀ g, v.ownBlock = some g → row ≠ some g) : Slc n₀ W' v xs := by
  rcases h with h | ⟨g, off, cap, cur, rfl, h1, h2, r⟩
  · exact .inl h
  · exact .inr ⟨g, off, cap, cur, rfl, h1, (hg.block g (Array.getElem?_eq_some_iff.1 h2).1 (fun e => hne g rfl e.symm)).trans h2, r⟩

theorem Slc.own {n₀ : Nat} {W : World} {v : Value} {xs : List Int} (h : Slc n₀ W v xs) : ∀ g, v.ownBlock = some g → n₀ ≤ g ∧ g < W.heap.size := by
  rcases h with ⟨rfl, _⟩ | ⟨g, off, cap, cur, rfl, h1, h2, r⟩
  · intro g e; cases e
  · intro g' e; cases e; exact ⟨h1, (Array.getElem?_eq_some_iff.1 h2).1⟩


end Go.Proofs.YtmpbbflolbakhaaGreatDoor
