/-
  Rows of integers in memory: a whole row of a block; a slice that came as a result.
-/
import Derived.Test.YtmpbbflolbakhaaGreatDoorRows
import Derived.WalkKit
import Derived.WalkSpells
import Derived.WalkLawsBesides
import Derived.Lib.Hide
namespace Go.Proofs.YtmpbbflolbakhaaGreatDoor
open Go.RowKit

theorem infoInt : (Tryz.prog.info? 3).map (fun i => (i.zero, i.size, i.bytes)) = some (some (.int .i64 0), 1, 8) := by kernel_rfl

/-- Block g holds the integers zs. -/
def RowI (W : World) (g : Nat) (zs : List Int) : Prop := ∃ cur : Array Value, W.heap[g]? = some (.cells cur 3 (0, 0)) ∧ cur.toList = zs.map (Value.int .i64)

theorem RowI.lt {W : World} {g : Nat} {zs : List Int} (h : RowI W g zs) : g < W.heap.size := by obtain ⟨cur, h, _⟩ := h; exact (Array.getElem?_eq_some_iff.1 h).1
theorem RowI.cell {W : World} {g : Nat} {zs : List Int} (h : RowI W g zs) (k : Nat) (hk : k < zs.length) : W.cell? ⟨g, k, none⟩ = some (.int .i64 (zs[k]?.getD 0)) := by
  obtain ⟨cur, h, e⟩ := h
  have : cur[k]? = some (.int .i64 (zs[k]?.getD 0)) := by
    rw [← Array.getElem?_toList, e, List.getElem?_map, List.getElem?_eq_getElem hk]; rfl
  simp [World.cell?, h, this]
theorem RowI.frozen {W : World} {g : Nat} {zs : List Int} (h : RowI W g zs) (k : Nat) : W.frozen? ⟨g, k, none⟩ = false := by
  obtain ⟨cur, h, e⟩ := h
  simp [World.frozen?, h]
theorem RowI.set {W : World} {g : Nat} {zs : List Int} (h : RowI W g zs) (k : Nat) (x : Int) : RowI (W.setCell ⟨g, k, none⟩ (.int .i64 x)) g (zs.set k x) := by
  obtain ⟨cur, h, e⟩ := h
  refine ⟨cur.setIfInBounds k (.int .i64 x), ?_, ?_⟩
  · exact heap_setCell_same W g k cur 3 _ h
  · rw [Array.toList_setIfInBounds, e, List.map_set]
theorem RowI.below {n : Nat} {W W' : World} {g : Nat} {zs : List Int} (h : RowI W g zs) (hb : Below n W W') (hn : g < n) : RowI W' g zs := by
  obtain ⟨cur, h, e⟩ := h; exact ⟨cur, (hb.block g hn).trans h, e⟩
theorem RowI.later {W W' : World} {g : Nat} {zs : List Int} (h : RowI W g zs) (hb : Below W.heap.size W W') : RowI W' g zs := h.below hb h.lt
theorem RowI.made {W : World} {g : Nat} (n : Nat) (hg : g = W.heap.size) : RowI (W.alloc (.cells (madeCells #[.int .i64 0] n) 3)) g (List.replicate n 0) := by
  subst hg
  refine ⟨_, heap_alloc_new W _, ?_⟩
  rw [toList_madeCells_one, List.map_replicate]

/-- A slice value that holds the integers xs, in a block from n₀ on. -/
def Slc (n₀ : Nat) (W : World) (v : Value) (xs : List Int) : Prop :=
  (v = .slice none 0 0 ∧ xs = []) ∨
  ∃ (g off cap : Nat) (cur : Array Value), v = .slice (some ⟨g, off, none⟩) xs.length cap ∧ n₀ ≤ g ∧ W.heap[g]? = some (.cells cur 3 (0, 0)) ∧ xs.length ≤ cap ∧ cap ≤ maxLen ∧ off + cap ≤ cur.size ∧
    (cur.toList.drop off).take xs.length = xs.map (Value.int .i64)

theorem Slc.nil (n₀ : Nat) (W : World) : Slc n₀ W (.slice none 0 0) [] := .inl ⟨rfl, rfl⟩

theorem Slc.mono {n₀ n₁ : Nat} {W : World} {v : Value} {xs : List Int} (h : Slc n₀ W v xs) (hn : n₁ ≤ n₀) : Slc n₁ W v xs := by
  rcases h with h | ⟨g, off, cap, cur, hv, hg, r⟩
  · exact .inl h
  · exact .inr ⟨g, off, cap, cur, hv, by omega, r⟩

theorem Slc.later {n₀ : Nat} {W W' : World} {v : Value} {xs : List Int} (h : Slc n₀ W v xs) (hb : Below W.heap.size W W') : Slc n₀ W' v xs := by
  rcases h with h | ⟨g, off, cap, cur, hv, hg, hh, r⟩
  · exact .inl h
  · exact .inr ⟨g, off, cap, cur, hv, hg, (hb.block g (Array.getElem?_eq_some_iff.1 hh).1).trans hh, r⟩

/-- Out of what an append leaves. -/
theorem Slc.of_owns {n₀ : Nat} {W : World} {v : Value} {xs : List Int} (h : W.ownsRow n₀ 3 1 v xs.length (xs.map (Value.int .i64))) : Slc n₀ W v xs := by
  rcases h.2 with ⟨hv, hn⟩ | ⟨g, cap, cur, hv, hg, hh, hc, hm, hs, ht⟩
  · exact .inl ⟨hv, List.length_eq_zero_iff.1 hn⟩
  · refine .inr ⟨g, 0, cap, cur, hv, hg, hh, hc, hm, by omega, ?_⟩
    rw [List.drop_zero]; rw [Nat.mul_one] at ht; exact ht

theorem Slc.cell {n₀ : Nat} {W : World} {g off cap l : Nat} {xs : List Int} (hx : xs.length = l) (h : Slc n₀ W (.slice (some ⟨g, off, none⟩) l cap) xs) (k : Nat) (hk : k < l) :
    W.cell? ⟨g, off + k, none⟩ = some (.int .i64 (xs[k]?.getD 0)) := by
  subst hx
  rcases h with ⟨h, _⟩ | ⟨g', off', cap', cur, hv, hg, hh, hl, hc, hs, ht⟩
  · cases h
  · simp only [Value.slice.injEq, Option.some.injEq, Addr.mk.injEq, and_true, true_and] at hv
    obtain ⟨⟨rfl, rfl⟩, rfl⟩ := hv
    have e1 : ((cur.toList.drop off).take xs.length)[k]? = some (.int .i64 (xs[k]?.getD 0)) := by
      rw [ht, List.getElem?_map, List.getElem?_eq_getElem hk]; rfl
    rw [List.getElem?_take_of_lt hk, List.getElem?_drop, Array.getElem?_toList] at e1
    simp [World.cell?, hh, e1]

theorem Slc.drop {n₀ : Nat} {W : World} {g off n cap l : Nat} {xs : List Int} (hx : xs.length = l) (h : Slc n₀ W (.slice (some ⟨g, off, none⟩) l cap) xs) (hn : n ≤ l) :
    Slc n₀ W (.slice (some ⟨g, off + n, none⟩) (l - n) (cap - n)) (xs.drop n) := by
  subst hx
  rcases h with ⟨h, _⟩ | ⟨g', off', cap', cur, hv, hg, hh, hl, hc, hs, ht⟩
  · cases h
  · simp only [Value.slice.injEq, Option.some.injEq, Addr.mk.injEq, and_true, true_and] at hv
    obtain ⟨⟨rfl, rfl⟩, rfl⟩ := hv
    refine .inr ⟨g, off + n, cap - n, cur, by rw [List.length_drop], hg, hh, by rw [List.length_drop]; omega, by omega, by omega, ?_⟩
    rw [List.length_drop, List.map_drop, ← ht, List.drop_take, List.drop_drop]

end Go.Proofs.YtmpbbflolbakhaaGreatDoor
