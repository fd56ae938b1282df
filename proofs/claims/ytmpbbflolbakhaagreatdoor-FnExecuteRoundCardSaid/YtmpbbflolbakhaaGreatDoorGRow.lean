/-
  What the laws do with lists: they mark them, and look whether the marks hold.
  How the laws of the promises compare lists.
  Lists of lists of ints: what stays, what is read.
  Lists of lists: compared, marked, held.
  Lists of lists that may share a block, each in a place of its own: marked, held.
-/
import Derived.Test.YtmpbbflolbakhaaGreatDoorEq
import Derived.Test.YtmpbbflolbakhaaGreatDoorGrown
import Derived.Deep.RegionWith
import Derived.BigRegion
namespace Go.Proofs.YtmpbbflolbakhaaGreatDoor
open Go.RowKit

/-- k, k + 1, .. -/
def mk (k : Int) (n : Nat) : List Int := (List.range n).map fun i : Nat => k + i

theorem mk_len (k : Int) (n : Nat) : (mk k n).length = n := by simp [mk]
theorem mk_get (k : Int) (n i : Nat) (h : i < n) : (mk k n)[i]?.getD 0 = k + i := by
  unfold mk; rw [List.getElem?_map, List.getElem?_range h]; rfl

/-- A list whose first i numbers are marked. -/
def part (k : Int) (xs : List Int) (i : Nat) : List Int := mk k i ++ xs.drop i

theorem part_len (k : Int) (xs : List Int) (i : Nat) (h : i ≤ xs.length) : (part k xs i).length = xs.length := by simp [part, mk_len]; omega
theorem part_set (k : Int) (xs : List Int) (i : Nat) (h : i < xs.length) : (part k xs i).set i (k + i) = part k xs (i + 1) := by
  unfold part
  rw [List.set_append_right _ _ (by rw [mk_len]; exact Nat.le_refl _), mk_len, Nat.sub_self]
  have e : xs.drop i = xs[i] :: xs.drop (i + 1) := by rw [List.drop_eq_getElem_cons h]
  rw [e, List.set_cons_zero]
  unfold mk
  rw [List.range_succ, List.map_append, List.append_assoc]
  rfl
theorem part_all (k : Int) (xs : List Int) : part k xs xs.length = mk k xs.length := by simp [part]



end Go.Proofs.YtmpbbflolbakhaaGreatDoor

namespace Go.Proofs.YtmpbbflolbakhaaGreatDoor
open Go.RowKit

set_option maxHeartbeats 1000000 in
theorem sameInts_any (n₀ n₁ : Nat) (v u : Value) (xs ys : List Int) (w : World) (hv : Slc n₀ w v xs) (hu : Slc n₁ w u ys) (hlx : xs.length ≤ 1048576) (hly : ys.length ≤ 1048576) :
    Calls Tryz.prog 8 #[v, u] w fun e w' => e = .returned (.bool (decide (xs = ys))) ∧ Below w.heap.size w w' := by
  obtain ⟨a, c, rfl⟩ := slc_form hv
  obtain ⟨a', c', rfl⟩ := slc_form hu
  obtain ⟨n, hn⟩ : ∃ n, xs.length = n := ⟨_, rfl⟩
  obtain ⟨m, hm⟩ : ∃ m, ys.length = m := ⟨_, rfl⟩
  rw [hn] at hv hlx ⊢
  rw [hm] at hu hly ⊢
  by_cases hnm : n = m
  · subst hnm
    have HN := Lib.hid hn; have HM := Lib.hid hm; clear hn hm
    by_cases h0 : n = 0
    · subst h0
      have hx : xs = [] := List.length_eq_zero_iff.1 HN.out
      have hy : ys = [] := List.length_eq_zero_iff.1 HM.out
      have HX := Lib.hid hx; have HY := Lib.hid hy; clear hx hy
      go_enter Tryz.func8, Tryz.ntmps8
      go_wp2
      go_loopw [5] (fun i wr => i = .int .i64 0 ∧ wr = w) (fun _ _ => 0)
      case atStart => exact ⟨rfl, rfl⟩
      case round =>
        obtain ⟨rfl, rfl⟩ := hrel
        go_wp2
        go_ret
        exact ⟨ret_bool (by rw [HX.out, HY.out]; rfl), Below.refl _ _⟩
    · obtain ⟨g, off, c1, e1, _, _, hc1, hc2⟩ := slc_some hv (by rw [HN.out]; omega)
      obtain ⟨g', off', c2, e2, _, _, hc3, hc4⟩ := slc_some hu (by rw [HM.out]; omega)
      simp only [Value.slice.injEq] at e1 e2
      obtain ⟨rfl, _, rfl⟩ := e1
      obtain ⟨rfl, _, rfl⟩ := e2
      go_enter Tryz.func8, Tryz.ntmps8
      go_wp2
      go_loopw [5] (fun i wr => ∃ k : Nat, k ≤ n ∧ i = .int .i64 k ∧ (∀ j, j < k → xs[j]?.getD 0 = ys[j]?.getD 0) ∧ Below w.heap.size w wr) (fun i _ => n - (intOf i).toNat)
      case atStart => exact ⟨0, Nat.zero_le _, rfl, fun j hj => by omega, Below.refl _ _⟩
      case round =>
        obtain ⟨k, hk, rfl, heq, hbel⟩ := hrel
        have HE := Lib.hid heq; clear heq
        by_cases hlt : k < n
        · have kx := Slc.cell HN.out (hv.later hbel) k hlt
          have ky := Slc.cell HM.out (hu.later hbel) k hlt
          by_cases hxy : xs[k]?.getD 0 = ys[k]?.getD 0
          · rw [← hxy] at ky
            have HXY := Lib.hid hxy; clear hxy
            go_wp2
            go_region
            go_wp2
            go_roundw
            case rel =>
              refine ⟨k + 1, by omega, by simp, fun j hj => ?_, hbel.drew⟩
              rcases Nat.lt_or_ge j k with h | h
              · exact HE.out j h
              · obtain rfl : j = k := by omega
                exact HXY.out
            case measure => simp [intOf]; omega
          · have HXY := Lib.hid hxy
            revert kx ky hxy
            generalize xs[k]?.getD 0 = x
            generalize ys[k]?.getD 0 = y
            intro kx ky hxy
            have hd : (x == y) = false := by simpa using hxy
            have hd2 : (x != y) = true := by simpa using hxy
            go_wp2
            go_region
            go_wp2
            go_ret
            have hne : ¬ xs = ys := fun e => HXY.out (by rw [e])
            exact ⟨ret_bool (by simp [hne]), hbel.drew⟩
        · obtain rfl : k = n := by omega
          go_wp2
          go_ret
          have he : xs = ys := by
            apply List.ext_getElem?
            intro j
            rcases Nat.lt_or_ge j k with h | h
            · have := HE.out j h
              rw [List.getElem?_eq_getElem (by rw [HN.out]; exact h), List.getElem?_eq_getElem (by rw [HM.out]; exact h)] at this ⊢
              simpa using this
            · rw [List.getElem?_eq_none (by rw [HN.out]; exact h), List.getElem?_eq_none (by rw [HM.out]; exact h)]
          exact ⟨ret_bool (by simp [he]), hbel⟩
  · have hd : (n == m) = false := by simpa using hnm
    have hd2 : ((n : Int) == (m : Int)) = false := by simp; omega
    have hne : ¬ xs = ys := fun e => hnm (by rw [← hn, ← hm, e])
    have HNE := Lib.hid hne; clear hne hn hm
    go_enter Tryz.func8, Tryz.ntmps8
    go_wp2
    go_ret
    exact ⟨ret_bool (by simp [HNE.out]), Below.refl _ _⟩

end Go.Proofs.YtmpbbflolbakhaaGreatDoor

namespace Go.Proofs.YtmpbbflolbakhaaGreatDoor
open Go.RowKit

/-- A new list of the lists vs, which hold L. -/
def RowVs (n₀ : Nat) (W : World) (v : Value) (L : List (List Int)) (vs : List Value) : Prop :=
  W.ownsRow n₀ 27 1 v L.length vs ∧ ∀ (i : Nat) (u : Value), vs[i]? = some u → Slc n₀ W u (L[i]?.getD [])

/-- No two of them share memory. -/
def Apart (vs : List Value) : Prop := ∀ (i j : Nat) (u u' : Value), i < j → vs[i]? = some u → vs[j]? = some u' → ∀ q, u.ownBlock = some q → u'.ownBlock ≠ some q

def RowSS (n₀ : Nat) (W : World) (v : Value) (L : List (List Int)) : Prop := ∃ vs : List Value, vs.length = L.length ∧ RowVs n₀ W v L vs ∧ Apart vs

theorem rows_form {n₀ : Nat} {W : World} {v : Value} {L : List (List Int)} (h : RowSS n₀ W v L) : ∃ a c, v = .slice a L.length c := by
  obtain ⟨vs, _, ⟨h, _⟩, _⟩ := h
  rcases h.2 with ⟨rfl, h0⟩ | ⟨g, cap, cur, rfl, _⟩
  · exact ⟨none, 0, by rw [h0]⟩
  · exact ⟨_, _, rfl⟩

theorem RowSS.nil (n₀ : Nat) (W : World) (v : Value) (h : W.ownsRow n₀ 27 1 v 0 []) : RowSS n₀ W v [] :=
  ⟨[], rfl, ⟨h, fun i u e => by simp at e⟩, fun i j u u' _ e => by simp at e⟩

theorem RowSS.zero (n₀ : Nat) (W : World) (hn : n₀ ≤ W.heap.size) : RowSS n₀ (W.alloc (.cells #[] 27)) (.slice (some ⟨W.heap.size, 0, none⟩) 0 0) [] :=
  RowSS.nil _ _ _ (World.ownsRow_made (base := n₀) (e := 27) (size := 1) W #[] 0 hn (by simp) (by simp))

theorem ownsRow_block {n₀ : Nat} {W : World} {T : TypeId} {v : Value} {k : Nat} {vs : List Value} (h : W.ownsRow n₀ T 1 v k vs) : v.ownBlock = none ∨ ∃ g cur, v.ownBlock = some g ∧ n₀ ≤ g ∧ W.heap[g]? = some (.cells cur T (0, 0)) := by
  rcases h.2 with ⟨rfl, _⟩ | ⟨g, cap, cur, rfl, hb, hh, _⟩
  · exact .inl rfl
  · exact .inr ⟨g, cur, rfl, hb, hh⟩

theorem slc_block {n₀ : Nat} {W : World} {v : Value} {xs : List Int} (h : Slc n₀ W v xs) : v.ownBlock = none ∨ ∃ g cur, v.ownBlock = some g ∧ n₀ ≤ g ∧ W.heap[g]? = some (.cells cur 3 (0, 0)) := by
  rcases h with ⟨rfl, _⟩ | ⟨g, off, cap, cur, rfl, hb, hh, _⟩
  · exact .inl rfl
  · exact .inr ⟨g, cur, rfl, hb, hh⟩

/-- A block of another kind (or none) grows, or is written to: all stays. -/
theorem RowVs.kept {n₀ : Nat} {W W' : World} {v : Value} {L : List (List Int)} {vs : List Value} {row : Option Nat} (h : RowVs n₀ W v L vs) (hg : W.grownBy W' row)
    (h1 : ∀ q, row = some q → v.ownBlock ≠ some q) (h2 : ∀ q (i : Nat) u, row = some q → vs[i]? = some u → u.ownBlock ≠ some q) : RowVs n₀ W' v L vs := by
  refine ⟨h.1.kept hg ?_, fun i u e => (h.2 i u e).kept hg fun g hg' e' => h2 g i u e' e hg'⟩
  rcases ownsRow_block h.1 with e | ⟨g, _, e, _⟩
  · exact .inl e
  · refine .inr fun e' => ?_
    exact h1 g (by rw [← e', e]) e

theorem RowVs.later {n₀ : Nat} {W W' : World} {v : Value} {L : List (List Int)} {vs : List Value} (h : RowVs n₀ W v L vs) (hb : Below W.heap.size W W') : RowVs n₀ W' v L vs :=
  h.kept (row := none) (grown_below hb) (fun q e => by cases e) (fun q i u e => by cases e)

/-- A row of bools grows, or is written to. -/
theorem RowVs.off {n₀ : Nat} {W W' : World} {v : Value} {L : List (List Int)} {vs : List Value} {q : Nat} (h : RowVs n₀ W v L vs) (hg : W.grownBy W' (some q)) (hq : ∃ c, W.heap[q]? = some (.cells c 4 (0, 0))) : RowVs n₀ W' v L vs := by
  obtain ⟨c, hc⟩ := hq
  refine h.kept hg (fun q' e => ?_) (fun q' i u e hu => ?_)
  · cases e
    rcases ownsRow_block h.1 with e | ⟨g, cur, e, _, hh⟩
    · rw [e]; intro e; cases e
    · rw [e]; intro e; cases e; rw [hc] at hh; simp at hh
  · cases e
    rcases slc_block (h.2 i u hu) with e | ⟨g, cur, e, _, hh⟩
    · rw [e]; intro e; cases e
    · rw [e]; intro e; cases e; rw [hc] at hh; simp at hh

/-- A block below, or a new one, grows. -/
theorem RowVs.grown {n₀ : Nat} {W W' : World} {v : Value} {L : List (List Int)} {vs : List Value} {row : Option Nat} (h : RowVs n₀ W v L vs) (hg : W.grownBy W' row) (hr : ∀ q, row = some q → q < n₀ ∨ W.heap.size ≤ q) : RowVs n₀ W' v L vs := by
  refine h.kept hg (fun q e => ?_) (fun q i u e hu => ?_)
  · rcases ownsRow_block h.1 with e' | ⟨g, cur, e', hb, hh⟩
    · rw [e']; intro e; cases e
    · rw [e']; intro e2; cases e2
      have := (Array.getElem?_eq_some_iff.1 hh).1
      have := hr _ e
      omega
  · intro e2
    have := (h.2 i u hu).own q e2
    have := hr _ e
    omega

theorem RowSS.later {n₀ : Nat} {W W' : World} {v : Value} {L : List (List Int)} (h : RowSS n₀ W v L) (hb : Below W.heap.size W W') : RowSS n₀ W' v L := by
  obtain ⟨vs, h1, h2, h3⟩ := h
  exact ⟨vs, h1, h2.later hb, h3⟩

theorem RowSS.off {n₀ : Nat} {W W' : World} {v : Value} {L : List (List Int)} {q : Nat} (h : RowSS n₀ W v L) (hg : W.grownBy W' (some q)) (hq : ∃ c, W.heap[q]? = some (.cells c 4 (0, 0))) : RowSS n₀ W' v L := by
  obtain ⟨vs, h1, h2, h3⟩ := h
  exact ⟨vs, h1, h2.off hg hq, h3⟩

theorem RowSS.grown {n₀ : Nat} {W W' : World} {v : Value} {L : List (List Int)} {row : Option Nat} (h : RowSS n₀ W v L) (hg : W.grownBy W' row) (hr : ∀ q, row = some q → q < n₀ ∨ W.heap.size ≤ q) : RowSS n₀ W' v L := by
  obtain ⟨vs, h1, h2, h3⟩ := h
  exact ⟨vs, h1, h2.grown hg hr, h3⟩

theorem RowSS.mono {n₀ n₁ : Nat} {W : World} {v : Value} {L : List (List Int)} (h : RowSS n₀ W v L) (hn : n₁ ≤ n₀) : RowSS n₁ W v L := by
  obtain ⟨vs, h1, ⟨h2, h3⟩, h4⟩ := h
  refine ⟨vs, h1, ⟨⟨h2.1, ?_⟩, fun i u e => (h3 i u e).mono hn⟩, h4⟩
  rcases h2.2 with h | ⟨g, cap, cur, hv, hb, r⟩
  · exact .inl h
  · exact .inr ⟨g, cap, cur, hv, by omega, r⟩

/-- The cell of a row. -/
theorem RowVs.cell {n₀ : Nat} {W : World} {v : Value} {L : List (List Int)} {vs : List Value} (h : RowVs n₀ W v L vs) (hl : vs.length = L.length) (i : Nat) (hi : i < L.length) :
    ∃ g c u, v = .slice (some ⟨g, 0, none⟩) L.length c ∧ W.cell? ⟨g, i, none⟩ = some u ∧ vs[i]? = some u ∧ Slc n₀ W u (L[i]?.getD []) := by
  obtain ⟨h2, h3⟩ := h
  have hvi : i < vs.length := by omega
  rcases h2.2 with ⟨_, h0⟩ | ⟨g, cap, cur, rfl, hb, hh, hc, hm, hs, ht⟩
  · omega
  · refine ⟨g, cap, vs[i], rfl, ?_, List.getElem?_eq_getElem hvi, h3 i vs[i] (List.getElem?_eq_getElem hvi)⟩
    have h5 : cur.toList[i]? = some vs[i] := by
      rw [← List.getElem?_eq_getElem hvi, ← ht, List.getElem?_take_of_lt (by omega)]
    simp only [World.cell?, hh]
    rw [← Array.getElem?_toList]
    simp [h5]

theorem slc_not_row {n₀ n₁ : Nat} {W : World} {u v : Value} {xs : List Int} {k : Nat} {vs : List Value} (hu : Slc n₀ W u xs) (hv : W.ownsRow n₁ 27 1 v k vs) : ∀ g, u.ownBlock = some g → v.ownBlock ≠ some g := by
  intro g e1 e2
  rcases slc_block hu with e | ⟨q, cur, e, _, hh⟩
  · rw [e] at e1; cases e1
  · rcases ownsRow_block hv with e' | ⟨q', cur', e', _, hh'⟩
    · rw [e'] at e2; cases e2
    · rw [e] at e1; cases e1
      rw [e'] at e2; cases e2
      rw [hh] at hh'
      simp at hh'

theorem RowSS.append {n₀ n₁ : Nat} {W W' : World} {v v' u : Value} {L : List (List Int)} {vs : List Value} {xs : List Int} {o : Obj} (hl : vs.length = L.length) (hv : RowVs n₀ W v L vs) (hd : Apart vs)
    (hu : Slc n₁ W u xs) (hn : n₀ ≤ n₁) (hfar : ∀ (i : Nat) (u : Value) (q : Nat), vs[i]? = some u → u.ownBlock = some q → q < n₁)
    (hg : (W.alloc o).grownBy W' v.ownBlock) (hown : W'.ownsRow n₀ 27 1 v' (L.length + 1) (vs ++ [u])) : RowSS n₀ W' v' (L ++ [xs]) := by
  have ha : Below W.heap.size W (W.alloc o) := (Below.refl _ _).alloc (Nat.le_refl _) _
  have kept : ∀ {n : Nat} {u : Value} {xs : List Int}, Slc n W u xs → Slc n W' u xs := fun h => (h.later ha).kept hg fun g hg' e => slc_not_row h hv.1 g hg' e
  refine ⟨vs ++ [u], by simp [hl], ⟨by simpa using hown, fun i u' e => ?_⟩, fun i j u1 u2 hij e1 e2 q hq => ?_⟩
  · rcases Nat.lt_or_ge i vs.length with h1 | h1
    · rw [List.getElem?_append_left h1] at e
      rw [List.getElem?_append_left (by omega)]
      exact kept (hv.2 i u' e)
    · have h2 : i = vs.length := by have := (List.getElem?_eq_some_iff.1 e).1; simp at this; omega
      subst h2
      rw [List.getElem?_append_right (Nat.le_refl _), Nat.sub_self] at e
      simp at e
      subst e
      rw [hl, List.getElem?_append_right (Nat.le_refl _), Nat.sub_self]
      exact kept (hu.mono hn)
  · have h1 : j < vs.length + 1 := by have := (List.getElem?_eq_some_iff.1 e2).1; simpa using this
    rw [List.getElem?_append_left (by omega)] at e1
    rcases Nat.lt_or_ge j vs.length with h2 | h2
    · rw [List.getElem?_append_left h2] at e2
      exact hd i j u1 u2 hij e1 e2 q hq
    · have h3 : j = vs.length := by omega
      subst h3
      rw [List.getElem?_append_right (Nat.le_refl _), Nat.sub_self] at e2
      simp at e2
      subst e2
      intro e
      have h4 := (hu.own q e).1
      have h5 := hfar i u1 q e1 hq
      omega

theorem row_ge3 {w : World} {base k : Nat} {T : TypeId} {v : Value} {xs : List Value} (h : w.ownsRow base T 1 v k xs) {g : Nat} (hg : v.ownBlock = some g) : base ≤ g ∧ g < w.heap.size := by
  rcases ownsRow_block h with e | ⟨g', cur, e, hb, hh⟩
  · rw [e] at hg; cases hg
  · rw [e] at hg; cases hg; exact ⟨hb, (Array.getElem?_eq_some_iff.1 hh).1⟩

/-- A new list of ints grows beside. -/
theorem RowVs.beside {n₀ N k : Nat} {W W' : World} {v u : Value} {L : List (List Int)} {vs zs : List Value} {o : Obj} (h : RowVs n₀ W v L vs) (hu : W.ownsRow N 3 1 u k zs)
    (hfar : ∀ (i : Nat) (u : Value) (q : Nat), vs[i]? = some u → u.ownBlock = some q → q < N) (hg : (W.alloc o).grownBy W' u.ownBlock) : RowVs n₀ W' v L vs := by
  refine (h.later ((Below.refl _ _).alloc (Nat.le_refl _) o)).kept hg (fun q e e' => ?_) (fun q i u' e hi e' => ?_)
  · rcases ownsRow_block hu with e2 | ⟨g, cur, e2, _, hh⟩
    · rw [e2] at e; cases e
    · rcases ownsRow_block h.1 with e3 | ⟨g', cur', e3, _, hh'⟩
      · rw [e3] at e'; cases e'
      · rw [e2] at e; cases e
        rw [e3] at e'; cases e'
        rw [hh] at hh'; simp at hh'
  · have := hfar i u' q hi e'
    have := (row_ge3 hu e).1
    omega

theorem RowVs.far {n₀ : Nat} {W : World} {v : Value} {L : List (List Int)} {vs : List Value} (h : RowVs n₀ W v L vs) : ∀ (i : Nat) (u : Value) (q : Nat), vs[i]? = some u → u.ownBlock = some q → q < W.heap.size :=
  fun i u q e1 e2 => ((h.2 i u e1).own q e2).2

theorem grown_setc (w : World) (a : Addr) (v : Value) : w.grownBy (w.setCell a v) (some a.block) :=
  ⟨rfl, rfl, rfl, by simp [World.setCell], fun k _ hne => Below.heap_setCell w a v k (fun e => hne (by rw [e]))⟩

theorem bool_not {n₀ q k : Nat} {W : World} {T : TypeId} {v : Value} {vs : List Value} (h : W.ownsRow n₀ T 1 v k vs) (hT : T ≠ 4) (hq : ∃ c, W.heap[q]? = some (.cells c 4 (0, 0))) : v.ownBlock ≠ some q := by
  obtain ⟨c, hc⟩ := hq
  rcases ownsRow_block h with e | ⟨g, cur, e, _, hh⟩
  · rw [e]; intro e; cases e
  · rw [e]; intro e; cases e; rw [hc] at hh; simp at hh; exact hT hh.2.symm

end Go.Proofs.YtmpbbflolbakhaaGreatDoor

namespace Go.Proofs.YtmpbbflolbakhaaGreatDoor
open Go.RowKit

theorem row_cell {n₀ l : Nat} {W : World} {T : TypeId} {v : Value} {vs : List Value} (h : W.ownsRow n₀ T 1 v l vs) (hl : vs.length = l) (i : Nat) (hi : i < l) :
    ∃ g c u, v = .slice (some ⟨g, 0, none⟩) l c ∧ W.cell? ⟨g, i, none⟩ = some u ∧ vs[i]? = some u := by
  have hvi : i < vs.length := by omega
  rcases h.2 with ⟨_, h0⟩ | ⟨g, cap, cur, rfl, hb, hh, hc, hm, hs, ht⟩
  · omega
  · refine ⟨g, cap, vs[i], rfl, ?_, List.getElem?_eq_getElem hvi⟩
    have h5 : cur.toList[i]? = some vs[i] := by
      rw [← List.getElem?_eq_getElem hvi, ← ht, List.getElem?_take_of_lt (by omega)]
    simp only [World.cell?, hh]
    rw [← Array.getElem?_toList]
    simp [h5]

theorem row_form {n₀ l : Nat} {W : World} {T : TypeId} {v : Value} {vs : List Value} (h : W.ownsRow n₀ T 1 v l vs) : ∃ a c, v = .slice a l c := by
  rcases h.2 with ⟨rfl, h0⟩ | ⟨g, cap, cur, rfl, _⟩
  · exact ⟨none, 0, by rw [h0]⟩
  · exact ⟨_, _, rfl⟩

/-- A list of lists, what is read of it. -/
def RowS0 (n₀ : Nat) (W : World) (v : Value) (L : List (List Int)) : Prop := ∃ vs : List Value, vs.length = L.length ∧ RowVs n₀ W v L vs

theorem RowSS.s0 {n₀ : Nat} {W : World} {v : Value} {L : List (List Int)} (h : RowSS n₀ W v L) : RowS0 n₀ W v L := by
  obtain ⟨vs, h1, h2, _⟩ := h
  exact ⟨vs, h1, h2⟩

theorem RowS0.later {n₀ : Nat} {W W' : World} {v : Value} {L : List (List Int)} (h : RowS0 n₀ W v L) (hb : Below W.heap.size W W') : RowS0 n₀ W' v L := by
  obtain ⟨vs, h1, h2⟩ := h
  exact ⟨vs, h1, h2.later hb⟩

theorem len_row {L : List (List Int)} (h : ∀ xs ∈ L, xs.length ≤ 1000) (i : Nat) : (L[i]?.getD []).length ≤ 1000 := by
  cases e : L[i]? with
  | none => simp
  | some xs => exact h xs (List.mem_of_getElem? e)



/-- How many ints the first i lists hold. -/
def tot (L : List (List Int)) : Nat → Nat
  | 0 => 0
  | i + 1 => tot L i + (L[i]?.getD []).length

theorem tot_le {L : List (List Int)} (h : ∀ i : Nat, (L[i]?.getD []).length ≤ 1000) (i : Nat) : tot L i ≤ 1000 * i := by
  induction i with
  | zero => exact Nat.le_refl _
  | succ i ih => have := h i; show tot L i + _ ≤ _; omega

/-- The lists vs, the first j of them marked. -/
def MarkV (n₀ : Nat) (W : World) (v : Value) (L : List (List Int)) (vs : List Value) (j : Nat) : Prop :=
  W.ownsRow n₀ 27 1 v L.length vs ∧ ∀ (i : Nat) (u : Value), vs[i]? = some u → Slc n₀ W u (if i < j then mk (1 + tot L i) (L[i]?.getD []).length else L[i]?.getD [])

theorem MarkV.zero {n₀ : Nat} {W : World} {v : Value} {L : List (List Int)} {vs : List Value} (h : RowVs n₀ W v L vs) : MarkV n₀ W v L vs 0 :=
  ⟨h.1, fun i u e => by rw [if_neg (by omega)]; exact h.2 i u e⟩

theorem MarkV.later {n₀ j : Nat} {W W' : World} {v : Value} {L : List (List Int)} {vs : List Value} (h : MarkV n₀ W v L vs j) (hb : Below W.heap.size W W') : MarkV n₀ W' v L vs j := by
  refine ⟨h.1.kept (row := none) (grown_below hb) ?_, fun i u e => (h.2 i u e).later hb⟩
  cases v.ownBlock <;> simp

theorem MarkV.step {n₀ j : Nat} {W W' : World} {v u : Value} {L : List (List Int)} {vs : List Value} (h : MarkV n₀ W v L vs j) (hA : Apart vs) (hu : vs[j]? = some u) (hg : W.grownBy W' u.ownBlock)
    (hm : Slc n₀ W' u (mk (1 + tot L j) (L[j]?.getD []).length)) : MarkV n₀ W' v L vs (j + 1) := by
  refine ⟨h.1.kept hg ?_, fun i u' e => ?_⟩
  · rcases ownsRow_block h.1 with e | ⟨g, cur, e, hb, hh⟩
    · exact .inl e
    · refine .inr fun e' => ?_
      rw [e] at e'
      exact slc_not_row (h.2 j u hu) h.1 g e'.symm e
  · rcases Nat.lt_trichotomy i j with h1 | h1 | h1
    · have h2 := h.2 i u' e
      rw [if_pos h1] at h2
      rw [if_pos (by omega)]
      exact h2.kept hg fun g e1 e2 => hA i j u' u h1 e hu g e1 e2
    · subst h1
      rw [hu] at e
      cases e
      rw [if_pos (by omega)]
      exact hm
    · have h2 := h.2 i u' e
      rw [if_neg (by omega)] at h2
      rw [if_neg (by omega)]
      exact h2.kept hg fun g e1 e2 => hA j i u u' h1 hu e g e2 e1



/-- What lies below stays when what lies above is written to. -/
theorem RowVs.under {n₀ n₁ : Nat} {W W' : World} {v : Value} {L : List (List Int)} {vs : List Value} (h : RowVs n₀ W v L vs) (hb : Below n₁ W W') (h1 : ∀ q, v.ownBlock = some q → q < n₁)
    (h2 : ∀ (i : Nat) (u : Value) (q : Nat), vs[i]? = some u → u.ownBlock = some q → q < n₁) : RowVs n₀ W' v L vs := by
  refine ⟨⟨h.1.1, ?_⟩, fun i u e => ?_⟩
  · rcases h.1.2 with h3 | ⟨g, cap, cur, hv, hg, hh, r⟩
    · exact .inl h3
    · exact .inr ⟨g, cap, cur, hv, hg, (hb.block g (h1 g (by rw [hv]; rfl))).trans hh, r⟩
  · have h4 := h2 i u
    rcases h.2 i u e with h3 | ⟨g, off, cap, cur, hv, hg, hh, r⟩
    · exact .inl h3
    · exact .inr ⟨g, off, cap, cur, hv, hg, (hb.block g (h4 g e (by rw [hv]; rfl))).trans hh, r⟩

end Go.Proofs.YtmpbbflolbakhaaGreatDoor

namespace Go.Proofs.YtmpbbflolbakhaaGreatDoor
open Go.RowKit

/-- No two of them share a cell: in one block they stand one behind the other. -/
def ApartR (vs : List Value) : Prop := ∀ (i j g o l c o' l' c' : Nat), i < j → vs[i]? = some (.slice (some ⟨g, o, none⟩) l c) → vs[j]? = some (.slice (some ⟨g, o', none⟩) l' c') → o + l ≤ o'

theorem Apart.toR {vs : List Value} (h : Apart vs) : ApartR vs := fun i j g _ _ _ _ _ _ hij e1 e2 => absurd rfl (h i j _ _ hij e1 e2 g rfl)

def RowSR (n₀ : Nat) (W : World) (v : Value) (L : List (List Int)) : Prop := ∃ vs : List Value, vs.length = L.length ∧ RowVs n₀ W v L vs ∧ ApartR vs

theorem RowSS.toR {n₀ : Nat} {W : World} {v : Value} {L : List (List Int)} (h : RowSS n₀ W v L) : RowSR n₀ W v L := by
  obtain ⟨vs, h1, h2, h3⟩ := h
  exact ⟨vs, h1, h2, h3.toR⟩

theorem RowSR.s0 {n₀ : Nat} {W : World} {v : Value} {L : List (List Int)} (h : RowSR n₀ W v L) : RowS0 n₀ W v L := by
  obtain ⟨vs, h1, h2, _⟩ := h
  exact ⟨vs, h1, h2⟩

theorem RowSR.later {n₀ : Nat} {W W' : World} {v : Value} {L : List (List Int)} (h : RowSR n₀ W v L) (hb : Below W.heap.size W W') : RowSR n₀ W' v L := by
  obtain ⟨vs, h1, h2, h3⟩ := h
  exact ⟨vs, h1, h2.later hb, h3⟩

/-- A function answers a list of lists of its own and a bool. -/
def GivesSR (f : FuncId) (args : Array Value) (L : List (List Int)) (p : Bool) : Prop :=
  ∀ w : World, Calls Tryz.prog f args w fun e w' => ∃ v, e = .returned (.tuple #[v, .bool p]) ∧ RowSR w.heap.size w' v L ∧ Below w.heap.size w w'

/-- A cell that does not stand in it. -/
def OffC (g k : Nat) (u : Value) : Prop := ∀ o l c : Nat, u = .slice (some ⟨g, o, none⟩) l c → k < o ∨ o + l ≤ k

theorem Slc.set_off {n₁ : Nat} {W : World} {u : Value} {xs : List Int} {g k : Nat} (h : Slc n₁ W u xs) (x : Value) (hoff : OffC g k u) : Slc n₁ (W.setCell ⟨g, k, none⟩ x) u xs := by
  rcases h with h | ⟨g', off, cap, cur, rfl, hg, hh, hl, hc, hs, ht⟩
  · exact .inl h
  · by_cases e : g' = g
    · subst e
      have ho := hoff off xs.length cap rfl
      refine .inr ⟨g', off, cap, cur.setIfInBounds k x, rfl, hg, heap_setCell_same W g' k cur 3 _ hh, hl, hc, by simpa using hs, ?_⟩
      rw [← ht, Array.toList_setIfInBounds]
      refine List.ext_getElem? fun i => ?_
      rw [List.getElem?_take, List.getElem?_take]
      split
      · rename_i hi
        rw [List.getElem?_drop, List.getElem?_drop, List.getElem?_set_ne (by omega)]
      · rfl
    · exact .inr ⟨g', off, cap, cur, rfl, hg, (Below.heap_setCell W ⟨g, k, none⟩ x g' e).trans hh, hl, hc, hs, ht⟩

/-- Nothing in common with the cells of v. -/
def OffV (v u : Value) : Prop := ∀ g o l c k : Nat, v = .slice (some ⟨g, o, none⟩) l c → o ≤ k → k < o + l → OffC g k u


theorem MarkV.stepR {n₀ j : Nat} {W W' : World} {v u : Value} {L : List (List Int)} {vs : List Value} (h : MarkV n₀ W v L vs j) (hA : ApartR vs) (hu : vs[j]? = some u) (hg : W.grownBy W' u.ownBlock)
    (hm : Slc n₀ W' u (mk (1 + tot L j) (L[j]?.getD []).length)) (hk : ∀ (n₁ : Nat) (u' : Value) (ys : List Int), OffV u u' → Slc n₁ W u' ys → Slc n₁ W' u' ys) : MarkV n₀ W' v L vs (j + 1) := by
  refine ⟨h.1.kept hg ?_, fun i u' e => ?_⟩
  · rcases ownsRow_block h.1 with e | ⟨g, cur, e, hb, hh⟩
    · exact .inl e
    · refine .inr fun e' => ?_
      rw [e] at e'
      exact slc_not_row (h.2 j u hu) h.1 g e'.symm e
  · rcases Nat.lt_trichotomy i j with h1 | h1 | h1
    · have h2 := h.2 i u' e
      rw [if_pos h1] at h2
      rw [if_pos (by omega)]
      refine hk _ _ _ (fun g o l c k e1 h3 h4 o' l' c' e2 => ?_) h2
      subst e1 e2
      have := hA i j g o' l' c' o l c h1 e hu
      omega
    · subst h1
      rw [hu] at e
      cases e
      rw [if_pos (by omega)]
      exact hm
    · have h2 := h.2 i u' e
      rw [if_neg (by omega)] at h2
      rw [if_neg (by omega)]
      refine hk _ _ _ (fun g o l c k e1 h3 h4 o' l' c' e2 => ?_) h2
      subst e1 e2
      have := hA j i g o l c o' l' c' h1 hu e
      omega


end Go.Proofs.YtmpbbflolbakhaaGreatDoor
