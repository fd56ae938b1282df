/-
  Lists of lists: compared, marked, held.
-/
import Derived.Test.YtfhhfnkgdanakaaRowsL
import Derived.Test.YtfhhfnkgdanakaaSame
import Derived.Deep.RegionWith
import Derived.BigRegion
namespace Go.Proofs.Ytfhhfnkgdanakaa
open Go.RowKit

theorem row_cell {n₀ l : Nat} {W : World} {T : TypeId} {v : Value} {vs : List Value} (h : W.ownsRow n₀ T 1 v l vs) (hl : vs.length = l) (i : Nat) (hi : i < l) :
    ∃ g c u, v = .slice (some ⟨g, 0, none⟩) l c ∧ W.cell? ⟨g, i, none⟩ = some u ∧ vs[i]? = some u := by
  have hvi : i < vs.length := by omega
  rcases h.2 with ⟨_, h0⟩ | ⟨g, cap, cur, rfl, hb, hh, hc, hm, hs, ht⟩
  · omega
  · refine ⟨g, cap, vs[i], rfl, ?_, List.getElem?_eq_getElem hvi⟩
    have h5 : cur.toList[i]? = some vs[i] := by
      rw [← List.getElem?_eq_getElem hvi, ← ht, List.getElem?_take_of_lt (by omega)]
    simp only [World.cell?, hh]
    rw [← Array.getElem?_toList]
    simp [h5]

theorem row_form {n₀ l : Nat} {W : World} {T : TypeId} {v : Value} {vs : List Value} (h : W.ownsRow n₀ T 1 v l vs) : ∃ a c, v = .slice a l c := by
  rcases h.2 with ⟨rfl, h0⟩ | ⟨g, cap, cur, rfl, _⟩
  · exact ⟨none, 0, by rw [h0]⟩
  · exact ⟨_, _, rfl⟩

theorem len_row {L : List (List Int)} (h : ∀ xs ∈ L, xs.length ≤ 1000) (i : Nat) : (L[i]?.getD []).length ≤ 1000 := by
  cases e : L[i]? with
  | none => simp
  | some xs => exact h xs (List.mem_of_getElem? e)


set_option maxHeartbeats 1000000 in
theorem sameRows_any (n₀ n₁ : Nat) (v u : Value) (L : List (List Int)) (w : World) (hv : RowSS n₀ w v L) (hu : RowSS n₁ w u L) (hlx : L.length ≤ 1000) (hly : ∀ xs ∈ L, xs.length ≤ 1000) :
    Calls Try.prog 8 #[v, u] w fun e w' => e = .returned (.bool true) ∧ Below w.heap.size w w' := by
  obtain ⟨vs, hl1, hV, _⟩ := hv
  obtain ⟨us, hl2, hU, _⟩ := hu
  obtain ⟨a, c, rfl⟩ := row_form hV.1
  obtain ⟨a', c', rfl⟩ := row_form hU.1
  have hlen := len_row hly
  obtain ⟨l, hl⟩ : ∃ l, L.length = l := ⟨_, rfl⟩
  have HV : RowVs n₀ w (.slice a L.length c) L vs := hV
  have HU : RowVs n₁ w (.slice a' L.length c') L us := hU
  clear hV hU
  revert HV HU
  rw [hl] at hl1 hl2 hlx ⊢
  intro HV HU
  have HL := Lib.hid hl; have HL1 := Lib.hid hl1; have HL2 := Lib.hid hl2; have HN := Lib.hid hlen
  clear hl hl1 hl2 hlen hly
  go_enter Try.func8, Try.ntmps8
  go_wp2_with fail
  have B0 : Below w.heap.size w w := Below.refl _ _
  go_loopw [5] (fun i wr => ∃ k : Nat, k ≤ l ∧ i = .int .i64 k ∧ RowVs n₀ wr (.slice a l c) L vs ∧ RowVs n₁ wr (.slice a' l c') L us ∧ Below w.heap.size w wr) (fun i _ => l - (intOf i).toNat)
  case atStart =>
    exact ⟨0, Nat.zero_le _, rfl, HV, HU, B0⟩
  case round =>
    clear HV HU B0
    obtain ⟨k, hk, rfl, hV, hU, hb⟩ := hrel
    by_cases hlt : k < l
    · have hV1 := hV.1
      have hU1 := hU.1
      rw [HL.out] at hV1 hU1
      obtain ⟨g, c1, u, e1, hc1, hu1⟩ := row_cell hV1 HL1.out k hlt
      obtain ⟨g', c2, u', e2, hc2, hu2⟩ := row_cell hU1 HL2.out k hlt
      cases e1
      cases e2
      have s1 := hV.2 k u hu1
      have s2 := hU.2 k u' hu2
      have i1 : (k : Int) < l := by omega
      go_wp2_with fail
      have d1 : wr.drew.cell? ⟨g, k, none⟩ = some u := hc1
      have d2 : wr.drew.cell? ⟨g', k, none⟩ = some u' := hc2
      have EQ : Hid (Calls Try.prog 19 #[u, u'] wr.drew fun e w' => e = .returned (.bool true) ∧ Below wr.heap.size wr w') := by
        have := sameInts_any n₀ n₁ u u' _ _ wr.drew s1 s2 (by have := HN.out k; omega) (by have := HN.out k; omega)
        exact this.mono fun e w' ⟨he, hb⟩ => ⟨by simpa using he, (Below.refl _ _).drew.trans hb⟩
      clear hV1 hU1 s1 s2
      go_region_with (go_at_call 19; refine EQ.out.mono ?_; rintro e w1 ⟨rfl, hb1⟩)
      all_goals (
        have hV2 := hV.later hb1
        have hU2 := hU.later hb1
        have hB2 := hb.trans (hb1.mono hb.size)
        clear hV hU hb hb1 EQ d1 d2 hc1 hc2
        go_wp2_with fail
        exact ⟨⟨k + 1, hlt, rfl, hV2, hU2, hB2⟩, by simp [intOf]; omega⟩)
    · obtain rfl : k = l := by omega
      have i1 : ¬ (k : Int) < k := by omega
      go_wp2_with fail
      go_ret
      exact ⟨rfl, hb⟩

/-- How many ints the first i lists hold. -/
def tot (L : List (List Int)) : Nat → Nat
  | 0 => 0
  | i + 1 => tot L i + (L[i]?.getD []).length

theorem tot_le {L : List (List Int)} (h : ∀ i : Nat, (L[i]?.getD []).length ≤ 1000) (i : Nat) : tot L i ≤ 1000 * i := by
  induction i with
  | zero => exact Nat.le_refl _
  | succ i ih => have := h i; show tot L i + _ ≤ _; omega

/-- The lists vs, the first j of them marked. -/
def MarkV (n₀ : Nat) (W : World) (v : Value) (L : List (List Int)) (vs : List Value) (j : Nat) : Prop :=
  W.ownsRow n₀ 33 1 v L.length vs ∧ ∀ (i : Nat) (u : Value), vs[i]? = some u → Slc n₀ W u (if i < j then mk (1 + tot L i) (L[i]?.getD []).length else L[i]?.getD [])

theorem MarkV.zero {n₀ : Nat} {W : World} {v : Value} {L : List (List Int)} {vs : List Value} (h : RowVs n₀ W v L vs) : MarkV n₀ W v L vs 0 :=
  ⟨h.1, fun i u e => by rw [if_neg (by omega)]; exact h.2 i u e⟩

theorem MarkV.later {n₀ j : Nat} {W W' : World} {v : Value} {L : List (List Int)} {vs : List Value} (h : MarkV n₀ W v L vs j) (hb : Below W.heap.size W W') : MarkV n₀ W' v L vs j := by
  refine ⟨h.1.kept (row := none) (grown_below hb) ?_, fun i u e => (h.2 i u e).later hb⟩
  cases v.ownBlock <;> simp

theorem MarkV.step {n₀ j : Nat} {W W' : World} {v u : Value} {L : List (List Int)} {vs : List Value} (h : MarkV n₀ W v L vs j) (hA : Apart vs) (hu : vs[j]? = some u) (hg : W.grownBy W' u.ownBlock)
    (hm : Slc n₀ W' u (mk (1 + tot L j) (L[j]?.getD []).length)) : MarkV n₀ W' v L vs (j + 1) := by
  refine ⟨h.1.kept hg ?_, fun i u' e => ?_⟩
  · rcases ownsRow_block h.1 with e | ⟨g, cur, e, hb, hh⟩
    · exact .inl e
    · refine .inr fun e' => ?_
      rw [e] at e'
      exact slc_not_row (h.2 j u hu) h.1 g e'.symm e
  · rcases Nat.lt_trichotomy i j with h1 | h1 | h1
    · have h2 := h.2 i u' e
      rw [if_pos h1] at h2
      rw [if_pos (by omega)]
      exact h2.kept hg fun g e1 e2 => hA i j u' u h1 e hu g e1 e2
    · subst h1
      rw [hu] at e
      cases e
      rw [if_pos (by omega)]
      exact hm
    · have h2 := h.2 i u' e
      rw [if_neg (by omega)] at h2
      rw [if_neg (by omega)]
      exact h2.kept hg fun g e1 e2 => hA j i u u' h1 hu e g e2 e1



/-- What lies below stays when what lies above is written to. -/
theorem RowVs.under {n₀ n₁ : Nat} {W W' : World} {v : Value} {L : List (List Int)} {vs : List Value} (h : RowVs n₀ W v L vs) (hb : Below n₁ W W') (h1 : ∀ q, v.ownBlock = some q → q < n₁)
    (h2 : ∀ (i : Nat) (u : Value) (q : Nat), vs[i]? = some u → u.ownBlock = some q → q < n₁) : RowVs n₀ W' v L vs := by
  refine ⟨⟨h.1.1, ?_⟩, fun i u e => ?_⟩
  · rcases h.1.2 with h3 | ⟨g, cap, cur, hv, hg, hh, r⟩
    · exact .inl h3
    · exact .inr ⟨g, cap, cur, hv, hg, (hb.block g (h1 g (by rw [hv]; rfl))).trans hh, r⟩
  · have h4 := h2 i u
    rcases h.2 i u e with h3 | ⟨g, off, cap, cur, hv, hg, hh, r⟩
    · exact .inl h3
    · exact .inr ⟨g, off, cap, cur, hv, hg, (hb.block g (h4 g e (by rw [hv]; rfl))).trans hh, r⟩

end Go.Proofs.Ytfhhfnkgdanakaa
