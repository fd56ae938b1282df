/-
  What the changed body of orders answers; the greatest order.
-/
import Derived.Test.YthoaldiadgeonaaGTqA
import Derived.Test.YthoaldiadgeonaaGOrx
import Derived.Test.YthoaldiadgeonaaOrdB
namespace Go.Proofs.Ythoaldiadgeonaa
open Go.RowKit Go.Proofs.Ythoaldiadgeonaa.Tq Go.Proofs.Ythoaldiadgeonaa.Cr Go.Conc

/-- The asks' cells. -/
def askL (ask : Nat → Nat × Nat) : Nat → List Value
  | 0 => []
  | n + 1 => askL ask n ++ [.int .i64 (ask n).1, .int .i64 (ask n).2]
theorem askL_len (ask : Nat → Nat × Nat) (n : Nat) : (askL ask n).length = n * 2 := by
  induction n with
  | zero => rfl
  | succ n ih => simp [askL, ih]; omega
theorem askL_get (ask : Nat → Nat × Nat) {n j : Nat} (h : j < n) : (askL ask n)[j * 2]? = some (.int .i64 (ask j).1) ∧ (askL ask n)[j * 2 + 1]? = some (.int .i64 (ask j).2) := by
  induction n with
  | zero => omega
  | succ n ih =>
    have hl := askL_len ask n
    show (askL ask n ++ _)[j * 2]? = _ ∧ (askL ask n ++ _)[j * 2 + 1]? = _
    by_cases hj : j < n
    · rw [List.getElem?_append_left (by omega), List.getElem?_append_left (by omega)]
      exact ih hj
    · obtain rfl : j = n := by omega
      rw [List.getElem?_append_right (by omega), List.getElem?_append_right (by omega), hl]
      simp
theorem askL_congr {ask ask' : Nat → Nat × Nat} {n : Nat} (h : ∀ j, j < n → ask j = ask' j) : askL ask n = askL ask' n := by
  induction n with
  | zero => rfl
  | succ n ih => simp only [askL, ih fun j hj => h j (by omega), h n (by omega)]

theorem enter_oq (args : Array Value) : Frame.enter Tryq.prog 27 args .normal = (base 27).at ⟨args ++ Array.replicate (38 - args.size) undef, []⟩ [.code ordersBody] :=
  enter_at (P := Tryq.prog) args Tryq.func27 rfl
theorem res_oq (T : Array Value) : results ordersQ T = pure (T.getD 2 undef) := by
  have : results ordersQ T = results Try.f27 T := rfl
  rw [this]
  unfold results
  rw [Try.results27]
  simp [Array.mapM_eq_mapM_toList]

set_option maxHeartbeats 2000000 in
theorem orders_calls {b : Option Addr} {n c : Nat} (W : World) (hn : n < 100000) (hD : ∀ j, j < n → ∃ o, Done W b j o) :
    Calls Tryq.prog 27 #[.slice b n c] W fun e w' => ∃ f, e = .returned (.slice (some ⟨W.heap.size + (3 + 3 * n), 0, none⟩) n n) ∧ EvL W w' (3 + 3 * n) n f n ∧ ∀ j, j < n → Done W b j (f j) := by
  intro cs
  have hT : (#[.slice b n c] ++ Array.replicate (38 - (#[.slice b n c] : Array Value).size) undef : Array Value).size = 38 := by simp
  have h0 : (#[.slice b n c] ++ Array.replicate (38 - (#[.slice b n c] : Array Value).size) undef : Array Value)[0]? = some (.slice b n c) := by simp
  have hdz := orders_dz (Q := fun e a w' => e = .ret ∧ ∃ f, Has a [(2, .slice (some ⟨W.heap.size + (3 + 3 * n), 0, none⟩) n n)] ∧ EvL W w' (3 + 3 * n) n f n ∧ ∀ j, j < n → Done W b j (f j)) (V := fun _ => False) (dd := False) (wp := W) (fun h => h.elim) (Nat.le_of_eq hT.symm)
    (.inr ⟨Nat.le_of_eq hT, b, n, c, h0, hn, hD⟩)
    (fun b' n' c' a' w' f h1 h2 h3 h4 h5 h6 => by
      rw [h0] at h2
      injection h2 with h2
      injection h2 with e1 e2 e3
      subst e1 e2 e3
      exact ⟨rfl, f, h4, h5, h6⟩) (base 27) (by simp [base]) [] cs
  have he := enter_oq #[.slice b n c]
  rcases hdz with ⟨h, _⟩ | ⟨e, a', w', ⟨rfl, f, h1, h2, h3⟩, todo, hN⟩
  · exact h.elim
  · refine ⟨.returned _, w', { (base 27).at a' todo with mode := .returning }, ⟨f, rfl, h2, h3⟩, by rw [he]; exact hN, rfl, rfl, h1.2.1, rfl, ordersQ, Tryq.func27, ?_⟩
    have e3 := res_oq a'.tmps
    show (results ordersQ a'.tmps).run _ w' = _
    rw [e3, Array.getD_eq_getD_getElem?, h1.2.2 2 (.slice (some ⟨W.heap.size + (3 + 3 * n), 0, none⟩) n n) (by simp)]
    rfl

/-- Orders of a list of one's own. -/
theorem orders_own {n : Nat} {ask : Nat → Nat × Nat} {ord : Nat → Nat} {base : Nat} {v : Value} {W : World} (hn : n < 100000) (hown : W.ownsRow base 43 2 v n (askL ask n))
    (hok : ∀ j, j < n → (ask j).1 ≤ 1000 ∧ 1 ≤ (ask j).2 ∧ (ask j).2 ≤ 15000 ∧ Tq.Ord (ask j).1 (ask j).2 (ord j)) :
    Calls Tryq.prog 27 #[v] W fun e w' => ∃ g, e = .returned (.slice (some ⟨g, 0, none⟩) n n) ∧ Slc W.heap.size w' (.slice (some ⟨g, 0, none⟩) n n) ((List.range n).map fun j => (ord j : Int)) ∧ Below W.heap.size W w' := by
  have hlen : ((List.range n).map fun j => (ord j : Int)).length = n := by simp
  have fin : ∀ {b : Option Addr} {f : Nat → Int} {w' : World}, EvL W w' (3 + 3 * n) n f n → (∀ j, j < n → f j = ord j) → Slc W.heap.size w' (.slice (some ⟨W.heap.size + (3 + 3 * n), 0, none⟩) n n) ((List.range n).map fun j => (ord j : Int)) ∧ Below W.heap.size W w' := fun hE hf => by
    refine ⟨.inr ⟨W.heap.size + (3 + 3 * n), 0, n, _, by rw [hlen], by omega, hE.list, by rw [hlen]; exact Nat.le_refl _, by unfold maxLen; omega, by simp [lc], ?_⟩, hE.os, hE.tape, hE.output, by have := hE.size; omega, hE.low⟩
    rw [hlen, List.drop_zero]
    unfold lc
    simp only [List.map_map]
    rw [List.take_of_length_le (by simp)]
    exact List.map_congr_left fun i hi => by simp [hf i (List.mem_range.1 hi)]
  rcases hown.2 with ⟨rfl, rfl⟩ | ⟨g, cap, cur, rfl, hg, hh, hc, hm, hs, ht⟩
  · refine (orders_calls (c := 0) W (by omega) fun j hj => absurd hj (by omega)).mono ?_
    rintro e w' ⟨f, rfl, hE, hD⟩
    exact ⟨_, rfl, fin (b := none) hE fun j hj => absurd hj (by omega)⟩
  · have hcell : ∀ k u, k < n * 2 → (askL ask n)[k]? = some u → W.cell? ⟨g, 0 + k, none⟩ = some u := fun k u hk hu => by
      rw [← ht, List.getElem?_take, if_pos hk] at hu
      have : cur[k]? = some u := by simpa using hu
      show (match W.heap[g]? with | some (.cells c _ _) => _ | _ => _) = _
      rw [hh]
      simpa using this
    have hD : ∀ j, j < n → Done W (some ⟨g, 0, none⟩) j (ord j) := fun j hj => by
      obtain ⟨h1, h2, h3, h4⟩ := hok j hj
      obtain ⟨g1, g2⟩ := askL_get ask hj
      exact ⟨g, 0, (ask j).1, (ask j).2, ord j, rfl, hcell _ _ (by omega) g1, by have := hcell _ _ (by omega) g2; rwa [← Nat.add_assoc] at this, h1, h2, h3, (Array.getElem?_eq_some_iff.1 hh).1, h4, rfl⟩
    refine (orders_calls (c := cap) W hn fun j hj => ⟨_, hD j hj⟩).mono ?_
    rintro e w' ⟨f, rfl, hE, hD'⟩
    refine ⟨_, rfl, fin (b := none) hE fun j hj => ?_⟩
    obtain ⟨A, off, x, m, o, e1, c1, c2, _, _, _, _, ho, hf⟩ := hD' j hj
    injection e1 with e1
    injection e1 with e1 e2
    subst e1 e2
    obtain ⟨g1, g2⟩ := askL_get ask hj
    have k1 := hcell _ _ (by omega) g1
    have k2 := hcell _ _ (by omega) g2
    rw [← Nat.add_assoc] at k2
    rw [k1] at c1
    rw [k2] at c2
    injection c1 with c1
    injection c1 with _ c1
    injection c2 with c2
    injection c2 with _ c2
    have e3 : x = (ask j).1 := by omega
    have e4 : m = (ask j).2 := by omega
    subst e3 e4
    have h4 := (hok j hj).2.2.2
    have : o = ord j := by
      rcases Nat.lt_trichotomy o (ord j) with h | h | h
      · exact absurd ho.2.2.2 (h4.2.2.1 o ho.1 h)
      · exact h
      · exact absurd h4.2.2.2 (ho.2.2.1 (ord j) h4.1 h)
    rw [hf, this]

end Go.Proofs.Ythoaldiadgeonaa
