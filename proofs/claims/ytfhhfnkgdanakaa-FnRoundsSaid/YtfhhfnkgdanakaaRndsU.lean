/-
  The rounds of tops hold each top once. Mathematics alone.
-/
import Derived.Test.YtfhhfnkgdanakaaOrdP
namespace Go.Proofs.Ytfhhfnkgdanakaa

def lenL (L : List (List Int)) (r : Nat) : Nat := (L[r]?.getD []).length
def atL (L : List (List Int)) (r c : Nat) : Int := (L[r]?.getD [])[c]?.getD 0

theorem lenL_left {L0 : List (List Int)} {xs : List Int} {r : Nat} (h : r < L0.length) : lenL (L0 ++ [xs]) r = lenL L0 r := by unfold lenL; rw [List.getElem?_append_left h]
theorem atL_left {L0 : List (List Int)} {xs : List Int} {r : Nat} (h : r < L0.length) (c : Nat) : atL (L0 ++ [xs]) r c = atL L0 r c := by unfold atL; rw [List.getElem?_append_left h]
theorem lenL_last (L0 : List (List Int)) (xs : List Int) : lenL (L0 ++ [xs]) L0.length = xs.length := by unfold lenL; rw [List.getElem?_append_right (Nat.le_refl _), Nat.sub_self]; rfl
theorem atL_last (L0 : List (List Int)) (xs : List Int) (c : Nat) : atL (L0 ++ [xs]) L0.length c = xs[c]?.getD 0 := by unfold atL; rw [List.getElem?_append_right (Nat.le_refl _), Nat.sub_self]; rfl

theorem rnds_mem {b n : Nat} (hbn : Nat.gcd b n = 1) : ∀ {t : Nat} {L : List (List Int)}, t ≤ n → Rnds b n t L → ∀ r, r < L.length → ∀ c, c < lenL L r → ∃ x : Nat, x < n ∧ atL L r c = x ∧ Told b n t x = true := by
  intro t
  induction t with
  | zero => intro L _ h r hr; rw [show L = [] from h] at hr; simp at hr
  | succ t ih =>
    intro L ht h r hr c hc
    rcases h with ⟨h1, h2⟩ | ⟨⟨h1, h2⟩, L0, m, h3, h4, rfl⟩
    · obtain ⟨x, hx, hx2, hx3⟩ := ih (by omega) h2 r hr c hc
      exact ⟨x, hx, hx2, by rw [told_skip hbn (by omega) h1]; exact hx3⟩
    · rw [List.length_append, List.length_singleton] at hr
      rcases Nat.lt_or_ge r L0.length with h5 | h5
      · rw [lenL_left h5] at hc
        obtain ⟨x, hx, hx2, hx3⟩ := ih (by omega) h3 r h5 c hc
        refine ⟨x, hx, by rw [atL_left h5]; exact hx2, ?_⟩
        rw [← tolK_all hbn (by omega) h2 h4, TolK, hx3, Bool.true_or]
      · obtain rfl : r = L0.length := by omega
        rw [lenL_last, rstL_len] at hc
        refine ⟨rst b t n c, rst_lt (by omega) c, by rw [atL_last, rstL_get _ _ _ _ _ hc], ?_⟩
        rw [← tolK_all hbn (by omega) h2 h4, TolK, decide_eq_true ⟨c, hc, rfl⟩, Bool.or_true]

/-- No top stands twice. -/
theorem rnds_inj {b n : Nat} (hbn : Nat.gcd b n = 1) : ∀ {t : Nat} {L : List (List Int)}, t ≤ n → Rnds b n t L → ∀ r c r' c', r' < L.length → c' < lenL L r' → ((r < r' ∧ c < lenL L r) ∨ (r = r' ∧ c < c')) → atL L r c ≠ atL L r' c' := by
  intro t
  induction t with
  | zero => intro L _ h r c r' c' hr; rw [show L = [] from h] at hr; simp at hr
  | succ t ih =>
    intro L ht h r c r' c' hr hc' hlt
    rcases h with ⟨h1, h2⟩ | ⟨⟨h1, h2⟩, L0, m, h3, h4, rfl⟩
    · exact ih (by omega) h2 r c r' c' hr hc' hlt
    · rw [List.length_append, List.length_singleton] at hr
      rcases Nat.lt_or_ge r' L0.length with h5 | h5
      · have hr5 : r < L0.length := by omega
        rw [lenL_left h5] at hc'
        rw [lenL_left hr5] at hlt
        rw [atL_left h5, atL_left hr5]
        exact ih (by omega) h3 r c r' c' h5 hc' hlt
      · obtain rfl : r' = L0.length := by omega
        rw [lenL_last, rstL_len] at hc'
        rw [atL_last, rstL_get _ _ _ _ _ hc']
        rcases hlt with ⟨h6, h7⟩ | ⟨rfl, h6⟩
        · rw [lenL_left h6] at h7
          rw [atL_left h6]
          obtain ⟨x, _, hx2, hx3⟩ := rnds_mem hbn (by omega) h3 r h6 c h7
          rw [hx2]
          intro e
          have e' : x = rst b t n c' := by exact_mod_cast e
          rw [e', told_fresh hbn (by omega) h2 h1] at hx3
          cases hx3
        · rw [atL_last, rstL_get _ _ _ _ _ (by omega)]
          intro e
          have e' : rst b t n c = rst b t n c' := by exact_mod_cast e
          exact h4.ne c c' h6 (by omega) e'

end Go.Proofs.Ytfhhfnkgdanakaa
