/-
  The laws' own sum of a list of small numbers.
-/
import Derived.Test.YtamcpoadpkgogacTurnM
import Derived.Test.YtamcpoadpkgogacEq
namespace Go.Proofs.Ytamcpoadpkgogac
open Go.RowKit

theorem sumI_take {L : List Int} {p : Nat} (hp : p < L.length) : sumI (L.take (p + 1)) = sumI (L.take p) + L[p]?.getD 0 := by
  rw [List.take_succ_eq_append_getElem hp, sumI_append, List.getElem?_eq_getElem hp]
  show sumI (L.take p) + sumI [L[p]] = _
  rw [sumI_cons]; simp [sumI]

theorem sumI_bd {L : List Int} {c : Int} (_h0 : 0 ≤ c) : (∀ x ∈ L, 0 ≤ x ∧ x ≤ c) → 0 ≤ sumI L ∧ sumI L ≤ L.length * c := by
  induction L with
  | nil => intro _; simp [sumI]
  | cons x L ih =>
    intro h
    obtain ⟨i1, i2⟩ := ih fun y hy => h y (List.mem_cons_of_mem x hy)
    obtain ⟨x1, x2⟩ := h x (by simp)
    rw [sumI_cons, List.length_cons]
    have e : ((L.length + 1 : Nat) : Int) * c = L.length * c + c := by
      rw [Int.natCast_add, Int.add_mul]; simp
    omega

set_option maxHeartbeats 1000000 in
theorem totalI_any (n₀ : Nat) (v : Value) (xs : List Int) (w : World) (hv : Slc n₀ w v xs) (hl : xs.length ≤ 1000) (hx : ∀ x ∈ xs, 0 ≤ x ∧ x ≤ 1000) :
    Calls Try.prog 23 #[v] w fun e w' => e = .returned (.int .i64 (sumI xs)) ∧ w = w' := by
  obtain ⟨n, hn⟩ : ∃ n, xs.length = n := ⟨_, rfl⟩
  have hbd : ∀ p, 0 ≤ sumI (xs.take p) ∧ sumI (xs.take p) ≤ 1000 * 1000 := fun p => by
    obtain ⟨h1, h2⟩ := sumI_bd (L := xs.take p) (c := 1000) (by omega) fun x hx' => hx x (List.mem_of_mem_take hx')
    have : ((xs.take p).length : Int) ≤ 1000 := by rw [List.length_take]; omega
    exact ⟨h1, by omega⟩
  have hg : ∀ p, p < n → 0 ≤ xs[p]?.getD 0 ∧ xs[p]?.getD 0 ≤ 1000 := fun p hp => by
    rw [List.getElem?_eq_getElem (by omega)]
    exact hx _ (List.getElem_mem (by omega))
  have hall : xs.take n = xs := List.take_of_length_le (by omega)
  obtain ⟨a, c, rfl⟩ := slc_form hv
  rw [hn] at hv hl ⊢
  have HN := Lib.hid hn; have HB := Lib.hid hbd; have HG := Lib.hid hg; have HA := Lib.hid hall
  clear hbd hg hx hall hn
  go_enter Try.func23, Try.ntmps23
  go_wp2
  go_loop [3, 4] (fun s i => ∃ p : Nat, p ≤ n ∧ i = .int .i64 p ∧ s = .int .i64 (sumI (xs.take p))) (fun _ i => n - (intOf i).toNat)
  case atStart => exact ⟨0, Nat.zero_le _, rfl, by simp [sumI]⟩
  case round =>
    obtain ⟨p, hp, rfl, rfl⟩ := hrel
    by_cases hlt : p < n
    · obtain ⟨g, o, c1, e1, _, _, _, _⟩ := slc_some (by rw [← HN.out] at hv; exact hv) (by rw [HN.out]; omega)
      rw [HN.out] at e1
      cases e1
      have kc := Slc.cell HN.out hv p hlt
      have h1 := HB.out p
      have h2 := HG.out p hlt
      have HT := Lib.hid (sumI_take (L := xs) (p := p) (by rw [HN.out]; exact hlt))
      have i1 : (p : Int) < n := by omega
      revert kc h2 HT h1
      generalize xs[p]?.getD 0 = x
      generalize sumI (xs.take p) = s
      intro kc h1 h2 HT
      go_wp2_with fail
      exact ⟨⟨p + 1, by omega, rfl, by rw [HT.out]⟩, by simp [intOf]; omega⟩
    · obtain rfl : p = n := by omega
      have i1 : ¬ (p : Int) < p := by omega
      rw [HA.out]
      go_wp2_with fail
      go_ret
      exact ⟨rfl, rfl⟩

end Go.Proofs.Ytamcpoadpkgogac
