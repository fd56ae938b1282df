/-
  What the laws do with lists: they mark them, and look whether the marks hold.
-/
import Derived.Test.YtkpdbkfbakbpkaaEq
namespace Go.Proofs.Ytkpdbkfbakbpkaa
open Go.RowKit

/-- k, k + 1, .. -/
def mk (k : Int) (n : Nat) : List Int := (List.range n).map fun i : Nat => k + i

theorem mk_len (k : Int) (n : Nat) : (mk k n).length = n := by simp [mk]
theorem mk_get (k : Int) (n i : Nat) (h : i < n) : (mk k n)[i]?.getD 0 = k + i := by
  unfold mk; rw [List.getElem?_map, List.getElem?_range h]; rfl

/-- A list whose first i numbers are marked. -/
def part (k : Int) (xs : List Int) (i : Nat) : List Int := mk k i ++ xs.drop i

theorem part_len (k : Int) (xs : List Int) (i : Nat) (h : i ≤ xs.length) : (part k xs i).length = xs.length := by simp [part, mk_len]; omega
theorem part_set (k : Int) (xs : List Int) (i : Nat) (h : i < xs.length) : (part k xs i).set i (k + i) = part k xs (i + 1) := by
  unfold part
  rw [List.set_append_right _ _ (by rw [mk_len]; exact Nat.le_refl _), mk_len, Nat.sub_self]
  have e : xs.drop i = xs[i] :: xs.drop (i + 1) := by rw [List.drop_eq_getElem_cons h]
  rw [e, List.set_cons_zero]
  unfold mk
  rw [List.range_succ, List.map_append, List.append_assoc]
  rfl
theorem part_all (k : Int) (xs : List Int) : part k xs xs.length = mk k xs.length := by simp [part]

set_option maxHeartbeats 1000000 in
theorem markIntS_any (n₀ : Nat) (v : Value) (xs : List Int) (k : Int) (w : World) (hv : Slc n₀ w v xs) (hlx : xs.length ≤ 10000) (hk0 : 0 ≤ k) (hk1 : k ≤ 1000000) :
    Calls Try.prog 24 #[v, .int .i64 k] w fun e w' => e = .returned (.int .i64 (k + xs.length)) ∧ Slc n₀ w' v (mk k xs.length) ∧ w.grownBy w' v.ownBlock := by
  by_cases h0 : xs.length = 0
  · have hx : xs = [] := List.length_eq_zero_iff.1 h0
    subst hx
    obtain ⟨a, c, rfl⟩ := slc_form hv
    go_enter Try.func24, Try.ntmps24
    go_wp2
    go_loopw [1, 5] (fun k' i wr => k' = .int .i64 k ∧ i = .int .i64 0 ∧ wr = w) (fun _ _ _ => 0)
    case atStart => exact ⟨rfl, rfl, rfl⟩
    case round =>
      obtain ⟨rfl, rfl, rfl⟩ := hrel
      go_wp2
      go_ret
      exact ⟨ret_int (by simp), hv, ⟨rfl, rfl, rfl, Nat.le_refl _, fun _ _ _ => rfl⟩⟩
  · obtain ⟨g, off, c, rfl, hg1, hg2, hc1, hc2⟩ := slc_some hv (by omega)
    obtain ⟨n, hn⟩ : ∃ n, xs.length = n := ⟨_, rfl⟩
    rw [hn] at hv hlx h0 hc1 ⊢
    have HN := Lib.hid hn; clear hn
    go_enter Try.func24, Try.ntmps24
    go_wp2
    go_loopw [1, 5] (fun k' i wr => ∃ j : Nat, j ≤ n ∧ i = .int .i64 j ∧ k' = .int .i64 (k + j) ∧ Slc n₀ wr (.slice (some ⟨g, off, none⟩) n c) (part k xs j) ∧ w.grownBy wr (some g)) (fun _ i _ => n - (intOf i).toNat)
    case atStart => exact ⟨0, Nat.zero_le _, rfl, by simp, by simpa [part, mk] using hv, ⟨rfl, rfl, rfl, Nat.le_refl _, fun _ _ _ => rfl⟩⟩
    case round =>
      obtain ⟨j, hj, rfl, rfl, hsl, hgr⟩ := hrel
      have hpl := part_len k xs j (by rw [HN.out]; exact hj)
      rw [HN.out] at hpl
      have HP := Lib.hid hpl; clear hpl
      by_cases hlt : j < n
      · have kc := Slc.cell HP.out hsl j hlt
        have kf := hsl.frozen (off + j)
        go_wp2
        go_roundw
        case rel =>
          refine ⟨j + 1, by omega, by go_num, by go_num, ?_, ?_⟩
          · have := Slc.set HP.out hsl j (k + j) hlt
            rw [part_set k xs j (by rw [HN.out]; exact hlt)] at this
            exact this
          · exact ⟨hgr.os, hgr.tape, hgr.output, by simpa using hgr.size, fun q hq hne => by
              rw [Below.heap_setCell _ ⟨g, off + j, none⟩ _ q (fun e => hne (by rw [e]))]
              exact hgr.block q hq hne⟩
        case measure => simp [intOf]; omega
      · obtain rfl : j = n := by omega
        go_wp2
        go_ret
        refine ⟨rfl, ?_, hgr⟩
        have := part_all k xs
        rw [HN.out] at this
        rw [← this]; exact hsl

set_option maxHeartbeats 1000000 in
theorem heldIntS_any (n₀ : Nat) (v : Value) (n : Nat) (k : Int) (w : World) (hv : Slc n₀ w v (mk k n)) (hlx : n ≤ 10000) (hk0 : 0 ≤ k) (hk1 : k ≤ 1000000) :
    Calls Try.prog 25 #[v, .int .i64 k] w fun e w' => e = .returned (.int .i64 (k + n)) ∧ w = w' := by
  have hl := mk_len k n
  by_cases h0 : n = 0
  · subst h0
    obtain ⟨a, c, rfl⟩ := slc_form hv
    rw [hl]
    clear hl
    go_enter Try.func25, Try.ntmps25
    go_wp2
    go_loop [1, 5] (fun k' i => k' = .int .i64 k ∧ i = .int .i64 0) (fun _ _ => 0)
    case atStart => exact ⟨rfl, rfl⟩
    case round =>
      obtain ⟨rfl, rfl⟩ := hrel
      go_wp2
      go_ret
      exact ⟨ret_int (by simp), rfl⟩
  · obtain ⟨g, off, c, rfl, hg1, hg2, hc1, hc2⟩ := slc_some hv (by omega)
    rw [hl] at hv hc1 ⊢
    have HL := Lib.hid hl; clear hl
    go_enter Try.func25, Try.ntmps25
    go_wp2
    go_loop [1, 5] (fun k' i => ∃ j : Nat, j ≤ n ∧ i = .int .i64 j ∧ k' = .int .i64 (k + j)) (fun _ i => n - (intOf i).toNat)
    case atStart => exact ⟨0, Nat.zero_le _, rfl, by simp⟩
    case round =>
      obtain ⟨j, hj, rfl, rfl⟩ := hrel
      by_cases hlt : j < n
      · have kc := Slc.cell HL.out hv j hlt
        rw [mk_get k n j hlt] at kc
        go_wp2
        go_round
        case rel => exact ⟨j + 1, by omega, by go_num, by go_num⟩
        case measure => simp [intOf]; omega
      · obtain rfl : j = n := by omega
        go_wp2
        go_ret
        exact ⟨rfl, rfl⟩

end Go.Proofs.Ytkpdbkfbakbpkaa
