/-
  The copy that the laws make of a list that came in.
-/
import Derived.Deep.OwnRows
import Derived.Test.YtoiofkijinlllabEq
import Derived.Test.YtoiofkijinlllabFrame
namespace Go.Proofs.Ytoiofkijinlllab
open Go.RowKit

/-- A list that came in. -/
def SrcI (W : World) (a : Option Addr) (xs : List Int) : Prop :=
  0 < xs.length → ∃ g off, a = some ⟨g, off, none⟩ ∧ g < W.heap.size ∧ ∀ k, k < xs.length → W.cell? ⟨g, off + k, none⟩ = some (.int .i64 (xs[k]?.getD 0))

theorem SrcI.later {W W' : World} {a : Option Addr} {xs : List Int} (h : SrcI W a xs) (hb : Below W.heap.size W W') : SrcI W' a xs := by
  intro h0
  obtain ⟨g, off, rfl, hg, hc⟩ := h h0
  refine ⟨g, off, rfl, Nat.lt_of_lt_of_le hg hb.size, fun k hk => ?_⟩
  rw [← hc k hk]
  simp only [World.cell?, hb.block g hg]

theorem row_src {w : World} {a : Option Addr} {len cap : Nat} {zs : List Int} (h : IsRow .i64 w a len cap zs) : (zs.take len).length = len ∧ SrcI w a (zs.take len) := by
  rcases h with ⟨rfl, rfl, rfl, rfl⟩ | ⟨x, rfl, h1, h2, h3, h4, _⟩
  · exact ⟨rfl, fun h => absurd h (by simp)⟩
  · have hl : (zs.take len).length = len := by rw [List.length_take]; omega
    refine ⟨hl, fun h0 => ?_⟩
    rw [hl] at h0 ⊢
    have hs : x.spot = none ∧ x.block < w.heap.size := by
      have := h4 0 (by omega)
      simp only [Addr.add, if_true] at this
      unfold World.cell? at this
      cases hb : w.heap[x.block]? with
      | none => rw [hb] at this; cases this
      | some o =>
        rw [hb] at this
        refine ⟨?_, (Array.getElem?_eq_some_iff.1 hb).1⟩
        cases o <;> simp at this
        cases hx : x.spot with
        | none => rfl
        | some s => simp [hx] at this
    obtain ⟨g, off, sp⟩ := x
    obtain ⟨rfl, hg⟩ := hs
    refine ⟨g, off, rfl, hg, fun k hk => ?_⟩
    have := h4 k (by omega)
    have e : (⟨g, off, none⟩ : Addr).add k = ⟨g, off + k, none⟩ := by
      unfold Addr.add
      split
      · subst_vars; rfl
      · rfl
    rw [e] at this
    rw [this, List.getElem?_take_of_lt hk, List.getD_eq_getElem?_getD]

set_option maxHeartbeats 1000000 in
theorem toIntS_any (a : Option Addr) (c : Nat) (xs : List Int) (w : World) (h : SrcI w a xs) (hl : xs.length ≤ 1048576) :
    Calls Try.prog 8 #[.slice a xs.length c] w fun e w' => ∃ v, e = .returned v ∧ Slc w.heap.size w' v xs ∧ Below w.heap.size w w' := by
  obtain ⟨n, hn⟩ : ∃ n, xs.length = n := ⟨_, rfl⟩
  unfold SrcI at h
  rw [hn] at h hl ⊢
  have HN := Lib.hid hn; clear hn
  have HS := Lib.hid h; clear h
  have hmx : n ≤ maxLen := by unfold maxLen; omega
  have hmk := run_make_row' (P := Try.prog) 22 3 (.int .i64 0) 8 Try.underlying22 infoInt rfl .i64 .i64 n (by omega) (by omega)
  go_enter Try.func8, Try.ntmps8
  go_wp2
  go_loopw [4] (fun i wr => ∃ (j : Nat) (zs : List Int), j ≤ n ∧ i = .int .i64 j ∧ RowI wr w.heap.size zs ∧ zs.length = n ∧ (∀ q, q < j → zs[q]?.getD 0 = xs[q]?.getD 0) ∧ Below w.heap.size w wr) (fun i _ => n - (intOf i).toNat)
  case atStart => exact ⟨0, List.replicate n 0, Nat.zero_le _, rfl, RowI.made n rfl, by simp, fun q hq => by omega, (Below.refl _ _).alloc (Nat.le_refl _) _⟩
  case round =>
    obtain ⟨j, zs, hj, rfl, hrow, hzl, hq, hbel⟩ := hrel
    have HQ := Lib.hid hq; clear hq
    by_cases hlt : j < n
    · obtain ⟨g, off, rfl, hg, hc⟩ := HS.out (by omega)
      have kc : wr.cell? ⟨g, off + j, none⟩ = some (.int .i64 (xs[j]?.getD 0)) := by
        rw [← hc j hlt]
        simp only [World.cell?, hbel.block g hg]
      have kf := hrow.frozen j
      have kz := hrow.cell j (by omega)
      go_wp2
      go_roundw
      case rel =>
        refine ⟨j + 1, _, by omega, by go_num, hrow.set j _, by rw [List.length_set]; exact hzl, fun q hq => ?_, ?_⟩
        · rw [List.getElem?_set]
          by_cases e : j = q
          · subst e; simp [hzl, hlt]
          · rw [if_neg e]; exact HQ.out q (by omega)
        · exact hbel.setCell (p := ⟨w.heap.size, j, none⟩) (Nat.le_refl _) _
      case measure => simp [intOf]; omega
    · obtain rfl : j = n := by omega
      go_wp2
      go_ret
      have hz : zs = xs := by
        apply List.ext_getElem?
        intro q
        rcases Nat.lt_or_ge q j with h | h
        · have := HQ.out q h
          rw [List.getElem?_eq_getElem (by omega), List.getElem?_eq_getElem (by rw [HN.out]; exact h)] at this ⊢
          simpa using this
        · rw [List.getElem?_eq_none (by omega), List.getElem?_eq_none (by rw [HN.out]; exact h)]
      subst hz
      obtain ⟨cur, hh, hcur⟩ := hrow
      have hsz : cur.size = j := by rw [← Array.length_toList, hcur, List.length_map, hzl]
      refine ⟨_, rfl, .inr ⟨w.heap.size, 0, j, cur, by rw [hzl]; rfl, Nat.le_refl _, hh, by omega, hmx, by omega, ?_⟩, hbel⟩
      rw [List.drop_zero, hcur, List.take_of_length_le (by rw [List.length_map]; exact Nat.le_refl _)]


end Go.Proofs.Ytoiofkijinlllab
