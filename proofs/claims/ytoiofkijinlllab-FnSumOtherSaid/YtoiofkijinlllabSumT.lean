/-
  Sums of rings, and which fraction is less: the model's side.
-/
import Derived.Test.YtoiofkijinlllabSumI
import Derived.Test.YtoiofkijinlllabOther
import Derived.Test.YtoiofkijinlllabTurnS
import Derived.Test.YtoiofkijinlllabRow
import Derived.Test.YtoiofkijinlllabPMath
import Derived.Maps.AppendAt
import Derived.Deep.QuietTactic
import Derived.BigQuiet
namespace Go.Proofs.Ytoiofkijinlllab
open Go.RowKit


set_option maxHeartbeats 1000000 in
theorem specSumOther_no (b : Int) (x : List Int) (hl : x.length ≤ 1048576) (h : rngB b x = false) : GivesD 21 (fun v => #[.int .i64 b, v]) x [] false := by
  intro n₀ v w hv
  have hA : Below w.heap.size w (w.alloc (.cells #[] 3)) := (Below.refl _ _).alloc (Nat.le_refl _) _
  have RG := Lib.hid (l5Ring_any n₀ b v x _ (hv.later hA) hl)
  rw [h] at RG
  go_enter Try.func21, Try.ntmps21
  go_wp2_with (go_at_call 23; refine RG.out.mono ?_; rintro e w' ⟨rfl, rfl⟩)
  go_ret2
  exact ⟨_, rfl, Slc.empty (Nat.le_refl _), hA⟩

set_option maxHeartbeats 2000000 in
theorem specSumOther_yes (b : Nat) (x : List Int) (h : Rng b x) : GivesD 21 (fun v => #[.int .i64 b, v]) x (othL b x) true := by
  intro n₀ v w hv
  obtain ⟨i0, hi, hz0, hz1, hz2⟩ := info_parts infoInt
  have h2 := h.b2; have h16 := h.b16; have hl1 := h.l1; have hl2 := h.l2
  have hA : Below w.heap.size w (w.alloc (.cells #[] 3)) := (Below.refl _ _).alloc (Nat.le_refl _) _
  have RG := Lib.hid (l5Ring_any n₀ b v x _ (hv.later hA) (by omega))
  rw [h.told] at RG
  obtain ⟨g, o, c, rfl, _, _, _, _⟩ := slc_some hv (by omega)
  have hdg : ∀ i, i < x.length → 0 ≤ x[i]?.getD 0 ∧ x[i]?.getD 0 < b := fun i hi => by
    rw [List.getElem?_eq_getElem hi]
    exact h.dg _ (List.getElem_mem hi)
  have hsu : ∀ i, i < x.length → (othL b x).take (i + 1) = (othL b x).take i ++ [(b : Int) - 1 - x[i]?.getD 0] := fun i hi => by
    rw [List.take_succ_eq_append_getElem (by rw [othL_len]; exact hi), List.getElem?_eq_getElem hi]
    simp [othL]
  obtain ⟨n, hn⟩ : ∃ n, x.length = n := ⟨_, rfl⟩
  rw [hn] at hv hl1 hl2 RG hdg hsu ⊢
  have hlo : (othL b x).length = n := by rw [othL_len, hn]
  have HN := Lib.hid hn; have HD := Lib.hid hdg; have HS := Lib.hid hsu; have HL := Lib.hid hlo
  clear h hn hdg hsu hlo
  have hO : (w.alloc (.cells #[] 3)).ownsRow w.heap.size 3 1 (.slice (some ⟨w.heap.size, 0, none⟩) 0 0) 0 (((othL b x).take 0).map (Value.int .i64)) :=
    World.ownsRow_made (base := w.heap.size) (e := 3) (size := 1) w #[] 0 (Nat.le_refl _) (by simp) (by simp)
  go_enter Try.func21, Try.ntmps21
  go_wp2_with (go_at_call 23; refine RG.out.mono ?_; rintro e w' ⟨rfl, rfl⟩)
  go_loopw [6, 7] (fun u i wr => ∃ p : Nat, p ≤ n ∧ i = .int .i64 p ∧ wr.ownsRow w.heap.size 3 1 u p (((othL b x).take p).map (Value.int .i64)) ∧ Below w.heap.size w wr) (fun _ i _ => n - (intOf i).toNat)
  case atStart => exact ⟨0, Nat.zero_le _, rfl, hO, hA⟩
  case round =>
    clear hO hA RG
    obtain ⟨p, hp, rfl, hown, hb⟩ := hrel
    by_cases hlt : p < n
    · have j1 : (p : Int) < (n : Int) := by omega
      have kc := Slc.cell HN.out (hv.later hb) p hlt
      have hD := HD.out p hlt
      have hs := HS.out p hlt
      obtain ⟨xp, hxp⟩ : ∃ xp, x[p]?.getD 0 = xp := ⟨_, rfl⟩
      rw [hxp] at kc hD hs
      have HSP := Lib.hid hs
      have HW := Lib.hid hown
      clear hs hxp hown
      go_wp2_with (at_builtin; refine wpList_append_own_at _ rfl _ _ 22 rfl w.heap.size 3 i0 (.int .i64 0) 1 8 Try.underlying22 hi hz0 hz1 hz2 rfl (by decide) _ _ _ rfl (HW.out.alloc _) ⟨wr.heap.size, 0, none⟩ 1 1 [.int .i64 ((b : Int) - 1 - xp)] rfl rfl (cell_one_new _ _ _) ?c2 ?c3 ?c4 ?c5 ?_)
      case c2 => simp [Value.oneCell']
      case c3 => unfold maxLen; omega
      case c4 => omega
      case c5 => have := hb.size; (try simp); omega
      intro v' w3 hown' hgrow _ _
      have hb3 := (hb.alloc hb.size (.cells #[.int .i64 ((b : Int) - 1 - xp)] 3)).grown hgrow (by have := hb.size; simp; omega) (fun q e => (World.ownsRow.lt HW.out q e).1)
      clear HW hgrow hb
      go_wp2_with fail
      refine ⟨⟨p + 1, hlt, rfl, ?_, hb3⟩, by simp [intOf]; omega⟩
      rw [HSP.out, List.map_append]
      simpa using hown'
    · obtain rfl : p = n := by omega
      have j1 : ¬ (p : Int) < (p : Int) := by omega
      go_wp2_with fail
      go_ret2
      rw [List.take_of_length_le (by rw [HL.out]; exact Nat.le_refl _)] at hown
      exact ⟨_, rfl, Slc.of_owns (by rw [HL.out]; exact hown), hb⟩

end Go.Proofs.Ytoiofkijinlllab
