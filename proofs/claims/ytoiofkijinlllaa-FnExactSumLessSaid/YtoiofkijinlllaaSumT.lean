/-
  Sums of rings, and which fraction is less: the model's side.
-/
import Derived.Test.YtoiofkijinlllaaSumI
import Derived.Test.YtoiofkijinlllaaOther
import Derived.Test.YtoiofkijinlllaaTurnS
import Derived.Test.YtoiofkijinlllaaRow
import Derived.Test.YtoiofkijinlllaaPMath
import Derived.Maps.AppendAt
import Derived.Deep.QuietTactic
import Derived.BigQuiet
namespace Go.Proofs.Ytoiofkijinlllaa
open Go.RowKit

set_option maxHeartbeats 2000000 in
theorem specSumLess_no (b t n u m : Int) (h : (tldB b t n && tldB b u m) = false) : GivesB 19 #[.int .i64 b, .agg #[.int .i64 t, .int .i64 n], .agg #[.int .i64 u, .int .i64 m]] false := by
  intro w
  cases h1 : tldB b t n with
  | false =>
    clear h
    go_enter Try.func19, Try.ntmps19
    go_wp2_with fail
    refine (l1Given_any _ _ _ _).mono ?_
    rintro e w1 ⟨rfl, hb1⟩
    rw [h1]
    have hb := bel2' hb1
    go_wp2_with fail
    go_ret
    exact ⟨rfl, hb⟩
  | true =>
    rw [h1, Bool.true_and] at h
    go_enter Try.func19, Try.ntmps19
    go_wp2_with fail
    refine (l1Given_any _ _ _ _).mono ?_
    rintro e w1 ⟨rfl, hb1⟩
    rw [h1]
    have y1 : Box2 w1 (w.heap.size + 1) 24 (.int .i64 u) (.int .i64 m) := (Box2.newAt (by simp)).later hb1
    have y0 := y1.cell0
    have y1' := y1.cell1
    have hb := bel2' hb1
    clear hb1
    go_wp2_with fail
    refine (l1Given_any _ _ _ _).mono ?_
    rintro e w2 ⟨rfl, hb2⟩
    rw [h]
    have hbb := hb.trans (hb2.mono hb.size)
    go_wp2_with fail
    go_ret
    exact ⟨rfl, hbb⟩

set_option maxHeartbeats 2000000 in
theorem specSumLess_is (b T B U C : Nat) (p : Bool) (h3 : 2 ≤ b) (h4 : b ≤ 16) (h : FOk T B) (h' : FOk U C) (hp : decide ((T : Int) * C < (U : Int) * B) = p) :
    GivesB 19 #[.int .i64 b, .agg #[.int .i64 T, .int .i64 B], .agg #[.int .i64 U, .int .i64 C]] p := by
  intro w
  have t1 := h.told h3 h4
  have t2 := h'.told h3 h4
  have hT := h.lt; have hB := h.bot; have hU := h'.lt; have hC := h'.bot
  have htc : T * C ≤ 1000 * 1000 := Nat.mul_le_mul (by omega) hC
  have hub : U * B ≤ 1000 * 1000 := Nat.mul_le_mul (by omega) hB
  have i2 : ((T * C : Nat) : Int) = (T : Int) * C := by simp
  have i3 : ((U * B : Nat) : Int) = (U : Int) * B := by simp
  have i6 : (T : Int) * C ≤ 1000000 := by omega
  have i7 : (0 : Int) ≤ (T : Int) * C := by omega
  have i8 : (U : Int) * B ≤ 1000000 := by omega
  have i9 : (0 : Int) ≤ (U : Int) * B := by omega
  clear h h' i2 i3
  go_enter Try.func19, Try.ntmps19
  go_wp2_with fail
  refine (l1Given_any _ _ _ _).mono ?_
  rintro e w1 ⟨rfl, hb1⟩
  rw [t1]
  have x1 : Box2 w1 w.heap.size 24 (.int .i64 T) (.int .i64 B) := ((Box2.newAt rfl).alloc _).later hb1
  have y1 : Box2 w1 (w.heap.size + 1) 24 (.int .i64 U) (.int .i64 C) := (Box2.newAt (by simp)).later hb1
  have y0 := y1.cell0
  have y1' := y1.cell1
  have hb := bel2' hb1
  clear hb1
  go_wp2_with fail
  refine (l1Given_any _ _ _ _).mono ?_
  rintro e w2 ⟨rfl, hb2⟩
  rw [t2]
  have x2 := x1.later hb2
  have y2 := y1.later hb2
  have x0 := x2.cell0
  have x1' := x2.cell1
  have y0 := y2.cell0
  have y1' := y2.cell1
  have hbb := hb.trans (hb2.mono hb.size)
  clear hb2 hb t1 t2 x1 y1
  cases p with
  | true =>
    have hlt : (T : Int) * C < (U : Int) * B := of_decide_eq_true hp
    go_wp2_with fail
    go_ret
    exact ⟨rfl, hbb⟩
  | false =>
    have hlt : ¬ (T : Int) * C < (U : Int) * B := of_decide_eq_false hp
    go_wp2_with fail
    go_ret
    exact ⟨rfl, hbb⟩

theorem specSumLess_yes (b T B U C : Nat) (h3 : 2 ≤ b) (h4 : b ≤ 16) (h : FOk T B) (h' : FOk U C) :
    GivesB 19 #[.int .i64 b, .agg #[.int .i64 T, .int .i64 B], .agg #[.int .i64 U, .int .i64 C]] (decide (T * C < U * B)) :=
  specSumLess_is b T B U C _ h3 h4 h h' (by
    have i2 : ((T * C : Nat) : Int) = (T : Int) * C := by simp
    have i3 : ((U * B : Nat) : Int) = (U : Int) * B := by simp
    rw [← i2, ← i3]
    by_cases hlt : T * C < U * B
    · rw [decide_eq_true hlt]; exact decide_eq_true (by omega)
    · rw [decide_eq_false hlt]; exact decide_eq_false (by omega))

set_option maxHeartbeats 1000000 in
theorem specSumOther_no (b : Int) (x : List Int) (hl : x.length ≤ 1048576) (h : rngB b x = false) : GivesD 13 (fun v => #[.int .i64 b, v]) x [] false := by
  intro n₀ v w hv
  have hA : Below w.heap.size w (w.alloc (.cells #[] 3)) := (Below.refl _ _).alloc (Nat.le_refl _) _
  have RG := Lib.hid (l5Ring_any n₀ b v x _ (hv.later hA) hl)
  rw [h] at RG
  go_enter Try.func13, Try.ntmps13
  go_wp2_with (go_at_call 27; refine RG.out.mono ?_; rintro e w' ⟨rfl, rfl⟩)
  go_ret2
  exact ⟨_, rfl, Slc.empty (Nat.le_refl _), hA⟩

set_option maxHeartbeats 2000000 in
theorem specSumOther_yes (b : Nat) (x : List Int) (h : Rng b x) : GivesD 13 (fun v => #[.int .i64 b, v]) x (othL b x) true := by
  intro n₀ v w hv
  obtain ⟨i0, hi, hz0, hz1, hz2⟩ := info_parts infoInt
  have h2 := h.b2; have h16 := h.b16; have hl1 := h.l1; have hl2 := h.l2
  have hA : Below w.heap.size w (w.alloc (.cells #[] 3)) := (Below.refl _ _).alloc (Nat.le_refl _) _
  have RG := Lib.hid (l5Ring_any n₀ b v x _ (hv.later hA) (by omega))
  rw [h.told] at RG
  obtain ⟨g, o, c, rfl, _, _, _, _⟩ := slc_some hv (by omega)
  have hdg : ∀ i, i < x.length → 0 ≤ x[i]?.getD 0 ∧ x[i]?.getD 0 < b := fun i hi => by
    rw [List.getElem?_eq_getElem hi]
    exact h.dg _ (List.getElem_mem hi)
  have hsu : ∀ i, i < x.length → (othL b x).take (i + 1) = (othL b x).take i ++ [(b : Int) - 1 - x[i]?.getD 0] := fun i hi => by
    rw [List.take_succ_eq_append_getElem (by rw [othL_len]; exact hi), List.getElem?_eq_getElem hi]
    simp [othL]
  obtain ⟨n, hn⟩ : ∃ n, x.length = n := ⟨_, rfl⟩
  rw [hn] at hv hl1 hl2 RG hdg hsu ⊢
  have hlo : (othL b x).length = n := by rw [othL_len, hn]
  have HN := Lib.hid hn; have HD := Lib.hid hdg; have HS := Lib.hid hsu; have HL := Lib.hid hlo
  clear h hn hdg hsu hlo
  have hO : (w.alloc (.cells #[] 3)).ownsRow w.heap.size 3 1 (.slice (some ⟨w.heap.size, 0, none⟩) 0 0) 0 (((othL b x).take 0).map (Value.int .i64)) :=
    World.ownsRow_made (base := w.heap.size) (e := 3) (size := 1) w #[] 0 (Nat.le_refl _) (by simp) (by simp)
  go_enter Try.func13, Try.ntmps13
  go_wp2_with (go_at_call 27; refine RG.out.mono ?_; rintro e w' ⟨rfl, rfl⟩)
  go_loopw [6, 7] (fun u i wr => ∃ p : Nat, p ≤ n ∧ i = .int .i64 p ∧ wr.ownsRow w.heap.size 3 1 u p (((othL b x).take p).map (Value.int .i64)) ∧ Below w.heap.size w wr) (fun _ i _ => n - (intOf i).toNat)
  case atStart => exact ⟨0, Nat.zero_le _, rfl, hO, hA⟩
  case round =>
    clear hO hA RG
    obtain ⟨p, hp, rfl, hown, hb⟩ := hrel
    by_cases hlt : p < n
    · have j1 : (p : Int) < (n : Int) := by omega
      have kc := Slc.cell HN.out (hv.later hb) p hlt
      have hD := HD.out p hlt
      have hs := HS.out p hlt
      obtain ⟨xp, hxp⟩ : ∃ xp, x[p]?.getD 0 = xp := ⟨_, rfl⟩
      rw [hxp] at kc hD hs
      have HSP := Lib.hid hs
      have HW := Lib.hid hown
      clear hs hxp hown
      go_wp2_with (at_builtin; refine wpList_append_own_at _ rfl _ _ 32 rfl w.heap.size 3 i0 (.int .i64 0) 1 8 Try.underlying32 hi hz0 hz1 hz2 rfl (by decide) _ _ _ rfl (HW.out.alloc _) ⟨wr.heap.size, 0, none⟩ 1 1 [.int .i64 ((b : Int) - 1 - xp)] rfl rfl (cell_one_new _ _ _) ?c2 ?c3 ?c4 ?c5 ?_)
      case c2 => simp [Value.oneCell']
      case c3 => unfold maxLen; omega
      case c4 => omega
      case c5 => have := hb.size; (try simp); omega
      intro v' w3 hown' hgrow _ _
      have hb3 := (hb.alloc hb.size (.cells #[.int .i64 ((b : Int) - 1 - xp)] 3)).grown hgrow (by have := hb.size; simp; omega) (fun q e => (World.ownsRow.lt HW.out q e).1)
      clear HW hgrow hb
      go_wp2_with fail
      refine ⟨⟨p + 1, hlt, rfl, ?_, hb3⟩, by simp [intOf]; omega⟩
      rw [HSP.out, List.map_append]
      simpa using hown'
    · obtain rfl : p = n := by omega
      have j1 : ¬ (p : Int) < (p : Int) := by omega
      go_wp2_with fail
      go_ret2
      rw [List.take_of_length_le (by rw [HL.out]; exact Nat.le_refl _)] at hown
      exact ⟨_, rfl, Slc.of_owns (by rw [HL.out]; exact hown), hb⟩

end Go.Proofs.Ytoiofkijinlllaa
