/-
  Chapter 6, the program's side: times, other rings.
-/
import Derived.Test.YtoiofkijinlllabSumI
import Derived.Test.YtoiofkijinlllabOther
import Derived.Test.YtoiofkijinlllabPower
import Derived.Test.YtoiofkijinlllabTurnX
import Derived.Test.YtoiofkijinlllabPMath
import Derived.Deep.RegionWith
import Derived.Deep.RegionHeld3
import Derived.Deep.LoopGhost
import Derived.Deep.QuietTactic
import Derived.BigQuiet
namespace Go.Proofs.Ytoiofkijinlllab
open Go.RowKit

theorem lowest_red (t n : Nat) (w : World) (hn : 0 < n) (ht : t ≤ 100000000000) (hn2 : n ≤ 100000000000) :
    Calls Try.prog 51 #[.int .i64 t, .int .i64 n] w fun e w' => e = .returned (.agg #[.int .i64 (redT t n : Nat), .int .i64 (redN t n : Nat)]) ∧ Below w.heap.size w w' := lowest_any t n w hn ht hn2


set_option maxHeartbeats 1000000 in
theorem implSumOther_no (b : Int) (x : List Int) (hl : x.length ≤ 1048576) (h : rngB b x = false) : GivesD 20 (fun v => #[.int .i64 b, v]) x [] false := by
  intro n₀ v w hv
  have RG := Lib.hid (ringIn_any n₀ b v x w hv hl)
  rw [h] at RG
  go_enter Try.func20, Try.ntmps20
  go_wp2_with (go_at_call 35; refine RG.out.mono ?_; rintro e w' ⟨rfl, rfl⟩)
  go_ret2
  exact ⟨_, rfl, Slc.nil _ _, Below.refl _ _⟩

/-- The other ring as far as it is written. -/
def othZ (b : Nat) (x : List Int) (p : Nat) : List Int := (othL b x).take p ++ List.replicate (x.length - p) 0
theorem othZ_len {b : Nat} {x : List Int} {p : Nat} (hp : p ≤ x.length) : (othZ b x p).length = x.length := by
  unfold othZ; rw [List.length_append, List.length_take, othL_len, List.length_replicate]; omega
theorem othZ_set {b : Nat} {x : List Int} {p : Nat} (hp : p < x.length) : (othZ b x p).set p ((b : Int) - 1 - x[p]?.getD 0) = othZ b x (p + 1) := by
  unfold othZ
  have hl : ((othL b x).take p).length = p := by rw [List.length_take, othL_len]; omega
  rw [List.set_append_right _ _ (by omega), hl, Nat.sub_self]
  obtain ⟨k, hk⟩ : ∃ k, x.length - p = k + 1 := ⟨x.length - p - 1, by omega⟩
  rw [hk, List.replicate_succ, List.set_cons_zero, List.take_succ_eq_append_getElem (by rw [othL_len]; exact hp), List.append_assoc, List.getElem?_eq_getElem hp, show x.length - (p + 1) = k by omega]
  simp [othL]
theorem othZ_zero (b : Nat) (x : List Int) : othZ b x 0 = List.replicate x.length 0 := by unfold othZ; simp
theorem othZ_all (b : Nat) (x : List Int) : othZ b x x.length = othL b x := by
  unfold othZ; rw [List.take_of_length_le (by rw [othL_len]; exact Nat.le_refl _), Nat.sub_self]; simp

theorem row_slcX {W : World} {g n₀ : Nat} {zs : List Int} (h : RowI W g zs) (hg : n₀ ≤ g) (hm : zs.length ≤ maxLen) : Slc n₀ W (.slice (some ⟨g, 0, none⟩) zs.length zs.length) zs := by
  obtain ⟨cur, h1, h2⟩ := h
  have hl : cur.size = zs.length := by rw [← Array.length_toList, h2, List.length_map]
  refine .inr ⟨g, 0, zs.length, cur, rfl, hg, h1, Nat.le_refl _, hm, by omega, ?_⟩
  rw [List.drop_zero, h2]
  exact List.take_of_length_le (by simp)

set_option maxHeartbeats 2000000 in
theorem other_any (n₀ b : Nat) (v : Value) (x : List Int) (w : World) (hv : Slc n₀ w v x) (h : Rng b x) :
    Calls Try.prog 38 #[v, .int .i64 b] w fun e w' => ∃ u, e = .returned u ∧ Slc w.heap.size w' u (othL b x) ∧ Below w.heap.size w w' := by
  have h2 := h.b2; have h16 := h.b16; have hl1 := h.l1; have hl2 := h.l2
  obtain ⟨g, o, c, rfl, _, hgl, _, _⟩ := slc_some hv (by omega)
  have hdg : ∀ i, i < x.length → 0 ≤ x[i]?.getD 0 ∧ x[i]?.getD 0 < b := fun i hi => by
    rw [List.getElem?_eq_getElem hi]
    exact h.dg _ (List.getElem_mem hi)
  have hset : ∀ p, p < x.length → (othZ b x p).set p ((b : Int) - 1 - x[p]?.getD 0) = othZ b x (p + 1) := fun p hp => othZ_set hp
  have hzl : ∀ p, p ≤ x.length → (othZ b x p).length = x.length := fun p hp => othZ_len hp
  have hz0 := othZ_zero b x
  have hza := othZ_all b x
  obtain ⟨n, hn⟩ : ∃ n, x.length = n := ⟨_, rfl⟩
  rw [hn] at hv hl1 hl2 hdg hset hzl hz0 hza ⊢
  have hmk := run_make_row' (P := Try.prog) 46 3 (.int .i64 0) 8 Try.underlying46 infoInt rfl .i64 .i64 n (by omega) (by omega)
  have HN := Lib.hid hn; have HD := Lib.hid hdg; have HS := Lib.hid hset; have HL := Lib.hid hzl; have HZ := Lib.hid hz0; have HA := Lib.hid hza
  clear h hn hdg hset hzl hz0 hza
  have hR0 := RowI.made (W := w) (g := w.heap.size) n rfl
  have hB0 : Below w.heap.size w (w.alloc (.cells (madeCells #[.int .i64 0] n) 3)) := (Below.refl _ _).alloc (Nat.le_refl _) _
  go_enter Try.func38, Try.ntmps38
  go_wp2_with fail
  go_loopw [13] (fun i' wr => ∃ p : Nat, p ≤ n ∧ i' = .int .i64 p ∧ RowI wr w.heap.size (othZ b x p) ∧ Below w.heap.size w wr) (fun i' _ => n - (intOf i').toNat)
  case atStart => exact ⟨0, Nat.zero_le _, rfl, by rw [HZ.out]; exact hR0, hB0⟩
  case round =>
    clear hR0 hB0 hmk
    obtain ⟨p, hp, rfl, hR, hb⟩ := hrel
    by_cases hlt : p < n
    · have j1 : (p : Int) < (n : Int) := by omega
      have kc := Slc.cell HN.out (hv.later hb) p hlt
      have hD := HD.out p hlt
      have hzl := HL.out p (by omega)
      have hfz := hR.frozen p
      have hcz := hR.cell p (by rw [hzl]; exact hlt)
      have hset := hR.set p ((b : Int) - 1 - x[p]?.getD 0)
      rw [HS.out p hlt] at hset
      have hbs : Below w.heap.size w (wr.setCell ⟨w.heap.size, p, none⟩ (.int .i64 ((b : Int) - 1 - x[p]?.getD 0))) := hb.setCell (p := ⟨w.heap.size, p, none⟩) (Nat.le_refl _) _
      obtain ⟨xp, hxp⟩ : ∃ xp, x[p]?.getD 0 = xp := ⟨_, rfl⟩
      rw [hxp] at kc hD hset hbs
      have HSS := Lib.hid hset; have HBS := Lib.hid hbs
      clear hxp hR hset hbs hzl
      go_wp2_with fail
      exact ⟨⟨p + 1, hlt, rfl, HSS.out, HBS.out⟩, by simp [intOf]; omega⟩
    · obtain rfl : p = n := by omega
      have j1 : ¬ (p : Int) < (p : Int) := by omega
      go_wp2_with fail
      go_ret
      rw [HA.out] at hR
      have := row_slcX hR (Nat.le_refl _) (by rw [othL_len, HN.out]; unfold maxLen; omega)
      rw [othL_len, HN.out] at this
      exact ⟨_, rfl, this, hb⟩

theorem implSumOther_yes (b : Nat) (x : List Int) (h : Rng b x) : GivesD 20 (fun v => #[.int .i64 b, v]) x (othL b x) true := by
  intro n₀ v w hv
  have hl2 := h.l2
  have RG := Lib.hid (ringIn_any n₀ b v x w hv (by omega))
  rw [h.told] at RG
  have OT := Lib.hid (other_any n₀ b v x w hv h)
  go_enter Try.func20, Try.ntmps20
  go_wp2_with fail
  refine RG.out.mono ?_
  rintro e w' ⟨rfl, rfl⟩
  go_wp2_with fail
  refine OT.out.mono ?_
  rintro e w1 ⟨u, rfl, hu, hb⟩
  go_wp2_with fail
  go_ret2
  exact ⟨_, rfl, hu, hb⟩

theorem imSumOther : ImSumOther := ⟨implSumOther_no, implSumOther_yes⟩

end Go.Proofs.Ytoiofkijinlllab
