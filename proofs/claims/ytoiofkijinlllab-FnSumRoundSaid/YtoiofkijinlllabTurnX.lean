/-
  Chapter 5, the program's side: what a ring is, lists put behind each other, turned rings.
-/
import Derived.Test.YtoiofkijinlllabTurnB
import Derived.Test.YtoiofkijinlllabStepA
import Derived.Maps.AppendAt
import Derived.Lib.AppendZerosOnto
import Derived.Deep.RegionWith
import Derived.Deep.RegionLaw
import Derived.BigRegion
namespace Go.Proofs.Ytoiofkijinlllab
open Go.RowKit

set_option maxHeartbeats 1000000 in
theorem ringIn_any (n₀ : Nat) (b : Int) (v : Value) (d : List Int) (w : World) (hv : Slc n₀ w v d) (hl : d.length ≤ 1048576) :
    Calls Try.prog 35 #[.int .i64 b, v] w fun e w' => e = .returned (.bool (rngB b d)) ∧ w = w' := by
  have DG := Lib.hid (digitsIn_any n₀ b v d w hv hl)
  obtain ⟨a, c, rfl⟩ := slc_form hv
  clear hv
  by_cases h1 : 2 ≤ b ∧ b ≤ 16
  · have j1 : decide (2 ≤ b ∧ b ≤ 16) = true := by simpa using h1
    by_cases h2 : 0 < d.length
    · have k2 : decide (0 < d.length) = true := by simpa using h2
      by_cases h3 : d.length ≤ 250
      · have k3 : decide ((d.length : Int) ≤ 250) = true := by simp; omega
        have HF : Hid (rngB b d = digB b d) := by unfold Hid rngB; rw [j1, decide_eq_true (show 1 ≤ d.length ∧ d.length ≤ 250 from ⟨h2, h3⟩), Bool.true_and, Bool.true_and]
        clear h1 h3
        go_enter Try.func35, Try.ntmps35
        go_wp2_with (first | (go_at_call 44; refine (baseIn_any _ _).mono ?_; rintro e w' ⟨rfl, rfl⟩) | (go_at_call 48; refine DG.out.mono ?_; rintro e w' ⟨rfl, rfl⟩))
        go_ret
        exact ⟨ret_bool HF.out.symm, rfl⟩
      · have k3 : decide ((d.length : Int) ≤ 250) = false := by simp; omega
        have HF : Hid (rngB b d = false) := by unfold Hid rngB; rw [decide_eq_false (show ¬ (1 ≤ d.length ∧ d.length ≤ 250) by omega), Bool.false_and, Bool.and_false]
        clear h1 h3
        go_enter Try.func35, Try.ntmps35
        go_wp2_with (go_at_call 44; refine (baseIn_any _ _).mono ?_; rintro e w' ⟨rfl, rfl⟩)
        go_ret
        exact ⟨ret_bool HF.out.symm, rfl⟩
    · have k2 : decide (0 < d.length) = false := by simpa using h2
      have HF : Hid (rngB b d = false) := by unfold Hid rngB; rw [decide_eq_false (show ¬ (1 ≤ d.length ∧ d.length ≤ 250) by omega), Bool.false_and, Bool.and_false]
      clear h1
      go_enter Try.func35, Try.ntmps35
      go_wp2_with (go_at_call 44; refine (baseIn_any _ _).mono ?_; rintro e w' ⟨rfl, rfl⟩)
      go_ret
      exact ⟨ret_bool HF.out.symm, rfl⟩
  · have j1 : decide (2 ≤ b ∧ b ≤ 16) = false := by simpa using h1
    have HF : Hid (rngB b d = false) := by unfold Hid rngB; rw [j1, Bool.false_and]
    clear h1
    go_enter Try.func35, Try.ntmps35
    go_wp2_with (go_at_call 44; refine (baseIn_any _ _).mono ?_; rintro e w' ⟨rfl, rfl⟩)
    go_ret
    exact ⟨ret_bool HF.out.symm, rfl⟩


set_option maxHeartbeats 1000000 in
/-- Room for n numbers, made out of nothing. -/
theorem growNil_any (n : Nat) (w : World) (hn : 1 ≤ n) (hn2 : n ≤ 1000000) :
    Calls Try.prog 58 #[.slice none 0 0, .int .i64 n] w fun e w' => ∃ v, e = .returned v ∧ w'.ownsRow w.heap.size 3 1 v 0 [] ∧ Below w.heap.size w w' := by
  obtain ⟨i0, hi, hz0, hz1, hz2⟩ := info_parts infoInt
  have hold : (Builtin.firstCells i0.size 0 (.slice none 0 0)).run Try.prog w.drew = .ok ([] : List Value).toArray w.drew := run_firstCells_none w.drew i0.size 0 0 0
  have hrz : ∀ ty, (Builtin.append_ #[46, 3] ty #[.slice none 0 0, .int .i64 n]).run Try.prog w =
      .ok (.slice (some ⟨w.heap.size, 0, none⟩) (0 + n) (grownCap w (0 + n) 0 3)) (w.drew.alloc (.cells (([] : List Value).toArray ++ Builtin.zeroCells (Value.int .i64 0).cells n ++ Builtin.zeroCells (Value.int .i64 0).cells (grownCap w (0 + n) 0 3 - (0 + n))) 3)) := fun ty =>
    Lib.run_append_grow_zeros w 46 3 ty 3 i0 (.int .i64 0) .i64 .i64 Try.underlying46 Try.underlying3 hi hz0 none 0 0 [] hold n (by omega) (by omega) (by omega) (by omega) (by rw [hz2]; omega) (growslice_fits (by omega) (by rw [hz2]; omega))
  have hG := grownCap_ge w (0 + n) 0 3
  have hM := grownCap_le_maxLen w (0 + n) 0 3 (by unfold maxLen; omega)
  have hS : (([] : List Value).toArray ++ Builtin.zeroCells (Value.int .i64 0).cells n ++ Builtin.zeroCells (Value.int .i64 0).cells (grownCap w (0 + n) 0 3 - (0 + n))).size = grownCap w (0 + n) 0 3 := by
    simp only [Array.size_append, List.size_toArray, size_zeroCells]
    show 0 + n * 1 + (grownCap w (0 + n) 0 3 - (0 + n)) * 1 = _
    omega
  revert hrz hG hM hS
  generalize grownCap w (0 + n) 0 3 = G
  generalize (([] : List Value).toArray ++ Builtin.zeroCells (Value.int .i64 0).cells n ++ Builtin.zeroCells (Value.int .i64 0).cells (G - (0 + n))) = cs
  intro hrz hG hM hS
  rw [Nat.zero_add] at hrz hG
  have hO : (w.drew.alloc (.cells cs 3)).ownsRow w.heap.size 3 1 (.slice (some ⟨w.heap.size, 0, none⟩) 0 G) 0 [] :=
    ⟨rfl, .inr ⟨w.heap.size, G, cs, rfl, Nat.le_refl _, heap_alloc_new w.drew _, Nat.zero_le _, hM, by omega, rfl⟩⟩
  have hB : Below w.heap.size w (w.drew.alloc (.cells cs 3)) := (Below.refl _ _).drew.alloc (Nat.le_refl _) _
  have hN0 : (n : Int) > 0 := by omega
  have hG63 : G ≤ 9223372036854775807 := by unfold maxLen at hM; omega
  go_enter Try.func58, Try.ntmps58
  go_wp2_with (at_builtin; refine Lib.wpList_append_run _ rfl _ _ _ _ rfl _ _ rfl rfl _ _ (hrz _) ?_)
  go_ret
  exact ⟨_, rfl, hO, hB⟩

/-- Lists behind each other. -/
def catZ (Z : Nat → List Int) : Nat → List Int
  | 0 => []
  | p + 1 => catZ Z p ++ Z p

theorem cell_of_block {w w' : World} {g p : Nat} (h : w'.heap[g]? = w.heap[g]?) : w'.cell? ⟨g, p, none⟩ = w.cell? ⟨g, p, none⟩ := by simp [World.cell?, h]

theorem Slc.front {n₀ : Nat} {W : World} {g off n cap l : Nat} {xs : List Int} (hx : xs.length = l) (h : Slc n₀ W (.slice (some ⟨g, off, none⟩) l cap) xs) (hn : n ≤ l) :
    Slc n₀ W (.slice (some ⟨g, off, none⟩) n cap) (xs.take n) := by
  subst hx
  rcases h with ⟨h, _⟩ | ⟨g', off', cap', cur, hv, hg, hh, hl, hc, hs, ht⟩
  · cases h
  · simp only [Value.slice.injEq, Option.some.injEq, Addr.mk.injEq, and_true, true_and] at hv
    obtain ⟨⟨rfl, rfl⟩, rfl⟩ := hv
    have hl' : (xs.take n).length = n := by rw [List.length_take]; omega
    refine .inr ⟨g, off, cap, cur, by rw [hl'], hg, hh, by omega, hc, hs, ?_⟩
    rw [hl', List.map_take, ← ht, List.take_take, Nat.min_eq_left hn]

set_option maxHeartbeats 1000000 in
theorem concat_any (gp q cp : Nat) (Z : Nat → List Int) (w : World) (hq : q ≤ 100) (hgp : gp < w.heap.size) (hcp : q ≤ cp)
    (HC : ∀ p, p < q → ∃ g o c, w.cell? ⟨gp, p, none⟩ = some (.slice (some ⟨g, o, none⟩) (Z p).length c) ∧ Slc 0 w (.slice (some ⟨g, o, none⟩) (Z p).length c) (Z p))
    (ht : ∀ p, p ≤ q → (catZ Z p).length ≤ 1000) (h1 : 1 ≤ (catZ Z q).length) :
    Calls Try.prog 49 #[.slice (some ⟨gp, 0, none⟩) q cp] w fun e w' => ∃ u, e = .returned u ∧ Slc w.heap.size w' u (catZ Z q) ∧ Below w.heap.size w w' := by
  obtain ⟨i0, hi, hz0, hz1, hz2⟩ := info_parts infoInt
  have ht' := ht q (Nat.le_refl _)
  have HT := Lib.hid ht; have HTT := Lib.hid ht; have HCC := Lib.hid HC
  clear ht HC
  go_enter Try.func49, Try.ntmps49
  go_wp2_with fail
  go_loop [3, 5, 11] (fun z _ i => ∃ p : Nat, p ≤ q ∧ i = .int .i64 p ∧ z = .int .i64 ((catZ Z p).length : Nat)) (fun _ _ i => q - (intOf i).toNat)
  case atStart => exact ⟨0, Nat.zero_le _, rfl, rfl⟩
  case round =>
    obtain ⟨p, hp, rfl, rfl⟩ := hrel
    by_cases hlt : p < q
    · obtain ⟨g, o, c, hc, _⟩ := HCC.out p hlt
      have i1 : (p : Int) < (q : Int) := by omega
      have hs := HT.out (p + 1) hlt
      have he : (catZ Z (p + 1)).length = (catZ Z p).length + (Z p).length := by rw [catZ, List.length_append]
      have HE := Lib.hid he
      rw [he] at hs
      clear he
      revert hc hs HE
      generalize (catZ Z p).length = a
      generalize (Z p).length = m
      intro hc hs HE
      have i2 : ¬ ((a : Int) + (m : Int) < 0) := by omega
      go_wp2_with fail
      go_round
      case rel => exact ⟨p + 1, hlt, by go_num, by rw [HE.out]; rfl⟩
      case measure => simp [intOf]; omega
    · obtain rfl : p = q := by omega
      have i1 : ¬ (p : Int) < (p : Int) := by omega
      go_wp2_with fail
      refine (growNil_any _ w h1 (by omega)).mono ?_
      rintro e w1 ⟨u, rfl, hO, hB⟩
      clear HT
      go_wp2_with fail
      go_loopw [6, 8, 27] (fun u _ i wr => ∃ r : Nat, r ≤ p ∧ i = .int .i64 r ∧ wr.ownsRow w.heap.size 3 1 u (catZ Z r).length ((catZ Z r).map (Value.int .i64)) ∧ Below w.heap.size w wr) (fun _ _ i _ => p - (intOf i).toNat)
      case atStart => exact ⟨0, Nat.zero_le _, rfl, hO, hB⟩
      case round =>
        clear hO hB
        obtain ⟨r, hr, rfl, hO, hB⟩ := hrel
        by_cases hlt : r < p
        · obtain ⟨g, o, c, hc, hs⟩ := HCC.out r hlt
          have hb0 : Below w.heap.size w wr := hB
          have hc' : wr.cell? ⟨gp, r, none⟩ = some (.slice (some ⟨g, o, none⟩) (Z r).length c) := (cell_of_block (hB.block gp hgp)).trans hc
          have hs' := hs.later hB
          have i1 : (r : Int) < (p : Int) := by omega
          have hl := HTT.out (r + 1) hlt
          have he : catZ Z (r + 1) = catZ Z r ++ Z r := rfl
          rw [he, List.length_append] at hl
          have HE := Lib.hid he
          clear hs hc he
          obtain ⟨m, hm⟩ : ∃ m, (Z r).length = m := ⟨_, rfl⟩
          have hnews := slc_news hm (by rw [← hm]; exact hs') (Below.refl _ _) (Z r) 0 (fun j v hj => by rw [Nat.zero_add]; exact hj)
          rw [hm] at hc' hl hs'
          have hml : ((Z r).map (Value.int .i64)).length = m * 1 := by simp [hm]
          have ho : ∀ u ∈ (Z r).map (Value.int .i64), u.oneCell' = true := by
            intro u hu; obtain ⟨x, _, rfl⟩ := List.mem_map.1 hu; simp [Value.oneCell']
          have HM := Lib.hid hm
          clear hm hs'
          go_wp2_with (at_builtin; refine wpList_append_own_at _ rfl _ _ 46 rfl w.heap.size 3 i0 (.int .i64 0) 1 8 Try.underlying46 hi hz0 hz1 hz2 rfl (by decide) _ _ _ rfl hO ⟨g, o, none⟩ m c ((Z r).map (Value.int .i64)) rfl hml hnews ho ?c1 ?c2 ?c3 ?_)
          case c1 => unfold maxLen; omega
          case c2 => omega
          case c3 => exact hB.size
          intro v' w4 hown' hgrow _ _
          have hb4 := hB.grown hgrow hB.size (fun q e => row_ge hO e)
          rw [← List.map_append, ← HE.out] at hown'
          have hlen : (catZ Z (r + 1)).length = (catZ Z r).length + m := by rw [HE.out, List.length_append, HM.out]
          rw [← hlen] at hown'
          clear hO hB hb0 hgrow hnews hml ho HCC HTT
          go_wp2_with fail
          go_roundw
          case rel => exact ⟨r + 1, hlt, by go_num, hown', hb4⟩
          case measure => simp [intOf]; omega
        · obtain rfl : r = p := by omega
          have i1 : ¬ (r : Int) < (r : Int) := by omega
          go_wp2_with fail
          go_ret
          exact ⟨_, rfl, Slc.of_owns hO, hB⟩

theorem catZ_two (xs ys : List Int) : catZ (fun p => if p = 0 then xs else ys) 2 = xs ++ ys := by simp [catZ]

/-- Two lists behind each other. -/
theorem concat_two (n₁ n₂ gp cp g1 o1 m1 c1 g2 o2 m2 c2 : Nat) (xs ys : List Int) (w : World) (hm1 : xs.length = m1) (hm2 : ys.length = m2) (h1 : Slc n₁ w (.slice (some ⟨g1, o1, none⟩) m1 c1) xs) (h2 : Slc n₂ w (.slice (some ⟨g2, o2, none⟩) m2 c2) ys)
    (hgp : gp < w.heap.size) (hcp : 2 ≤ cp) (k1 : w.cell? ⟨gp, 0, none⟩ = some (.slice (some ⟨g1, o1, none⟩) m1 c1)) (k2 : w.cell? ⟨gp, 1, none⟩ = some (.slice (some ⟨g2, o2, none⟩) m2 c2)) (hl1 : 1 ≤ m1 + m2) (hl2 : m1 + m2 ≤ 1000) :
    Calls Try.prog 49 #[.slice (some ⟨gp, 0, none⟩) 2 cp] w fun e w' => ∃ u, e = .returned u ∧ Slc w.heap.size w' u (xs ++ ys) ∧ Below w.heap.size w w' := by
  subst hm1; subst hm2
  have h := concat_any gp 2 cp (fun p => if p = 0 then xs else ys) w (by omega) hgp hcp (fun p hp => by
    rcases Nat.lt_or_ge p 1 with h | h
    · obtain rfl : p = 0 := by omega
      exact ⟨g1, o1, c1, k1, h1.mono (Nat.zero_le _)⟩
    · obtain rfl : p = 1 := by omega
      exact ⟨g2, o2, c2, k2, h2.mono (Nat.zero_le _)⟩) (fun p hp => by
    have h3 : p = 0 ∨ p = 1 ∨ p = 2 := by omega
    rcases h3 with rfl | rfl | rfl <;> simp [catZ] <;> omega) (by rw [catZ_two, List.length_append]; exact hl1)
  rw [catZ_two] at h
  exact h

set_option maxRecDepth 100000 in
set_option maxHeartbeats 2000000 in
theorem turned_any (n₀ : Nat) (v : Value) (xs : List Int) (k0 : Nat) (w : World) (hv : Slc n₀ w v xs) (hl1 : 1 ≤ xs.length) (hl2 : xs.length ≤ 1000) :
    Calls Try.prog 36 #[v, .int .i64 k0] w fun e w' => ∃ u, e = .returned u ∧ Slc w.heap.size w' u (rotL xs (k0 % xs.length)) ∧ Below w.heap.size w w' := by
  obtain ⟨gx, ox, cx, rfl, _, hg, hc1, hc2⟩ := slc_some hv (by omega)
  obtain ⟨m, hm⟩ : ∃ m, xs.length = m := ⟨_, rfl⟩
  rw [hm] at hv hl1 hl2 hc1 ⊢
  have hkm : k0 % m < m := Nat.mod_lt _ (by omega)
  have hm0 : ¬ m = 0 := by omega
  have hmod : ((k0 : Int) % (m : Int)) = ((k0 % m : Nat) : Int) := by simp
  have HMOD := Lib.hid hmod
  have HLX := Lib.hid hm
  clear hm hmod
  go_enter Try.func36, Try.ntmps36
  go_wp2_with fail
  rw [HMOD.out]
  revert hkm
  generalize hkk : k0 % m = k
  intro hkm
  have HKK := Lib.hid hkk
  clear hkk
  have hk : k ≤ m := Nat.le_of_lt hkm
  have i1 : (0 : Int) ≤ (k : Int) := by omega
  have i2 : (k : Int) ≤ (m : Int) := by omega
  have i3 : (k : Int) ≤ (cx : Int) := by omega
  have i4 : (k : Int) < (m : Int) := by omega
  have i5 : ¬ cx = k := by omega
  have hs1 := Slc.drop HLX.out hv hk
  have hs2 : Slc n₀ w (.slice (some ⟨gx, ox, none⟩) k cx) (xs.take k) := Slc.front HLX.out hv hk
  have hA : Below w.heap.size w (w.alloc (.cells #[.slice (some ⟨gx, ox + k, none⟩) (m - k) (cx - k), .slice (some ⟨gx, ox, none⟩) k cx] 46)).drew := ((Below.refl _ _).alloc (Nat.le_refl _) _).drew
  have kc0 : (w.alloc (.cells #[.slice (some ⟨gx, ox + k, none⟩) (m - k) (cx - k), .slice (some ⟨gx, ox, none⟩) k cx] 46)).cell? ⟨w.heap.size, 0, none⟩ = some (.slice (some ⟨gx, ox + k, none⟩) (m - k) (cx - k)) := by simp only [World.cell?, heap_alloc_new]; rfl
  have kc1 : (w.alloc (.cells #[.slice (some ⟨gx, ox + k, none⟩) (m - k) (cx - k), .slice (some ⟨gx, ox, none⟩) k cx] 46)).cell? ⟨w.heap.size, 1, none⟩ = some (.slice (some ⟨gx, ox, none⟩) k cx) := by simp only [World.cell?, heap_alloc_new]; rfl
  have CC := Lib.hid (concat_two n₀ n₀ w.heap.size 2 gx (ox + k) (m - k) (cx - k) gx ox k cx (xs.drop k) (xs.take k) (w.alloc (.cells #[.slice (some ⟨gx, ox + k, none⟩) (m - k) (cx - k), .slice (some ⟨gx, ox, none⟩) k cx] 46)).drew
    (by rw [List.length_drop, HLX.out]) (by rw [List.length_take, HLX.out]; omega) (hs1.later hA) (hs2.later hA) (by simp) (Nat.le_refl _) kc0 kc1 (by omega) (by omega))
  clear hs1 hs2 kc0 kc1
  go_region_law? (first | (go_simp; go_at_call 49; refine CC.out.mono ?_; rintro e w1 ⟨u, rfl, hu, hb⟩))
  all_goals (
    go_wp2
    go_ret
    exact ⟨_, rfl, by rw [HKK.out]; exact hu.mono hA.size, hA.trans (hb.mono hA.size)⟩)

end Go.Proofs.Ytoiofkijinlllab
