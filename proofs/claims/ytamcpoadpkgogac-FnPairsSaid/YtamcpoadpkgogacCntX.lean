/-
  Chapter 7, the program's side: lists of numbers copied, put behind each other, their greatest and least number.
-/
import Derived.Test.YtamcpoadpkgogacEq
import Derived.Test.YtamcpoadpkgogacStepA
import Derived.Maps.AppendAt
import Derived.Lib.AppendZerosOnto
import Derived.Lib.SliceRun
import Derived.Deep.RegionWith
import Derived.Deep.RegionLaw
import Derived.Deep.QuietTactic
import Derived.RegionTactic
import Derived.BigRegion
namespace Go.Proofs.Ytamcpoadpkgogac
open Go.RowKit

/-- Numbers that lie in a block from a place on. -/
def NumsAt (W : World) (g o : Nat) (xs : List Int) : Prop := ∀ j, j < xs.length → W.cell? ⟨g, o + j, none⟩ = some (.int .i64 (xs[j]?.getD 0))

theorem NumsAt.later {W W' : World} {g o : Nat} {xs : List Int} (h : NumsAt W g o xs) (hb : Below W.heap.size W W') (hg : g < W.heap.size) : NumsAt W' g o xs := fun j hj => by
  have := h j hj
  rw [← this]
  simp [World.cell?, hb.block g hg]

theorem NumsAt.news {W : World} {g o : Nat} {xs : List Int} (h : NumsAt W g o xs) : ∀ j u, (xs.map (Value.int .i64))[j]? = some u → W.cell? ((⟨g, o, none⟩ : Addr).add j) = some u := by
  intro j u hu
  rw [List.getElem?_map] at hu
  cases hv : xs[j]? with
  | none => rw [hv] at hu; cases hu
  | some v =>
    rw [hv] at hu
    simp only [Option.map_some, Option.some.injEq] at hu
    have hlt : j < xs.length := (List.getElem?_eq_some_iff.1 hv).1
    have hc := h j hlt
    rw [hv] at hc
    subst hu
    have : (⟨g, o, none⟩ : Addr).add j = ⟨g, o + j, none⟩ := by unfold Addr.add; split <;> simp_all
    rw [this, hc]
    rfl

set_option maxHeartbeats 1000000 in
theorem cloneI_any (g o c n : Nat) (xs : List Int) (w : World) (hn : xs.length = n) (hn2 : n ≤ 1000000) (hx : NumsAt w g o xs) (hg : g < w.heap.size) :
    Calls Try.prog 32 #[.slice (some ⟨g, o, none⟩) n c] w fun e w' => ∃ u, e = .returned u ∧ Slc w.heap.size w' u xs ∧ Below w.heap.size w w' := by
  obtain ⟨i0, hi, hz0, hz1, hz2⟩ := info_parts infoInt
  have hnil : ∀ wx, (binOp .eql 33 (.slice (some ⟨g, o, none⟩) n c) (.slice none 0 0)).run Try.prog wx = .ok (.bool false) wx := fun wx => Lib.run_eql_slice_nil wx _ 3 _ _ _ _ _ Try.underlying33
  have hml : (xs.map (Value.int .i64)).length = n * 1 := by simp [hn]
  have ho : ∀ u ∈ xs.map (Value.int .i64), u.oneCell' = true := by
    intro u hu; obtain ⟨x, _, rfl⟩ := List.mem_map.1 hu; simp [Value.oneCell']
  have HX := Lib.hid hx; have HN := Lib.hid hn
  clear hx hn
  have hO : (w.alloc (.cells #[] 3)).ownsRow w.heap.size 3 1 (.slice (some ⟨w.heap.size, 0, none⟩) 0 0) 0 [] := by
    have := World.ownsRow_made (base := w.heap.size) (e := 3) (size := 1) w #[] 0 (by simp) (by simp) (by simp)
    simpa using this
  have hb0 : Below w.heap.size w (w.alloc (.cells #[] 3)) := (Below.refl _ _).alloc (Nat.le_refl _) _
  have hnews := (HX.out.later ((Below.refl w.heap.size w).alloc (Nat.le_refl _) (.cells #[] 3)) hg).news
  go_enter Try.func32, Try.ntmps32
  go_wp2_with (at_builtin; refine wpList_append_own_at _ rfl _ _ 33 rfl w.heap.size 3 i0 (.int .i64 0) 1 8 Try.underlying33 hi hz0 hz1 hz2 rfl (by decide) _ _ _ rfl hO ⟨g, o, none⟩ n c (xs.map (Value.int .i64)) rfl hml hnews ho ?c1 ?c2 ?c3 ?_)
  case c1 => unfold maxLen; omega
  case c2 => omega
  case c3 => simp
  intro v' w4 hown' hgrow _ _
  have hb4 := hb0.grown hgrow hb0.size (fun q e => row_ge hO e)
  rw [← HN.out] at hown'
  clear hO hb0 hgrow hnews hml ho
  go_wp2_with fail
  go_ret
  exact ⟨_, rfl, Slc.of_owns hown', hb4⟩

/-- The greatest number as far as told. -/
def mxL (xs : List Int) : Nat → Int
  | 0 => xs[0]?.getD 0
  | k + 1 => if mxL xs k < xs[k + 1]?.getD 0 then xs[k + 1]?.getD 0 else mxL xs k
set_option maxHeartbeats 1000000 in
theorem maxI_any (g o c n N : Nat) (xs : List Int) (w : World) (hN : n + 1 = N) (hn : xs.length = n + 1) (hn2 : n ≤ 1000000) (hx : NumsAt w g o xs) :
    Calls Try.prog 27 #[.slice (some ⟨g, o, none⟩) N c] w fun e w' => e = .returned (.int .i64 (mxL xs n)) ∧ w = w' := by
  have c0 := hx 0 (by omega)
  rw [Nat.add_zero] at c0
  have HX := Lib.hid hx; have HN := Lib.hid hn
  have HM : Hid (∀ k, mxL xs (k + 1) = if mxL xs k < xs[k + 1]?.getD 0 then xs[k + 1]?.getD 0 else mxL xs k) := fun _ => rfl
  clear hx hn
  have HNN := Lib.hid hN
  have i1 : ¬ (N : Int) < 1 := by omega
  have i2 : (0 : Int) < (N : Int) := by omega
  clear hN
  go_enter Try.func27, Try.ntmps27
  go_wp2_with fail
  clear i1
  go_loop [3, 4] (fun m i => ∃ j : Nat, j ≤ n ∧ m = .int .i64 (mxL xs j) ∧ i = .int .i64 ((j + 1 : Nat) : Int)) (fun _ i => N - (intOf i).toNat)
  case atStart => exact ⟨0, by omega, rfl, rfl⟩
  case round =>
    clear c0
    obtain ⟨j, hj, rfl, rfl⟩ := hrel
    by_cases hlt : j < n
    · have c1 := HX.out (j + 1) (by rw [HN.out]; omega)
      have HMM := Lib.hid (HM.out j)
      revert c1 HMM
      generalize xs[j + 1]?.getD 0 = x
      generalize mxL xs j = y
      intro c1 HMM
      obtain ⟨q, hq⟩ : ∃ q, j + 1 = q := ⟨_, rfl⟩
      rw [hq] at HMM c1 ⊢
      have i3 : (q : Int) < (N : Int) := by have := HNN.out; omega
      have i4 : (0 : Int) ≤ (q : Int) := by omega
      have i5 : (q : Int) ≤ 1000000 := by have := HNN.out; omega
      have HQ := Lib.hid hq
      clear hq
      go_wp2_with fail
      go_round
      case rel => exact ⟨q, by have := HQ.out; omega, by rw [HMM.out], by go_num⟩
      case measure => simp [intOf]; omega
    · obtain rfl : j = n := by omega
      have i3 : ¬ ((j + 1 : Nat) : Int) < (N : Int) := by have := HNN.out; omega
      go_wp2_with fail
      go_ret
      exact ⟨rfl, rfl⟩

/-- The least number as far as told. -/
def mnL (xs : List Int) : Nat → Int
  | 0 => xs[0]?.getD 0
  | k + 1 => if xs[k + 1]?.getD 0 < mnL xs k then xs[k + 1]?.getD 0 else mnL xs k
set_option maxHeartbeats 1000000 in
theorem minI_any (g o c n N : Nat) (xs : List Int) (w : World) (hN : n + 1 = N) (hn : xs.length = n + 1) (hn2 : n ≤ 1000000) (hx : NumsAt w g o xs) :
    Calls Try.prog 28 #[.slice (some ⟨g, o, none⟩) N c] w fun e w' => e = .returned (.int .i64 (mnL xs n)) ∧ w = w' := by
  have c0 := hx 0 (by omega)
  rw [Nat.add_zero] at c0
  have HX := Lib.hid hx; have HN := Lib.hid hn
  have HM : Hid (∀ k, mnL xs (k + 1) = if xs[k + 1]?.getD 0 < mnL xs k then xs[k + 1]?.getD 0 else mnL xs k) := fun _ => rfl
  clear hx hn
  have HNN := Lib.hid hN
  have i1 : ¬ (N : Int) < 1 := by omega
  have i2 : (0 : Int) < (N : Int) := by omega
  clear hN
  go_enter Try.func28, Try.ntmps28
  go_wp2_with fail
  clear i1
  go_loop [3, 4] (fun m i => ∃ j : Nat, j ≤ n ∧ m = .int .i64 (mnL xs j) ∧ i = .int .i64 ((j + 1 : Nat) : Int)) (fun _ i => N - (intOf i).toNat)
  case atStart => exact ⟨0, by omega, rfl, rfl⟩
  case round =>
    clear c0
    obtain ⟨j, hj, rfl, rfl⟩ := hrel
    by_cases hlt : j < n
    · have c1 := HX.out (j + 1) (by rw [HN.out]; omega)
      have HMM := Lib.hid (HM.out j)
      revert c1 HMM
      generalize xs[j + 1]?.getD 0 = x
      generalize mnL xs j = y
      intro c1 HMM
      obtain ⟨q, hq⟩ : ∃ q, j + 1 = q := ⟨_, rfl⟩
      rw [hq] at HMM c1 ⊢
      have i3 : (q : Int) < (N : Int) := by have := HNN.out; omega
      have i4 : (0 : Int) ≤ (q : Int) := by omega
      have i5 : (q : Int) ≤ 1000000 := by have := HNN.out; omega
      have HQ := Lib.hid hq
      clear hq
      go_wp2_with fail
      go_round
      case rel => exact ⟨q, by have := HQ.out; omega, by rw [HMM.out], by go_num⟩
      case measure => simp [intOf]; omega
    · obtain rfl : j = n := by omega
      have i3 : ¬ ((j + 1 : Nat) : Int) < (N : Int) := by have := HNN.out; omega
      go_wp2_with fail
      go_ret
      exact ⟨rfl, rfl⟩

set_option maxHeartbeats 1000000 in
/-- Room for n numbers, made out of nothing. -/
theorem growNilI_any (n : Nat) (w : World) (hn : 1 ≤ n) (hn2 : n ≤ 1000000) :
    Calls Try.prog 55 #[.slice none 0 0, .int .i64 n] w fun e w' => ∃ v, e = .returned v ∧ w'.ownsRow w.heap.size 3 1 v 0 [] ∧ Below w.heap.size w w' := by
  obtain ⟨i0, hi, hz0, hz1, hz2⟩ := info_parts infoInt
  have hold : (Builtin.firstCells i0.size 0 (.slice none 0 0)).run Try.prog w.drew = .ok ([] : List Value).toArray w.drew := run_firstCells_none w.drew i0.size 0 0 0
  have hrz : ∀ ty, (Builtin.append_ #[33, 3] ty #[.slice none 0 0, .int .i64 n]).run Try.prog w =
      .ok (.slice (some ⟨w.heap.size, 0, none⟩) (0 + n) (grownCap w (0 + n) 0 3)) (w.drew.alloc (.cells (([] : List Value).toArray ++ Builtin.zeroCells (Value.int .i64 0).cells n ++ Builtin.zeroCells (Value.int .i64 0).cells (grownCap w (0 + n) 0 3 - (0 + n))) 3)) := fun ty =>
    Lib.run_append_grow_zeros w 33 3 ty 3 i0 (.int .i64 0) .i64 .i64 Try.underlying33 Try.underlying3 hi hz0 none 0 0 [] hold n (by omega) (by omega) (by omega) (by omega) (by rw [hz2]; omega) (growslice_fits (by omega) (by rw [hz2]; omega))
  have hG := grownCap_ge w (0 + n) 0 3
  have hM := grownCap_le_maxLen w (0 + n) 0 3 (by unfold maxLen; omega)
  have hS : (([] : List Value).toArray ++ Builtin.zeroCells (Value.int .i64 0).cells n ++ Builtin.zeroCells (Value.int .i64 0).cells (grownCap w (0 + n) 0 3 - (0 + n))).size = grownCap w (0 + n) 0 3 := by
    simp only [Array.size_append, List.size_toArray, size_zeroCells]
    show 0 + n * 1 + (grownCap w (0 + n) 0 3 - (0 + n)) * 1 = _
    omega
  revert hrz hG hM hS
  generalize grownCap w (0 + n) 0 3 = G
  generalize (([] : List Value).toArray ++ Builtin.zeroCells (Value.int .i64 0).cells n ++ Builtin.zeroCells (Value.int .i64 0).cells (G - (0 + n))) = cs
  intro hrz hG hM hS
  rw [Nat.zero_add] at hrz hG
  have hO : (w.drew.alloc (.cells cs 3)).ownsRow w.heap.size 3 1 (.slice (some ⟨w.heap.size, 0, none⟩) 0 G) 0 [] :=
    ⟨rfl, .inr ⟨w.heap.size, G, cs, rfl, Nat.le_refl _, heap_alloc_new w.drew _, Nat.zero_le _, hM, by omega, rfl⟩⟩
  have hB : Below w.heap.size w (w.drew.alloc (.cells cs 3)) := (Below.refl _ _).drew.alloc (Nat.le_refl _) _
  have hN0 : (n : Int) > 0 := by omega
  have hG63 : G ≤ 9223372036854775807 := by unfold maxLen at hM; omega
  go_enter Try.func55, Try.ntmps55
  go_wp2_with (at_builtin; refine Lib.wpList_append_run _ rfl _ _ _ _ rfl _ _ rfl rfl _ _ (hrz _) ?_)
  go_ret
  exact ⟨_, rfl, hO, hB⟩

/-- Lists behind each other. -/
def catY (Z : Nat → List Int) : Nat → List Int
  | 0 => []
  | p + 1 => catY Z p ++ Z p

theorem cell_of_blockY {w w' : World} {g p : Nat} (h : w'.heap[g]? = w.heap[g]?) : w'.cell? ⟨g, p, none⟩ = w.cell? ⟨g, p, none⟩ := by simp [World.cell?, h]

set_option maxHeartbeats 1000000 in
theorem concatI_any (gp q cp : Nat) (Z : Nat → List Int) (w : World) (hq : q ≤ 100) (hgp : gp < w.heap.size) (hcp : q ≤ cp)
    (HC : ∀ p, p < q → ∃ g o c, w.cell? ⟨gp, p, none⟩ = some (.slice (some ⟨g, o, none⟩) (Z p).length c) ∧ Slc 0 w (.slice (some ⟨g, o, none⟩) (Z p).length c) (Z p))
    (ht : ∀ p, p ≤ q → (catY Z p).length ≤ 4000) (h1 : 1 ≤ (catY Z q).length) :
    Calls Try.prog 38 #[.slice (some ⟨gp, 0, none⟩) q cp] w fun e w' => ∃ u, e = .returned u ∧ Slc w.heap.size w' u (catY Z q) ∧ Below w.heap.size w w' := by
  obtain ⟨i0, hi, hz0, hz1, hz2⟩ := info_parts infoInt
  have ht' := ht q (Nat.le_refl _)
  have HT := Lib.hid ht; have HTT := Lib.hid ht; have HCC := Lib.hid HC
  clear ht HC
  go_enter Try.func38, Try.ntmps38
  go_wp2_with fail
  go_loop [3, 5, 11] (fun z _ i => ∃ p : Nat, p ≤ q ∧ i = .int .i64 p ∧ z = .int .i64 ((catY Z p).length : Nat)) (fun _ _ i => q - (intOf i).toNat)
  case atStart => exact ⟨0, Nat.zero_le _, rfl, rfl⟩
  case round =>
    obtain ⟨p, hp, rfl, rfl⟩ := hrel
    by_cases hlt : p < q
    · obtain ⟨g, o, c, hc, _⟩ := HCC.out p hlt
      have i1 : (p : Int) < (q : Int) := by omega
      have hs := HT.out (p + 1) hlt
      have he : (catY Z (p + 1)).length = (catY Z p).length + (Z p).length := by rw [catY, List.length_append]
      have HE := Lib.hid he
      rw [he] at hs
      clear he
      revert hc hs HE
      generalize (catY Z p).length = a
      generalize (Z p).length = m
      intro hc hs HE
      have i2 : ¬ ((a : Int) + (m : Int) < 0) := by omega
      go_wp2_with fail
      go_round
      case rel => exact ⟨p + 1, hlt, by go_num, by rw [HE.out]; rfl⟩
      case measure => simp [intOf]; omega
    · obtain rfl : p = q := by omega
      have i1 : ¬ (p : Int) < (p : Int) := by omega
      go_wp2_with fail
      refine (growNilI_any _ w h1 (by omega)).mono ?_
      rintro e w1 ⟨u, rfl, hO, hB⟩
      clear HT
      go_wp2_with fail
      go_loopw [6, 8, 27] (fun u _ i wr => ∃ r : Nat, r ≤ p ∧ i = .int .i64 r ∧ wr.ownsRow w.heap.size 3 1 u (catY Z r).length ((catY Z r).map (Value.int .i64)) ∧ Below w.heap.size w wr) (fun _ _ i _ => p - (intOf i).toNat)
      case atStart => exact ⟨0, Nat.zero_le _, rfl, hO, hB⟩
      case round =>
        clear hO hB
        obtain ⟨r, hr, rfl, hO, hB⟩ := hrel
        by_cases hlt : r < p
        · obtain ⟨g, o, c, hc, hs⟩ := HCC.out r hlt
          have hb0 : Below w.heap.size w wr := hB
          have hc' : wr.cell? ⟨gp, r, none⟩ = some (.slice (some ⟨g, o, none⟩) (Z r).length c) := (cell_of_blockY (hB.block gp hgp)).trans hc
          have hs' := hs.later hB
          have i1 : (r : Int) < (p : Int) := by omega
          have hl := HTT.out (r + 1) hlt
          have he : catY Z (r + 1) = catY Z r ++ Z r := rfl
          rw [he, List.length_append] at hl
          have HE := Lib.hid he
          clear hs hc he
          obtain ⟨m, hm⟩ : ∃ m, (Z r).length = m := ⟨_, rfl⟩
          have hnews := slc_news hm (by rw [← hm]; exact hs') (Below.refl _ _) (Z r) 0 (fun j v hj => by rw [Nat.zero_add]; exact hj)
          rw [hm] at hc' hl hs'
          have hml : ((Z r).map (Value.int .i64)).length = m * 1 := by simp [hm]
          have ho : ∀ u ∈ (Z r).map (Value.int .i64), u.oneCell' = true := by
            intro u hu; obtain ⟨x, _, rfl⟩ := List.mem_map.1 hu; simp [Value.oneCell']
          have HM := Lib.hid hm
          clear hm hs'
          go_wp2_with (at_builtin; refine wpList_append_own_at _ rfl _ _ 33 rfl w.heap.size 3 i0 (.int .i64 0) 1 8 Try.underlying33 hi hz0 hz1 hz2 rfl (by decide) _ _ _ rfl hO ⟨g, o, none⟩ m c ((Z r).map (Value.int .i64)) rfl hml hnews ho ?c1 ?c2 ?c3 ?_)
          case c1 => unfold maxLen; omega
          case c2 => omega
          case c3 => exact hB.size
          intro v' w4 hown' hgrow _ _
          have hb4 := hB.grown hgrow hB.size (fun q e => row_ge hO e)
          rw [← List.map_append, ← HE.out] at hown'
          have hlen : (catY Z (r + 1)).length = (catY Z r).length + m := by rw [HE.out, List.length_append, HM.out]
          rw [← hlen] at hown'
          clear hO hB hb0 hgrow hnews hml ho HCC HTT
          go_wp2_with fail
          go_roundw
          case rel => exact ⟨r + 1, hlt, by go_num, hown', hb4⟩
          case measure => simp [intOf]; omega
        · obtain rfl : r = p := by omega
          have i1 : ¬ (r : Int) < (r : Int) := by omega
          go_wp2_with fail
          go_ret
          exact ⟨_, rfl, Slc.of_owns hO, hB⟩

theorem catY_two (xs ys : List Int) : catY (fun p => if p = 0 then xs else ys) 2 = xs ++ ys := by simp [catY]

/-- Two lists behind each other. -/
theorem concatI_two (n₁ n₂ gp cp g1 o1 m1 c1 g2 o2 m2 c2 : Nat) (xs ys : List Int) (w : World) (hm1 : xs.length = m1) (hm2 : ys.length = m2) (h1 : Slc n₁ w (.slice (some ⟨g1, o1, none⟩) m1 c1) xs) (h2 : Slc n₂ w (.slice (some ⟨g2, o2, none⟩) m2 c2) ys)
    (hgp : gp < w.heap.size) (hcp : 2 ≤ cp) (k1 : w.cell? ⟨gp, 0, none⟩ = some (.slice (some ⟨g1, o1, none⟩) m1 c1)) (k2 : w.cell? ⟨gp, 1, none⟩ = some (.slice (some ⟨g2, o2, none⟩) m2 c2)) (hl1 : 1 ≤ m1 + m2) (hl2 : m1 + m2 ≤ 4000) :
    Calls Try.prog 38 #[.slice (some ⟨gp, 0, none⟩) 2 cp] w fun e w' => ∃ u, e = .returned u ∧ Slc w.heap.size w' u (xs ++ ys) ∧ Below w.heap.size w w' := by
  subst hm1; subst hm2
  have h := concatI_any gp 2 cp (fun p => if p = 0 then xs else ys) w (by omega) hgp hcp (fun p hp => by
    rcases Nat.lt_or_ge p 1 with h | h
    · obtain rfl : p = 0 := by omega
      exact ⟨g1, o1, c1, k1, h1.mono (Nat.zero_le _)⟩
    · obtain rfl : p = 1 := by omega
      exact ⟨g2, o2, c2, k2, h2.mono (Nat.zero_le _)⟩) (fun p hp => by
    have h3 : p = 0 ∨ p = 1 ∨ p = 2 := by omega
    rcases h3 with rfl | rfl | rfl <;> simp [catY] <;> omega) (by rw [catY_two, List.length_append]; exact hl1)
  rw [catY_two] at h
  exact h

end Go.Proofs.Ytamcpoadpkgogac
