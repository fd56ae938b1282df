/-
  The same round, turned: the model's test.
-/
import Derived.Test.YteanlblcppcgbaaEq
import Derived.Test.YteanlblcppcgbaaAns
import Derived.Test.YteanlblcppcgbaaRound
import Derived.Test.YteanlblcppcgbaaGrown
import Derived.Test.YteanlblcppcgbaaTold
import Derived.Deep.AppendLies
import Derived.Deep.RegionLaw
import Derived.Deep.DrawnRows
import Derived.Maps.AppendAt
namespace Go.Proofs.Yteanlblcppcgbaa
open Go.RowKit

set_option maxHeartbeats 1000000 in
theorem l2Equal_any (n₀ n₁ : Nat) (v u : Value) (xs ys : List Int) (w : World) (hv : Slc n₀ w v xs) (hu : Slc n₁ w u ys) (hlx : xs.length ≤ 1048576) (hly : ys.length ≤ 1048576) :
    Calls Try.prog 18 #[v, u] w fun e w' => e = .returned (.bool (decide (xs = ys))) ∧ Below w.heap.size w w' := by
  obtain ⟨a, c, rfl⟩ := slc_form hv
  obtain ⟨a', c', rfl⟩ := slc_form hu
  obtain ⟨n, hn⟩ : ∃ n, xs.length = n := ⟨_, rfl⟩
  obtain ⟨m, hm⟩ : ∃ m, ys.length = m := ⟨_, rfl⟩
  rw [hn] at hv hlx ⊢
  rw [hm] at hu hly ⊢
  by_cases hnm : n = m
  · subst hnm
    have HN := Lib.hid hn; have HM := Lib.hid hm; clear hn hm
    by_cases h0 : n = 0
    · subst h0
      have hx : xs = [] := List.length_eq_zero_iff.1 HN.out
      have hy : ys = [] := List.length_eq_zero_iff.1 HM.out
      have HX := Lib.hid hx; have HY := Lib.hid hy; clear hx hy
      go_enter Try.func18, Try.ntmps18
      go_wp2
      go_loopw [5] (fun i wr => i = .int .i64 0 ∧ wr = w) (fun _ _ => 0)
      case atStart => exact ⟨rfl, rfl⟩
      case round =>
        obtain ⟨rfl, rfl⟩ := hrel
        go_wp2
        go_ret
        exact ⟨ret_bool (by rw [HX.out, HY.out]; rfl), Below.refl _ _⟩
    · obtain ⟨g, off, c1, e1, _, _, hc1, hc2⟩ := slc_some hv (by rw [HN.out]; omega)
      obtain ⟨g', off', c2, e2, _, _, hc3, hc4⟩ := slc_some hu (by rw [HM.out]; omega)
      simp only [Value.slice.injEq] at e1 e2
      obtain ⟨rfl, _, rfl⟩ := e1
      obtain ⟨rfl, _, rfl⟩ := e2
      go_enter Try.func18, Try.ntmps18
      go_wp2
      go_loopw [5] (fun i wr => ∃ k : Nat, k ≤ n ∧ i = .int .i64 k ∧ (∀ j, j < k → xs[j]?.getD 0 = ys[j]?.getD 0) ∧ Below w.heap.size w wr) (fun i _ => n - (intOf i).toNat)
      case atStart => exact ⟨0, Nat.zero_le _, rfl, fun j hj => by omega, Below.refl _ _⟩
      case round =>
        obtain ⟨k, hk, rfl, heq, hbel⟩ := hrel
        have HE := Lib.hid heq; clear heq
        by_cases hlt : k < n
        · have kx := Slc.cell HN.out (hv.later hbel) k hlt
          have ky := Slc.cell HM.out (hu.later hbel) k hlt
          by_cases hxy : xs[k]?.getD 0 = ys[k]?.getD 0
          · rw [← hxy] at ky
            have HXY := Lib.hid hxy; clear hxy
            go_wp2
            go_region
            go_wp2
            go_roundw
            case rel =>
              refine ⟨k + 1, by omega, by simp, fun j hj => ?_, hbel.drew⟩
              rcases Nat.lt_or_ge j k with h | h
              · exact HE.out j h
              · obtain rfl : j = k := by omega
                exact HXY.out
            case measure => simp [intOf]; omega
          · have HXY := Lib.hid hxy
            revert kx ky hxy
            generalize xs[k]?.getD 0 = x
            generalize ys[k]?.getD 0 = y
            intro kx ky hxy
            have hd : (x == y) = false := by simpa using hxy
            have hd2 : (x != y) = true := by simpa using hxy
            go_wp2
            go_region
            go_wp2
            go_ret
            have hne : ¬ xs = ys := fun e => HXY.out (by rw [e])
            exact ⟨ret_bool (by simp [hne]), hbel.drew⟩
        · obtain rfl : k = n := by omega
          go_wp2
          go_ret
          have he : xs = ys := by
            apply List.ext_getElem?
            intro j
            rcases Nat.lt_or_ge j k with h | h
            · have := HE.out j h
              rw [List.getElem?_eq_getElem (by rw [HN.out]; exact h), List.getElem?_eq_getElem (by rw [HM.out]; exact h)] at this ⊢
              simpa using this
            · rw [List.getElem?_eq_none (by rw [HN.out]; exact h), List.getElem?_eq_none (by rw [HM.out]; exact h)]
          exact ⟨ret_bool (by simp [he]), hbel⟩
  · have hd : (n == m) = false := by simpa using hnm
    have hd2 : ((n : Int) == (m : Int)) = false := by simp; omega
    have hne : ¬ xs = ys := fun e => hnm (by rw [← hn, ← hm, e])
    have HNE := Lib.hid hne; clear hne hn hm
    go_enter Try.func18, Try.ntmps18
    go_wp2
    go_ret
    exact ⟨ret_bool (by simp [HNE.out]), Below.refl _ _⟩

set_option maxHeartbeats 1000000 in
theorem specRestSame_no1 (b t n t2 n2 : Int) (h : tldB b t n = false) : GivesB 6 #[.int .i64 b, .agg #[.int .i64 t, .int .i64 n], .agg #[.int .i64 t2, .int .i64 n2]] false := by
  intro w
  go_enter Try.func6, Try.ntmps6
  go_wp2_with fail
  refine (l1Given_any _ _ _ _).mono ?_
  rintro e w1 ⟨rfl, hb1⟩
  go_wp2_with fail
  go_ret
  exact ⟨rfl, (((Below.refl w.heap.size w).alloc (Nat.le_refl _) _).alloc (by simp) _).trans (hb1.mono (by simp; omega))⟩

set_option maxHeartbeats 1000000 in
theorem specRestSame_no2 (b t n t2 n2 : Int) (h : tldB b t n = true) (h2 : tldB b t2 n2 = false) : GivesB 6 #[.int .i64 b, .agg #[.int .i64 t, .int .i64 n], .agg #[.int .i64 t2, .int .i64 n2]] false := by
  intro w
  go_enter Try.func6, Try.ntmps6
  go_wp2_with fail
  refine (l1Given_any _ _ _ _).mono ?_
  rintro e w1 ⟨rfl, hb1⟩
  have x1 : Box2 w1 (w.heap.size + 1) 25 (.int .i64 t2) (.int .i64 n2) := (Box2.newAt (by simp)).later hb1
  have k0 := x1.cell0
  have k1 := x1.cell1
  have B1 : Below w.heap.size w w1 := (((Below.refl w.heap.size w).alloc (Nat.le_refl _) _).alloc (by simp) _).trans (hb1.mono (by simp; omega))
  go_wp2_with fail
  refine (l1Given_any _ _ _ _).mono ?_
  rintro e w2 ⟨rfl, hb2⟩
  go_wp2_with fail
  go_ret
  exact ⟨rfl, B1.trans (hb2.mono B1.size)⟩

/-- The round turned by i is the other one. -/
def turL (xs : List Int) (i : Nat) : List Int := xs.drop i ++ xs.take i
def turK (xs ys : List Int) (k : Nat) : Bool := decide (∃ i, i < k ∧ turL xs i = ys)

theorem turK_step {xs ys : List Int} {i : Nat} (h : turK xs ys i = false) (hne : turL xs i ≠ ys) : turK xs ys (i + 1) = false := by
  unfold turK at h ⊢
  rw [decide_eq_false_iff_not] at h ⊢
  rintro ⟨j, hj, e⟩
  rcases Nat.lt_or_ge j i with h0 | h0
  · exact h ⟨j, h0, e⟩
  · obtain rfl : j = i := by omega
    exact hne e

section
variable {P : Program} {ops : Array Oper} {o : Oper} {a : Act} {K : Act → World → Prop} {Q : Exit → Act → World → Prop} {E : Prop}
/-- An append at a step of a region that draws: what is appended may be nothing. -/
theorem step_append_own (w : World) (hgd : o.guard = none) (s x : Operand) (t : TypeId)
    (ho : o.op = .call { callee := .builtin .append, args := #[s, x], argTypes := #[t, t] })
    (base : Nat) (e : TypeId) (i : TypeInfo) (z : Value) (size bytes : Nat) (ht : P.underlying t = some (.slice e)) (hi : P.info? e = some i) (hz : i.zero = some z)
    (hsize : i.size = size) (hby : i.bytes = bytes) (hzs : z.cells.size = size) (hsz : 0 < size)
    (v : Value) (n : Nat) (xs : List Value) (hs : a.eval s = v) (hown : w.ownsRow base e size v n xs)
    (ad : Addr) (m c : Nat) (news : List Value) (hx : a.eval x = .slice (some ad) m c) (hl : news.length = m * size) (hnews : ∀ j u, news[j]? = some u → w.cell? (ad.add j) = some u) (h1 : ∀ u ∈ news, u.oneCell' = true)
    (h63 : n + m ≤ maxLen) (hbytes : (n + m) * bytes ≤ 140737488355328) (hbase : base ≤ w.heap.size)
    (h : ∀ v' w', w'.ownsRow base e size v' (n + m) (xs ++ news) → w.grownBy w' v.ownBlock → K (a.put o.dst v') w') :
    if Region.wanted o (yielded ops a.tmps) = true then Oper.wp P o a w K Q else E := by
  have hw : Region.wanted o (yielded ops a.tmps) = true := by simp [Region.wanted, hgd]
  rw [if_pos hw]
  obtain ⟨v', w', hr, h2, h3, _, _⟩ := run_append_own_at (P := P) w base t o.type e i z size bytes ht hi hz hsize hby hzs hsz v n xs hown ad m c news hl hnews h1 h63 hbytes hbase
  unfold Oper.wp execOp
  simp only [ho, resolve, invoke, builtin, Sem.run_bind, Sem.run_pure, Result.andThen_ok, List.map_toArray, List.map_cons, List.map_nil, hs, hx, hr]
  exact h v' w' h2 h3
end

/-- Part of a row, as what an append takes. -/
theorem slc_news {n₀ : Nat} {W W' : World} {g off cap l : Nat} {xs : List Int} (hx : xs.length = l) (h : Slc n₀ W (.slice (some ⟨g, off, none⟩) l cap) xs) (hb : Below W.heap.size W W') (ys : List Int) (d : Nat)
    (hy : ∀ j v, ys[j]? = some v → xs[d + j]? = some v) :
    ∀ j u, (ys.map (Value.int .i64))[j]? = some u → W'.cell? ((⟨g, off + d, none⟩ : Addr).add j) = some u := by
  intro j u hu
  rw [List.getElem?_map] at hu
  cases hv : ys[j]? with
  | none => rw [hv] at hu; cases hu
  | some v =>
    rw [hv] at hu
    simp only [Option.map_some, Option.some.injEq] at hu
    have h0 := hy j v hv
    have hlt : d + j < l := by rw [← hx]; exact (List.getElem?_eq_some_iff.1 h0).1
    have hc := (h.later hb).cell hx (d + j) hlt
    rw [h0] at hc
    subst hu
    have : (⟨g, off + d, none⟩ : Addr).add j = ⟨g, off + (d + j), none⟩ := by unfold Addr.add; split <;> simp_all [Nat.add_assoc]
    rw [this, hc]
    simp

theorem row_ge {w : World} {base : Nat} {e : TypeId} {size : Nat} {v : Value} {n : Nat} {xs : List Value} (h : w.ownsRow base e size v n xs) {g : Nat} (hg : v.ownBlock = some g) : base ≤ g := by
  rcases h.2 with ⟨rfl, _⟩ | ⟨g', cap, cur, rfl, hb, _⟩
  · cases hg
  · cases hg; exact hb

theorem tur_slc {xs : List Int} {k m base : Nat} {W : World} {v : Value} (hx : xs.length = m) (hk : k ≤ m)
    (h : W.ownsRow base 3 1 v (0 + (m - k) + k) ([] ++ (xs.drop k).map (Value.int .i64) ++ (xs.take k).map (Value.int .i64))) : Slc base W v (turL xs k) := by
  refine Slc.of_owns ?_
  have e1 : (turL xs k).length = 0 + (m - k) + k := by simp [turL, hx]; omega
  rw [e1]
  simpa [turL] using h

set_option maxRecDepth 100000 in
set_option maxHeartbeats 4000000 in
theorem specRestSame_yes (b T B n m T' B' n' m' : Nat) (xs ys : List Int) (hxs : rndL b T B n m = xs) (hys : rndL b T' B' n' m' = ys) (h : tldB b T B = true) (h' : tldB b T' B' = true) (hT : T < B) (hB : B ≤ 1000) (hT' : T' < B') (hB' : B' ≤ 1000) (h3 : 2 ≤ b) (h4 : b ≤ 16)
    (hnm : IsLen b T B n m) (hnm' : IsLen b T' B' n' m') :
    GivesB 6 #[.int .i64 b, .agg #[.int .i64 T, .int .i64 B], .agg #[.int .i64 T', .int .i64 B']] (turK xs ys m) := by
  intro w
  obtain ⟨i0, hi, hz0, hz1, hz2⟩ := info_parts infoInt
  go_enter Try.func6, Try.ntmps6
  go_wp2_with fail
  refine (l1Given_any _ _ _ _).mono ?_
  rintro e w1 ⟨rfl, hb1⟩
  have x1 : Box2 w1 (w.heap.size + 1) 25 (.int .i64 T') (.int .i64 B') := (Box2.newAt (by simp)).later hb1
  have y1 : Box2 w1 w.heap.size 25 (.int .i64 T) (.int .i64 B) := ((Box2.newAt rfl).alloc _).later hb1
  have k0 := x1.cell0
  have k1 := x1.cell1
  have B1 : Below w.heap.size w w1 := (((Below.refl w.heap.size w).alloc (Nat.le_refl _) _).alloc (by simp) _).trans (hb1.mono (by simp; omega))
  go_wp2_with fail
  refine (l1Given_any _ _ _ _).mono ?_
  rintro e w2 ⟨rfl, hb2⟩
  have x2 := x1.later hb2
  have y2 := y1.later hb2
  have B2 := B1.trans (hb2.mono B1.size)
  have l0 := y2.cell0
  have l1 := y2.cell1
  go_wp2_with fail
  refine (l1Round_any b T B _ hT hB h3 h4).mono ?_
  rintro e w3 ⟨x, n1, m1, hn1, rfl, hx3, hb3⟩
  obtain ⟨rfl, rfl⟩ := hnm.unique hn1
  have x3 := x2.later hb3
  have B3 := B2.trans (hb3.mono B2.size)
  clear k0 k1 l0 l1
  have k0 := x3.cell0
  have k1 := x3.cell1
  go_wp2_with fail
  refine (l1Round_any b T' B' _ hT' hB' h3 h4).mono ?_
  rintro e w4 ⟨y, n2, m2, hn2, rfl, hy4, hb4⟩
  obtain ⟨rfl, rfl⟩ := hnm'.unique hn2
  have B4 := B3.trans (hb4.mono B3.size)
  have hx4 := hx3.later hb4
  have hlx := rndL_len b T B n m
  have hly := rndL_len b T' B' n' m'
  have hp := hnm.pos
  have hp' := hnm'.pos
  obtain ⟨gx, ox, cx, rfl, _, _, hc1, hc2⟩ := slc_some hx4 (by omega)
  obtain ⟨gy, oy, cy, rfl, _, _, _, _⟩ := slc_some hy4 (by omega)
  rw [hlx] at hx4 hc1 ⊢
  rw [hly] at hy4 ⊢
  have HLX := Lib.hid hlx; have HLY := Lib.hid hly; clear hlx hly
  rw [hxs] at HLX hx4
  rw [hys] at HLY hy4
  clear k0 k1 x1 x2 x3 y1 y2 hx3
  have hm3 : m ≤ 1000 := by have := hnm.le; omega
  have hm3' : m' ≤ 1000 := by have := hnm'.le; omega
  go_wp2_with fail
  go_loopw [9] (fun i wr => ∃ k : Nat, k ≤ m ∧ i = .int .i64 k ∧ turK xs ys k = false ∧ Below w4.heap.size w4 wr) (fun i _ => m - (intOf i).toNat)
  case atStart => exact ⟨0, Nat.zero_le _, rfl, by simp [turK], Below.refl _ _⟩
  case round =>
    obtain ⟨k, hk, rfl, htk, hbel⟩ := hrel
    by_cases hlt : k < m
    · have hx5 := hx4.later hbel
      have hy5 := hy4.later hbel
      have i1 : (0 : Int) ≤ (k : Int) := by omega
      have i2 : (k : Int) ≤ (m : Int) := by omega
      have i3 : (k : Int) ≤ (cx : Int) := by omega
      have i4 : (k : Int) < (m : Int) := by omega
      have i5 : ¬ cx = k := by omega
      have hg4 : gx < w4.heap.size := by assumption
      have hown0 : (wr.alloc (.cells #[] 3)).drew.ownsRow wr.heap.size 3 1 (.slice (some ⟨wr.heap.size, 0, none⟩) 0 0) 0 [] :=
        World.ownsRow.drew (World.ownsRow_made wr #[] 0 (Nat.le_refl _) (by simp) (by simp))
      have hbel0 : Below w4.heap.size w4 (wr.alloc (.cells #[] 3)).drew := (hbel.alloc hbel.size _).drew
      have hn1' := slc_news HLX.out hx4 hbel0 (xs.drop k) k (fun j v hj => by rw [List.getElem?_drop] at hj; exact hj)
      have hl1 : ((xs.drop k).map (Value.int .i64)).length = (m - k) * 1 := by simp [HLX.out]
      have hl2 : ((xs.take k).map (Value.int .i64)).length = k * 1 := by simp [HLX.out]; omega
      have ho1 : ∀ u ∈ (xs.drop k).map (Value.int .i64), u.oneCell' = true := by
        intro u hu; obtain ⟨x, _, rfl⟩ := List.mem_map.1 hu; simp [Value.oneCell']
      have ho2 : ∀ u ∈ (xs.take k).map (Value.int .i64), u.oneCell' = true := by
        intro u hu; obtain ⟨x, _, rfl⟩ := List.mem_map.1 hu; simp [Value.oneCell']
      go_wp2_with fail
      go_region_law? (first
        | ((refine step_append_own _ (by rfl) _ _ _ (by rfl) wr.heap.size 3 i0 (.int .i64 0) 1 8 Try.underlying37 hi hz0 hz1 hz2 rfl (by omega) (.slice (some ⟨wr.heap.size, 0, none⟩) 0 0) 0 [] (by rfl) hown0 ⟨gx, ox + k, none⟩ (m - k) (cx - k) ((xs.drop k).map (Value.int .i64)) (by rfl) hl1 hn1' ho1 (by simp [maxLen]; omega) (by omega) (by simp) ?_; intro v1 w5 hown1 hgrow1))
        | ((refine step_append_own _ (by rfl) _ _ _ (by rfl) wr.heap.size 3 i0 (.int .i64 0) 1 8 Try.underlying37 hi hz0 hz1 hz2 rfl (by omega) v1 _ _ (by rfl) hown1 ⟨gx, ox, none⟩ k cx ((xs.take k).map (Value.int .i64)) (by rfl) hl2 (slc_news HLX.out hx4 (Below.grown hbel0 hgrow1 hbel0.size (fun r e => by cases e; exact hbel.size)) (xs.take k) 0 (fun j v hj => by rw [List.getElem?_take] at hj; split at hj <;> simp_all)) ho2 (by simp [maxLen]; omega) (by omega) (by have := hgrow1.size; simp at this ⊢; omega) ?_; intro v2 w6 hown2 hgrow2))
        | ((go_simp; have hbel5 := Below.grown hbel0 hgrow1 hbel0.size (fun r e => by cases e; exact hbel.size); have hbel6 := Below.grown hbel5 hgrow2 hbel5.size (fun r e => Nat.le_trans hbel.size (row_ge hown1 e)); have hs6 : Slc wr.heap.size w6 v2 (turL xs k) := tur_slc HLX.out (Nat.le_of_lt hlt) hown2; refine (l2Equal_any _ _ _ _ (turL xs k) ys _ hs6 (hy4.later hbel6) (by simp [turL, HLX.out]; omega) (by rw [HLY.out]; omega)).mono ?_; rintro e w7 ⟨rfl, hb7⟩)))
      have hbel7 : Below w4.heap.size w4 w7 := hbel6.trans (hb7.mono hbel6.size)
      by_cases hte : turL xs k = ys
      · rw [decide_eq_true hte]
        go_wp2_with fail
        go_ret
        exact ⟨ret_bool (by unfold turK; rw [decide_eq_true]; exact ⟨k, hlt, hte⟩), B4.trans (hbel7.mono B4.size)⟩
      · rw [decide_eq_false hte]
        go_wp2_with fail
        go_roundw
        · exact ⟨k + 1, hlt, rfl, turK_step htk hte, hbel7⟩
        · simp [intOf]; omega
    · obtain rfl : k = m := by omega
      go_wp2_with fail
      go_ret
      exact ⟨ret_bool htk.symm, B4.trans (hbel.mono B4.size)⟩

end Go.Proofs.Yteanlblcppcgbaa
