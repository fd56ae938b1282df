/-
  Chapter 6, the program's side: rings added round, behind the interface.
-/
import Derived.Test.YtoiofkijinlllabSumY
import Derived.Test.YtoiofkijinlllabSumU
import Derived.Lib.SliceRun
namespace Go.Proofs.Ytoiofkijinlllab
open Go.RowKit

/-- Both passes from the rings themselves: the sum, or nines in the place of nothing. -/
theorem add_prog {b : Nat} {x y : List Int} (hb : 2 ≤ b) (hn : 1 ≤ x.length) (hl : x.length = y.length) (hx : Dgt b x) (hy : Dgt b y) :
    (¬ (adC b (adC b 0 x y).1 x y).2 = List.replicate x.length ((b : Int) - 1) → (adC b (adC b 0 x y).1 x y).2 = addL b x y) ∧
      ((adC b (adC b 0 x y).1 x y).2 = List.replicate x.length ((b : Int) - 1) → addL b x y = List.replicate x.length 0) := by
  have hp := pow_big hb hn
  have v1 := adC_val b 0 hl
  have c1 := adC_bd (b := b) (by omega) (c := 0) (by omega) (by omega) hx hy
  have o1 := hor_lt (b := b) (by omega) (adC_dgt (b := b) (by omega) 0 x y)
  rw [adC_len b 0 hl] at o1
  have bx := hor_lt (b := b) (by omega) hx
  have byy := hor_lt (b := b) (by omega) hy
  rw [← hl] at byy
  generalize (adC b 0 x y).1 = c at *
  generalize (adC b 0 x y).2 = o at *
  have v2 := adC_val b c hl
  have l2 := adC_len b c hl
  have d2 := adC_dgt (b := b) (by omega) c x y
  have c2 := adC_bd (b := b) (by omega) (c := c) c1.1 c1.2 hx hy
  have b2 := hor_lt (b := b) (by omega) d2
  rw [l2] at b2
  generalize (adC b c x y).1 = e at *
  generalize (adC b c x y).2 = r at *
  generalize hP : (b : Int) ^ x.length = P at *
  have hc : c = 0 ∨ c = 1 := by omega
  have he : e = 0 ∨ e = 1 := by omega
  have hr : hor b r = hor b x + hor b y - c * (P - 1) := by
    rcases hc with rfl | rfl <;> rcases he with rfl | rfl <;> omega
  have hmod : (hor b x + hor b y) % (P - 1) = hor b r % (P - 1) := by
    rw [hr]
    have : hor b x + hor b y - c * (P - 1) = hor b x + hor b y + (P - 1) * (-c) := by grind
    rw [this, Int.add_mul_emod_self_left]
  have key : r = List.replicate x.length ((b : Int) - 1) ↔ hor b r = P - 1 := by
    constructor
    · intro h; rw [h, hor_const, hP]
    · intro h
      refine hor_eq (by omega) (by rw [l2, List.length_replicate]) d2 (fun z hz => by rw [(List.mem_replicate.1 hz).2]; omega) ?_
      rw [h, hor_const, hP]
  refine ⟨fun h => ?_, fun h => ?_⟩
  · refine addL_is hb hn l2 d2 ?_
    have hne : hor b r ≠ P - 1 := fun e => h (key.2 e)
    rw [hP, hmod, Int.emod_eq_of_lt b2.1 (by omega)]
  · refine (addL_is hb hn (by simp) (zeros_dgt (by omega) _) ?_).symm
    rw [hor_zeros, hP, hmod, key.1 h, Int.emod_self]

/-- A block of its own with three cells. -/
def Box3 (W : World) (B : Nat) (T : TypeId) (a b c : Value) : Prop := W.heap[B]? = some (.cells #[a, b, c] T)
theorem Box3.new (W : World) (T : TypeId) (a b c : Value) : Box3 (W.alloc (.cells #[a, b, c] T)) W.heap.size T a b c := heap_alloc_new W _
theorem Box3.lt {W : World} {B : Nat} {T : TypeId} {a b c : Value} (h : Box3 W B T a b c) : B < W.heap.size := (Array.getElem?_eq_some_iff.1 h).1
theorem Box3.below {n : Nat} {W W' : World} {B : Nat} {T : TypeId} {a b c : Value} (h : Box3 W B T a b c) (hb : Below n W W') (hn : B < n) : Box3 W' B T a b c := (hb.block B hn).trans h
theorem Box3.later {W W' : World} {B : Nat} {T : TypeId} {a b c : Value} (h : Box3 W B T a b c) (hb : Below W.heap.size W W') : Box3 W' B T a b c := h.below hb h.lt
theorem Box3.cell0 {W : World} {B : Nat} {T : TypeId} {a b c : Value} (h : Box3 W B T a b c) : W.cell? ⟨B, 0, none⟩ = some a := by simp [World.cell?, show W.heap[B]? = _ from h]
theorem Box3.cell1 {W : World} {B : Nat} {T : TypeId} {a b c : Value} (h : Box3 W B T a b c) : W.cell? ⟨B, 1, none⟩ = some b := by simp [World.cell?, show W.heap[B]? = _ from h]
theorem Box3.cell2 {W : World} {B : Nat} {T : TypeId} {a b c : Value} (h : Box3 W B T a b c) : W.cell? ⟨B, 2, none⟩ = some c := by simp [World.cell?, show W.heap[B]? = _ from h]

theorem RowI.clr {g : Nat} (m : Nat) : ∀ (k : Nat) (W : World) (zs : List Int), RowI W g zs → k + m ≤ zs.length → RowI (W.setCells g k (List.replicate m (.int .i64 0))) g (zs.take k ++ List.replicate m 0 ++ zs.drop (k + m)) := by
  induction m with
  | zero => intro k W zs h _; simpa [World.setCells] using h
  | succ m ih =>
    intro k W zs h hk
    have h1 := ih (k + 1) _ _ (h.set k 0) (by rw [List.length_set]; omega)
    have e1 : (zs.set k 0).take (k + 1) = zs.take k ++ [0] := by
      rw [List.take_succ_eq_append_getElem (by rw [List.length_set]; omega), List.take_set_of_le (Nat.le_refl _)]
      simp
    have e2 : (zs.set k 0).drop (k + 1 + m) = zs.drop (k + (m + 1)) := by
      rw [List.drop_set_of_lt (by omega)]
      congr 1; omega
    rw [e1, e2] at h1
    rw [List.replicate_succ, List.replicate_succ]
    simpa [World.setCells] using h1

theorem grownBy_set2Z (W : World) (b : Nat) (u v : Value) : W.grownBy ((W.setCell ⟨b, 0, none⟩ u).setCell ⟨b, 1, none⟩ v) (some b) :=
  ⟨rfl, rfl, rfl, by simp, fun k _ hk => by
    have hne : k ≠ b := fun e => hk (by rw [e])
    rw [Below.heap_setCell _ ⟨b, 1, none⟩ _ _ hne, Below.heap_setCell _ ⟨b, 0, none⟩ _ _ hne]⟩

theorem below_setCells {n g : Nat} {W0 : World} (hg : n ≤ g) : ∀ (vs : List Value) (k : Nat) (W : World), Below n W0 W → Below n W0 (W.setCells g k vs)
  | [], _, _, h => h
  | v :: vs, k, _, h => below_setCells hg vs (k + 1) _ (h.setCell (p := ⟨g, k, none⟩) hg v)

set_option maxHeartbeats 2000000 in
theorem ringSumTold_any (n₀ n₁ : Nat) (b : Int) (v u : Value) (x y : List Int) (w : World) (hv : Slc n₀ w v x) (hu : Slc n₁ w u y) (hx : x.length ≤ 1048576) (hy : y.length ≤ 1048576) :
    Calls Try.prog 78 #[.agg #[.int .i64 b, v, u]] w fun e w' => e = .returned (.bool (twoB b x y)) ∧ Below w.heap.size w w' := by
  have hb0 : Below w.heap.size w (w.alloc (.cells #[.int .i64 b, v, u] 50)) := (Below.refl _ _).alloc (Nat.le_refl _) _
  have R1 := Lib.hid (ringIn_any n₀ b v x _ (hv.later hb0) hx)
  have R2 := Lib.hid (ringIn_any n₁ b u y _ (hu.later hb0) hy)
  obtain ⟨a, c, rfl⟩ := slc_form hv
  obtain ⟨a', c', rfl⟩ := slc_form hu
  have HT : Hid (twoB b x y = (rngB b x && (rngB b y && decide (x.length = y.length)))) := rfl
  clear hv hu
  cases h1 : rngB b x with
  | false =>
    rw [h1] at R1 HT
    rw [HT.out, Bool.false_and]
    go_enter Try.func78, Try.ntmps78
    go_wp2_with (go_at_call 35; refine R1.out.mono ?_; rintro e w' ⟨rfl, rfl⟩)
    go_ret
    exact ⟨rfl, hb0⟩
  | true =>
    rw [h1] at R1 HT
    cases h2 : rngB b y with
    | false =>
      rw [h2] at R2 HT
      rw [HT.out, Bool.true_and, Bool.false_and]
      go_enter Try.func78, Try.ntmps78
      go_wp2_with fail
      refine R1.out.mono ?_
      rintro e w' ⟨rfl, rfl⟩
      go_wp2_with fail
      refine R2.out.mono ?_
      rintro e w' ⟨rfl, rfl⟩
      go_wp2_with fail
      go_ret
      exact ⟨rfl, hb0⟩
    | true =>
      rw [h2] at R2 HT
      rw [HT.out, Bool.true_and, Bool.true_and]
      clear HT
      by_cases h3 : x.length = y.length
      · have h3' : ((x.length : Int) == (y.length : Int)) = true := by simp; omega
        rw [decide_eq_true h3]
        clear h3
        go_enter Try.func78, Try.ntmps78
        go_wp2_with fail
        refine R1.out.mono ?_
        rintro e w' ⟨rfl, rfl⟩
        go_wp2_with fail
        refine R2.out.mono ?_
        rintro e w' ⟨rfl, rfl⟩
        go_wp2_with fail
        go_ret
        exact ⟨rfl, hb0⟩
      · have h3' : ((x.length : Int) == (y.length : Int)) = false := by simp; omega
        rw [decide_eq_false h3]
        clear h3
        go_enter Try.func78, Try.ntmps78
        go_wp2_with fail
        refine R1.out.mono ?_
        rintro e w' ⟨rfl, rfl⟩
        go_wp2_with fail
        refine R2.out.mono ?_
        rintro e w' ⟨rfl, rfl⟩
        go_wp2_with fail
        go_ret
        exact ⟨rfl, hb0⟩

set_option maxRecDepth 100000 in
set_option maxHeartbeats 4000000 in
theorem ringSumDigits_any (n₀ n₁ b : Nat) (c : Int) (v u : Value) (x y : List Int) (w : World) (hv : Slc n₀ w v x) (hu : Slc n₁ w u y) (h : Rng b x) (h' : Rng b y) (hl : x.length = y.length) (hc0 : 0 ≤ c) (hc1 : c ≤ 1) :
    Calls Try.prog 52 #[.agg #[.int .i64 b, v, u], .int .i64 c] w fun e w' => ∃ g, e = .returned (.tuple #[.slice (some ⟨g, 0, none⟩) x.length x.length, .int .i64 (adC b c x y).1]) ∧ w.heap.size ≤ g ∧ RowI w' g (adC b c x y).2 ∧ Below w.heap.size w w' := by
  have h2 := h.b2; have h16 := h.b16; have hl1 := h.l1; have hl2 := h.l2
  have BC1 := Lib.hid (fun i => adC_bd (b := b) (by omega) hc0 hc1 (x := x.drop i) (y := y.drop i) (fun z hz => h.dg z (List.mem_of_mem_drop hz)) (fun z hz => h'.dg z (List.mem_of_mem_drop hz)))
  have BX := Lib.hid (fun (i : Nat) (hi : i < x.length) => show 0 ≤ x[i]?.getD 0 ∧ x[i]?.getD 0 < b by
    rw [List.getElem?_eq_getElem hi]; exact h.dg _ (List.getElem_mem hi))
  have BY := Lib.hid (fun (i : Nat) (hi : i < x.length) => show 0 ≤ y[i]?.getD 0 ∧ y[i]?.getD 0 < b by
    rw [List.getElem?_eq_getElem (by omega)]; exact h'.dg _ (List.getElem_mem (by omega)))
  obtain ⟨gx, ox, cx, rfl, _, _, _, _⟩ := slc_some hv (by omega)
  obtain ⟨gy, oy, cy, rfl, _, _, _, _⟩ := slc_some hu (by omega)
  obtain ⟨n, hn⟩ : ∃ n, x.length = n := ⟨_, rfl⟩
  have hny : y.length = n := by omega
  rw [hn] at hv hl1 hl2 BX BY ⊢
  rw [hny] at hu ⊢
  have HNX := Lib.hid hn; have HNY := Lib.hid hny
  have hmk := run_make_row' (P := Try.prog) 46 3 (.int .i64 0) 8 Try.underlying46 infoInt rfl .i64 .i64 n (by omega) (by omega)
  obtain ⟨w0, hw0⟩ : ∃ w0, w.alloc (.cells #[.int .i64 b, .slice (some ⟨gx, ox, none⟩) n cx, .slice (some ⟨gy, oy, none⟩) n cy] 50) = w0 := ⟨_, rfl⟩
  have q0 : Box3 w0 w.heap.size 50 (.int .i64 b) (.slice (some ⟨gx, ox, none⟩) n cx) (.slice (some ⟨gy, oy, none⟩) n cy) := by rw [← hw0]; exact Box3.new w _ _ _ _
  have hs0 : w0.heap.size = w.heap.size + 1 := by rw [← hw0]; simp
  have hb0 : Below w.heap.size w w0 := by rw [← hw0]; exact (Below.refl _ _).alloc (Nat.le_refl _) _
  have hR0 := RowI.made (W := w0) (g := w.heap.size + 1) n hs0.symm
  have hbA : Below (w.heap.size + 1) w0 (w0.alloc (.cells (madeCells #[.int .i64 0] n) 3)) := (Below.refl _ _).alloc (by omega) _
  have HS0 := Lib.hid hs0
  clear h h' hl hn hny
  have k1 := q0.cell1
  have k2 := q0.cell2
  go_enter Try.func52, Try.ntmps52
  go_wp2_with fail
  go_loopw [1, 7] (fun c' i' wr => ∃ i : Nat, i ≤ n ∧ i' = .int .i64 ((i : Int) - 1) ∧ c' = .int .i64 (adC b c (List.drop i x) (List.drop i y)).1 ∧ RowI wr (w.heap.size + 1) (adZ b c (List.replicate n 0) x y i) ∧ Below (w.heap.size + 1) w0 wr) (fun _ i' _ => (intOf i' + 1).toNat)
  case atStart =>
    refine ⟨n, Nat.le_refl _, rfl, ?_, ?_, hbA⟩
    · rw [show List.drop n x = [] from List.drop_eq_nil_of_le (by rw [HNX.out]; exact Nat.le_refl _), show List.drop n y = [] from List.drop_eq_nil_of_le (by rw [HNY.out]; exact Nat.le_refl _)]; rfl
    · have e := adZ_end (b := b) (c := c) (Z := (List.replicate n 0)) (X := x) (Y := y) (by rw [HNX.out, List.length_replicate]) (by rw [HNX.out, HNY.out])
      rw [HNX.out] at e
      rw [e]; exact hR0
  case round =>
    clear hR0 hbA hmk k1 k2 hw0 hs0
    obtain ⟨i, hin, rfl, rfl, hR, hb⟩ := hrel
    have hb' : Below w0.heap.size w0 wr := by rw [HS0.out]; exact hb
    cases i with
    | zero =>
      have hneg : ¬ (((0 : Nat) : Int) - 1) ≥ 0 := by omega
      rw [adZ_zero] at hR
      rw [List.drop_zero, List.drop_zero]
      go_wp2_with fail
      go_ret2
      exact ⟨w.heap.size + 1, rfl, by omega, hR, hb0.trans (hb.mono (Nat.le_succ _))⟩
    | succ i =>
      have e1 : (((i + 1 : Nat) : Int) - 1) = (i : Int) := by omega
      rw [e1]
      clear e1
      have hst := adC_step (b := b) (c := c) (X := x) (Y := y) (i := i) (by rw [HNX.out]; omega) (by rw [HNY.out]; omega)
      have hset0 := adZ_set (b := b) (c := c) (Z := (List.replicate n 0)) (X := x) (Y := y) (i := i) (by rw [List.length_replicate]; omega) (by rw [HNX.out]; omega) (by rw [HNY.out]; omega)
      have hT1 := congrArg Prod.fst hst
      have hBi := BC1.out i
      have hB := BC1.out (i + 1)
      have hlen := adZ_len (b := b) (c := c) (Z := (List.replicate n 0)) (X := x) (Y := y) (i := i + 1) (by rw [HNX.out, List.length_replicate]) (by rw [HNX.out, HNY.out]) (by rw [HNX.out]; omega)
      have hfz := hR.frozen i
      have hcz := hR.cell i (by rw [hlen, HNX.out]; omega)
      rw [hT1] at hBi
      have HT1 := Lib.hid hT1
      clear hst hT1 hlen
      have kc1 := Slc.cell HNX.out ((hv.later hb0).later hb') i (by omega)
      have kc2 := Slc.cell HNY.out ((hu.later hb0).later hb') i (by omega)
      have qr := q0.later hb'
      have k0 := qr.cell0
      have k1 := qr.cell1
      have k2 := qr.cell2
      have hX := BX.out i (by omega)
      have hY := BY.out i (by omega)
      have hset : ∀ nn, RowI ((wr.drewN nn).setCell ⟨w.heap.size + 1, i, none⟩ (.int .i64 ((x[i]?.getD 0 + y[i]?.getD 0 + (adC b c (List.drop (i + 1) x) (List.drop (i + 1) y)).1) % b))) (w.heap.size + 1) (adZ b c (List.replicate n 0) x y i) := fun nn => by
        have := (hR.later (below_drewN (Below.refl _ _) nn)).set i ((x[i]?.getD 0 + y[i]?.getD 0 + (adC b c (List.drop (i + 1) x) (List.drop (i + 1) y)).1) % b)
        rw [hset0] at this
        exact this
      obtain ⟨xi, hxi⟩ : ∃ xi, x[i]?.getD 0 = xi := ⟨_, rfl⟩
      obtain ⟨yi, hyi⟩ : ∃ yi, y[i]?.getD 0 = yi := ⟨_, rfl⟩
      obtain ⟨cc, hcc⟩ : ∃ cc, (adC b c (List.drop (i + 1) x) (List.drop (i + 1) y)).1 = cc := ⟨_, rfl⟩
      rw [hxi, hyi, hcc] at hset HT1 hBi
      rw [hxi] at kc1 hX
      rw [hyi] at kc2 hY
      rw [hcc] at hB ⊢
      rw [show xi + yi + cc = cc + (xi + yi) by omega] at hset HT1 hBi
      clear hxi hyi hcc hset0
      have hq : (cc + (xi + yi)) / (b : Int) ≤ 1 := hBi.2
      have i1 : (i : Int) < (n : Int) := by omega
      have i2 : IntKind.i64.wrap (xi + yi) = xi + yi := IntWalk.i64_in _ (by omega)
      have i3 : IntKind.i64.wrap (cc + (xi + yi)) = cc + (xi + yi) := IntWalk.i64_in _ (by omega)
      have i4 : (0 : Int) ≤ (i : Int) := by omega
      have i5 : IntKind.i64.wrap (i : Int) = i := IntWalk.i64_in _ (by omega)
      have hq0 := hBi.1
      have hq1 := hBi.2
      have DZ : ∀ nn, (wr.drewN nn).cell? ⟨w.heap.size + 1, i, none⟩ = wr.cell? ⟨w.heap.size + 1, i, none⟩ := fun nn => (below_drewN (Below.refl _ wr) nn).cell (p := ⟨w.heap.size + 1, i, none⟩) hR.lt
      have DF : ∀ nn, (wr.drewN nn).frozen? ⟨w.heap.size + 1, i, none⟩ = false := fun nn => (hR.later (below_drewN (Below.refl _ _) nn)).frozen i
      have DK0 : ∀ nn, (wr.drewN nn).cell? ⟨w.heap.size, 0, none⟩ = some (.int .i64 b) := fun nn => k0
      have HS := Lib.hid hset
      have DB : Hid (∀ nn, Below (w.heap.size + 1) w0 ((wr.drewN nn).setCell ⟨w.heap.size + 1, i, none⟩ (.int .i64 ((cc + (xi + yi)) % b)))) := fun nn => (below_drewN hb nn).setCell (p := ⟨w.heap.size + 1, i, none⟩) (Nat.le_refl _) _
      clear hset hBi hfz hR hb'
      go_wp2_with fail
      go_quiet (fail)
      go_wp2
      go_roundw
      case rel => refine ⟨i, by omega, by go_num, ?_, by with_reducible exact HS.out _, by with_reducible exact DB.out _⟩; rw [HT1.out]
      case measure => simp [intOf]

theorem notNine_any (B : Nat) (b d : Int) (w : World) (hb : 0 ≤ b) (hb2 : b ≤ 1000) (hc : w.cell? ⟨B, 0, none⟩ = some (.int .i64 b)) :
    Calls Try.prog 54 #[.int .i64 d, .pointer (some ⟨B, 0, none⟩)] w fun e w' => e = .returned (.bool (d != b - 1)) ∧ w = w' := by
  go_enter Try.func54, Try.ntmps54
  go_wp2_with fail
  go_ret
  exact ⟨rfl, rfl⟩

set_option maxHeartbeats 2000000 in
theorem indexNine_any (B g n : Nat) (b : Int) (L : List Int) (w : World) (hL : L.length = n) (hn : n ≤ 250) (hb : 0 ≤ b) (hb2 : b ≤ 1000) (hc : w.cell? ⟨B, 0, none⟩ = some (.int .i64 b)) (hR : RowI w g L) :
    Calls Try.prog 61 #[.slice (some ⟨g, 0, none⟩) n n, .func (.func 54) #[] #[.pointer (some ⟨B, 0, none⟩)]] w fun e w' => (∃ r : Int, e = .returned (.int .i64 r) ∧ (0 ≤ r ↔ ¬ L = List.replicate n (b - 1))) ∧ w = w' := by
  have NN := Lib.hid (fun d => notNine_any B b d w hb hb2 hc)
  have HL := Lib.hid hL
  clear hL
  go_enter Try.func61, Try.ntmps61
  go_wp2_with fail
  go_loopw [8] (fun i' wr => ∃ k : Nat, k ≤ n ∧ i' = .int .i64 k ∧ (∀ j, j < k → L[j]?.getD 0 = b - 1) ∧ wr = w) (fun i' _ => n - (intOf i').toNat)
  case atStart => exact ⟨0, Nat.zero_le _, rfl, fun j hj => by omega, rfl⟩
  case round =>
    obtain ⟨k, hk, rfl, he, rfl⟩ := hrel
    have HE := Lib.hid he
    clear he
    by_cases hlt : k < n
    · have j1 : (k : Int) < (n : Int) := by omega
      have kc := hR.cell k (by rw [HL.out]; exact hlt)
      obtain ⟨d, hd⟩ : ∃ d, L[k]?.getD 0 = d := ⟨_, rfl⟩
      rw [hd] at kc
      have HD := Lib.hid hd
      clear hd
      go_wp2_with fail
      refine (NN.out d).mono ?_
      rintro e w' ⟨rfl, rfl⟩
      by_cases hdb : d = b - 1
      · have h1 : (d != b - 1) = false := by simp; omega
        have HDB := Lib.hid hdb
        rw [h1]
        clear hdb h1
        go_wp2_with fail
        refine ⟨⟨k + 1, hlt, rfl, fun j hj => ?_, by first | rfl | trivial⟩, by simp [intOf]; omega⟩
        rcases Nat.lt_or_ge j k with h | h
        · exact HE.out j h
        · obtain rfl : j = k := by omega
          rw [HD.out]; exact HDB.out
      · have h1 : (d != b - 1) = true := by simp; omega
        have HDB := Lib.hid hdb
        rw [h1]
        clear hdb h1
        go_wp2_with fail
        go_ret
        refine ⟨⟨k, rfl, ⟨fun _ hh => HDB.out ?_, fun _ => by omega⟩⟩, rfl⟩
        rw [← HD.out, hh, List.getElem?_replicate, if_pos hlt]; rfl
    · obtain rfl : k = n := by omega
      have j1 : ¬ (k : Int) < (k : Int) := by omega
      go_wp2_with fail
      go_ret
      refine ⟨⟨-1, rfl, ⟨fun h => by omega, fun h => absurd ?_ h⟩⟩, rfl⟩
      refine List.eq_replicate_iff.2 ⟨HL.out, fun z hz => ?_⟩
      obtain ⟨j, hj, e⟩ := List.getElem_of_mem hz
      have := HE.out j (by rw [HL.out] at hj; exact hj)
      rw [List.getElem?_eq_getElem hj, e] at this
      exact this

theorem containsNine_any (B g n : Nat) (b : Int) (L : List Int) (w : World) (p : Bool) (hp : decide (¬ L = List.replicate n (b - 1)) = p) (hL : L.length = n) (hn : n ≤ 250) (hb : 0 ≤ b) (hb2 : b ≤ 1000) (hc : w.cell? ⟨B, 0, none⟩ = some (.int .i64 b)) (hR : RowI w g L) :
    Calls Try.prog 53 #[.slice (some ⟨g, 0, none⟩) n n, .func (.func 54) #[] #[.pointer (some ⟨B, 0, none⟩)]] w fun e w' => e = .returned (.bool p) ∧ w = w' := by
  have NI := Lib.hid (indexNine_any B g n b L w hL hn hb hb2 hc hR)
  clear hL hc hR
  have HP := Lib.hid hp
  clear hp
  go_enter Try.func53, Try.ntmps53
  go_wp2_with fail
  refine NI.out.mono ?_
  rintro e w' ⟨⟨r, rfl, hr⟩, rfl⟩
  cases p with
  | true =>
    have j1 : r ≥ 0 := hr.2 (of_decide_eq_true HP.out)
    clear hr
    go_wp2_with fail
    go_ret
    exact ⟨rfl, rfl⟩
  | false =>
    have j1 : ¬ r ≥ 0 := fun h => of_decide_eq_false HP.out (hr.1 h)
    clear hr
    go_wp2_with fail
    go_ret
    exact ⟨ret_bool (decide_eq_false (by omega)), rfl⟩

set_option maxHeartbeats 4000000 in
theorem ringSumTotal_any (n₀ n₁ b : Nat) (v u : Value) (x y : List Int) (w : World) (hv : Slc n₀ w v x) (hu : Slc n₁ w u y) (h : Rng b x) (h' : Rng b y) (hl : x.length = y.length) :
    Calls Try.prog 42 #[.agg #[.int .i64 b, v, u]] w fun e w' => ∃ r, e = .returned r ∧ Slc w.heap.size w' r (addL b x y) ∧ Below w.heap.size w w' := by
  have h2 := h.b2; have h16 := h.b16; have hl1 := h.l1; have hl2 := h.l2
  have c1 := adC_bd (b := b) (by omega) (c := 0) (by omega) (by omega) h.dg h'.dg
  obtain ⟨p1, p2⟩ := add_prog h2 hl1 hl h.dg h'.dg
  obtain ⟨cc, hcc⟩ : ∃ cc, (adC b 0 x y).1 = cc := ⟨_, rfl⟩
  rw [hcc] at c1 p1 p2
  have hlL := adC_len b cc hl
  have D1 := Lib.hid (fun wx (hb : Below w.heap.size w wx) => by
    have := ringSumDigits_any n₀ n₁ b 0 v u x y wx (hv.later hb) (hu.later hb) h h' hl (by omega) (by omega)
    rwa [hcc] at this)
  have D2 := Lib.hid (fun wx (hb : Below w.heap.size w wx) => ringSumDigits_any n₀ n₁ b cc v u x y wx (hv.later hb) (hu.later hb) h h' hl c1.1 c1.2)
  obtain ⟨a, cx, rfl⟩ := slc_form hv
  obtain ⟨a', cy, rfl⟩ := slc_form hu
  obtain ⟨L, hL⟩ : ∃ L, (adC b cc x y).2 = L := ⟨_, rfl⟩
  rw [hL] at p1 p2 hlL D2
  generalize (adC b cc x y).1 = ce at D2
  obtain ⟨n, hn⟩ : ∃ n, x.length = n := ⟨_, rfl⟩
  have hny : y.length = n := by omega
  rw [hn] at p1 p2 hlL D1 D2 hl1 hl2 ⊢
  rw [hny] at D1 D2 ⊢
  have HP1 := Lib.hid p1; have HP2 := Lib.hid p2
  have q0 := Box3.new w 50 (.int .i64 b) (.slice a n cx) (.slice a' n cy)
  have hb0 : Below w.heap.size w (w.alloc (.cells #[.int .i64 b, .slice a n cx, .slice a' n cy] 50)) := (Below.refl _ _).alloc (Nat.le_refl _) _
  obtain ⟨p, hp⟩ : ∃ p, decide (¬ L = List.replicate n ((b : Int) - 1)) = p := ⟨_, rfl⟩
  have CN := Lib.hid (fun (B g : Nat) (wx : World) => containsNine_any B g n b L wx p hp hlL hl2 (by omega) (by omega))
  have HP := Lib.hid hp
  clear h h' hl hv hu hn hny p1 p2 hcc hL hp
  go_enter Try.func42, Try.ntmps42
  go_wp2_with fail
  refine (D1.out _ hb0).mono ?_
  rintro e w1 ⟨g1, rfl, _, _, hb1⟩
  have q1 := q0.later hb1
  have hb2' := hb0.trans (hb1.mono hb0.size)
  have k0 := q1.cell0
  have k1 := q1.cell1
  have k2 := q1.cell2
  clear q0 hb0 hb1
  go_wp2_with fail
  refine (D2.out _ hb2').mono ?_
  rintro e w2 ⟨g2, rfl, hg2, hR2, hb3⟩
  have q2 := q1.later hb3
  have hb4 := hb2'.trans (hb3.mono hb2'.size)
  have hgw : w.heap.size ≤ g2 := Nat.le_trans hb2'.size hg2
  clear k0 k1 k2 q1 hb3 hb2' hg2 D1 D2
  go_wp2_with fail
  refine (CN.out _ _ _ q2.cell0 hR2).mono ?_
  rintro e w' ⟨rfl, rfl⟩
  cases p with
  | true =>
    have hne := of_decide_eq_true HP.out
    clear CN
    go_wp2_with fail
    go_ret
    have := row_slcX hR2 hgw (by rw [hlL]; unfold maxLen; omega)
    rw [hlL, HP1.out hne] at this
    exact ⟨_, rfl, this, hb4⟩
  | false =>
    have he : L = List.replicate n ((b : Int) - 1) := Classical.byContradiction (of_decide_eq_false HP.out)
    have hcl : ∀ ty, (Builtin.clear_ #[46] ty #[.slice (some ⟨g2, 0, none⟩) n n]).run Try.prog w2 = .ok (.tuple #[]) (w2.setCells g2 0 (List.replicate n (.int .i64 0))) := fun ty =>
      Lib.run_clear_slice w2 46 3 ty (.int .i64 0) Try.underlying46 (fun _ => by kernel_rfl) rfl rfl g2 0 n n (by omega)
        (fun j hj => by rw [Nat.zero_add, hR2.cell j (by rw [hlL]; exact hj)]; rfl) (fun j hj => hR2.frozen _)
    have hz := RowI.clr n 0 w2 L hR2 (by omega)
    rw [List.take_zero, List.nil_append, List.drop_eq_nil_of_le (by omega), List.append_nil, ← HP2.out he] at hz
    have hb5 := below_setCells hgw (List.replicate n (.int .i64 0)) 0 w2 hb4
    have HZ := Lib.hid hz; have HB5 := Lib.hid hb5
    have HAL := Lib.hid (HP2.out he)
    clear CN he hz hb5
    go_wp2_with fail
    go_ret
    have hll : (addL b x y).length = n := by rw [HAL.out, List.length_replicate]
    have := row_slcX HZ.out hgw (by rw [hll]; unfold maxLen; omega)
    rw [hll] at this
    exact ⟨_, rfl, this, HB5.out⟩

theorem told_methodR (v : Value) (w : World) : (Go.method 209 50 v "loop.example/fractionrounds/impl.told").run Try.prog w = .ok (78, v) w := by kernel_rfl
theorem ring_assert (v : Value) (w : World) : (Instr.typeAssert (.iface 50 v) 64 50 true).run Try.prog w = .ok (.tuple #[v, .bool true]) w := by kernel_rfl
theorem ring_assert_not (v : Value) (w : World) : (Instr.typeAssert (.iface 50 v) 64 67 true).run Try.prog w = .ok (.tuple #[.agg #[.int .i64 0, .int .i64 0, .int .i64 0, .int .i64 0], .bool false]) w := by kernel_rfl

set_option maxHeartbeats 2000000 in
theorem addedRing_no (n₀ n₁ : Nat) (b : Int) (v u : Value) (x y : List Int) (w : World) (hv : Slc n₀ w v x) (hu : Slc n₁ w u y) (hx : x.length ≤ 1048576) (hy : y.length ≤ 1048576) (h : twoB b x y = false) :
    Calls Try.prog 24 #[.iface 50 (.agg #[.int .i64 b, v, u])] w fun e w' => e = .returned (.tuple #[.agg #[.int .i64 0, .int .i64 0], .slice none 0 0, .bool false]) ∧ Below w.heap.size w w' := by
  have HM := told_methodR (.agg #[.int .i64 b, v, u])
  have hb0 : Below w.heap.size w (w.alloc (.cells #[.int .i64 0, .int .i64 0] 33)) := (Below.refl _ _).alloc (Nat.le_refl _) _
  have TD := Lib.hid (ringSumTold_any n₀ n₁ b v u x y _ (hv.later hb0) (hu.later hb0) hx hy)
  rw [h] at TD
  clear hv hu
  go_enter Try.func24, Try.ntmps24
  go_wp2_with fail
  refine TD.out.mono ?_
  rintro e w1 ⟨rfl, hb1⟩
  have z1 : Box2 w1 w.heap.size 33 (.int .i64 0) (.int .i64 0) := (Box2.new w 33 _ _).later hb1
  have k0 := z1.cell0
  have k1 := z1.cell1
  have f0 := z1.frozen0
  have f1 := z1.frozen1
  have hb := bel1 hb1
  clear hb1 HM hb0 TD
  go_wp2_with fail
  refine bodyPost_ret (v := .tuple #[.agg #[.int .i64 0, .int .i64 0], .slice none 0 0, .bool false]) (by simp [results, Try.results24, go_sem, (z1.set' _ _).cell0, (z1.set' _ _).cell1]) rfl ⟨rfl, ?_⟩
  exact (hb.setCell (p := ⟨w.heap.size, 0, none⟩) (Nat.le_refl _) _).setCell (p := ⟨w.heap.size, 1, none⟩) (Nat.le_refl _) _

set_option maxHeartbeats 4000000 in
theorem addedRing_yes (n₀ n₁ b : Nat) (v u : Value) (x y : List Int) (w : World) (hv : Slc n₀ w v x) (hu : Slc n₁ w u y) (h : Rng b x) (h' : Rng b y) (hl : x.length = y.length) :
    Calls Try.prog 24 #[.iface 50 (.agg #[.int .i64 b, v, u])] w fun e w' => ∃ r, e = .returned (.tuple #[.agg #[.int .i64 0, .int .i64 0], r, .bool true]) ∧ Slc w.heap.size w' r (addL b x y) ∧ Below w.heap.size w w' := by
  have HM := told_methodR (.agg #[.int .i64 b, v, u])
  have HA := ring_assert (.agg #[.int .i64 b, v, u])
  have HAN := ring_assert_not (.agg #[.int .i64 b, v, u])
  have hb0 : Below w.heap.size w (w.alloc (.cells #[.int .i64 0, .int .i64 0] 33)) := (Below.refl _ _).alloc (Nat.le_refl _) _
  have TD := Lib.hid (ringSumTold_any n₀ n₁ b v u x y _ (hv.later hb0) (hu.later hb0) (by have := h.l2; omega) (by have := h'.l2; omega))
  have htw : twoB b x y = true := by unfold twoB; rw [h.told, h'.told, decide_eq_true hl]; rfl
  rw [htw] at TD
  have hvu : ∃ va vc ua uc, v = .slice va x.length vc ∧ u = .slice ua y.length uc := by
    obtain ⟨va, vc, e1⟩ := slc_form hv
    obtain ⟨ua, uc, e2⟩ := slc_form hu
    exact ⟨va, vc, ua, uc, e1, e2⟩
  have TT := Lib.hid (fun wx (hb : Below w.heap.size w wx) => ringSumTotal_any n₀ n₁ b v u x y wx (hv.later hb) (hu.later hb) h h' hl)
  clear hv hu h h' hl htw
  obtain ⟨va, vc, ua, uc, rfl, rfl⟩ := hvu
  obtain ⟨lx, hlx⟩ : ∃ lx, x.length = lx := ⟨_, rfl⟩
  obtain ⟨ly, hly⟩ : ∃ ly, y.length = ly := ⟨_, rfl⟩
  rw [hlx, hly] at HM HA HAN TD TT
  rw [hlx, hly]
  clear hlx hly
  go_enter Try.func24, Try.ntmps24
  go_wp2_with fail
  refine TD.out.mono ?_
  rintro e w1 ⟨rfl, hb1⟩
  have z1 : Box2 w1 w.heap.size 33 (.int .i64 0) (.int .i64 0) := (Box2.new w 33 _ _).later hb1
  have hb := bel1 hb1
  have hba := hb.alloc hb.size (.cells #[.int .i64 b, .slice va lx vc, .slice ua ly uc] 50)
  clear hb1 HM hb0 TD
  go_wp2_with fail
  refine (TT.out _ hba).mono ?_
  rintro e w2 ⟨r, rfl, hr, hb2⟩
  have z2 := (z1.alloc (.cells #[.int .i64 b, .slice va lx vc, .slice ua ly uc] 50)).later hb2
  have hbb := hba.trans (hb2.mono hba.size)
  have hr2 := hr.mono hba.size
  have k0 := z2.cell0
  have k1 := z2.cell1
  have f0 := z2.frozen0
  have f1 := z2.frozen1
  have hro := fun q e => (hr.own q e).1
  have hs1 := hb.size
  clear HA HAN TT hr hb2
  have HR := Lib.hid hr2
  clear hr2
  go_wp2_with fail
  refine bodyPost_ret (v := .tuple #[.agg #[.int .i64 0, .int .i64 0], r, .bool true]) (by simp [results, Try.results24, go_sem, (z2.set' _ _).cell0, (z2.set' _ _).cell1]) rfl ⟨r, rfl, ?_, ?_⟩
  · exact HR.out.kept (grownBy_set2Z w2 w.heap.size _ _) (fun q e1 e2 => by cases e2; have := hro _ e1; simp at this; omega)
  · exact (hbb.setCell (p := ⟨w.heap.size, 0, none⟩) (Nat.le_refl _) _).setCell (p := ⟨w.heap.size, 1, none⟩) (Nat.le_refl _) _

set_option maxHeartbeats 2000000 in
theorem implSumRound_no (b : Int) (x y : List Int) (hx : x.length ≤ 1048576) (hy : y.length ≤ 1048576) (h : twoB b x y = false) : GivesDD 9 (fun v u => #[.int .i64 b, v, u]) x y [] false := by
  intro n₀ n₁ v u w hv hu
  have AD := Lib.hid (addedRing_no n₀ n₁ b v u x y w hv hu hx hy h)
  obtain ⟨a, c, rfl⟩ := slc_form hv
  obtain ⟨a', c', rfl⟩ := slc_form hu
  clear hv hu
  go_enter Try.func9, Try.ntmps9
  go_wp2_with fail
  refine AD.out.mono ?_
  rintro e w1 ⟨rfl, hb1⟩
  have hb := hb1.alloc hb1.size (.cells #[.int .i64 0, .int .i64 0] 33)
  go_wp2_with fail
  go_ret2
  exact ⟨_, rfl, Slc.nil _ _, hb⟩

set_option maxHeartbeats 2000000 in
theorem implSumRound_yes (b : Nat) (x y : List Int) (h : Rng b x) (h' : Rng b y) (hl : x.length = y.length) : GivesDD 9 (fun v u => #[.int .i64 b, v, u]) x y (addL b x y) true := by
  intro n₀ n₁ v u w hv hu
  have AD := Lib.hid (addedRing_yes n₀ n₁ b v u x y w hv hu h h' hl)
  obtain ⟨a, c, rfl⟩ := slc_form hv
  obtain ⟨a', c', rfl⟩ := slc_form hu
  clear hv hu h h' hl
  go_enter Try.func9, Try.ntmps9
  go_wp2_with fail
  refine AD.out.mono ?_
  rintro e w1 ⟨r, rfl, hr, hb1⟩
  have hb := hb1.alloc hb1.size (.cells #[.int .i64 0, .int .i64 0] 33)
  have hr2 := Lib.hid (hr.later ((Below.refl w1.heap.size w1).alloc (Nat.le_refl _) (.cells #[.int .i64 0, .int .i64 0] 33)))
  clear AD hr hb1
  go_wp2_with fail
  go_ret2
  exact ⟨_, rfl, hr2.out, hb⟩

theorem imSumRound : ImSumRound := ⟨implSumRound_no, implSumRound_yes⟩

end Go.Proofs.Ytoiofkijinlllab
