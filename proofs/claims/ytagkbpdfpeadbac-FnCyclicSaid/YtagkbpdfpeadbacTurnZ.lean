/-
  Chapter 5, the program's side: products, made by a closure that calls itself; rings that turn by a product.
-/
import Derived.Test.YtagkbpdfpeadbacTurnX
import Derived.Test.YtagkbpdfpeadbacTurnT
import Derived.RangeFuncBox
import Derived.Deep.RegionHeld3
import Derived.Laws.EntriesVeiled
namespace Go.Proofs.Ytagkbpdfpeadbac
open Go.RowKit

/-- The closure of a product, as a value: what it captured. -/
def cyF (N : Nat) : Value := .func (.func 60) #[] #[.pointer (some ⟨N, 0, none⟩), .pointer (some ⟨N + 2, 0, none⟩), .pointer (some ⟨N + 5, 0, none⟩), .pointer (some ⟨N + 1, 0, none⟩), .pointer (some ⟨N + 4, 0, none⟩)]

/-- What the closure reads. -/
structure Cy (N b k : Nat) (d : List Int) (gx ox cx n : Nat) (W : World) : Prop where
  r : Boxed W N 49 (.slice (some ⟨gx, ox, none⟩) n cx)
  b : Boxed W (N + 1) 3 (.int .i64 b)
  k : Boxed W (N + 2) 3 (.int .i64 k)
  p : Boxed W (N + 4) 49 (.slice (some ⟨N + 3, 0, none⟩) n n)
  c : Boxed W (N + 5) 47 (cyF N)
  s : Slc 0 W (.slice (some ⟨gx, ox, none⟩) n cx) d
  lt : gx < N

theorem boxed_grown {W W' : World} {B : Nat} {t : TypeId} {v : Value} {G : Nat} (h : Boxed W B t v) (hg : W.grownBy W' (some G)) (hne : B ≠ G) : Boxed W' B t v :=
  (hg.block B h.lt (by simp; omega)).trans h

theorem Cy.grown {N b k : Nat} {d : List Int} {gx ox cx n : Nat} {W W' : World} (h : Cy N b k d gx ox cx n W) (hg : W.grownBy W' (some (N + 3))) : Cy N b k d gx ox cx n W' :=
  ⟨boxed_grown h.r hg (by omega), boxed_grown h.b hg (by omega), boxed_grown h.k hg (by omega), boxed_grown h.p hg (by omega), boxed_grown h.c hg (by omega),
    h.s.kept hg (fun g e => by cases e; have := h.lt; simp; omega), h.lt⟩

theorem Cy.drew {N b k : Nat} {d : List Int} {gx ox cx n : Nat} {W : World} (h : Cy N b k d gx ox cx n W) : Cy N b k d gx ox cx n W.drew := ⟨h.r, h.b, h.k, h.p, h.c, h.s, h.lt⟩

theorem grown_set {W W1 : World} {G j : Nat} {v : Value} (h : W.grownBy W1 (some G)) : W.grownBy ((W1.setCell ⟨G, j, none⟩ v).drew) (some G) := by
  refine ⟨h.os, h.tape, h.output, by simpa using h.size, fun q hq hne => ?_⟩
  show (W1.setCell _ _).heap[q]? = _
  rw [Below.heap_setCell _ ⟨G, j, none⟩ _ q (fun e => hne (by rw [e]))]
  exact h.block q hq hne

set_option maxRecDepth 100000 in
set_option maxHeartbeats 2000000 in
/-- The closure from place j on: it answers the carry, and the product's digits stand from j on. -/
theorem carry_any (N b k : Nat) (d : List Int) (gx ox cx n : Nat) (hn : d.length = n) (hR : Rng b d) (hk : k ≤ 100) (i : Nat) : ∀ (j : Nat) (W : World), j + i = n → Cy N b k d gx ox cx n W → RowI W (N + 3) (timZ b k d n) →
    Calls Try.prog 60 #[.int .i64 j, .pointer (some ⟨N, 0, none⟩), .pointer (some ⟨N + 2, 0, none⟩), .pointer (some ⟨N + 5, 0, none⟩), .pointer (some ⟨N + 1, 0, none⟩), .pointer (some ⟨N + 4, 0, none⟩)] W fun e W' =>
      e = .returned (.int .i64 (tim b k (d.drop j)).1) ∧ RowI W' (N + 3) (timZ b k d j) ∧ W.grownBy W' (some (N + 3)) := by
  have hl2 := hR.l2
  have hb2 := hR.b2; have hb16 := hR.b16
  have HB := Lib.hid (fun i => tim_bd (b := b) (k := k) (d := d.drop i) (by omega) (by omega) fun x hx => hR.dg x (List.mem_of_mem_drop hx))
  have HD := Lib.hid (fun (i : Nat) (hi : i < n) => show 0 ≤ d[i]?.getD 0 ∧ d[i]?.getD 0 < b by
    rw [List.getElem?_eq_getElem (by omega)]
    exact hR.dg _ (List.getElem_mem (by omega)))
  rw [hn] at hl2
  have HN := Lib.hid hn
  clear hn hR
  induction i with
  | zero =>
    intro j W hj hC hrow
    obtain rfl : j = n := by omega
    have c1 := hC.r.cell
    have hd : d.drop j = [] := List.drop_eq_nil_of_le (by rw [HN.out]; exact Nat.le_refl _)
    rw [hd]
    show Calls _ _ _ _ fun e W' => e = .returned (.int .i64 0) ∧ _
    clear hd
    go_enter Try.func60, Try.ntmps60
    go_wp2_with fail
    go_ret
    exact ⟨rfl, hrow, ⟨rfl, rfl, rfl, Nat.le_refl _, fun _ _ _ => rfl⟩⟩
  | succ i ih =>
    intro j W hj hC hrow
    have IH := Lib.hid (fun (W' : World) (h1 : Cy N b k d gx ox cx n W') (h2 : RowI W' (N + 3) (timZ b k d n)) => by
      have := ih (j + 1) W' (by omega) h1 h2
      rw [show ((j + 1 : Nat) : Int) = (j : Int) + 1 by omega] at this
      exact this)
    clear ih
    have hjn : j < n := by omega
    have c1 := hC.r.cell
    have c2 : (W.drew).cell? ⟨N, 0, none⟩ = some (.slice (some ⟨gx, ox, none⟩) n cx) := c1
    have c3 : (W.drew).cell? ⟨N + 2, 0, none⟩ = some (.int .i64 k) := hC.k.cell
    have c4 : (W.drew).cell? ⟨N + 5, 0, none⟩ = some (.func (.func 60) #[] #[.pointer (some ⟨N, 0, none⟩), .pointer (some ⟨N + 2, 0, none⟩), .pointer (some ⟨N + 5, 0, none⟩), .pointer (some ⟨N + 1, 0, none⟩), .pointer (some ⟨N + 4, 0, none⟩)]) := hC.c.cell
    have c5 : (W.drew).cell? ⟨gx, ox + j, none⟩ = some (.int .i64 (d[j]?.getD 0)) := Slc.cell HN.out hC.s j hjn
    have hts := timZ_set (b := b) (k := k) (i := j) (d := d) (by rw [HN.out]; omega)
    have hB := HB.out (j + 1)
    have hBi := HB.out j
    have hD := HD.out j hjn
    have hzl := timZ_len (b := b) (k := k) (i := j + 1) (d := d) (by rw [HN.out]; omega)
    have HT1 := Lib.hid hts.1; have HT2 := Lib.hid hts.2; have HZ := Lib.hid hzl
    rw [hts.2] at hBi
    clear hts hzl
    obtain ⟨x, hx⟩ : ∃ x, d[j]?.getD 0 = x := ⟨_, rfl⟩
    obtain ⟨cc, hcc⟩ : ∃ cc, (tim b k (d.drop (j + 1))).1 = cc := ⟨_, rfl⟩
    rw [hx, hcc, Int.add_comm] at HT2 hBi
    rw [hx, hcc, Int.add_comm] at HT1
    rw [hx] at c5 hD
    rw [hcc] at hB IH
    have HX := Lib.hid hx
    clear hx hcc
    have m1 : 0 ≤ x * (k : Int) := Int.mul_nonneg hD.1 (by omega)
    have m2 : x * (k : Int) ≤ 16 * 100 := Int.mul_le_mul (by omega) (by omega) (by omega) (by omega)
    have i1 : (j : Int) < (n : Int) := by omega
    have i2 : (0 : Int) ≤ (j : Int) := by omega
    have i3 : ¬ j = n := by omega
    have HC := Lib.hid hC; have HR := Lib.hid hrow
    have CALL := Lib.hid (IH.out W.drew HC.out.drew HR.out)
    have w1 : IntKind.i64.wrap ((j : Int) + 1) = (j : Int) + 1 := IntWalk.i64_in _ (by omega)
    have w2 : IntKind.i64.wrap (x * (k : Int)) = x * (k : Int) := IntWalk.i64_in _ (by omega)
    have w3 : IntKind.i64.wrap (x * (k : Int) + cc) = x * (k : Int) + cc := IntWalk.i64_in _ (by omega)
    clear hC hrow IH
    go_enter Try.func60, Try.ntmps60
    go_wp2_with fail
    go_region_held3 (fun w' => (w'.cell? ⟨N, 0, none⟩ = some (.slice (some ⟨gx, ox, none⟩) n cx) ∧ w'.cell? ⟨N + 2, 0, none⟩ = some (.int .i64 k)) ∧ w'.cell? ⟨N + 5, 0, none⟩ = some (.func (.func 60) #[] #[.pointer (some ⟨N, 0, none⟩), .pointer (some ⟨N + 2, 0, none⟩), .pointer (some ⟨N + 5, 0, none⟩), .pointer (some ⟨N + 1, 0, none⟩), .pointer (some ⟨N + 4, 0, none⟩)]) ∧ w'.cell? ⟨gx, ox + j, none⟩ = some (.int .i64 x)) (exact ⟨⟨by assumption, by assumption⟩, by assumption, by assumption⟩)
      (first | (go_at_call 60; (with_reducible refine Calls.mono CALL.out ?_); rintro e w1 ⟨rfl, hrow1, hgr1⟩; have x1 := (HC.out.drew.grown hgr1).r.cell; have x2 := (HC.out.drew.grown hgr1).k.cell; have x3 : w1.cell? ⟨N + 5, 0, none⟩ = some (.func (.func 60) #[] #[.pointer (some ⟨N, 0, none⟩), .pointer (some ⟨N + 2, 0, none⟩), .pointer (some ⟨N + 5, 0, none⟩), .pointer (some ⟨N + 1, 0, none⟩), .pointer (some ⟨N + 4, 0, none⟩)]) := (HC.out.drew.grown hgr1).c.cell; have x4 : w1.cell? ⟨gx, ox + j, none⟩ = some (.int .i64 x) := (Slc.cell HN.out (HC.out.drew.grown hgr1).s j hjn).trans (by rw [HX.out])))
    have hC1 := HC.out.drew.grown hgr1
    have y1 := hC1.p.cell
    have y2 := hC1.b.cell
    have y3 : w1.cell? ⟨N + 3, j, none⟩ = some (.int .i64 ((timZ b k d (j + 1))[j]?.getD 0)) := hrow1.cell j (by rw [HZ.out, HN.out]; exact hjn)
    have y4 : w1.frozen? ⟨N + 3, j, none⟩ = false := hrow1.frozen j
    have hset := hrow1.set j ((x * (k : Int) + cc) % b)
    rw [HT1.out] at hset
    have hgr2 : W.grownBy ((w1.setCell ⟨N + 3, j, none⟩ (.int .i64 ((x * (k : Int) + cc) % b))).drew) (some (N + 3)) := grown_set ⟨hgr1.os, hgr1.tape, hgr1.output, hgr1.size, hgr1.block⟩
    have hset2 : RowI ((w1.setCell ⟨N + 3, j, none⟩ (.int .i64 ((x * (k : Int) + cc) % b))).drew) (N + 3) (timZ b k d j) := hset
    have y5 : ((w1.setCell ⟨N + 3, j, none⟩ (.int .i64 ((x * (k : Int) + cc) % b))).drew).cell? ⟨N + 1, 0, none⟩ = some (.int .i64 b) := (hC1.grown (grown_set ⟨rfl, rfl, rfl, Nat.le_refl _, fun _ _ _ => rfl⟩)).b.cell
    have q0 : 0 ≤ x * (k : Int) + cc := by omega
    have q1 : x * (k : Int) + cc ≤ 1800 := by omega
    have q2 : 0 ≤ (x * (k : Int) + cc) % b := Int.emod_nonneg _ (by omega)
    have q3 : (x * (k : Int) + cc) % b < b := Int.emod_lt_of_pos _ (by omega)
    have hb0 : ¬ b = 0 := by omega
    have hq0 := hBi.1
    have hq1 : (x * (k : Int) + cc) / (b : Int) ≤ 100 := by have := hBi.2; omega
    have i4 : Int.tmod (x * (k : Int) + cc) (b : Int) = (x * (k : Int) + cc) % b := Int.tmod_eq_emod_of_nonneg q0
    have i5 : IntKind.i64.wrap ((x * (k : Int) + cc) % b) = (x * (k : Int) + cc) % b := IntWalk.i64_in _ (by omega)
    have i6 : ((b : Int) == 0) = false := by simp; omega
    clear hC1 hset hrow1 hgr1 x1 x2 x3 x4 CALL
    go_wp2_with fail
    go_region
    all_goals (
      go_wp2_with fail
      go_ret
      exact ⟨by rw [HT2.out]; rfl, hset2, hgr2⟩)

theorem boxed_new {W : World} {B : Nat} {t : TypeId} {v : Value} (h : B = W.heap.size) : Boxed (W.alloc (.cells #[v] t)) B t v := by subst h; exact heap_alloc_new W _

theorem rowI_alloc {W : World} {G : Nat} {zs : List Int} {o : Obj} (h : RowI W G zs) : RowI (W.alloc o) G zs := h.later ((Below.refl _ _).alloc (Nat.le_refl _) _)

theorem timZ_all {b k n : Nat} {d : List Int} (hn : d.length = n) : timZ b k d n = List.replicate n 0 := by
  unfold timZ
  rw [show d.drop n = [] from List.drop_eq_nil_of_le (by rw [hn]; exact Nat.le_refl _)]
  simp [tim]

theorem timZ_none (b k : Nat) (d : List Int) : timZ b k d 0 = (tim b k d).2 := by unfold timZ; rw [List.drop_zero]; rfl

/-- The world in which the closure is called for the first time. -/
theorem cy_made (n₀ : Nat) (w : World) (b k : Nat) (d : List Int) (g o c n : Nat) (hn : d.length = n) (hv : Slc n₀ w (.slice (some ⟨g, o, none⟩) n c) d) (hg : g < w.heap.size) :
    Cy w.heap.size b k d g o c n ((((((w.alloc (.cells #[.slice (some ⟨g, o, none⟩) n c] 49)).alloc (.cells #[.int .i64 b] 3)).alloc (.cells #[.int .i64 k] 3)).alloc (.cells (madeCells #[.int .i64 0] n) 3)).alloc (.cells #[.slice (some ⟨w.heap.size + 1 + 1 + 1, 0, none⟩) n n] 49)).alloc (.cells #[.func (.func 60) #[] #[.pointer (some ⟨w.heap.size, 0, none⟩), .pointer (some ⟨w.heap.size + 1 + 1, 0, none⟩), .pointer (some ⟨w.heap.size + 1 + 1 + 1 + 1 + 1, 0, none⟩), .pointer (some ⟨w.heap.size + 1, 0, none⟩), .pointer (some ⟨w.heap.size + 1 + 1 + 1 + 1, 0, none⟩)]] 47)) ∧
    RowI ((((((w.alloc (.cells #[.slice (some ⟨g, o, none⟩) n c] 49)).alloc (.cells #[.int .i64 b] 3)).alloc (.cells #[.int .i64 k] 3)).alloc (.cells (madeCells #[.int .i64 0] n) 3)).alloc (.cells #[.slice (some ⟨w.heap.size + 1 + 1 + 1, 0, none⟩) n n] 49)).alloc (.cells #[.func (.func 60) #[] #[.pointer (some ⟨w.heap.size, 0, none⟩), .pointer (some ⟨w.heap.size + 1 + 1, 0, none⟩), .pointer (some ⟨w.heap.size + 1 + 1 + 1 + 1 + 1, 0, none⟩), .pointer (some ⟨w.heap.size + 1, 0, none⟩), .pointer (some ⟨w.heap.size + 1 + 1 + 1 + 1, 0, none⟩)]] 47)) (w.heap.size + 3) (timZ b k d n) ∧
    Below w.heap.size w ((((((w.alloc (.cells #[.slice (some ⟨g, o, none⟩) n c] 49)).alloc (.cells #[.int .i64 b] 3)).alloc (.cells #[.int .i64 k] 3)).alloc (.cells (madeCells #[.int .i64 0] n) 3)).alloc (.cells #[.slice (some ⟨w.heap.size + 1 + 1 + 1, 0, none⟩) n n] 49)).alloc (.cells #[.func (.func 60) #[] #[.pointer (some ⟨w.heap.size, 0, none⟩), .pointer (some ⟨w.heap.size + 1 + 1, 0, none⟩), .pointer (some ⟨w.heap.size + 1 + 1 + 1 + 1 + 1, 0, none⟩), .pointer (some ⟨w.heap.size + 1, 0, none⟩), .pointer (some ⟨w.heap.size + 1 + 1 + 1 + 1, 0, none⟩)]] 47)) := by
  have hB : Below w.heap.size w ((((((w.alloc (.cells #[.slice (some ⟨g, o, none⟩) n c] 49)).alloc (.cells #[.int .i64 b] 3)).alloc (.cells #[.int .i64 k] 3)).alloc (.cells (madeCells #[.int .i64 0] n) 3)).alloc (.cells #[.slice (some ⟨w.heap.size + 1 + 1 + 1, 0, none⟩) n n] 49)).alloc (.cells #[.func (.func 60) #[] #[.pointer (some ⟨w.heap.size, 0, none⟩), .pointer (some ⟨w.heap.size + 1 + 1, 0, none⟩), .pointer (some ⟨w.heap.size + 1 + 1 + 1 + 1 + 1, 0, none⟩), .pointer (some ⟨w.heap.size + 1, 0, none⟩), .pointer (some ⟨w.heap.size + 1 + 1 + 1 + 1, 0, none⟩)]] 47)) := (((((((Below.refl _ _).alloc (Nat.le_refl _) _).alloc (by simp) _).alloc (by simp; omega) _).alloc (by simp; omega) _).alloc (by simp; omega) _).alloc (by simp; omega) _)
  refine ⟨⟨?_, ?_, ?_, ?_, ?_, ?_, hg⟩, ?_, hB⟩
  · exact (((((boxed_new rfl).alloc _).alloc _).alloc _).alloc _).alloc _
  · exact ((((boxed_new (by simp)).alloc _).alloc _).alloc _).alloc _
  · exact (((boxed_new (by simp)).alloc _).alloc _).alloc _
  · exact (boxed_new (by simp)).alloc _
  · exact boxed_new (by simp)
  · exact (hv.later hB).mono (Nat.zero_le _)
  · rw [timZ_all hn]
    exact rowI_alloc (rowI_alloc (RowI.made n (by simp)))

set_option maxRecDepth 100000 in
set_option maxHeartbeats 2000000 in
theorem times_any (n₀ : Nat) (b k : Nat) (v : Value) (d : List Int) (w : World) (hv : Slc n₀ w v d) (h : Rng b d) (hk : k ≤ 100) :
    Calls Try.prog 43 #[v, .int .i64 b, .int .i64 k] w fun e w' => ∃ u, e = .returned (.tuple #[u, .bool (decide ((tim b k d).1 = 0))]) ∧ Slc w.heap.size w' u (tim b k d).2 ∧ Below w.heap.size w w' := by
  have hl1 := h.l1; have hl2 := h.l2
  obtain ⟨n, hn⟩ : ∃ n, d.length = n := ⟨_, rfl⟩
  have hmk := run_make_row' (P := Try.prog) 49 3 (.int .i64 0) 8 Try.underlying49 infoInt rfl .i64 .i64 n (by omega) (by omega)
  obtain ⟨g, o, c, rfl, _, hg, hc1, hc2⟩ := slc_some hv (by omega)
  rw [hn] at hv hl1 hl2 hc1 ⊢
  go_enter Try.func43, Try.ntmps43
  go_wp2_with fail
  clear hmk
  have CM := cy_made n₀ w b k d g o c n hn hv hg
  revert CM
  generalize ((((((w.alloc (.cells #[.slice (some ⟨g, o, none⟩) n c] 49)).alloc (.cells #[.int .i64 b] 3)).alloc (.cells #[.int .i64 k] 3)).alloc (.cells (madeCells #[.int .i64 0] n) 3)).alloc (.cells #[.slice (some ⟨w.heap.size + 1 + 1 + 1, 0, none⟩) n n] 49)).alloc (.cells #[.func (.func 60) #[] #[.pointer (some ⟨w.heap.size, 0, none⟩), .pointer (some ⟨w.heap.size + 1 + 1, 0, none⟩), .pointer (some ⟨w.heap.size + 1 + 1 + 1 + 1 + 1, 0, none⟩), .pointer (some ⟨w.heap.size + 1, 0, none⟩), .pointer (some ⟨w.heap.size + 1 + 1 + 1 + 1, 0, none⟩)]] 47)) = W5
  rintro ⟨hC, hR, hB⟩
  simp only [Nat.add_assoc, Nat.reduceAdd]
  have CALL : Hid (Calls Try.prog 60 #[.int .i64 0, .pointer (some ⟨w.heap.size, 0, none⟩), .pointer (some ⟨w.heap.size + 2, 0, none⟩), .pointer (some ⟨w.heap.size + 5, 0, none⟩), .pointer (some ⟨w.heap.size + 1, 0, none⟩), .pointer (some ⟨w.heap.size + 4, 0, none⟩)] W5.drew fun e W' =>
      e = .returned (.int .i64 (tim b k d).1) ∧ RowI W' (w.heap.size + 3) (tim b k d).2 ∧ W5.drew.grownBy W' (some (w.heap.size + 3))) := by
    have := carry_any w.heap.size b k d g o c n hn h hk n 0 W5.drew (by omega) hC.drew hR
    rw [timZ_none, List.drop_zero] at this
    exact this
  have hlen : (tim b k d).2.length = n := by rw [tim_len, hn]
  have c1 : W5.drew.cell? ⟨w.heap.size + 4, 0, none⟩ = some (.slice (some ⟨w.heap.size + 3, 0, none⟩) n n) := hC.p.cell
  have c2 : W5.drew.cell? ⟨w.heap.size + 5, 0, none⟩ = some (.func (.func 60) #[] #[.pointer (some ⟨w.heap.size, 0, none⟩), .pointer (some ⟨w.heap.size + 2, 0, none⟩), .pointer (some ⟨w.heap.size + 5, 0, none⟩), .pointer (some ⟨w.heap.size + 1, 0, none⟩), .pointer (some ⟨w.heap.size + 4, 0, none⟩)]) := hC.c.cell
  have HC := Lib.hid hC
  clear hC hR h hn
  go_region_held3 (fun w' => w'.cell? ⟨w.heap.size + 4, 0, none⟩ = some (.slice (some ⟨w.heap.size + 3, 0, none⟩) n n) ∧ w'.cell? ⟨w.heap.size + 5, 0, none⟩ = some (.func (.func 60) #[] #[.pointer (some ⟨w.heap.size, 0, none⟩), .pointer (some ⟨w.heap.size + 2, 0, none⟩), .pointer (some ⟨w.heap.size + 5, 0, none⟩), .pointer (some ⟨w.heap.size + 1, 0, none⟩), .pointer (some ⟨w.heap.size + 4, 0, none⟩)])) (exact ⟨by assumption, by assumption⟩)
    (first | (go_at_call 60; (with_reducible refine Calls.mono CALL.out ?_); rintro e w1 ⟨rfl, hrow1, hgr1⟩; have x1 : w1.cell? ⟨w.heap.size + 4, 0, none⟩ = some (.slice (some ⟨w.heap.size + 3, 0, none⟩) n n) := (HC.out.drew.grown hgr1).p.cell; have x3 : w1.cell? ⟨w.heap.size + 5, 0, none⟩ = some (.func (.func 60) #[] #[.pointer (some ⟨w.heap.size, 0, none⟩), .pointer (some ⟨w.heap.size + 2, 0, none⟩), .pointer (some ⟨w.heap.size + 5, 0, none⟩), .pointer (some ⟨w.heap.size + 1, 0, none⟩), .pointer (some ⟨w.heap.size + 4, 0, none⟩)]) := (HC.out.drew.grown hgr1).c.cell))
  all_goals (
    have hs := row_slc hrow1 (Nat.le_add_right w.heap.size 3) (by rw [hlen]; unfold maxLen; omega)
    rw [hlen] at hs
    have hb1 : Below w.heap.size w w1 := hB.drew.grown hgr1 hB.size (fun r e => by cases e; omega)
    go_wp2_with fail
    refine bodyPost_ret (v := .tuple #[.slice (some ⟨w.heap.size + 3, 0, none⟩) n n, .bool ((tim b k d).1 == 0)]) (by simp [results, Try.results43, go_sem]) rfl ?_
    exact ⟨_, rfl, hs, hb1⟩)

end Go.Proofs.Ytagkbpdfpeadbac
