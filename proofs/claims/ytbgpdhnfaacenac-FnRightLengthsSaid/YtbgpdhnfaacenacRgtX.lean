/-
  Chapter 8, the program's side: the way is made; digits and steps along it.
-/
import Derived.Test.YtbgpdhnfaacenacRgtW
import Derived.Deep.LoopGhost
import Derived.LaidEqlPtr
namespace Go.Proofs.Ytbgpdhnfaacenac
open Go.RowKit Go.Maps Go.ChangeMaps

theorem infoNode : ∃ j, Try.prog.info? 56 = some j ∧ j.size ≠ 0 := by
  have h : (Try.prog.info? 56).map (fun i => i.size) = some 3 := by kernel_rfl
  cases hi : Try.prog.info? 56 with
  | none => rw [hi] at h; cases h
  | some j =>
    rw [hi] at h
    simp at h
    exact ⟨j, rfl, by omega⟩
theorem eqlN_other {w : World} {g g' : Nat} {x d x' d' : Int} {nx nx' : Option Addr} (h : NodeAt w g x d nx) (h' : NodeAt w g' x' d' nx') (hne : g ≠ g') :
    (Op.equal 40 (.pointer (some ⟨g, 0, none⟩)) (.pointer (some ⟨g', 0, none⟩))).run Try.prog w = .ok false w := by
  obtain ⟨j, hj, hs⟩ := infoNode
  have h : ∀ d : Nat, (Op.equalIn (d + 1) 40 (.pointer (some ⟨g, 0, none⟩)) (.pointer (some ⟨g', 0, none⟩))).run Try.prog w = .ok false w := fun d => by
    simp [Op.equalIn, run_underlying Try.underlying40, sizeOf, typeInfo, hj, hs, run_sameAddr_other w (a := ⟨g, 0, none⟩) (b := ⟨g', 0, none⟩) (by simp) h h']
  exact h 9999
theorem eqlN_same {w : World} (g : Nat) :
    (Op.equal 40 (.pointer (some ⟨g, 0, none⟩)) (.pointer (some ⟨g, 0, none⟩))).run Try.prog w = .ok true w := by
  obtain ⟨j, hj, _⟩ := infoNode
  have h : ∀ d : Nat, (Op.equalIn (d + 1) 40 (.pointer (some ⟨g, 0, none⟩)) (.pointer (some ⟨g, 0, none⟩))).run Try.prog w = .ok true w := fun d => by
    simp [Op.equalIn, run_underlying Try.underlying40, sizeOf, typeInfo, hj, run_sameAddr_same]
  exact h 9999
theorem eqlN {w : World} {g g' : Nat} {x d x' d' : Int} {nx nx' : Option Addr} (h : NodeAt w g x d nx) (h' : NodeAt w g' x' d' nx') :
    (binOp .eql 40 (.pointer (some ⟨g, 0, none⟩)) (.pointer (some ⟨g', 0, none⟩))).run Try.prog w = .ok (.bool (decide (g = g'))) w ∧
    (binOp .neq 40 (.pointer (some ⟨g, 0, none⟩)) (.pointer (some ⟨g', 0, none⟩))).run Try.prog w = .ok (.bool (!decide (g = g'))) w := by
  by_cases e : g = g'
  · subst e
    simp only [binOp]
    simp [eqlN_same]
  · simp only [binOp]
    simp [eqlN_other h h' e, e]

theorem make_capW (K : Nat) (hK : K ≤ 2000) (w : World) : (Instr.makeSlice 27 (.int .i64 0) (.int .i64 (K : Int))).run Try.prog w = .ok (.slice (some ⟨w.heap.size, 0, none⟩) 0 K) (w.alloc (.cells (madeCells #[.int .i64 0] K) 3)) := by
  obtain ⟨i0, hi, hz0, hz1, hz2⟩ := info_parts infoInt
  have hr := run_make (P := Try.prog) w 27 3 i0 (.int .i64 0) Try.underlying27 hi hz0 .i64 .i64 0 K (by omega) (by omega) (by rw [hz2]; omega) (by omega)
  simp only [Int.toNat_natCast, hz1, Nat.mul_one] at hr
  exact hr

theorem zeroN (w : World) : (zeroValue 40).run Try.prog w = .ok (.pointer none) w := by kernel_rfl

set_option maxRecDepth 100000 in
set_option maxHeartbeats 4000000 in
theorem rightValues_any (b B n m : Nat) (t : Int) (w : World) (h : Rgv b B t) (hm : IsRg b B t n m) :
    Calls Try.prog 19 #[.int .i64 b, .int .i64 t, .int .i64 B] w fun e w' =>
      e = .returned (.tuple #[.pointer (some ⟨w.heap.size, 0, none⟩), .pointer (some ⟨wq w.heap.size n, 0, none⟩)]) ∧ Way b B t n m w.heap.size w' ∧ Below w.heap.size w w' := by
  have hmm := @run_makeMap Try.prog
  obtain ⟨_, _, hn14, hmB⟩ := rg_facts h.r h.lo h.hi hm
  have hB2 := h.r.B2; have hpos := hm.pos
  have HBIG := Lib.hid (fun i => h.big i)
  have HR := Lib.hid h.r
  have HM := Lib.hid hm
  have wft : (Lit.int .i64 t).wf = true := WalkArith.wf_i64 (by have := h.lo; have := h.hi; omega)
  clear h hm
  obtain ⟨N, hN⟩ : ∃ N, w.heap.size = N := ⟨_, rfl⟩
  have own0 : MapN ((w.alloc (.cells #[.int .i64 t, .int .i64 0, .pointer none] 56)).alloc (.map #[] 0)) (N + 1) 0 (.map []) := by
    have := World.ownsMap_made (H := Unit) (w.alloc (.cells #[.int .i64 t, .int .i64 0, .pointer none] 56)) Try.prog 54 nodeElem
    rw [show (w.alloc (.cells #[.int .i64 t, .int .i64 0, .pointer none] 56)).heap.size = N + 1 by simp [hN]] at this
    exact this
  have node0 : NodeAt ((w.alloc (.cells #[.int .i64 t, .int .i64 0, .pointer none] 56)).alloc (.map #[] 0)) N t 0 none := (NodeAt.new hN.symm _ _ _).alloc _
  have bel0 : Below N w ((w.alloc (.cells #[.int .i64 t, .int .i64 0, .pointer none] 56)).alloc (.map #[] 0)) := ((Below.refl _ _).alloc (by omega) _).alloc (by simp; omega) _
  have c00 := node0.c0
  have HN := Lib.hid hN
  rw [hN]
  go_enter Try.func19, Try.ntmps19
  go_wp2_with (refine wpList_insert_in _ rfl _ _ _ 62 rfl 54 40 lawN Try.underlying62 nodeElem (N + 1) 0 (.map []) rfl own0 (by unfold maxLen; omega) _ _ (.int .i64 t) rfl rfl (keyOf_int_mk Try.underlying54 wft) (.lit (.int .i64 (N : Int))) [] rfl ?_)
  intro w1 own1 turn1
  have s1 := turned_size turn1
  simp only [World.size_alloc] at s1
  have half0 : Half b B t 0 N w1 := ⟨fun j hj => by omega, node0.kept turn1.grown (by intro e; injection e with e; omega), by omega⟩
  have bel1 : Below N w w1 := bel0.grown turn1.grown (by simp; omega) (fun q e => by cases e; omega)
  have pl1 : PlR b B t N 1 ((DataW.map []).put (.int .i64 t) (.lit (.int .i64 (N : Int)))) := (PlR.zero b B t N).step (fun j hj => by omega)
  have own1' : MapN w1 (N + 1) (0 + 1) ((DataW.map []).put (.int .i64 t) (.lit (.int .i64 (N : Int)))) := own1
  clear own1 turn1 bel0 node0 own0 c00
  go_wp2_with fail
  go_loopg [10] (n + m) (fun k here wr => (∃ i, i + k = n + m ∧ i < n + m ∧ here = .pointer (some ⟨wq N i, 0, none⟩) ∧ Hid (Half b B t i N wr) ∧ (∃ D, Hid (MapN wr (N + 1) (i + 1) D) ∧ Hid (PlR b B t N (i + 1) D)) ∧ Hid (Below N w wr)) ∨
    (k = 0 ∧ here = .pointer (some ⟨wq N n, 0, none⟩) ∧ Hid (Way b B t n m N wr) ∧ Hid (Below N w wr)))
  case atStart => exact .inl ⟨0, by omega, by omega, rfl, half0, ⟨_, own1', pl1⟩, bel1⟩
  case round =>
    clear half0 own1' pl1 bel1 s1
    rcases hrel with ⟨i, hik, hi, rfl, hhalf, ⟨D, hown, hpl⟩, hbel⟩ | ⟨rfl, rfl, hway, hbel⟩
    · obtain ⟨x1, x2⟩ := HBIG.out i
      obtain ⟨y1, y2⟩ := HBIG.out (i + 1)
      have wfy : (Lit.int .i64 (rgT b B t (i + 1))).wf = true := WalkArith.wf_i64 (by omega)
      have c0 := hhalf.out.last.c0
      have c2 := hhalf.out.last.c2
      have HST := Lib.hid (rstep_any b B (rgT b B t i) wr HR.out x1 x2)
      have HT : Hid ((rgT b B t i - (rgD b B (rgT b B t i) : Int) * B) / b = rgT b B t (i + 1)) := rfl
      rw [HT.out] at HST
      go_wp2_with fail
      refine HST.out.mono ?_
      rintro e w0 ⟨rfl, rfl⟩
      have hown' : wr.drew.ownsMap Try.prog 54 nodeElem (N + 1) (i + 1) D := hown.out.drew
      rcases Nat.lt_or_ge (i + 1) (n + m) with hlt | hge
      · have hno : ∀ j, j < i + 1 → rgT b B t j ≠ rgT b B t (i + 1) := fun j hj => HM.out.ne j (i + 1) hj hlt
        have hmiss := hpl.out.miss _ hno
        have hpl2 := hpl.out.step hno
        have hsz : wr.heap.size = wq N (i + 1) := by rw [wq_succ]; exact hhalf.out.size
        have HNO := Lib.hid hno; have HSZ := Lib.hid hsz
        clear hno hsz
        go_wp2_with (first | (at_lookup; refine wpList_lookup_own_is _ rfl _ _ 62 rfl 54 40 lawN Try.underlying62 nodeElem (zeroN _) (.lit (.int .i64 (-1))) [] rfl (N + 1) (i + 1) D rfl hown' _ _ rfl (keyOf_int_mk Try.underlying54 wfy) (.pointer none) (fun v ps e => nodeElem_none (ps := ps) (by rw [e, hmiss])) ?_) |
          (at_mapUpdate; refine wpList_mapUpdate_in _ rfl _ _ _ 62 rfl 54 40 lawN Try.underlying62 nodeElem (N + 1) (i + 1) D rfl (hown.out.alloc _).drew (by unfold maxLen; omega) _ _ (.int .i64 (rgT b B t (i + 1))) rfl rfl (keyOf_int_mk Try.underlying54 wfy) (.lit (.int .i64 (wr.heap.size : Int))) [] rfl ?_))
        intro w2 own2 turn2
        rw [HSZ.out] at own2 ⊢
        obtain ⟨node2, half2⟩ := hhalf.out.step (by rfl) turn2
        have bel2 : Below N w w2 := (hbel.out.alloc (o := .cells #[.int .i64 (rgT b B t (i + 1)), .int .i64 0, .pointer none] 56) (by have := hbel.out.size; have := HN.out; omega)).drew.grown turn2.grown (by have := hbel.out.size; have := HN.out; simp; omega) (fun q e => by cases e; omega)
        have hhit := hpl2.hit (i + 1) (by omega)
        have d0 := node2.c0
        have d1 := node2.c1
        have d2 := node2.c2
        have e1 := node2.fr 1
        have e2 := node2.fr 2
        clear c0 c2 hown' hmiss
        go_wp2_with (first | (at_lookup; refine wpList_lookup_own_is _ rfl _ _ 62 rfl 54 40 lawN Try.underlying62 nodeElem (zeroN _) (.lit (.int .i64 (-1))) [] rfl (N + 1) (i + 1 + 1) _ rfl own2 _ _ rfl (keyOf_int_mk Try.underlying54 wfy) (.pointer (some ⟨wq N (i + 1), 0, none⟩)) (fun v ps e => nodeElem_some (ps := ps) (by rw [e, hhit])) ?_))
        go_roundg (gk - 1)
        case rel => exact .inl ⟨i + 1, by omega, hlt, rfl, half2, ⟨_, (World.ownsMap.setCell (World.ownsMap.setCell own2 (Ne.symm (wq_map N i)) _) (Ne.symm (wq_map N i)) _), hpl2⟩, (bel2.setCell (p := ⟨wq N i, 1, none⟩) (wq_ge N i) _).setCell (p := ⟨wq N i, 2, none⟩) (wq_ge N i) _⟩
        case measure => omega
      · have hi1 : i + 1 = n + m := by omega
        have ht : rgT b B t (i + 1) = rgT b B t n := by rw [hi1]; exact HM.out.eq
        have hhit := hpl.out.hit n (by omega)
        rw [← ht] at hhit
        have d1 := hhalf.out.last.c1
        have e1 := hhalf.out.last.fr 1
        have e2 := hhalf.out.last.fr 2
        have HTT := Lib.hid ht; clear ht
        have way2 := (hhalf.out.drew).close hi1
        clear hi1
        go_wp2_with (at_lookup; refine wpList_lookup_own_is _ rfl _ _ 62 rfl 54 40 lawN Try.underlying62 nodeElem (zeroN _) (.lit (.int .i64 (-1))) [] rfl (N + 1) (i + 1) D rfl hown' _ _ rfl (keyOf_int_mk Try.underlying54 wfy) (.pointer (some ⟨wq N n, 0, none⟩)) (fun v ps e => nodeElem_some (ps := ps) (by rw [e, hhit])) ?_)
        go_roundg 0
        case rel => exact .inr ⟨rfl, rfl, way2, (hbel.out.drew.setCell (p := ⟨wq N i, 1, none⟩) (wq_ge N i) _).setCell (p := ⟨wq N i, 2, none⟩) (wq_ge N i) _⟩
        case measure => omega
    · have c2 := (hway.out.node n (by omega)).c2
      go_wp2_with fail
      go_ret2
      exact ⟨rfl, hway.out, hbel.out⟩

theorem owns_later {base k : Nat} {W W' : World} {v : Value} {vs : List Value} (h : W.ownsRow base 3 1 v k vs) (hb : Below W.heap.size W W') : W'.ownsRow base 3 1 v k vs := by
  rcases h with ⟨hl, ⟨rfl, hn⟩ | ⟨g, cap, cur, rfl, h1, hh, r⟩⟩
  · exact ⟨hl, .inl ⟨rfl, hn⟩⟩
  · exact ⟨hl, .inr ⟨g, cap, cur, rfl, h1, (hb.block g (Array.getElem?_eq_some_iff.1 hh).1).trans hh, r⟩⟩

/-- A value's next one has the next top. -/
theorem nxt_step {b B n m j l k : Nat} {t : Int} (h : IsRg b B t n m) (e : rgT b B t l = rgT b B t (j + k)) : rgT b B t (nxt n m l) = rgT b B t (j + (k + 1)) := by
  rw [nxt_top h]
  exact rgT_cong e 1

set_option maxRecDepth 100000 in
set_option maxHeartbeats 4000000 in
theorem wdigits_any (b B n m N K j : Nat) (t : Int) (w : World) (h : Rgv b B t) (hm : IsRg b B t n m) (hw : Way b B t n m N w) (hj : j < n + m) (hK : K ≤ 2000) :
    Calls Try.prog 24 #[.pointer (some ⟨wq N j, 0, none⟩), .int .i64 K] w fun e w' =>
      ∃ v, e = .returned v ∧ Slc w.heap.size w' v ((rgL b B t (j + K)).drop j) ∧ Below w.heap.size w w' := by
  obtain ⟨i0, hi, hz0, hz1, hz2⟩ := info_parts infoInt
  have hpos := hm.pos
  have HDIG := Lib.hid (fun x => h.dig x)
  have hb16 := h.r.b16
  have HM := Lib.hid hm; have HW := Lib.hid hw
  have HS : ∀ k, Hid ((rgL b B t (j + (k + 1))).drop j = (rgL b B t (j + k)).drop j ++ [(rgD b B (rgT b B t (j + k)) : Int)]) := fun k => by
    unfold Hid
    rw [show j + (k + 1) = j + k + 1 by omega, rgL_succ, List.drop_append_of_le_length (by rw [rgL_len]; omega)]
  have HL : ∀ k, Hid (((rgL b B t (j + k)).drop j).length = k) := fun k => by unfold Hid; rw [List.length_drop, rgL_len]; omega
  clear hm hw h
  have hmk := make_capW K hK
  go_enter Try.func24, Try.ntmps24
  go_wp2_with fail
  go_loopw [0, 5, 9] (fun from' v i' wr => ∃ k l : Nat, k ≤ K ∧ l < n + m ∧ from' = .pointer (some ⟨wq N l, 0, none⟩) ∧ i' = .int .i64 k ∧ Hid (rgT b B t l = rgT b B t (j + k)) ∧ Hid (wr.ownsRow w.heap.size 3 1 v k (((rgL b B t (j + k)).drop j).map (Value.int .i64))) ∧ Hid (Below w.heap.size w wr)) (fun _ _ i' _ => K - (intOf i').toNat)
  case atStart =>
    refine ⟨0, j, Nat.zero_le _, hj, rfl, rfl, rfl, ?_, (Below.refl _ _).alloc (Nat.le_refl _) _⟩
    have := World.ownsRow_made (base := w.heap.size) (e := 3) (size := 1) w (madeCells #[.int .i64 0] K) K (by simp) (by unfold maxLen; omega) (by simp [size_madeCells])
    rw [show (rgL b B t (j + 0)).drop j = [] from List.drop_eq_nil_of_le (by rw [rgL_len]; omega)]
    exact this
  case round =>
    obtain ⟨k, l, hk, hl, rfl, rfl, HT, hown, hbel⟩ := hrel
    by_cases hlt : k < K
    · have node := (HW.out.later hbel.out).node l hl
      have c1 := node.c1
      rw [HT.out] at c1
      have hd := HDIG.out (rgT b B t (j + k))
      have HSK := HS k
      revert c1 hd HSK
      generalize rgD b B (rgT b B t (j + k)) = a
      intro c1 hd HSK
      have hnx := nxt_step HM.out HT.out
      have hnl : nxt n m l < n + m := nxt_lt hpos hl
      have HNX := Lib.hid hnx
      obtain ⟨l', hl'⟩ : ∃ l', nxt n m l = l' := ⟨_, rfl⟩
      rw [hl'] at node hnl HNX
      have HL' := Lib.hid hl'
      have HNODE := Lib.hid node
      clear hnx hl' node
      go_wp2_with (at_builtin; refine wpList_append_own_at _ rfl _ _ 27 rfl w.heap.size 3 i0 (.int .i64 0) 1 8 Try.underlying27 hi hz0 hz1 hz2 rfl (by decide) _ _ _ rfl (hown.out.alloc _) ⟨wr.heap.size, 0, none⟩ 1 1 [.int .i64 a] rfl rfl ?c1 ?c2 ?c3 ?c4 ?c5 ?_)
      case c1 => exact cell_one_new _ _ _
      case c2 => simp [Value.oneCell']
      case c3 => unfold maxLen; omega
      case c4 => omega
      case c5 => have := hbel.out.size; simp; omega
      intro u' w1 hu' hgrow _ hat
      have hb1 : Below w.heap.size w w1 := (hbel.out.alloc hbel.out.size _).grown hgrow (by have := hbel.out.size; simp; omega) (fun q e => row_ge hown.out e)
      have node1 := (HW.out.later hb1).node l hl
      rw [HL'.out] at node1
      have c2 := node1.c2
      have hrow : w1.ownsRow w.heap.size 3 1 u' (k + 1) (((rgL b B t (j + (k + 1))).drop j).map (Value.int .i64)) := by
        rw [HSK.out, List.map_append, List.map_drop]; exact hu'
      clear hu' hgrow hat node1
      go_wp2_with fail
      go_roundw
      case rel => exact ⟨k + 1, l', by omega, hnl, rfl, by go_num, HNX.out, hrow, hb1⟩
      case measure => simp [intOf]; omega
    · obtain rfl : k = K := by omega
      go_wp2_with fail
      go_ret
      exact ⟨_, rfl, Slc.of_owns (by rw [(HL k).out]; exact hown.out), hbel.out⟩

set_option maxHeartbeats 1000000 in
theorem stepsTo_any (b B n m N d : Nat) (p : Nat → Nat) (t : Int) (w : World) (hw : Way b B t n m N w) (hp : ∀ s, s < d → p (s + 1) = nxt n m (p s)) (hl : ∀ s, s ≤ d → p s < n + m) (hne : ∀ s, s < d → p s ≠ p d) (hd : d ≤ 2000) :
    Calls Try.prog 20 #[.pointer (some ⟨wq N (p 0), 0, none⟩), .pointer (some ⟨wq N (p d), 0, none⟩)] w fun e w' => e = .returned (.int .i64 d) ∧ w' = w := by
  have HP := Lib.hid hp; have HL := Lib.hid hl; have HNE := Lib.hid hne; have HW := Lib.hid hw
  clear hp hl hne hw
  go_enter Try.func20, Try.ntmps20
  go_wp2_with fail
  go_loopw [0, 5] (fun from' s' wr => ∃ s : Nat, s ≤ d ∧ from' = .pointer (some ⟨wq N (p s), 0, none⟩) ∧ s' = .int .i64 s ∧ wr = w) (fun _ s' _ => d - (intOf s').toNat)
  case atStart => exact ⟨0, Nat.zero_le _, rfl, rfl, rfl⟩
  case round =>
    obtain ⟨s, hs, rfl, rfl, rfl⟩ := hrel
    by_cases hlt : s < d
    · have node := HW.out.node (p s) (HL.out s (by omega))
      rw [← HP.out s hlt] at node
      have c2 := node.c2
      have hrun := (eqlN node (HW.out.node (p d) (HL.out d (Nat.le_refl _)))).2
      rw [show (decide (wq N (p s) = wq N (p d))) = false from decide_eq_false (fun e => HNE.out s hlt (wq_inj e))] at hrun
      clear node
      go_wp2_with fail
      go_roundw
      case rel => exact ⟨s + 1, by omega, rfl, by go_num, trivial⟩
      case measure => simp [intOf]; omega
    · obtain rfl : s = d := by omega
      have node := HW.out.node (p s) (HL.out s (Nat.le_refl _))
      have hrun := (eqlN node node).2
      rw [show (decide (wq N (p s) = wq N (p s))) = true from decide_eq_true rfl] at hrun
      clear node
      go_wp2_with fail
      go_ret
      exact ⟨rfl, rfl⟩

set_option maxHeartbeats 1000000 in
theorem wturn_any (b B n m N : Nat) (t : Int) (w : World) (hw : Way b B t n m N w) (hpos : 0 < m) (hm : m ≤ 1001) :
    Calls Try.prog 21 #[.pointer (some ⟨wq N n, 0, none⟩)] w fun e w' => e = .returned (.int .i64 m) ∧ w' = w := by
  have node := hw.node n (by omega)
  have HC := Lib.hid (stepsTo_any b B n m N (m - 1) (fun s => if s + 1 = m then n else n + 1 + s) t w hw (fun s hs => by
    unfold nxt; rw [if_neg (show ¬ s + 1 = m by omega)]
    by_cases h : s + 1 + 1 = m
    · rw [if_pos h, if_pos (by omega)]
    · rw [if_neg h, if_neg (by omega)]; omega) (fun s hs => by split <;> omega) (fun s hs => by rw [if_neg (by omega), if_pos (by omega)]; omega) (by omega))
  have e0 : (if (0 : Nat) + 1 = m then n else n + 1 + 0) = nxt n m n := by
    unfold nxt
    by_cases h : 0 + 1 = m
    · rw [if_pos h, if_pos (by omega)]
    · rw [if_neg h, if_neg (by omega)]
  have e1 : (if m - 1 + 1 = m then n else n + 1 + (m - 1)) = n := if_pos (by omega)
  rw [e0, e1] at HC
  have c2 := node.c2
  clear node e0 e1 hw
  obtain ⟨q, hq⟩ : ∃ q, m - 1 = q := ⟨_, rfl⟩
  rw [hq] at HC
  have hmq : m = q + 1 := by omega
  subst hmq
  clear hq
  go_enter Try.func21, Try.ntmps21
  go_wp2_with (go_at_call 20; refine HC.out.mono ?_; rintro e w1 ⟨rfl, rfl⟩)
  go_ret
  exact ⟨ret_int (by omega), rfl⟩

end Go.Proofs.Ytbgpdhnfaacenac
