/-
  The starter of the program's orders behind the closing of the channel: the list; one receiving; the return.
  The program's orders, whole, beside old leavers, on every tape: from its entry to its return.
  The program's orders, whole, beside old leavers, on every tape: from its entry to its return.
-/
import Derived.Test.YthoaldiadgeonaaGGoF
import Derived.Conc.AppendWalk
import Derived.Laws.OwnMore
namespace Go.Proofs.Ythoaldiadgeonaa.Cr
open Go.Conc Go.ConcR Go.RowKit Go.Conc.Lib Go.ConcR.Gen
open Go.Joins (cell_of_block unfrozen_of_block block_setCell)
open Go.ConcN (upd upd_same upd_ne)

/-- The list's cells. -/
def lc (f : Nat → Int) (n : Nat) : Array Value := ((List.range n).map fun i => Value.int .i64 (f i)).toArray
theorem lc_get (f : Nat → Int) (n i : Nat) : (lc f n)[i]? = if i < n then some (.int .i64 (f i)) else none := by
  unfold lc
  by_cases h : i < n
  · simp [h]
  · simp [h]
theorem lc_zero (n : Nat) : madeCells #[.int .i64 0] n = lc (fun _ => 0) n := by
  apply Array.ext'
  rw [toList_madeCells_one]
  refine List.ext_getElem? fun i => ?_
  by_cases h : i < n <;> simp [lc, h]
theorem lc_set (f : Nat → Int) (n i : Nat) (v : Int) : (lc f n).setIfInBounds i (.int .i64 v) = lc (upd f i v) n := by
  apply Array.ext_getElem?
  intro k
  rw [lc_get]
  by_cases e : i = k
  · subst e
    by_cases h : i < n
    · rw [Array.getElem?_setIfInBounds_self_of_lt (by simpa [lc] using h), upd_same]; simp [h]
    · rw [Array.getElem?_eq_none (by simp [lc]; omega)]; simp [h]
  · rw [Array.getElem?_setIfInBounds_ne e, lc_get, upd_ne f _ (fun h => e h.symm)]

theorem os_make {n : Nat} (hn : n < 100000) (w : World) : (Instr.makeSlice 30 (.int .i64 n) (.int .i64 n)).run Try.prog w = .ok (.slice (some ⟨w.heap.size, 0, none⟩) n n) (w.alloc (.cells (lc (fun _ => 0) n) 3)) ∧ ∀ es, (Instr.makeSlice 30 (.int .i64 n) (.int .i64 n)).events Try.prog w es = es := by
  have h1 : Try.prog.underlying 30 = some (.slice 3) := by kernel_rfl
  have h2 : (Try.prog.info? 3).map (fun i => (i.bytes, i.size, i.zero)) = some (8, 1, some (.int .i64 0)) := by kernel_rfl
  obtain ⟨i, hi, hb⟩ := Option.map_eq_some_iff.1 h2
  obtain ⟨b1, b2, b3⟩ : i.bytes = 8 ∧ i.size = 1 ∧ i.zero = some (.int .i64 0) := by simpa using hb
  refine ⟨?_, fun es => events_make w _ _ i _ h1 hi b3 .i64 .i64 n n (by omega) (by omega) (by rw [b1]; omega) (by omega) (by rw [b1]; omega) es⟩
  have := run_make w 30 3 i (.int .i64 0) h1 hi b3 .i64 .i64 n n (by omega) (by omega) (by rw [b1]; omega) (by omega)
  rw [this, b2, ← lc_zero]
  simp [Value.cells]

noncomputable def rvLoop : Code := match osRest2 with | .seq _ (.seq (.seq _ (.block _ (.loop c))) _) => c | _ => .skip
noncomputable def rvEnd : Code := match osRest2 with | .seq _ (.seq _ c) => c | _ => .skip
noncomputable def rvOps : Array Oper := match rvLoop with | .seq (.region _ ops _) _ => ops | _ => #[]
noncomputable def rvTail : Code := match rvLoop with | .seq _ c => c | _ => .skip
/-- At the receiving. -/
noncomputable def rvAt (T : Array Value) (cs : List Frame) : Goroutine := G ((base 27).at ⟨T, []⟩ [.inRegion rvOps [0, 1], .code rvTail, .inLoop rvLoop, .inBlock 2, .code rvEnd]) cs
/-- The slots there. -/
def rvT (Wg Ch cb _A _off n : Nat) (cap : Option Addr × Nat) (Lb : Nat) (T : Array Value) : Prop :=
  ∃ v1 v5 v6 v8 v9 v10 v11 v12 v13 v14 v15 v16 v17 v18 v19 v20 v21 v22 v23 v24 v25 v26 v28 v29 v30 v31 v32 v33 v34 v35 v36 v37 : Value,
    T = #[.slice cap.1 n cap.2, v1, .slice none 0 0, .pointer (some ⟨cb, 0, none⟩), .pointer (some ⟨Wg, 0, none⟩), v5, v6, .slice (some ⟨Lb, 0, none⟩) n n, v8, v9, v10, v11, v12, v13, v14, v15, v16, v17, v18, v19, v20, v21, v22, v23, v24, v25, v26, .chan (some Ch), v28, v29, v30, v31, v32, v33, v34, v35, v36, v37]

set_option maxRecDepth 100000 in
set_option maxHeartbeats 2000000 in
theorem st_list {Shun : Loc → Prop} {Wg Ch cb A off n : Nat} {cap : Option Addr × Nat} {T : Array Value} (hT : osT Wg cb A off n cap n T) (hn : n < 100000) (W : World) {cs : List Frame} {Stop : Goroutine → World → Prop}
    (hcb : W.cell? ⟨cb, 0, none⟩ = some (.chan (some Ch))) (hlt : cb < W.heap.size) (hSh : ¬ Shun (.cell ⟨cb, 0, none⟩))
    (hS : ∀ T' w, rvT Wg Ch cb A off n cap W.heap.size T' → AtRel (W.alloc (.cells (lc (fun _ => 0) n) 3)) w → Stop (rvAt T' cs) w) :
    GF Try.prog true AtRel (DF Shun) Stop (AtRel W) 60 (osList T cs) := by
  obtain ⟨v1, v5, v6, v7, v8, v9, v10, v11, v15, v16, v17, v18, v19, v20, v21, v22, v23, v24, v25, v26, v27, v28, v29, v30, v31, v32, v33, v34, v35, v36, v37, rfl⟩ := hT
  have E : ∀ W, Hold AtRel (DF Shun) (AtRel W) := at_hold
  have HS := _root_.Go.Lib.hid hS
  clear hS
  simp only [rvAt, rvOps, rvTail, rvLoop, rvEnd, osRest2, osRest, osEnd, osBody, Try.f27, Option.getD_some] at HS
  simp only [osList, osRest2, osRest, osEnd, osBody, Try.f27, Option.getD_some]
  repeat (first
    | refine GF.seq (E _) ?_
    | refine GF.regEnd (E _) ?_
    | (refine GF.reg (E _) ?_; simp only [List.size_toArray, List.length_cons, List.length_nil, Nat.reduceAdd, Nat.zero_add, List.range, List.range.loop])
    | (refine GF.oper (E _) rfl rfl (base_kind _) rfl (fun w hF K hK => ?_); go_simp; refine hK _ ⟨?_, ?_⟩; (· intro e he; first | (simp [go_sem] at he; done) | (simp [go_sem, *] at he; done)); clear hK K hF w; (try (walk_nrm))))
  refine GF.operE (E _) rfl rfl (base_kind _) osLoud (fun w hF K hK => ?_)
  go_simp
  refine hK _ #[] ⟨by simp [go_sem, *], by simp, df_idle _, ?_⟩
  clear hK K hF w
  try walk_nrm
  refine GF.operW (F' := AtRel (W.alloc (.cells (lc (fun _ => 0) n) 3))) (E _) rfl rfl (base_kind _) osLoud (fun w hF K hK => ?_)
  obtain ⟨d, rfl⟩ := hF
  obtain ⟨m1, m2⟩ := os_make hn (W.at d)
  go_simp
  refine hK _ _ #[] ⟨by simp [go_sem, m2], by simp, df_none (by show _ ≤ (Array.push _ _).size; rw [Array.size_push]; exact Nat.le_succ _), ⟨d, rfl⟩, ?_⟩
  have e0 : (W.at d).heap.size = W.heap.size := rfl
  rw [e0]
  clear hK K m1 m2 e0 d
  have hc : (W.alloc (.cells (lc (fun _ => 0) n) 3)).cell? ⟨cb, 0, none⟩ = some (.chan (some Ch)) := (cell_eq (alloc_at hlt) 0).trans hcb
  have hlt2 : cb < (W.alloc (.cells (lc (fun _ => 0) n) 3)).heap.size := by show _ < (W.heap.push _).size; simp; omega
  generalize W.alloc (.cells (lc (fun _ => 0) n) 3) = W1 at hc hlt2 HS ⊢
  generalize W.heap.size = Lb at HS ⊢
  clear hcb hlt W
  try walk_nrm
  repeat (first
    | refine GF.seq (E _) ?_
    | refine GF.regEnd (E _) ?_
    | (refine GF.reg (E _) ?_; simp only [List.size_toArray, List.length_cons, List.length_nil, Nat.zero_add, List.range, List.range.loop])
    | (refine GF.oper (E _) rfl rfl (base_kind _) rfl (fun w hF K hK => ?_); go_simp; refine hK _ ⟨?_, ?_⟩; (· intro e he; first | (simp [go_sem] at he; done) | (simp [go_sem, *] at he; done)); clear hK K hF w; (try (walk_nrm))))
  refine GF.operE (E _) rfl rfl (base_kind _) osLoud (fun w hF K hK => ?_)
  obtain ⟨d, rfl⟩ := hF
  have c0 : (W1.at d).cell? ⟨cb, 0, none⟩ = some (.chan (some Ch)) := hc
  go_simp
  refine hK _ #[⟨.cell ⟨cb, 0, none⟩, false, false⟩] ⟨by simp [go_sem, *], by simp, ⟨Nat.le_refl _, fun e he => ?_⟩, ?_⟩
  · simp at he
    subst he
    exact tame_cell _ _ hSh hlt2
  clear hK K c0 d
  try walk_nrm
  refine GF.regEnd (E _) ?_
  refine GF.block (E _) ?_
  refine GF.loop (E _) ?_
  refine GF.seq (E _) ?_
  refine GF.reg (E _) ?_
  simp only [List.size_toArray, List.length_cons, List.length_nil, Nat.reduceAdd, Nat.zero_add, List.range, List.range.loop]
  refine GF.stop (E _) (fun w hF => ?_)
  exact HS.out _ w ⟨_, _, _, _, _, _, _, _, _, _, _, _, _, _, _, _, _, _, _, _, _, _, _, _, _, _, _, _, _, _, _, _, rfl⟩ hF

/-- Behind the receiving. -/
noncomputable def rvGot (T : Array Value) (v : Value) (ok : Bool) (cs : List Frame) : Goroutine := G ((base 27).at ⟨T.setIfInBounds 28 (.tuple #[v, .bool ok]), []⟩ [.inRegion rvOps [1], .code rvTail, .inLoop rvLoop, .inBlock 2, .code rvEnd]) cs

/-- The stop at the receiving. -/
theorem rv_comm {Wg Ch cb A off n Lb : Nat} {cap : Option Addr × Nat} {T : Array Value} (hT : rvT Wg Ch cb A off n cap Lb T) (cs : List Frame) (w : World) :
    stepG Try.prog true (rvAt T cs) w = .comm (rvAt T cs) #[rcase Ch (.agg #[.int .i64 0, .int .i64 0])] true (.recv true) w #[] ∧ ∀ v ok, Go.Conc.served (rvAt T cs) (.tuple #[v, .bool ok]) = rvGot T v ok cs := by
  obtain ⟨v1, v5, v6, v8, v9, v10, v11, v12, v13, v14, v15, v16, v17, v18, v19, v20, v21, v22, v23, v24, v25, v26, v28, v29, v30, v31, v32, v33, v34, v35, v36, v37, rfl⟩ := hT
  simp only [rvAt, rvGot, rvOps, rvTail, rvLoop, rvEnd, osRest2, osRest, osEnd, osBody, Try.f27, Option.getD_some]
  have h1 : Try.prog.underlying 58 = some (.chan .both 71) := by kernel_rfl
  have h2 : (Try.prog.info? 71).map (fun i => i.zero) = some (some (.agg #[.int .i64 0, .int .i64 0])) := by kernel_rfl
  obtain ⟨i, hi, hb⟩ := Option.map_eq_some_iff.1 h2
  constructor
  · rw [stepG_comm (cases := #[rcase Ch (.agg #[.int .i64 0, .int .i64 0])]) (blocking := true) (shape := .recv true) (w' := w) rfl rfl (base_kind _) (by simp [execOp, rcase, Act.eval, run_underlying h1, zeroValue, typeInfo, hi, hb])]
    rw [listed_nil (by simp [execOp, Act.eval, go_sem, zeroValue, typeInfo, hi, hb])]
  · intro v ok
    rfl

/-- The world behind one round of the receiving. -/
def tookW (W : World) (Lb i : Nat) (m : Int) : World :=
  (((W.alloc (.cells #[.int .i64 0, .int .i64 0] 71)).setCell ⟨W.heap.size, 0, none⟩ (.int .i64 i)).setCell ⟨W.heap.size, 1, none⟩ (.int .i64 m)).setCell ⟨Lb, i, none⟩ (.int .i64 m)

set_option maxRecDepth 100000 in
set_option maxHeartbeats 4000000 in
theorem st_take {Shun : Loc → Prop} {Wg Ch cb A off n Lb i : Nat} {cap : Option Addr × Nat} {m : Int} {f : Nat → Int} {T : Array Value} (hT : rvT Wg Ch cb A off n cap Lb T) (hi : i < n) (W : World) {cs : List Frame} {Stop : Goroutine → World → Prop}
    (hl : W.heap[Lb]? = some (.cells (lc f n) 3)) (hShL : ∀ a : Addr, a.block = Lb → ¬ Shun (.cell a)) (hShN : ∀ a : Addr, a.block = W.heap.size → ¬ Shun (.cell a))
    (hS : ∀ T' w, rvT Wg Ch cb A off n cap Lb T' → AtRel (tookW W Lb i m) w → Stop (rvAt T' cs) w) :
    GF Try.prog true AtRel (DF Shun) Stop (AtRel W) 60 (rvGot T (.agg #[.int .i64 i, .int .i64 m]) true cs) := by
  obtain ⟨v1, v5, v6, v8, v9, v10, v11, v12, v13, v14, v15, v16, v17, v18, v19, v20, v21, v22, v23, v24, v25, v26, v28, v29, v30, v31, v32, v33, v34, v35, v36, v37, rfl⟩ := hT
  have E : ∀ W, Hold AtRel (DF Shun) (AtRel W) := at_hold
  have HS := _root_.Go.Lib.hid hS
  clear hS
  have hlt : Lb < W.heap.size := (Array.getElem?_eq_some_iff.1 hl).1
  simp only [rvAt, rvOps, rvTail, rvLoop, rvEnd, osRest2, osRest, osEnd, osBody, Try.f27, Option.getD_some] at HS
  simp only [rvGot, rvOps, rvTail, rvLoop, rvEnd, osRest2, osRest, osEnd, osBody, Try.f27, Option.getD_some]
  walk_nrm
  repeat (first
    | refine GF.seq (E _) ?_
    | refine GF.regEnd (E _) ?_
    | refine GF.nop (E _) ?_
    | (refine GF.reg (E _) ?_; simp only [List.size_toArray, List.length_cons, List.length_nil, Nat.reduceAdd, Nat.zero_add, List.range, List.range.loop])
    | (refine GF.cond (E _) (t := true) rfl ?_; simp only [↓reduceIte])
    | (refine GF.oper (E _) rfl rfl (base_kind _) rfl (fun w hF K hK => ?_); go_simp; refine hK _ ⟨?_, ?_⟩; (· intro e he; first | (simp [go_sem] at he; done) | (simp [go_sem, *] at he; done)); clear hK K hF w; (try (walk_nrm)))
    | refine GF.block (E _) ?_)
  refine GF.operW (F' := AtRel (W.alloc (.cells #[.int .i64 0, .int .i64 0] 71))) (E _) rfl rfl (base_kind _) osLoud (fun w hF K hK => ?_)
  obtain ⟨d, rfl⟩ := hF
  go_simp
  refine hK _ _ #[] ⟨by simp [go_sem], by simp, df_none (by show _ ≤ (Array.push _ _).size; rw [Array.size_push]; exact Nat.le_succ _), ⟨d, rfl⟩, ?_⟩
  have e0 : (W.at d).heap.size = W.heap.size := rfl
  rw [e0]
  clear hK K e0 d
  have hd : tookW W Lb i m = (((W.alloc (.cells #[.int .i64 0, .int .i64 0] 71)).setCell ⟨W.heap.size, 0, none⟩ (.int .i64 i)).setCell ⟨W.heap.size, 1, none⟩ (.int .i64 m)).setCell ⟨Lb, i, none⟩ (.int .i64 m) := rfl
  rw [hd] at HS
  clear hd
  have b1 : (W.alloc (.cells #[.int .i64 0, .int .i64 0] 71)).heap[W.heap.size]? = some (.cells #[.int .i64 0, .int .i64 0] 71) := alloc_new
  have l1 : (W.alloc (.cells #[.int .i64 0, .int .i64 0] 71)).heap[Lb]? = some (.cells (lc f n) 3) := (alloc_at hlt).trans hl
  have z1 : (W.alloc (.cells #[.int .i64 0, .int .i64 0] 71)).heap.size = W.heap.size + 1 := by show (W.heap.push _).size = _; simp
  have hne : Lb ≠ W.heap.size := by omega
  generalize W.alloc (.cells #[.int .i64 0, .int .i64 0] 71) = W1 at b1 l1 z1 HS ⊢
  generalize W.heap.size = β at b1 z1 hne hlt hShN HS ⊢
  clear hl W
  try walk_nrm
  refine GF.operW (F' := AtRel ((W1.setCell ⟨β, 0, none⟩ (.int .i64 i)).setCell ⟨β, 1, none⟩ (.int .i64 m))) (E _) rfl rfl (base_kind _) osLoud (fun w hF K hK => ?_)
  obtain ⟨d, rfl⟩ := hF
  have c0 : (W1.at d).cell? ⟨β, 0, none⟩ = some (.int .i64 0) := (cell_of_block (w := W1.at d) b1 0).trans rfl
  have c1 : (W1.at d).cell? ⟨β, 1, none⟩ = some (.int .i64 0) := (cell_of_block (w := W1.at d) b1 1).trans rfl
  have f0 := unfrozen_of_block (w := W1.at d) b1 0
  have f1 := unfrozen_of_block (w := W1.at d) b1 1
  go_simp
  refine hK _ _ #[⟨.cell ⟨β, 0, none⟩, true, false⟩, ⟨.cell ⟨β, 1, none⟩, true, false⟩] ⟨by simp [go_sem, *], by simp, ⟨?_, fun e he => ?_⟩, ⟨d, rfl⟩, ?_⟩
  · exact Nat.le_of_eq ((mine_setCell (fun _ => True) _ _ _ trivial).trans (mine_setCell (fun _ => True) _ _ _ trivial)).size.symm
  · have hB : β < (((W1.at d).setCell ⟨β, 0, none⟩ (.int .i64 i)).setCell ⟨β, 1, none⟩ (.int .i64 m)).heap.size := by
      rw [((mine_setCell (fun _ => True) _ _ _ trivial).trans (mine_setCell (fun _ => True) _ _ _ trivial)).size]
      show β < W1.heap.size
      omega
    simp at he
    rcases he with rfl | rfl
    · exact tame_cell _ _ (hShN _ rfl) hB
    · exact tame_cell _ _ (hShN _ rfl) hB
  clear hK K c0 c1 f0 f1 d
  have b2 : ((W1.setCell ⟨β, 0, none⟩ (.int .i64 i)).setCell ⟨β, 1, none⟩ (.int .i64 m)).heap[β]? = some (.cells #[.int .i64 i, .int .i64 m] 71) := (block_setCell (block_setCell b1 _) _).trans rfl
  have l2 : ((W1.setCell ⟨β, 0, none⟩ (.int .i64 i)).setCell ⟨β, 1, none⟩ (.int .i64 m)).heap[Lb]? = some (.cells (lc f n) 3) :=
    (((mine_setCell (· = β) _ _ _ rfl).trans (mine_setCell (· = β) _ _ _ rfl)).keep Lb hne).trans l1
  have z2 : ((W1.setCell ⟨β, 0, none⟩ (.int .i64 i)).setCell ⟨β, 1, none⟩ (.int .i64 m)).heap.size = β + 1 :=
    ((mine_setCell (fun _ => True) _ _ _ trivial).trans (mine_setCell (fun _ => True) _ _ _ trivial)).size.trans z1
  generalize (W1.setCell ⟨β, 0, none⟩ (.int .i64 i)).setCell ⟨β, 1, none⟩ (.int .i64 m) = W2 at b2 l2 z2 HS ⊢
  clear b1 l1 z1 W1
  try walk_nrm
  repeat (first
    | refine GF.seq (E _) ?_
    | refine GF.regEnd (E _) ?_
    | refine GF.nop (E _) ?_
    | (refine GF.reg (E _) ?_; simp only [List.size_toArray, List.length_cons, List.length_nil, Nat.reduceAdd, Nat.zero_add, List.range, List.range.loop])
    | (refine GF.oper (E _) rfl rfl (base_kind _) rfl (fun w hF K hK => ?_); go_simp; refine hK _ ⟨?_, ?_⟩; (· intro e he; first | (simp [go_sem] at he; done) | (simp [go_sem, *] at he; done)); clear hK K hF w; (try (walk_nrm)))
    | refine GF.inBlock (E _) ?_
    | refine GF.inLoop (E _) ?_)
  refine GF.operE (E _) rfl rfl (base_kind _) osLoud (fun w hF K hK => ?_)
  obtain ⟨d, rfl⟩ := hF
  have c0 : (W2.at d).cell? ⟨β, 0, none⟩ = some (.int .i64 i) := (cell_of_block (w := W2.at d) b2 0).trans rfl
  go_simp
  refine hK _ #[⟨.cell ⟨β, 0, none⟩, false, false⟩] ⟨by simp [go_sem, *], by simp, ⟨Nat.le_refl _, fun e he => ?_⟩, ?_⟩
  · simp at he
    subst he
    exact tame_cell _ _ (hShN _ rfl) (by show β < W2.heap.size; omega)
  clear hK K c0 d
  try walk_nrm
  repeat (first
    | refine GF.seq (E _) ?_
    | refine GF.regEnd (E _) ?_
    | refine GF.nop (E _) ?_
    | (refine GF.reg (E _) ?_; simp only [List.size_toArray, List.length_cons, List.length_nil, Nat.reduceAdd, Nat.zero_add, List.range, List.range.loop])
    | (refine GF.oper (E _) rfl rfl (base_kind _) rfl (fun w hF K hK => ?_); go_simp; refine hK _ ⟨?_, ?_⟩; (· intro e he; first | (simp [go_sem] at he; done) | (simp [go_sem, *] at he; done)); clear hK K hF w; (try (walk_nrm)))
    | refine GF.inBlock (E _) ?_
    | refine GF.inLoop (E _) ?_)
  refine GF.operE (E _) rfl rfl (base_kind _) osLoud (fun w hF K hK => ?_)
  obtain ⟨d, rfl⟩ := hF
  have c0 : (W2.at d).cell? ⟨β, 1, none⟩ = some (.int .i64 m) := (cell_of_block (w := W2.at d) b2 1).trans rfl
  go_simp
  refine hK _ #[⟨.cell ⟨β, 1, none⟩, false, false⟩] ⟨by simp [go_sem, *], by simp, ⟨Nat.le_refl _, fun e he => ?_⟩, ?_⟩
  · simp at he
    subst he
    exact tame_cell _ _ (hShN _ rfl) (by show β < W2.heap.size; omega)
  clear hK K c0 d
  try walk_nrm
  have q2 : 0 ≤ (i : Int) ∧ (i : Int) < (n : Int) := by omega
  have q3 : (i : Int).toNat = i := by omega
  refine GF.oper (E _) rfl rfl (base_kind _) rfl (fun w hF K hK => ?_)
  go_simp
  refine hK _ ⟨?_, ?_⟩
  · intro e he
    first | (simp [go_sem] at he; done) | (simp [go_sem, *] at he; done)
  clear hK K hF w
  try walk_nrm
  refine GF.operW (F' := AtRel (W2.setCell ⟨Lb, i, none⟩ (.int .i64 m))) (E _) rfl rfl (base_kind _) osLoud (fun w hF K hK => ?_)
  obtain ⟨d, rfl⟩ := hF
  have c0 : (W2.at d).cell? ⟨Lb, i, none⟩ = some (.int .i64 (f i)) := (cell_of_block (w := W2.at d) l2 i).trans (by rw [lc_get]; simp [hi])
  have f0 := unfrozen_of_block (w := W2.at d) l2 i
  go_simp
  refine hK _ _ #[⟨.cell ⟨Lb, i, none⟩, true, false⟩] ⟨by simp [go_sem, *], by simp, ⟨?_, fun e he => ?_⟩, ⟨d, rfl⟩, ?_⟩
  · exact Nat.le_of_eq (mine_setCell (fun _ => True) _ _ _ trivial).size.symm
  · simp at he
    subst he
    refine tame_cell _ _ (hShL _ rfl) ?_
    rw [(mine_setCell (fun _ => True) _ _ _ trivial).size]
    show Lb < W2.heap.size
    omega
  clear hK K c0 f0 d
  try walk_nrm
  repeat (first
    | refine GF.seq (E _) ?_
    | refine GF.regEnd (E _) ?_
    | (refine GF.reg (E _) ?_; simp only [List.size_toArray, List.length_cons, List.length_nil, Nat.reduceAdd, Nat.zero_add, List.range, List.range.loop])
    | refine GF.inBlock (E _) ?_
    | refine GF.inLoop (E _) ?_)
  refine GF.stop (E _) (fun w hF => ?_)
  exact HS.out _ w ⟨_, _, _, _, _, _, _, _, _, _, _, _, _, _, _, _, _, _, _, _, _, _, _, _, _, _, _, _, _, _, _, _, rfl⟩ hF

/-- The starter at its return. -/
noncomputable def osRet (T : Array Value) (cs : List Frame) : Goroutine := G { (base 27).at ⟨T, []⟩ [.code .ret] with mode := .returning } cs

set_option maxRecDepth 100000 in
set_option maxHeartbeats 4000000 in
theorem st_ret {Shun : Loc → Prop} {Wg Ch cb A off n Lb : Nat} {cap : Option Addr × Nat} {v : Value} {T : Array Value} (hT : rvT Wg Ch cb A off n cap Lb T) (W : World) {cs : List Frame} {Stop : Goroutine → World → Prop}
    (hS : ∀ T' w, T'[2]? = some (.slice (some ⟨Lb, 0, none⟩) n n) → AtRel W w → Stop (osRet T' cs) w) :
    GF Try.prog true AtRel (DF Shun) Stop (AtRel W) 60 (rvGot T v false cs) := by
  obtain ⟨v1, v5, v6, v8, v9, v10, v11, v12, v13, v14, v15, v16, v17, v18, v19, v20, v21, v22, v23, v24, v25, v26, v28, v29, v30, v31, v32, v33, v34, v35, v36, v37, rfl⟩ := hT
  have E : ∀ W, Hold AtRel (DF Shun) (AtRel W) := at_hold
  have HS := _root_.Go.Lib.hid hS
  clear hS
  simp only [osRet] at HS
  simp only [rvGot, rvOps, rvTail, rvLoop, rvEnd, osRest2, osRest, osEnd, osBody, Try.f27, Option.getD_some]
  walk_nrm
  repeat (first
    | refine GF.seq (E _) ?_
    | refine GF.regEnd (E _) ?_
    | refine GF.exit (E _) rfl ?_
    | (refine GF.reg (E _) ?_; simp only [List.size_toArray, List.length_cons, List.length_nil, Nat.reduceAdd, Nat.zero_add, List.range, List.range.loop])
    | (refine GF.cond (E _) (t := false) rfl ?_; simp only [Bool.false_eq_true, ↓reduceIte])
    | (refine GF.oper (E _) rfl rfl (base_kind _) rfl (fun w hF K hK => ?_); go_simp; refine hK _ ⟨?_, ?_⟩; (· intro e he; first | (simp [go_sem] at he; done) | (simp [go_sem, *] at he; done)); clear hK K hF w; (try (walk_nrm))))
  refine GF.ret (E _) ?_
  refine GF.stop (E _) (fun w hF => ?_)
  exact HS.out _ w rfl hF

end Go.Proofs.Ythoaldiadgeonaa.Cr

namespace Go.Proofs.Ythoaldiadgeonaa.Cr
open Go.Conc Go.ConcR Go.RowKit Go.Conc.Lib Go.ConcR.Gen
open Go.Joins (cell_of_block unfrozen_of_block block_setCell)
open Go.ConcN (upd upd_same upd_ne sumTo sumTo_upd ShN)

/-! ### goroutine 0's turn; a receiving -/
section
variable {P : Program} {Shun : Loc → Prop}

/-- The leavers slip till goroutine 0 is asked to step. -/
theorem fr_turn {a : Goroutine} (hrun : a.status = .running) : ∀ (M : Nat) (gs : Array Goroutine) (w : World) (sl : Option (Nat × Nat)) (t : Trace) (q : Nat → Nat), sumTo gs.size q ≤ M → gs[0]? = some a → Fr P Shun gs w t q →
    ∃ (N : Nat) (gs' : Array Goroutine) (d : Nat) (sl' : Option (Nat × Nat)) (d' : Nat) (sl'' : Option (Nat × Nat)) (t' : Trace) (q' : Nat → Nat),
      runNT P N (crowd gs w sl) t = (.next (crowd gs' (w.at d) sl'), t') ∧ gs'.size = gs.size ∧ gs'[0]? = some a ∧ Fr P Shun gs' (w.at d) t' q' ∧ stepT P (crowd gs' (w.at d) sl') = runT P (crowd gs' (w.at d') sl'') 0 := by
  intro M
  induction M with
  | zero =>
    intro gs w sl t q hM h0 hF
    obtain ⟨i, g, d, sl', hi, hg, hst⟩ := crowd_pick (P := P) (w := w) (sl := sl) (hF.awake h0 hrun) ⟨0, a, h0, hrun⟩
    rcases Nat.eq_zero_or_pos i with rfl | hpos
    · exact ⟨0, gs, w.drawn, sl, d, sl', t, q, rfl, rfl, h0, hF, hst⟩
    · have hq := hF.leav.old i g hpos hi
      have hlt : i < gs.size := (Array.getElem?_eq_some_iff.1 hi).1
      have := ConcN.le_sumTo (f := q) hlt
      have hqi : q i = 0 := by omega
      rw [hqi] at hq; rw [hq.1] at hg; cases hg
  | succ M ih =>
    intro gs w sl t q hM h0 hF
    obtain ⟨i, g, d, sl', hi, hg, hst⟩ := crowd_pick (P := P) (w := w) (sl := sl) (hF.awake h0 hrun) ⟨0, a, h0, hrun⟩
    rcases Nat.eq_zero_or_pos i with rfl | hpos
    · exact ⟨0, gs, w.drawn, sl, d, sl', t, q, rfl, rfl, h0, hF, hst⟩
    · have hq := hF.leav.old i g hpos hi
      have hi0 : (i == 0) = false := by simp; omega
      have hlt : i < gs.size := (Array.getElem?_eq_some_iff.1 hi).1
      cases hqi : q i with
      | zero => rw [hqi] at hq; rw [hq.1] at hg; cases hg
      | succ k =>
        rw [hqi] at hq
        rcases hq with ⟨hf, _⟩ | ⟨_, g', es, hm, hstp, hq'⟩
        · rw [hf] at hg; cases hg
        have hrunT := runT_crowd_go (P := P) (sl := sl') (i := i) hi (by rw [hi0]; exact hstp (w.at d))
        have hsz : ((gs.map (woken P g g' (w.at d))).setIfInBounds i g').size = gs.size := by simp
        have hsum : sumTo gs.size (upd q i k) + (k + 1) = sumTo gs.size q + k := by
          have := sumTo_upd q k id hlt
          simpa [hqi] using this
        obtain ⟨N, gs', d1, sl1, d2, sl2, t', q', hr, hs', h0', hF', hst'⟩ := ih ((gs.map (woken P g g' (w.at d))).setIfInBounds i g') (w.at d) sl' (t ++ MemOp.ofEvents i g.frame.fn g.frame.place es) (upd q i k) (by rw [hsz]; omega)
          (by
            have hne : i ≠ 0 := by omega
            rw [Array.getElem?_setIfInBounds_ne hne, Array.getElem?_map, h0]
            simp [woken_quiet (.inl hrun)])
          (hF.mute hi hpos hm hq' d)
        exact ⟨N + 1, gs', d1, sl1, d2, sl2, t', q', by simp only [runNT, hst, hrunT]; exact hr, hs'.trans hsz, h0', hF', hst'⟩

variable {gs : Array Goroutine} {w w' : World} {t u : Trace} {q : Nat → Nat}
/-- Goroutine 0 says something that touches nothing. -/
theorem Fr.say (h : Fr P Shun gs w t q) {a a' : Goroutine} (ha : gs[0]? = some a) (hg : ∀ op ∈ u, op.g = 0) (hnt : ∀ op ∈ u, op.act.touch? = none) (hst : ∀ op ∈ u, op.act ≠ .mark .disable ∧ op.act ≠ .mark .enable) (hs : w.heap.size ≤ w'.heap.size) (hlow : ∀ op ∈ u, op.act.low w'.heap.size) :
    Fr P Shun (gs.setIfInBounds 0 a') w' (t ++ u) q := by
  have hlt : 0 < gs.size := (Array.getElem?_eq_some_iff.1 ha).1
  refine ⟨⟨fun j x hj hx => ?_, fun j hj => ?_⟩, (h.past.mono hs).app0 hg (fun op hop b hb => by rw [hnt op hop] at hb; cases hb) (ConcN.Deaf_still t 0 u hst) hlow, h.quiet.app (fun op hop x hx => by rw [hnt op hop] at hx; cases hx), h.mem.app (fun op hop x hx => by rw [hnt op hop] at hx; cases hx), fun op hop => ?_⟩
  · rw [Array.getElem?_setIfInBounds_ne (by omega)] at hx
    rw [ConcN.Deaf_still t j u hst]
    exact h.leav.old j x hj hx
  · rw [ConcN.Deaf_still t j u hst]
    exact h.leav.above j (by simpa using hj)
  · rcases Array.mem_append.1 hop with hop | hop
    · simpa using h.gsN op hop
    · rw [hg op hop]; simpa using hlt

theorem fr_partners (hF : Fr P Shun gs w t q) (x : Goroutine) (hx : x.status = .finished) (r : Nat) (b : Bool) : partners (gs.setIfInBounds 0 x) r b = [] := by
  refine partners_nil fun k g hg => ?_
  have hst : g.status = .running ∨ g.status = .finished := by
    rcases Nat.eq_zero_or_pos k with rfl | hk
    · by_cases hlt : 0 < gs.size
      · rw [Array.getElem?_setIfInBounds_self_of_lt hlt] at hg
        cases hg; exact .inr hx
      · rw [Array.getElem?_eq_none (by simpa using hlt)] at hg; cases hg
    · rw [Array.getElem?_setIfInBounds_ne (by omega)] at hg
      exact (hF.leav.old k g hk hg).status
  unfold offersAt
  rcases hst with h | h <;> rw [h]

/-- A receiving from a closed channel: out of its buffer, or its end. -/
theorem fr_recv {g : Goroutine} {c cap s r : Nat} {buf : Array Value} {tm : Bool} {z : Value} (sl : Option (Nat × Nat)) (hF : Fr P Shun gs w t q) (h0 : gs[0]? = some g) (hrun : g.status = .running)
    (hst : ∀ w', stepG P true g w' = .comm g #[rcase c z] true (.recv true) w' #[]) (hc : w.heap[c]? = some (.chan cap buf true s r tm)) :
    ∃ (N : Nat) (gs' : Array Goroutine) (w' : World) (sl' : Option (Nat × Nat)) (t' : Trace) (q' : Nat → Nat), runNT P N (crowd gs w sl) t = (.next (crowd gs' w' sl'), t') ∧ gs'.size = gs.size ∧ Fr P Shun gs' w' t' q' ∧
      ((0 < buf.size ∧ gs'[0]? = some (Go.Conc.served g (.tuple #[buf.getD 0 undef, .bool true])) ∧ AtRel (w.setChan c cap (buf.extract 1 buf.size) true s (r + 1) tm) w') ∨
       (buf.size = 0 ∧ gs'[0]? = some (Go.Conc.served g (.tuple #[z, .bool false])) ∧ AtRel w w')) := by
  obtain ⟨N, gs1, d, sl1, d', sl2, t1, q1, r1, z1, h01, F1, st1⟩ := fr_turn (P := P) hrun _ gs w sl t q (Nat.le_refl _) h0 hF
  have hlt : 0 < gs1.size := (Array.getElem?_eq_some_iff.1 h01).1
  have hcl : c < w.heap.size := (Array.getElem?_eq_some_iff.1 hc).1
  have hp := fr_partners (F1.at d') ph rfl c true
  have e0 : ∀ (fn : FuncId) (pos : String), MemOp.ofEvents 0 fn pos #[] = #[] := fun fn pos => by simp [ofEvents_eq]
  by_cases hb : 0 < buf.size
  · have hrunT := crowd_recv_buf (P := P) (sl := sl2) (i := 0) h01 (by simpa using hst (w.at d')) (show (w.at d').heap[c]? = _ from hc) hb hp
    rw [e0, Array.empty_append] at hrunT
    have hr : runNT P (N + 1) (crowd gs w sl) t = (.next (crowd (gs1.setIfInBounds 0 (g.finishComm P #[rcase c z] (.recv true) 0 (buf.getD 0 undef) true)) ((w.at d').setChan c cap (buf.extract 1 buf.size) true s (r + 1) tm) sl2),
        t1 ++ #[{ g := 0, fn := g.frame.fn, pos := g.frame.place, act := .recv c r cap }, { g := 0, fn := g.frame.fn, pos := g.frame.place, act := .recvDone c r }]) := by
      rw [runNT_add, r1]; simp only [runNT, st1, hrunT]
    refine ⟨N + 1, _, _, _, _, q1, hr, by simp [z1], (F1.at d').say h01 ?_ ?_ ?_ ?_ ?_, .inl ⟨hb, ?_, ⟨d', rfl⟩⟩⟩
    · intro op hop; simp at hop; rcases hop with rfl | rfl <;> rfl
    · intro op hop; simp at hop; rcases hop with rfl | rfl <;> rfl
    · intro op hop; simp at hop; rcases hop with rfl | rfl <;> exact ⟨by simp, by simp⟩
    · show w.heap.size ≤ (w.heap.setIfInBounds c _).size; simp
    · have : c < ((w.at d').setChan c cap (buf.extract 1 buf.size) true s (r + 1) tm).heap.size := by show c < (w.heap.setIfInBounds c _).size; simpa using hcl
      intro op hop; simp at hop; rcases hop with rfl | rfl <;> exact this
    · rw [Array.getElem?_setIfInBounds_self_of_lt hlt]; rfl
  · have hb0 : buf = #[] := Array.eq_empty_of_size_eq_zero (by omega)
    subst hb0
    have hrunT := crowd_recv_closed (P := P) (sl := sl2) (i := 0) h01 (by simpa using hst (w.at d')) (show (w.at d').heap[c]? = _ from hc) hp
    rw [e0, Array.empty_append] at hrunT
    have hr : runNT P (N + 1) (crowd gs w sl) t = (.next (crowd (gs1.setIfInBounds 0 (g.finishComm P #[rcase c z] (.recv true) 0 z false)) (w.at d') sl2), t1 ++ #[{ g := 0, fn := g.frame.fn, pos := g.frame.place, act := .recvClosed c }]) := by
      rw [runNT_add, r1]; simp only [runNT, st1, hrunT]
    refine ⟨N + 1, _, _, _, _, q1, hr, by simp [z1], (F1.at d').say h01 ?_ ?_ ?_ (Nat.le_refl _) ?_, .inr ⟨rfl, ?_, ⟨d', rfl⟩⟩⟩
    · intro op hop; simp at hop; subst hop; rfl
    · intro op hop; simp at hop; subst hop; rfl
    · intro op hop; simp at hop; subst hop; exact ⟨by simp, by simp⟩
    · intro op hop; simp at hop; subst hop; exact hcl
    · rw [Array.getElem?_setIfInBounds_self_of_lt hlt]; rfl
end

end Go.Proofs.Ythoaldiadgeonaa.Cr

namespace Go.Proofs.Ythoaldiadgeonaa.Cr
open Go.Conc Go.ConcR Go.RowKit Go.Conc.Lib Go.ConcR.Gen
open Go.Joins (cell_of_block unfrozen_of_block block_setCell)
open Go.ConcN (upd upd_same upd_ne sumTo sumTo_upd ShN WgLive)

/-- The world while the answers are received. -/
structure RvW (p : Ph) (f : Nat → Int) (k : Nat) (buf : Array Value) (w : World) : Prop where
  low : Low0 p w
  size : w.heap.size = p.N0 + 3 + 3 * p.n + 1 + k
  plain : ∀ b, p.N0 ≤ b → b < w.heap.size → PlainAt w b
  list : w.heap[p.N0 + 3 + 3 * p.n]? = some (.cells (lc f p.n) 3)
  chan : ∃ s r tm, w.heap[p.Ch]? = some (.chan p.n buf true s r tm)

section
variable {p : Ph} {f : Nat → Int} {k : Nat} {buf buf' : Array Value} {w w' : World}
theorem RvW.at (h : RvW p f k buf w) (r : AtRel w w') : RvW p f k buf w' := by
  obtain ⟨d, rfl⟩ := r
  exact ⟨⟨h.low.tape, h.low.os, h.low.output, h.low.low⟩, h.size, h.plain, h.list, h.chan⟩

theorem RvW.setChan (ok : p.Ok) (h : RvW p f k buf w) {s r : Nat} {tm : Bool} : RvW p f k buf' (w.setChan p.Ch p.n buf' true s r tm) := by
  have hch := ok.ch
  have hsz := h.size
  have hz : (w.setChan p.Ch p.n buf' true s r tm).heap.size = w.heap.size := by show (w.heap.setIfInBounds p.Ch _).size = _; simp
  have hk : ∀ b, b ≠ p.Ch → (w.setChan p.Ch p.n buf' true s r tm).heap[b]? = w.heap[b]? := fun b hb => by
    show (w.heap.setIfInBounds p.Ch _)[b]? = _
    rw [Array.getElem?_setIfInBounds_ne (fun e => hb e.symm)]
  have hc : (w.setChan p.Ch p.n buf' true s r tm).heap[p.Ch]? = some (.chan p.n buf' true s r tm) := by
    show (w.heap.setIfInBounds p.Ch _)[p.Ch]? = _
    rw [Array.getElem?_setIfInBounds_self_of_lt (by omega)]
  refine ⟨⟨h.low.tape, h.low.os, h.low.output, fun b hb => (hk b (by omega)).trans (h.low.low b hb)⟩, hz.trans h.size, fun b hb hlt => ?_, (hk _ (by omega)).trans h.list, _, _, _, hc⟩
  by_cases e : b = p.Ch
  · subst e; exact ⟨_, hc, trivial⟩
  · exact (h.plain b hb (by omega)).of_eq (hk b e)

theorem RvW.took (ok : p.Ok) (h : RvW p f k buf w) {i : Nat} (m : Int) : RvW p (upd f i m) (k + 1) buf (tookW w (p.N0 + 3 + 3 * p.n) i m) := by
  have hch := ok.ch
  have hsz := h.size
  have z1 : (w.alloc (.cells #[.int .i64 0, .int .i64 0] 71)).heap.size = w.heap.size + 1 := by show (w.heap.push _).size = _; simp
  have a1 : ∀ b, b < w.heap.size → (w.alloc (.cells #[.int .i64 0, .int .i64 0] 71)).heap[b]? = w.heap[b]? := fun b hb => alloc_at hb
  have n1 : PlainAt (w.alloc (.cells #[.int .i64 0, .int .i64 0] 71)) w.heap.size := ⟨_, alloc_new, rfl⟩
  have m3 : Mine (fun b => b = w.heap.size ∨ b = p.N0 + 3 + 3 * p.n) (w.alloc (.cells #[.int .i64 0, .int .i64 0] 71)) (tookW w (p.N0 + 3 + 3 * p.n) i m) :=
    ((mine_setCell _ _ _ _ (.inl rfl)).trans (mine_setCell _ _ _ _ (.inl rfl))).trans (mine_setCell _ _ _ _ (.inr rfl))
  have l2 : (((w.alloc (.cells #[.int .i64 0, .int .i64 0] 71)).setCell ⟨w.heap.size, 0, none⟩ (.int .i64 i)).setCell ⟨w.heap.size, 1, none⟩ (.int .i64 m)).heap[p.N0 + 3 + 3 * p.n]? = some (.cells (lc f p.n) 3) :=
    (((mine_setCell (· = w.heap.size) _ _ _ rfl).trans (mine_setCell (· = w.heap.size) _ _ _ rfl)).keep _ (by omega)).trans ((a1 _ (by omega)).trans h.list)
  have ml : (tookW w (p.N0 + 3 + 3 * p.n) i m).heap[p.N0 + 3 + 3 * p.n]? = some (.cells (lc (upd f i m) p.n) 3) := by
    rw [← lc_set]
    exact block_setCell l2 _
  refine ⟨⟨m3.tape.trans h.low.tape, m3.os.trans h.low.os, m3.output.trans h.low.output, fun b hb => ?_⟩, by rw [m3.size, z1]; omega, fun b hb hlt => ?_, ml, ?_⟩
  · exact (m3.keep b (by omega)).trans ((a1 b (by omega)).trans (h.low.low b hb))
  · rw [m3.size, z1] at hlt
    refine m3.plain b ?_
    by_cases e : b < w.heap.size
    · exact (h.plain b hb e).of_eq (a1 b e)
    · obtain rfl : b = w.heap.size := by omega
      exact n1
  · obtain ⟨s, r, tm, hc⟩ := h.chan
    exact ⟨s, r, tm, (m3.keep p.Ch (by omega)).trans ((a1 _ (by omega)).trans hc)⟩

theorem notSh (ok : p.Ok) (a : Addr) (ha : p.N0 ≤ a.block) (hw : a.block ≠ p.Wg) : ¬ p.Sh (.cell a) := by
  rintro (h | ⟨c, hc, hcw⟩)
  · obtain ⟨c, hc, h1, _⟩ := ok.shun _ h
    cases hc; omega
  · cases hc; exact hw hcw

theorem upd_mem {l : List Nat} {i : Nat} {g : Nat → Int} : (fun x => if x ∈ l then g x else upd f i (g i) x) = fun x => if x ∈ i :: l then g x else f x := by
  funext x
  by_cases e : x = i
  · subst e; simp [upd_same]
  · simp [upd_ne f _ e, e]

/-- All answers are received; the return. -/
theorem rv_run (ok : p.Ok) : ∀ (l : List Nat) (k : Nat) (f : Nat → Int) (gs : Array Goroutine) (w : World) (sl : Option (Nat × Nat)) (t : Trace) (q : Nat → Nat) (T : Array Value),
    gs[0]? = some (rvAt T p.cs) → rvT p.Wg p.Ch p.cb p.A p.off p.n p.cap (p.N0 + 3 + 3 * p.n) T → Fr Try.prog p.Sh gs w t q → RvW p f k (l.map p.ans).toArray w → (∀ i ∈ l, i < p.n) →
    ∃ (N : Nat) (gs' : Array Goroutine) (w' : World) (sl' : Option (Nat × Nat)) (t' : Trace) (q' : Nat → Nat) (T' : Array Value), runNT Try.prog N (crowd gs w sl) t = (.next (crowd gs' w' sl'), t') ∧ gs'[0]? = some (osRet T' p.cs) ∧
      T'[2]? = some (.slice (some ⟨p.N0 + 3 + 3 * p.n, 0, none⟩) p.n p.n) ∧ Fr Try.prog p.Sh gs' w' t' q' ∧ RvW p (fun i => if i ∈ l then (p.ord i : Int) else f i) (k + l.length) #[] w' := by
  have hwg := ok.wg
  intro l
  induction l with
  | nil =>
    intro k f gs w sl t q T h0 hT hF hW _
    obtain ⟨hcm, hgot⟩ := rv_comm hT p.cs w
    obtain ⟨s, r, tm, hc⟩ := hW.chan
    obtain ⟨N1, gs1, w1, sl1, t1, q1, r1, z1, F1, hh⟩ := fr_recv sl hF h0 rfl (fun w' => (rv_comm hT p.cs w').1) hc
    rcases hh with ⟨hb, _⟩ | ⟨_, h1, hr⟩
    · simp at hb
    rw [hgot] at h1
    have hW1 := hW.at hr
    obtain ⟨N2, gs2, a2, w2, sl2, t2, q2, r2, z2, h02, ⟨⟨T', rfl, hT'⟩, hW2⟩, F2, _⟩ := fr_walk (fun _ _ _ h => h) _ 60 gs1 _ w1 sl1 t1 q1 (Nat.le_refl _) h1 F1
      (st_ret (Stop := fun g w => (∃ T', g = osRet T' p.cs ∧ T'[2]? = some (.slice (some ⟨p.N0 + 3 + 3 * p.n, 0, none⟩) p.n p.n)) ∧ RvW p f k (([] : List Nat).map p.ans).toArray w) hT w1 (fun T' w' h2 h3 => ⟨⟨T', rfl, h2⟩, hW1.at h3⟩) w1 (atRel_refl w1))
    exact ⟨N1 + N2, gs2, w2, sl2, t2, q2, T', by rw [runNT_add, r1]; exact r2, h02, hT', F2, by simpa using hW2⟩
  | cons i l ih =>
    intro k f gs w sl t q T h0 hT hF hW hl
    obtain ⟨hcm, hgot⟩ := rv_comm hT p.cs w
    obtain ⟨s, r, tm, hc⟩ := hW.chan
    have hi : i < p.n := hl i (by simp)
    obtain ⟨N1, gs1, w1, sl1, t1, q1, r1, z1, F1, hh⟩ := fr_recv sl hF h0 rfl (fun w' => (rv_comm hT p.cs w').1) hc
    obtain ⟨hb, h1, hr⟩ := hh.resolve_right (fun ⟨hb, _⟩ => by simp at hb)
    have e1 : (((i :: l).map p.ans).toArray).getD 0 undef = p.ans i := by simp
    have e2 : (((i :: l).map p.ans).toArray).extract 1 (((i :: l).map p.ans).toArray).size = (l.map p.ans).toArray := by
      apply Array.ext'
      rw [Array.toList_extract]
      simp [List.extract]
      exact List.take_of_length_le (by simp)
    rw [e1, hgot] at h1
    rw [e2] at hr
    have hW1 : RvW p f k (l.map p.ans).toArray w1 := (hW.setChan ok).at hr
    have hsz1 := hW1.size
    obtain ⟨N2, gs2, a2, w2, sl2, t2, q2, r2, z2, h02, ⟨⟨T', rfl, hT'⟩, hW2⟩, F2, _⟩ := fr_walk (fun _ _ _ h => h) _ 60 gs1 _ w1 sl1 t1 q1 (Nat.le_refl _) h1 F1
      (st_take (Stop := fun g w => (∃ T', g = rvAt T' p.cs ∧ rvT p.Wg p.Ch p.cb p.A p.off p.n p.cap (p.N0 + 3 + 3 * p.n) T') ∧ RvW p (upd f i (p.ord i)) (k + 1) (l.map p.ans).toArray w) hT hi w1 hW1.list
        (fun a ha => notSh ok a (by omega) (by omega)) (fun a ha => notSh ok a (by omega) (by omega)) (fun T' w' h2 h3 => ⟨⟨T', rfl, h2⟩, (hW1.took ok (p.ord i)).at h3⟩) w1 (atRel_refl w1))
    obtain ⟨N3, gs3, w3, sl3, t3, q3, T3, r3, h03, hT3, F3, hW3⟩ := ih (k + 1) (upd f i (p.ord i)) gs2 w2 sl2 t2 q2 T' h02 hT' F2 hW2 (fun x hx => hl x (by simp [hx]))
    refine ⟨N1 + N2 + N3, gs3, w3, sl3, t3, q3, T3, ?_, h03, hT3, F3, ?_⟩
    · rw [Nat.add_assoc, runNT_add, r1]
      simp only []
      rw [runNT_add, r2]
      exact r3
    · have e : k + 1 + l.length = k + (i :: l).length := by simp; omega
      rw [e, upd_mem (g := fun x => (p.ord x : Int))] at hW3
      exact hW3
end

theorem perm_map_inv {α β : Type} {g : α → β} {x y : List β} (h : x.Perm y) : ∀ {m : List α}, y = m.map g → ∃ m' : List α, m'.Perm m ∧ x = m'.map g := by
  induction h with
  | nil => intro m hm; exact ⟨[], by cases m <;> simp_all, rfl⟩
  | cons a _ ih =>
    intro m hm
    cases m with
    | nil => cases hm
    | cons b m =>
      simp only [List.map_cons, List.cons.injEq] at hm
      obtain ⟨m', h1, h2⟩ := ih hm.2
      exact ⟨b :: m', h1.cons b, by simp [hm.1, h2]⟩
  | swap a b l =>
    intro m hm
    match m, hm with
    | c :: d :: m, hm =>
      simp only [List.map_cons, List.cons.injEq] at hm
      exact ⟨d :: c :: m, List.Perm.swap c d m, by simp [hm.1, hm.2.1, hm.2.2]⟩
  | trans _ _ ih1 ih2 =>
    intro m hm
    obtain ⟨m1, h1, h2⟩ := ih2 hm
    obtain ⟨m2, h3, h4⟩ := ih1 h2
    exact ⟨m2, h3.trans h1, h4⟩

theorem lc_congr {f g : Nat → Int} {n : Nat} (h : ∀ i, i < n → f i = g i) : lc f n = lc g n := by
  unfold lc
  congr 1
  exact List.map_congr_left fun i hi => by rw [h i (List.mem_range.1 hi)]

theorem Fr.widen {P : Program} {Shun Shun' : Loc → Prop} {gs : Array Goroutine} {w : World} {t : Trace} {q : Nat → Nat} (h : Fr P Shun gs w t q) (h1 : ∀ l, Shun l → Shun' l) (h2 : Quiet Shun' t) : Fr P Shun' gs w t q :=
  ⟨h.leav, ⟨h.past.clean, fun i a ha hm => (h.past.known i a ha hm).imp id fun ⟨x, y⟩ => ⟨h1 _ x, y⟩, h.past.over, h.past.hears, h.past.seen⟩, h2, h.mem, h.gsN⟩

theorem runNT_then {P : Program} {m m' : Machine} {r : Stepped × Trace} {t t' : Trace} {N K : Nat} (h : runNT P N m t = (.next m', t')) (hk : runNT P K m' t' = r) : runNT P (N + K) m t = r := by
  rw [runNT_add, h]; exact hk

/-- ████ orders, WHOLE. ████ -/
theorem orders_run {Shun : Loc → Prop} {gs : Array Goroutine} {w : World} {sl : Option (Nat × Nat)} {t : Trace} {q : Nat → Nat} {A off n : Nat} {cap : Option Addr × Nat} {x1 x2 x3 x4 x5 x6 x7 x8 x9 x10 x11 x12 x13 x14 x15 x16 x17 x18 x19 x20 x21 x22 x23 x24 x25 x26 x27 x28 x29 x30 x31 x32 x33 x34 x35 x36 x37 : Value} {ask : Nat → Nat × Nat} {ord : Nat → Nat} {cs : List Frame} (hn : n < 100000)
    (hord : ∀ i, i < n → (ask i).1 ≤ 1000 ∧ 1 ≤ (ask i).2 ∧ (ask i).2 ≤ 15000 ∧ 1 ≤ ord i ∧ ord i ≤ 15000 ∧ (∀ j, 1 ≤ j → j < ord i → (ask i).1 ^ j % (ask i).2 ≠ 1 % (ask i).2) ∧ (ask i).1 ^ ord i % (ask i).2 = 1 % (ask i).2)
    (hF : Fr Try.prog Shun gs w t q) (h0 : gs[0]? = some (osIn #[.slice cap.1 n cap.2, x1, x2, x3, x4, x5, x6, x7, x8, x9, x10, x11, x12, x13, x14, x15, x16, x17, x18, x19, x20, x21, x22, x23, x24, x25, x26, x27, x28, x29, x30, x31, x32, x33, x34, x35, x36, x37] cs)) (hbase : 0 < n → cap.1 = some ⟨A, off, none⟩) (hA : 0 < n → A < w.heap.size) (hA3 : A < w.heap.size + 3) (hAP : A ≠ w.heap.size + 2 ∧ A ≠ w.heap.size)
    (ha0 : ∀ i, i < n → w.cell? ⟨A, off + i * 2, none⟩ = some (.int .i64 (ask i).1)) (ha1 : ∀ i, i < n → w.cell? ⟨A, off + i * 2 + 1, none⟩ = some (.int .i64 (ask i).2))
    (hShun : ∀ l, Shun l → ∃ a : Addr, l = .cell a ∧ a.block < w.heap.size ∧ a.block ≠ A) :
    ∃ (N : Nat) (gs' : Array Goroutine) (w' : World) (sl' : Option (Nat × Nat)) (t' : Trace) (q' : Nat → Nat) (T : Array Value), runNT Try.prog N (crowd gs w sl) t = (.next (crowd gs' w' sl'), t') ∧ gs'[0]? = some (osRet T cs) ∧
      T[2]? = some (.slice (some ⟨w.heap.size + 3 + 3 * n, 0, none⟩) n n) ∧ Fr Try.prog (fun l => Shun l ∨ ShN (w.heap.size + 2) l) gs' w' t' q' ∧ w'.tape = w.tape ∧ w'.os = w.os ∧ w'.output = w.output ∧ w'.heap.size = w.heap.size + 4 + 4 * n ∧
      (∀ b, b < w.heap.size → w'.heap[b]? = w.heap[b]?) ∧ (∀ b, w.heap.size ≤ b → b < w'.heap.size → PlainAt w' b) ∧ w'.heap[w.heap.size + 3 + 3 * n]? = some (.cells (lc (fun i => ord i) n) 3) := by
  obtain ⟨p, hp⟩ : ∃ p : Ph, p = ⟨w.heap.size + 2, w.heap.size, w.heap.size + 1, A, off, n, cap, gs.size - 1, w.heap.size, w, ask, ord, cs, Shun⟩ := ⟨_, rfl⟩
  have ok : p.Ok := by
    subst hp
    exact ⟨⟨by dsimp only; omega, hAP⟩, by dsimp only; omega, rfl, hn, by dsimp only; omega, by dsimp only; omega, by dsimp only; omega, hA3, hbase, hShun, hord⟩
  have hlt : 0 < gs.size := (Array.getElem?_eq_some_iff.1 h0).1
  have hqt : Quiet p.Sh t := by
    intro i op x hi hx hS
    rcases hS with hS | ⟨b, hb, hbw⟩
    · subst hp; exact hF.quiet i op x hi hx hS
    · exfalso
      have hs := hF.past.seen op (Array.mem_of_getElem? hi)
      have hl : x.loc.low w.heap.size := by
        cases hact : op.act with
        | access e => rw [hact] at hs hx; simp only [MemAct.touch?, Option.some.injEq] at hx; subst hx; exact hs
        | mark m => rw [hact] at hs hx; cases m <;> simp only [MemAct.touch?, Option.some.injEq, reduceCtorEq] at hx <;> subst hx <;> exact hs
        | _ => rw [hact] at hx; cases hx
      rw [hb] at hl
      subst hp
      have hl' : b.block < w.heap.size := hl
      have hbw' : b.block = w.heap.size + 2 := hbw
      omega
  have hF' : Fr Try.prog p.Sh gs w t q := hF.widen (fun l h => .inl (by subst hp; exact h)) hqt
  have hnr : NoRelease (stA p.Wg) t := by
    intro i hi
    obtain ⟨op, ho, hop⟩ := Option.map_eq_some_iff.1 hi
    have hs := hF.past.seen op (Array.mem_of_getElem? ho)
    rw [hop] at hs
    subst hp
    have hs' : w.heap.size + 2 < w.heap.size := hs
    omega
  -- the entry
  obtain ⟨N1, gs1, a1, w1, sl1, t1, q1, r1, z1, h01, ⟨T1, rfl, hT1, W1, hE, hrel⟩, F1, nr1⟩ := fr_walk (fun _ _ _ h => h) _ 40 gs _ w sl t q (Nat.le_refl _) h0 hF'
    (st_entry (Stop := fun g w' => ∃ T, g = osHead T cs ∧ osT (w.heap.size + 2) (w.heap.size + 1) A off n cap 0 T ∧ ∃ W, Ent w n W ∧ AtRel W w') w hn (fun a ha => notSh ok a (by subst hp; show w.heap.size ≤ a.block; omega) (by subst hp; show a.block ≠ w.heap.size + 2; omega))
      (fun T W w' h1 h2 h3 => ⟨T, rfl, h1, W, h2, h3⟩) w (atRel_refl w))
  have hfact := hE.facts (ask := ask) hrel hA hA3 ha0 ha1
  have hplain : ∀ b, p.N0 ≤ b → b < w1.heap.size → PlainAt w1 b := by
    obtain ⟨d, rfl⟩ := hrel
    intro b hb hlt
    have hz := hE.size
    have hb' : w.heap.size ≤ b := by subst hp; exact hb
    have hlt' : b < W1.heap.size := hlt
    have : b = w.heap.size ∨ b = w.heap.size + 1 ∨ b = w.heap.size + 2 := by omega
    rcases this with rfl | rfl | rfl
    · exact ⟨_, hE.ch, trivial⟩
    · exact ⟨_, hE.cb, rfl⟩
    · exact ⟨_, hE.wg, rfl⟩
  have hlow1 : Low0 p w1 := by
    obtain ⟨d, rfl⟩ := hrel
    subst hp
    exact ⟨hE.tape, hE.os, hE.output, hE.low⟩
  have hsz1 : w1.heap.size = p.N0 + 3 := by obtain ⟨d, rfl⟩ := hrel; subst hp; exact hE.size
  have hch1 : ∃ s r tm, w1.heap[p.Ch]? = some (.chan p.n #[] false s r tm) := by obtain ⟨d, rfl⟩ := hrel; subst hp; exact ⟨_, _, _, hE.ch⟩
  have hwg1 : WgAt wgl.tWg p.Wg w1 0 0 := by obtain ⟨d, rfl⟩ := hrel; subst hp; exact hE.wg
  have ecs : p.cs = cs := by subst hp; rfl
  -- the crowd
  obtain ⟨N2, gs2, w2, sl2, t2, q2, T2, X2, r2, z2, h02, hT2, F2, hK2, hz2, hL2, hP2, hX2, hC2⟩ := crowd_through (sl := sl1) ok F1 (by rw [z1]; subst hp; show gs.size = gs.size - 1 + 1; omega) (by rw [ecs]; exact h01) (by subst hp; exact hT1) hwg1 hch1 (by subst hp; exact hfact) hsz1 hlow1 hplain (nr1 _ hnr)
  obtain ⟨buf, s2, rr2, tm2, hch2, hbuf⟩ := hC2
  have hall : ((List.range p.n).filter fun i => (X2 i).sent) = List.range p.n := List.filter_eq_self.2 fun i hi => hX2 i (List.mem_range.1 hi)
  rw [hall] at hbuf
  obtain ⟨l, hl, hbl⟩ := perm_map_inv hbuf rfl
  have ebuf : buf = (l.map p.ans).toArray := Array.ext' (by simpa using hbl)
  -- the closing, the list
  have hcbW : ¬ p.Sh (.cell ⟨p.cb, 0, none⟩) := notSh ok _ ok.cb.1 ok.pl.cb.1
  have hcbs := ok.cb
  have hchs := ok.ch
  have hSo : ¬ p.Sh (.obj p.Ch) := by
    rintro (h | ⟨c, hc, _⟩)
    · obtain ⟨c, hc, _⟩ := ok.shun _ h; cases hc
    · cases hc
  have hKc : w2.cell? ⟨p.cb, 0, none⟩ = some (.chan (some p.Ch)) := hK2.ch
  have hW3 : ∀ wl, AtRel (World.alloc { w2 with heap := w2.heap.setIfInBounds p.Ch (.chan p.n buf true s2 rr2 tm2) } (.cells (lc (fun _ => 0) p.n) 3)) wl → RvW p (fun _ => 0) 0 (l.map p.ans).toArray wl := by
    intro wl hr
    refine RvW.at ?_ hr
    have hc : (w2.heap.setIfInBounds p.Ch (.chan p.n buf true s2 rr2 tm2)).size = w2.heap.size := by simp
    have hk : ∀ b, b ≠ p.Ch → (w2.heap.setIfInBounds p.Ch (.chan p.n buf true s2 rr2 tm2))[b]? = w2.heap[b]? := fun b hb => Array.getElem?_setIfInBounds_ne (fun e => hb e.symm)
    have hcc : (w2.heap.setIfInBounds p.Ch (.chan p.n buf true s2 rr2 tm2))[p.Ch]? = some (.chan p.n buf true s2 rr2 tm2) := Array.getElem?_setIfInBounds_self_of_lt (by omega)
    generalize w2.heap.setIfInBounds p.Ch (.chan p.n buf true s2 rr2 tm2) = H at hc hk hcc
    have hz : (World.alloc { w2 with heap := H } (.cells (lc (fun _ => 0) p.n) 3)).heap.size = H.size + 1 := by show (H.push _).size = _; simp
    have hat : ∀ b, b < H.size → (World.alloc { w2 with heap := H } (.cells (lc (fun _ => 0) p.n) 3)).heap[b]? = H[b]? := fun b hb => alloc_at (w := { w2 with heap := H }) hb
    have hnew : (World.alloc { w2 with heap := H } (.cells (lc (fun _ => 0) p.n) 3)).heap[H.size]? = some (.cells (lc (fun _ => 0) p.n) 3) := alloc_new (w := { w2 with heap := H })
    refine ⟨⟨hL2.tape, hL2.os, hL2.output, fun b hb => ?_⟩, by omega, fun b hb hlt => ?_, ?_, s2, rr2, tm2, ?_⟩
    · exact (hat b (by omega)).trans ((hk b (by omega)).trans (hL2.low b hb))
    · by_cases e : b < H.size
      · by_cases e2 : b = p.Ch
        · subst e2; exact ⟨_, (hat _ e).trans hcc, trivial⟩
        · obtain ⟨o, h1, h2⟩ := hP2 b hb (by omega)
          exact ⟨o, (hat b e).trans ((hk b e2).trans h1), h2⟩
      · obtain rfl : b = H.size := by omega
        exact ⟨_, hnew, rfl⟩
    · have : p.N0 + 3 + 3 * p.n = H.size := by omega
      rw [this]; exact hnew
    · rw [← ebuf]
      exact (hat _ (by omega)).trans hcc
  obtain ⟨N3, gs3, a3, w3, sl3, t3, q3, r3, z3, h03, ⟨⟨T3, rfl, hT3⟩, hR3⟩, F3, _⟩ := fr_walk (fun _ _ _ h => h) _ (60 + 10) gs2 _ w2 sl2 t2 q2 (Nat.le_refl _) h02 F2
    (st_close (M := 60) (Stop := fun g w => (∃ T', g = rvAt T' p.cs ∧ rvT p.Wg p.Ch p.cb p.A p.off p.n p.cap (p.N0 + 3 + 3 * p.n) T') ∧ RvW p (fun _ => 0) 0 (l.map p.ans).toArray w) hT2 w2 hKc hch2 (by omega) (by omega) hcbW hSo
      (fun T' hT' => st_list hT' ok.hn _ (by
          have hk : (w2.heap.setIfInBounds p.Ch (.chan p.n buf true s2 rr2 tm2))[p.cb]? = w2.heap[p.cb]? := Array.getElem?_setIfInBounds_ne (fun e => ok.pl.cb.2 e.symm)
          exact (cell_eq (w := w2) (w₁ := { w2 with heap := w2.heap.setIfInBounds p.Ch (.chan p.n buf true s2 rr2 tm2) }) hk 0).trans hKc) (by show p.cb < (w2.heap.setIfInBounds p.Ch _).size; simp; omega) hcbW
        (fun T'' w'' h1 h2 => ⟨⟨T'', rfl, by
          have e : (w2.heap.setIfInBounds p.Ch (.chan p.n buf true s2 rr2 tm2)).size = p.N0 + 3 + 3 * p.n := by simp; exact hz2
          rw [← e]; exact h1⟩, hW3 w'' h2⟩)) w2 (atRel_refl w2))
  -- the receiving
  obtain ⟨N4, gs4, w4, sl4, t4, q4, T4, r4, h04, hT4, F4, hR4⟩ := rv_run ok l 0 (fun _ => 0) gs3 w3 sl3 t3 q3 T3 h03 hT3 F3 hR3 (fun i hi => List.mem_range.1 (hl.mem_iff.1 hi))
  have hlen : l.length = p.n := by rw [hl.length_eq, List.length_range]
  have hlist := hR4.list
  rw [lc_congr (g := fun i => (p.ord i : Int)) (fun i hi => by simp [hl.mem_iff, hi])] at hlist
  have hsz4 := hR4.size
  rw [hlen] at hsz4
  refine ⟨N1 + N2 + N3 + N4, gs4, w4, sl4, t4, q4, T4, ?_, ?_, ?_, ?_, ?_, ?_, ?_, ?_, ?_, ?_, ?_⟩
  · exact runNT_then (runNT_then (runNT_then r1 r2) r3) r4
  · rw [← ecs]; exact h04
  · subst hp; exact hT4
  · subst hp; exact F4
  · subst hp; exact hR4.low.tape
  · subst hp; exact hR4.low.os
  · subst hp; exact hR4.low.output
  · subst hp; show w4.heap.size = w.heap.size + 4 + 4 * n; have h : w4.heap.size = w.heap.size + 3 + 3 * n + 1 + (0 + n) := hsz4; omega
  · subst hp; exact hR4.low.low
  · subst hp; exact hR4.plain
  · subst hp; exact hlist

end Go.Proofs.Ythoaldiadgeonaa.Cr
