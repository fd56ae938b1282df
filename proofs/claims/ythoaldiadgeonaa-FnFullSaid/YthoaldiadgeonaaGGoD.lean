/-
  The entry of the program's orders, beside leavers: from the call to the head of the loop that starts the workers.
  The starter of the program's orders behind Wait, beside leavers: the channel is closed, the list is laid.
  The WaitGroup's protocol among many workers and their starter: what each step of a worker's does to the mode (Derived/Conc/CrowdInv.lean's), with nothing of machines in it.
  A worker of the program's orders behind its sending, up to its release: each of its own steps leaves the world and lists nothing.
-/
import Derived.Test.YthoaldiadgeonaaGGoC
import Derived.Test.YthoaldiadgeonaaGGoA
import Derived.Conc.CrowdRun
namespace Go.Proofs.Ythoaldiadgeonaa.Cr
open Go.Conc Go.ConcR Go.RowKit Go.Conc.Lib Go.ConcR.Gen
open Go.ConcN (WgLive Has)
open Go.Joins (cell_of_block unfrozen_of_block block_setCell)

theorem at_hold {Shun : Loc → Prop} (W : World) : Hold AtRel (DF Shun) (AtRel W) := ⟨fun _ _ h r => atRel_trans _ _ _ h r, df_idle⟩

theorem os_mk {n : Nat} (hn : n < 100000) (w : World) : (Instr.makeChan 58 (.int .i64 n)).run Try.prog w = .ok (.chan (some w.heap.size)) (w.alloc (.chan n #[] false 0 0 false)) ∧ ∀ es, (Instr.makeChan 58 (.int .i64 n)).events Try.prog w es = es := by
  have h1 : Try.prog.underlying 58 = some (.chan .both 71) := by kernel_rfl
  have h2 : (Try.prog.info? 71).map (·.bytes) = some 16 := by kernel_rfl
  obtain ⟨i, hi, hb⟩ := Option.map_eq_some_iff.1 h2
  exact ⟨run_makeChan h1 hi .i64 n (by omega) (by rw [hb]; omega), fun es => events_makeChan h1 hi .i64 n (by omega) (by rw [hb]; omega) es⟩

/-- The world behind the entry: three blocks are new: the channel, its variable, the group. -/
structure Ent (w0 : World) (n : Nat) (W : World) : Prop where
  tape : W.tape = w0.tape
  os : W.os = w0.os
  output : W.output = w0.output
  size : W.heap.size = w0.heap.size + 3
  low : ∀ b, b < w0.heap.size → W.heap[b]? = w0.heap[b]?
  ch : W.heap[w0.heap.size]? = some (.chan n #[] false 0 0 false)
  cb : W.heap[w0.heap.size + 1]? = some (.cells #[.chan (some w0.heap.size)] 58)
  wg : W.heap[w0.heap.size + 2]? = some (.cells #[.int .u64 0, .int .u32 0] 68)

noncomputable def osIn (T : Array Value) (cs : List Frame) : Goroutine := G ((base 27).at ⟨T, []⟩ [.code osBody]) cs

set_option maxRecDepth 100000 in
set_option maxHeartbeats 2000000 in
theorem st_entry {Shun : Loc → Prop} {A off n : Nat} {cap : Option Addr × Nat} {x1 x2 x3 x4 x5 x6 x7 x8 x9 x10 x11 x12 x13 x14 x15 x16 x17 x18 x19 x20 x21 x22 x23 x24 x25 x26 x27 x28 x29 x30 x31 x32 x33 x34 x35 x36 x37 : Value} (w0 : World) (hn : n < 100000) {cs : List Frame} {Stop : Goroutine → World → Prop}
    (hSh : ∀ a : Addr, a.block = w0.heap.size + 1 → ¬ Shun (.cell a))
    (hS : ∀ T W w, osT (w0.heap.size + 2) (w0.heap.size + 1) A off n cap 0 T → Ent w0 n W → AtRel W w → Stop (osHead T cs) w) :
    GF Try.prog true AtRel (DF Shun) Stop (AtRel w0) 40 (osIn #[.slice cap.1 n cap.2, x1, x2, x3, x4, x5, x6, x7, x8, x9, x10, x11, x12, x13, x14, x15, x16, x17, x18, x19, x20, x21, x22, x23, x24, x25, x26, x27, x28, x29, x30, x31, x32, x33, x34, x35, x36, x37] cs) := by
  have E : ∀ W, Hold AtRel (DF Shun) (AtRel W) := at_hold
  simp only [osIn, osBody, Try.f27, Option.getD_some]
  refine GF.seq (E _) ?_
  repeat (first
    | refine GF.seq (E _) ?_
    | refine GF.regEnd (E _) ?_
    | (refine GF.reg (E _) ?_; simp only [List.size_toArray, List.length_cons, List.length_nil, Nat.reduceAdd, Nat.zero_add, List.range, List.range.loop])
    | (refine GF.oper (E _) rfl rfl (base_kind _) rfl (fun w hF K hK => ?_); go_simp; refine hK _ ⟨?_, ?_⟩; (· intro e he; first | (simp [go_sem] at he; done) | (simp [go_sem, *] at he; done)); clear hK K hF w; (try (walk_nrm))))
  refine GF.operE (E _) rfl rfl (base_kind _) osLoud (fun w hF K hK => ?_)
  go_simp
  refine hK _ #[] ⟨by simp [go_sem, *], by simp, df_idle _, ?_⟩
  clear hK K hF w
  try walk_nrm
  refine GF.operW (F' := AtRel (w0.alloc (.chan n #[] false 0 0 false))) (E _) rfl rfl (base_kind _) osLoud (fun w hF K hK => ?_)
  obtain ⟨d, rfl⟩ := hF
  obtain ⟨m1, m2⟩ := os_mk hn (w0.at d)
  go_simp
  refine hK _ _ #[] ⟨by simp [go_sem, m2], by simp, df_none (by show _ ≤ (Array.push _ _).size; rw [Array.size_push]; exact Nat.le_succ _), ⟨d, rfl⟩, ?_⟩
  have e0 : (w0.at d).heap.size = w0.heap.size := rfl
  rw [e0]
  clear hK K m1 m2 e0 d
  generalize hW1 : w0.alloc (.chan n #[] false 0 0 false) = W1
  have hs1 : W1.heap.size = w0.heap.size + 1 := by rw [← hW1]; exact Array.size_push _
  try walk_nrm
  refine GF.operW (F' := AtRel (W1.alloc (.cells #[.chan none] 58))) (E _) rfl rfl (base_kind _) osLoud (fun w hF K hK => ?_)
  obtain ⟨d, rfl⟩ := hF
  go_simp
  refine hK _ _ #[] ⟨by simp [go_sem], by simp, df_none (by show _ ≤ (Array.push _ _).size; rw [Array.size_push]; exact Nat.le_succ _), ⟨d, rfl⟩, ?_⟩
  have e0 : (W1.at d).heap.size = w0.heap.size + 1 := hs1
  rw [e0]
  clear hK K e0 d
  generalize hW2 : W1.alloc (.cells #[.chan none] 58) = W2
  have hs2 : W2.heap.size = w0.heap.size + 2 := by rw [← hW2]; exact (Array.size_push _).trans (by rw [hs1])
  have hc2 : W2.heap[w0.heap.size + 1]? = some (.cells #[.chan none] 58) := by rw [← hW2, ← hs1]; exact alloc_new
  try walk_nrm
  refine GF.operW (F' := AtRel (W2.setCell ⟨w0.heap.size + 1, 0, none⟩ (.chan (some w0.heap.size)))) (E _) rfl rfl (base_kind _) osLoud (fun w hF K hK => ?_)
  obtain ⟨d, rfl⟩ := hF
  have c0 : (W2.at d).cell? ⟨w0.heap.size + 1, 0, none⟩ = some (.chan none) := (cell_of_block (w := W2.at d) hc2 0).trans rfl
  have f0 := unfrozen_of_block (w := W2.at d) hc2 0
  go_simp
  refine hK _ _ #[⟨.cell ⟨w0.heap.size + 1, 0, none⟩, true, false⟩] ⟨by simp [go_sem, *], by simp, ⟨Nat.le_of_eq (mine_setCell (fun _ => True) _ _ _ trivial).size.symm, fun e he => ?_⟩, ⟨d, rfl⟩, ?_⟩
  · simp at he
    subst he
    refine tame_cell _ _ (hSh _ (by simp)) ?_
    rw [(mine_setCell (fun _ => True) _ _ _ trivial).size]
    show w0.heap.size + 1 < W2.heap.size
    omega
  clear hK K c0 f0 d
  generalize hW3 : W2.setCell ⟨w0.heap.size + 1, 0, none⟩ (.chan (some w0.heap.size)) = W3
  have hs3 : W3.heap.size = w0.heap.size + 2 := by rw [← hW3, ← hs2]; exact (mine_setCell (fun _ => True) _ _ _ trivial).size
  try walk_nrm
  refine GF.regEnd (E _) ?_
  refine GF.seq (E _) ?_
  refine GF.reg (E _) ?_
  simp only [List.size_toArray, List.length_cons, List.length_nil, Nat.zero_add, List.range, List.range.loop]
  refine GF.operW (F' := AtRel (W3.alloc (.cells #[.int .u64 0, .int .u32 0] 68))) (E _) rfl rfl (base_kind _) osLoud (fun w hF K hK => ?_)
  obtain ⟨d, rfl⟩ := hF
  go_simp
  refine hK _ _ #[] ⟨by simp [go_sem], by simp, df_none (by show _ ≤ (Array.push _ _).size; rw [Array.size_push]; exact Nat.le_succ _), ⟨d, rfl⟩, ?_⟩
  have e0 : (W3.at d).heap.size = w0.heap.size + 2 := hs3
  rw [e0]
  clear hK K e0 d
  have hc3 : W3.heap[w0.heap.size + 1]? = some (.cells #[.chan (some w0.heap.size)] 58) := by rw [← hW3]; exact (block_setCell hc2 _).trans rfl
  have hc1 : W2.heap[w0.heap.size]? = some (.chan n #[] false 0 0 false) := by rw [← hW2, alloc_at (by omega), ← hW1]; exact alloc_new
  have hd3 : W3.heap[w0.heap.size]? = some (.chan n #[] false 0 0 false) := by rw [← hW3, ← hc1]; exact (mine_setCell (· = w0.heap.size + 1) _ _ _ rfl).keep _ (by omega)
  have hlow : ∀ b, b < w0.heap.size → W3.heap[b]? = w0.heap[b]? := fun b hb => by
    rw [← hW3, (mine_setCell (· = w0.heap.size + 1) W2 ⟨w0.heap.size + 1, 0, none⟩ (.chan (some w0.heap.size)) rfl).keep b (by omega), ← hW2, alloc_at (by omega), ← hW1]
    exact alloc_at hb
  have hEnt : Ent w0 n (W3.alloc (.cells #[.int .u64 0, .int .u32 0] 68)) := by
    refine ⟨?_, ?_, ?_, (Array.size_push _).trans (by rw [hs3]), fun b hb => (alloc_at (by omega)).trans (hlow b hb), (alloc_at (by omega)).trans hd3, (alloc_at (by omega)).trans hc3, by rw [← hs3]; exact alloc_new⟩
    · show W3.tape = _; rw [← hW3, ← hW2, ← hW1]; rfl
    · show W3.os = _; rw [← hW3, ← hW2, ← hW1]; rfl
    · show W3.output = _; rw [← hW3, ← hW2, ← hW1]; rfl
  generalize W3.alloc (.cells #[.int .u64 0, .int .u32 0] 68) = W4 at hEnt ⊢
  clear hc3 hc1 hd3 hlow hs3 hW3 W3 hc2 hs2 hW2 W2 hs1 hW1 W1
  have HS := _root_.Go.Lib.hid hS
  clear hS
  simp only [osHead, osLoop, osEnd, osBody, Try.f27, Option.getD_some] at HS
  try walk_nrm
  repeat (first
    | refine GF.seq (E _) ?_
    | refine GF.regEnd (E _) ?_
    | (refine GF.reg (E _) ?_; simp only [List.size_toArray, List.length_cons, List.length_nil, Nat.reduceAdd, Nat.zero_add, List.range, List.range.loop])
    | (refine GF.oper (E _) rfl rfl (base_kind _) rfl (fun w hF K hK => ?_); go_simp; refine hK _ ⟨?_, ?_⟩; (· intro e he; first | (simp [go_sem] at he; done) | (simp [go_sem, *] at he; done)); clear hK K hF w; (try (walk_nrm)))
    | (refine GF.operE (E _) rfl rfl (base_kind _) osLoud (fun w hF K hK => ?_); go_simp; refine hK _ #[] ⟨by simp [go_sem, *], by simp, df_idle _, ?_⟩; clear hK K hF w; (try (walk_nrm)))
    | refine GF.block (E _) ?_)
  refine GF.loop (E _) ?_
  refine GF.stop (E _) (fun w hF => ?_)
  exact HS.out _ W4 w ⟨_, _, _, _, _, _, _, _, _, _, _, _, _, _, _, _, _, _, _, _, _, _, _, _, _, _, _, _, _, _, _, rfl⟩ hEnt hF

theorem Ent.facts {w0 W w : World} {A off n : Nat} {ask : Nat → Nat × Nat} (h : Ent w0 n W) (hr : AtRel W w) (hA : 0 < n → A < w0.heap.size) (hA3 : A < w0.heap.size + 3) (h0 : ∀ i, i < n → w0.cell? ⟨A, off + i * 2, none⟩ = some (.int .i64 (ask i).1)) (h1 : ∀ i, i < n → w0.cell? ⟨A, off + i * 2 + 1, none⟩ = some (.int .i64 (ask i).2)) :
    StF (w0.heap.size + 2) w0.heap.size (w0.heap.size + 1) A off n ask w := by
  obtain ⟨d, rfl⟩ := hr
  have e := h.size
  have hs : (W.at d).heap.size = w0.heap.size + 3 := e
  have eA : 0 < n → (W.at d).heap[A]? = w0.heap[A]? := fun hn => h.low A (hA hn)
  exact ⟨(cell_of_block (w := W.at d) h.cb 0).trans rfl, fun i hi => (cell_eq (eA (by omega)) _).trans (h0 i hi), fun i hi => (cell_eq (eA (by omega)) _).trans (h1 i hi), ⟨0, 0, h.wg⟩, by omega, by omega, by omega, by omega⟩

theorem Ent.places {w0 : World} {A : Nat} (hA : A ≠ w0.heap.size + 2 ∧ A ≠ w0.heap.size) : StP (w0.heap.size + 2) w0.heap.size (w0.heap.size + 1) A := ⟨by omega, hA⟩

end Go.Proofs.Ythoaldiadgeonaa.Cr

namespace Go.Proofs.Ythoaldiadgeonaa.Cr
open Go.Conc Go.ConcR Go.RowKit Go.Conc.Lib Go.ConcR.Gen
open Go.ConcN (WgLive Has)
open Go.Joins (cell_of_block unfrozen_of_block block_setCell)

noncomputable def osRest2 : Code := match osRest with | .seq _ c => c | _ => .skip
/-- The starter behind the closing of the channel. -/
noncomputable def osList (T : Array Value) (cs : List Frame) : Goroutine := G ((base 27).at ⟨T, []⟩ [.code osRest2]) cs

set_option maxRecDepth 100000 in
set_option maxHeartbeats 2000000 in
theorem st_close {Shun : Loc → Prop} {Wg Ch cb A off n s r : Nat} {cap : Option Addr × Nat} {buf : Array Value} {tm : Bool} {T : Array Value} (hT : osT Wg cb A off n cap n T) (W : World) {cs : List Frame} {Stop : Goroutine → World → Prop}
    (hcb : W.cell? ⟨cb, 0, none⟩ = some (.chan (some Ch))) (hch : W.heap[Ch]? = some (.chan n buf false s r tm)) (hB1 : cb < W.heap.size) (hB2 : Ch < W.heap.size) (hSh : ¬ Shun (.cell ⟨cb, 0, none⟩)) (hSo : ¬ Shun (.obj Ch)) {M : Nat}
    (hS : ∀ T', osT Wg cb A off n cap n T' → GF Try.prog true AtRel (DF Shun) Stop (AtRel { W with heap := W.heap.setIfInBounds Ch (.chan n buf true s r tm) }) M (osList T' cs)) :
    GF Try.prog true AtRel (DF Shun) Stop (AtRel W) (M + 10) (osBehind T cs) := by
  obtain ⟨v1, v5, v6, v7, v8, v9, v10, v11, v15, v16, v17, v18, v19, v20, v21, v22, v23, v24, v25, v26, v27, v28, v29, v30, v31, v32, v33, v34, v35, v36, v37, rfl⟩ := hT
  have E : ∀ W, Hold AtRel (DF Shun) (AtRel W) := at_hold
  simp only [osBehind, osWaitOps, osRest, osEnd, osBody, Try.f27, Option.getD_some]
  have HS := _root_.Go.Lib.hid hS
  clear hS
  simp only [osList, osRest2, osRest, osEnd, osBody, Try.f27, Option.getD_some] at HS
  walk_nrm
  refine GF.regEnd (E _) ?_
  refine GF.seq (E _) ?_
  refine GF.reg (E _) ?_
  simp only [List.size_toArray, List.length_cons, List.length_nil, Nat.reduceAdd, Nat.zero_add, List.range, List.range.loop]
  refine GF.operE (E _) rfl rfl (base_kind _) osLoud (fun w hF K hK => ?_)
  obtain ⟨d, rfl⟩ := hF
  have c0 : (W.at d).cell? ⟨cb, 0, none⟩ = some (.chan (some Ch)) := hcb
  go_simp
  refine hK _ #[⟨.cell ⟨cb, 0, none⟩, false, false⟩] ⟨by simp [go_sem, *], by simp, ⟨Nat.le_refl _, fun e he => ?_⟩, ?_⟩
  · simp at he
    subst he
    exact tame_cell _ _ hSh hB1
  clear hK K c0 d
  try walk_nrm
  refine GF.operW (F' := AtRel { W with heap := W.heap.setIfInBounds Ch (.chan n buf true s r tm) }) (E _) rfl rfl (base_kind _) osLoud (fun w hF K hK => ?_)
  obtain ⟨d, rfl⟩ := hF
  have k1 := run_close_open (P := Try.prog) #[58] 0 (w := W.at d) hch
  have k2 := events_close_open (P := Try.prog) (es := #[]) #[58] 0 (w := W.at d) hch
  go_simp
  have hsz : (W.heap.setIfInBounds Ch (.chan n buf true s r tm)).size = W.heap.size := by simp
  refine hK _ _ #[⟨.obj Ch, false, true⟩, ⟨.obj Ch, true, true⟩] ⟨?_, by simp, ⟨by show W.heap.size ≤ (W.heap.setIfInBounds Ch _).size; rw [hsz]; exact Nat.le_refl _, fun e he => ?_⟩, ⟨d, rfl⟩, ?_⟩
  · simp [go_sem, k2]
  · simp at he
    rcases he with rfl | rfl
    · refine ⟨fun x hx => ?_, by show Ch < (W.heap.setIfInBounds Ch _).size; rw [hsz]; exact hB2, by simp, by simp, by simp⟩
      simp only [MemAct.ofEvent, MemAct.touch?, Option.some.injEq] at hx
      subst hx
      exact ⟨rfl, fun h => absurd h hSo⟩
    · exact ⟨fun x hx => by simp [MemAct.ofEvent, MemAct.touch?] at hx, by show Ch < (W.heap.setIfInBounds Ch _).size; rw [hsz]; exact hB2, by simp, by simp, by simp⟩
  clear hK K k1 k2 d
  try walk_nrm
  refine GF.le (n := M + 1) ?_ (by omega)
  refine GF.regEnd (E _) ?_
  exact HS.out _ ⟨v1, v5, v6, v7, v8, v9, v10, v11, v15, v16, v17, v18, v19, v20, v21, .tuple #[], .chan (some Ch), v24, v25, v26, v27, v28, v29, v30, v31, v32, v33, v34, v35, v36, v37, rfl⟩

end Go.Proofs.Ythoaldiadgeonaa.Cr

namespace Go.Proofs.Ythoaldiadgeonaa.Cr
open Go.Conc Go.ConcR Go.RowKit
open Go.ConcN

section
variable {j i : Nat} {D : Nat → WD} {tag : CTag} {st sm : Int}

theorem cnt_five {s m d : Nat} (h : 5 ≤ s) : cnt ⟨s, m, d⟩ = 1 := by simp [cnt, h]
theorem cnt_less {s m d : Nat} (h : s < 5) : cnt ⟨s, m, d⟩ = 0 := by simp [cnt]; omega

/-- One goes from 5 to 1: the others stand as they are. -/
theorem openSt_quit (h : OpenSt j D) (q d : Nat) : OpenSt j (upd D i ⟨1, q, d⟩) := fun a ha => by
  by_cases e : a = i
  · subst e; rw [upd_same]; simp
  · rw [upd_ne D _ e]; exact h a ha

theorem vc_quit (hi : i < j) (h : (D i).stage = 5) (q d : Nat) : Vc j (upd D i ⟨1, q, d⟩) + 1 = Vc j D := by
  have h1 := Vc_upd D (⟨1, q, d⟩ : WD) hi
  have c1 : cnt (D i) = 1 := by simp [cnt, h]
  have c2 : cnt (⟨1, q, d⟩ : WD) = 0 := rfl
  omega

/-- THE ATOMIC ADD OF -1. -/
theorem mode_minus (hm : ConcN.Mode j D tag st sm) (hi : i < j) (h5 : (D i).stage = 5) (hj : j + pend tag < 2147483648) :
    ∃ v wt : Nat, wt ≤ 1 ∧ v < 2147483647 ∧ st = ((v : Int) + 1) * KK + wt ∧ sm = 0 ∧
      ((v = 0 ∧ wt = 1) → ∀ m d, ConcN.Mode j (upd D i ⟨4, m, d⟩) tag ((v : Int) * KK + wt) 0) ∧ (¬ (v = 0 ∧ wt = 1) → ∀ q d, ConcN.Mode j (upd D i ⟨1, q, d⟩) tag ((v : Int) * KK + wt) 0) := by
  have hc1 : cnt (D i) = 1 := by simp [cnt, h5]
  have hV1 : 1 ≤ Vc j D := by have := le_sumTo (f := fun x => cnt (D x)) hi; simp only [Vc]; omega
  have hVj := Vc_le j D
  cases hm with
  | opn h1 h2 h3 =>
    obtain ⟨v, hv⟩ : ∃ v, Vc j D + pend tag = v + 1 := ⟨Vc j D + pend tag - 1, by omega⟩
    refine ⟨v, 0, by omega, by omega, by rw [hv]; simp, rfl, fun x => by omega, fun _ q d => ?_⟩
    have hv' : Vc j (upd D i ⟨1, q, d⟩) + pend tag = v := by have := vc_quit hi h5 q d; omega
    have e : (v : Int) * KK + ((0 : Nat) : Int) = ((Vc j (upd D i ⟨1, q, d⟩) + pend tag : Nat) : Int) * KK := by rw [hv']; simp
    rw [e]
    exact .opn h1 (openSt_quit h2 q d) (fun vs ev => by have := h3 vs ev; have := vc_quit hi h5 q d; omega)
  | reg h1 h2 h3 =>
    obtain ⟨v, hv⟩ : ∃ v, Vc j D = v + 1 := ⟨Vc j D - 1, by omega⟩
    refine ⟨v, 1, by omega, by omega, by rw [hv]; simp, rfl, fun ⟨hv0, _⟩ m d => ?_, fun hne q d => ?_⟩
    · subst hv0
      have hoth : ∀ a, a < j → a ≠ i → (D a).stage = 1 := fun a ha e => by
        have c0 := others_uncounted hi hv hc1 a ha e
        have := h2 a ha
        simp only [cnt] at c0
        split at c0 <;> omega
      have := ConcN.Mode.last (j := j) (D := upd D i ⟨4, m, d⟩) (tag := tag) i h1 hi (by rw [upd_same]; simp) (fun a ha e => by rw [upd_ne D _ e]; exact hoth a ha e)
      rw [upd_same] at this
      simpa using this
    · have hv' : Vc j (upd D i ⟨1, q, d⟩) = v := by have := vc_quit hi h5 q d; omega
      have e : (v : Int) * KK + ((1 : Nat) : Int) = ((Vc j (upd D i ⟨1, q, d⟩) : Nat) : Int) * KK + 1 := by rw [hv']; simp
      rw [e]
      exact .reg h1 (openSt_quit h2 q d) (by omega)
  | last L _ h2 h3 h4 =>
    by_cases e : i = L
    · subst e; omega
    · have := h4 i hi e; omega
  | sema h2 => have := h2 i hi; omega
  | fin _ h2 => have := h2 i hi; omega

/-- The last one's steps. -/
theorem mode_lastGo (hm : ConcN.Mode j D tag st sm) (hi : i < j) {s s' : Nat} (hs : (D i).stage = s) (h : (s = 4 ∧ s' = 3) ∨ (s = 3 ∧ s' = 2)) :
    st = 1 ∧ sm = 0 ∧ ∀ m d, ConcN.Mode j (upd D i ⟨s', m, d⟩) tag (if s' = 2 then 0 else 1) 0 := by
  obtain ⟨h1, h2, h3, h4⟩ := hm.isLast hi (by omega)
  refine ⟨by rw [h3, hs]; rcases h with ⟨rfl, _⟩ | ⟨rfl, _⟩ <;> rfl, h4, fun m d => ?_⟩
  have := ConcN.Mode.last (j := j) (D := upd D i ⟨s', m, d⟩) (tag := tag) i h1 hi (by rw [upd_same]; show s' = 4 ∨ s' = 3 ∨ s' = 2; omega) (fun a ha e => by rw [upd_ne D _ e]; exact h2 a ha e)
  rw [upd_same] at this
  exact this

/-- The raising of the semaphore. -/
theorem mode_raise (hm : ConcN.Mode j D tag st sm) (hi : i < j) (hs : (D i).stage = 2) : isW3 tag ∧ st = 0 ∧ sm = 0 ∧ ∀ q d, ConcN.Mode j (upd D i ⟨1, q, d⟩) .w3 0 1 := by
  obtain ⟨h1, h2, h3, h4⟩ := hm.isLast hi (by omega)
  refine ⟨h1, by rw [h3, hs]; rfl, h4, fun q d => .sema fun a ha => ?_⟩
  by_cases e : a = i
  · subst e; rw [upd_same]
  · rw [upd_ne D _ e]; exact h2 a ha e
end

end Go.Proofs.Ythoaldiadgeonaa.Cr

namespace Go.Proofs.Ythoaldiadgeonaa.Cr
open Go.Conc Go.ConcR Go.RowKit Go.Conc.Lib Go.ConcR.Gen
open Go.ConcN (WgLive Has RW DWs AtR0)

section
variable {P : Program} {R : World → World → Prop} {ty : TypeId} {Wg C n Low k : Nat} {v : Value}
/-- Ahead of 'race.Disable'. -/
def StDi (P : Program) (g : Goroutine) (w : World) : Prop := g.status = .running ∧ ∃ g', stepG P false g w = .go g' w #[mk .disable]
/-- Ahead of the release; a few idle steps behind it 'race.Disable'. -/
def StRm (P : Program) (R : World → World → Prop) (Wg : Nat) (g : Goroutine) (w : World) : Prop :=
  g.status = .running ∧ ∃ g', stepG P false g w = .go g' w #[mk (.releaseMerge (stA Wg))] ∧ ∃ m, Goes P false R DC0 (StDi P) m g' w

theorem notYet {Own Rd : Nat → Loc → Prop} (rr : ∀ w, RW ty Wg C n Low (k - 1) w w) : ∀ (m m' : Nat) (g : Goroutine) (w : World), Goes P false (RW ty Wg C n Low (k - 1)) DC0 (StDi P) m g w →
    Goes P false (RW ty Wg C n Low (k - 1)) (DWs Wg Own Rd C n k) (AtR0 P ty Wg C n Low k v) m' g w → False := by
  intro m
  induction m with
  | zero =>
    intro m' g w h h'
    obtain ⟨_, g1, e1⟩ := h w (rr w)
    rcases Goes.cases h' with hs | ⟨m', rfl, hs⟩
    · obtain ⟨_, _, g2, e2, _⟩ := hs w (rr w)
      rw [e1] at e2
      simp [mk] at e2
    · obtain ⟨g2, w2, es, e2, ⟨_, hev⟩, _⟩ := hs w (rr w)
      rw [e1] at e2
      injection e2 with _ _ e3
      exact (hev (mk .disable) (by rw [← e3]; simp)).2.1 rfl
  | succ m ih =>
    intro m' g w h h'
    rcases Goes.cases h with hs0 | ⟨m0, hm0, hs0⟩
    · exact ih m' g w (Goes.stop hs0) h'
    · obtain rfl : m0 = m := by omega
      obtain ⟨g1, w1, es1, e1, ⟨rfl, rfl⟩, hg1⟩ := hs0 w (rr w)
      rcases Goes.cases h' with hs | ⟨m', rfl, hs⟩
      · obtain ⟨_, _, g2, e2, _⟩ := hs w1 (rr w1)
        rw [e1] at e2
        simp at e2
      · obtain ⟨g2, w2, es, e2, _, hg2⟩ := hs w1 (rr w1)
        rw [e1] at e2
        injection e2 with e3 e4 _
        subst e3; subst e4
        exact ih m' _ _ hg1 hg2

/-- Two walks of one goroutine: the library's, and one that tells that nothing turns. -/
theorem both_walks {Own Rd : Nat → Loc → Prop} (rr : ∀ w, RW ty Wg C n Low (k - 1) w w) (tr : ∀ a b c, RW ty Wg C n Low (k - 1) a b → RW ty Wg C n Low (k - 1) b c → RW ty Wg C n Low (k - 1) a c) : ∀ (m m' : Nat) (g : Goroutine) (w : World), Goes P false (RW ty Wg C n Low (k - 1)) DC0 (StRm P (RW ty Wg C n Low (k - 1)) Wg) m g w →
    Goes P false (RW ty Wg C n Low (k - 1)) (DWs Wg Own Rd C n k) (AtR0 P ty Wg C n Low k v) m' g w → Goes P false (RW ty Wg C n Low (k - 1)) DC0 (AtR0 P ty Wg C n Low k v) m g w := by
  have stop : ∀ (m' : Nat) (g : Goroutine) (w : World), StRm P (RW ty Wg C n Low (k - 1)) Wg g w → Goes P false (RW ty Wg C n Low (k - 1)) (DWs Wg Own Rd C n k) (AtR0 P ty Wg C n Low k v) m' g w → AtR0 P ty Wg C n Low k v g w := by
    intro m' g w h h'
    obtain ⟨_, g1, e1, m1, hg1⟩ := h
    rcases Goes.cases h' with hs | ⟨m', rfl, hs⟩
    · exact hs w (rr w)
    · obtain ⟨g2, w2, es, e2, _, hg2⟩ := hs w (rr w)
      rw [e1] at e2
      injection e2 with e3 e4 _
      subst e3; subst e4
      exact (notYet rr _ _ _ _ hg1 hg2).elim
  intro m
  induction m with
  | zero => intro m' g w h h'; exact fun w₁ h₁ => stop m' g w₁ (h w₁ h₁) (Goes.rely tr h' h₁)
  | succ m ih =>
    intro m' g w h h'
    rcases h with hs0 | ⟨hrun, hs0⟩
    · exact .inl fun w₁ h₁ => stop m' g w₁ (hs0 w₁ h₁) (Goes.rely tr h' h₁)
    · refine .inr ⟨hrun, fun w₁ h₁ => ?_⟩
      obtain ⟨g1, w1, es1, e1, ⟨rfl, rfl⟩, hg1⟩ := goes_elim (hs0 w₁ h₁)
      rw [e1]
      refine ⟨⟨rfl, rfl⟩, ?_⟩
      rcases Goes.cases (Goes.rely tr h' h₁) with hs | ⟨m', rfl, hs⟩
      · obtain ⟨_, _, g2, e2, _⟩ := hs w1 (rr w1)
        rw [e1] at e2
        simp at e2
      · obtain ⟨g2, w2, es, e2, _, hg2⟩ := hs w1 (rr w1)
        rw [e1] at e2
        injection e2 with e3 e4 _
        subst e3; subst e4
        exact ih m' _ _ hg1 hg2
end

section
variable {P : Program} {R : World → World → Prop} {F : World → Prop} {L : WgLink}
set_option maxRecDepth 100000 in
set_option maxHeartbeats 8000000 in
/-- The deferred Done, up to its release. -/
theorem doneRm (H : WgLib P L) (E : Hold R DC0 F) {Wg : Nat} (live : ∀ w, F w → ∃ st sm, WgAt L.tWg Wg w st sm) {c : Frame} {cs : List Frame} :
    GF P false R DC0 (StRm P R Wg) F 30 (G ((baseD L.done).at ⟨#[.pointer (some ⟨Wg, 0, none⟩), undef, undef, undef], []⟩ [.code (body_done L)]) (c :: cs)) := by
  lib_facts
  simp only [body_done, doneFn, Option.getD_some]
  repeat (first
    | refine GF.seq E ?_
    | refine GF.regEnd E ?_
    | refine GF.nop E ?_
    | (refine GF.reg E ?_; simp only [List.size_toArray, List.length_cons, List.length_nil, Nat.reduceAdd, Nat.zero_add, List.range, List.range.loop])
    | (refine GF.cond E (t := true) rfl ?_; simp only [↓reduceIte])
    | (refine GF.oper E rfl rfl (by k_ne) rfl (fun w hF K hK => ?_); go_simp; refine hK _ ⟨?_, ?_⟩; (· intro e he; first | (simp [go_sem] at he; done) | (simp [go_sem, *] at he; done)); clear hK K hF w; (try (walk_nrm)); (try (w_num)))
    | (refine GF.skip E rfl rfl ?_; (try (walk_nrm)))
    | (refine GF.call E rfl rfl (by k_ne) rfl H.f_add (nm_add L) rfl ?_; walk_nrmf addFn))
  refine GF.oper E rfl rfl (by k_ne) rfl (fun w hF K hK => ?_)
  obtain ⟨st, sm, hw⟩ := live w hF
  have hcv := run_convert_to_unsafe (P := P) H.underlying_tWgP H.underlying_tUP H.room_tWg (a := ⟨Wg, 0, none⟩) hw.cellSt
  have hce := fun es => events_convert_to_unsafe (P := P) H.underlying_tWgP H.underlying_tUP H.room_tWg (a := ⟨Wg, 0, none⟩) hw.cellSt es
  go_simp
  refine hK _ ⟨?_, ?_⟩
  · intro e he
    simp [go_sem, hce] at he
  clear hK K hcv hce hw hF w
  refine GF.stop E (fun w hF => ⟨rfl, _, stepG_markAt .releaseMerge (by simp) rfl rfl (by k_ne) rfl H.f_relMerge (x_relMerge_n L) (x_relMerge_b L) (x_relMerge_x L) (x_relMerge_f L) (by simp [Act.eval, stA]), 10, ?_⟩)
  refine (?_ : GF P false R DC0 (StDi P) F 10 _) w hF
  clear hF w
  walk_nrm
  repeat (first
    | refine GF.seq E ?_
    | refine GF.regEnd E ?_
    | refine GF.nop E ?_
    | (refine GF.reg E ?_; simp only [List.size_toArray, List.length_cons, List.length_nil, Nat.zero_add, List.range, List.range.loop])
    | (refine GF.cond E (t := true) rfl ?_; simp only [↓reduceIte])
    | (refine GF.oper E rfl rfl (by k_ne) rfl (fun w hF K hK => ?_); go_simp; refine hK _ ⟨?_, ?_⟩; (· intro e he; first | (simp [go_sem] at he; done) | (simp [go_sem, *] at he; done)); clear hK K hF w; (try (walk_nrm)); (try (w_num)))
    | (refine GF.skip E rfl rfl ?_; (try (walk_nrm)))
    | (refine GF.call E rfl rfl (by k_ne) rfl H.f_add (nm_add L) rfl ?_; walk_nrmf addFn))
  exact GF.stop E (fun w hF => ⟨rfl, _, stepG_mark0 .disable (by simp) rfl rfl (by k_ne) rfl H.f_disable (x_disable_n L) (x_disable_b L) (x_disable_x L) (x_disable_f L)⟩)
end

open Go.ConcN Go.ConcN.Gen in
set_option maxRecDepth 100000 in
set_option maxHeartbeats 4000000 in
theorem wk_done0 {Wg C n k : Nat} {val : Value} {T : Array Value} (w : World) (hK : WgLive wgl.tWg Wg w ∧ Has C (k - 1) val w) :
    Goes Try.prog false (RW wgl.tWg Wg C n 0 (k - 1)) DC0 (AtR0 Try.prog wgl.tWg Wg C n 0 k val) 40 (G (wkB.at ⟨T, [dcall 50 #[.pointer (some ⟨Wg, 0, none⟩)]]⟩ [.inRegion wkOps []]) [bot]) w := by
  refine both_walks (Own := fun _ _ => False) (Rd := fun _ _ => False) (fun w => RW.refl w) (fun _ _ _ h h' => h.trans h') _ _ _ _ ?_ (wk_done w hK)
  have E : Hold (RW wgl.tWg Wg C n 0 (k - 1)) DC0 (fun w => WgLive wgl.tWg Wg w ∧ Has C (k - 1) val w) := ⟨fun _ _ h r => kn_rely h r, fun w => ⟨rfl, rfl⟩⟩
  refine (?_ : GF Try.prog false (RW wgl.tWg Wg C n 0 (k - 1)) DC0 (StRm Try.prog (RW wgl.tWg Wg C n 0 (k - 1)) Wg) (fun w => WgLive wgl.tWg Wg w ∧ Has C (k - 1) val w) 40 _) w hK
  clear hK w
  refine GF.regEnd E ?_
  refine GF.fin E ?_
  refine GF.ctl E rfl (fun w => stepG_unwind_enter (a := ⟨T, [dcall 50 #[.pointer (some ⟨Wg, 0, none⟩)]]⟩) rfl Try.func50 (nm_done wgl) rfl) ?_
  refine GF.le (n := 30) ?_ (by omega)
  have hA := @doneRm Try.prog _ _ wgl wgLib E Wg (fun w h => h.1) { wkB.at ⟨T, []⟩ [] with mode := .returning } [bot]
  simp only [body_done, doneFn, Option.getD_some] at hA
  walk_nrm
  exact hA

end Go.Proofs.Ythoaldiadgeonaa.Cr
