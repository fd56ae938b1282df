/-
  Chapter 9: a line's answer: the deferred closure where nothing panics; the tables of words.
-/
import Derived.Test.YtmpbbflolbakhaaGreatDoorCmdN
import Derived.Defers
import Derived.Recover
import Derived.Laws.Pointers
import Derived.MapFrom
namespace Go.Proofs.YtmpbbflolbakhaaGreatDoor
open Go.RowKit Go.MapKept

theorem set_new (w : World) (o o' : Obj) : ({ (w.alloc o) with heap := (w.alloc o).heap.setIfInBounds w.heap.size o' } : World) = w.alloc o' := by
  have h : (w.heap.push o).setIfInBounds w.heap.size o' = w.heap.push o' := by
    apply Array.ext_getElem?
    intro i
    rw [Array.getElem?_setIfInBounds, Array.getElem?_push, Array.getElem?_push]
    by_cases h : w.heap.size = i
    · subst h; simp
    · simp [h, Ne.symm h]
  show ({ (w.alloc o) with heap := (w.heap.push o).setIfInBounds w.heap.size o' } : World) = _
  rw [h]; rfl
theorem wpList_insert_new {P : Program} (w : World) {ops : Array Oper} {rest : List Oper} {o : Oper} {a : Act} {Q : Exit → Act → World → Prop}
    (hg : o.guard = none) (m x v : Operand) (t : TypeId) (hop : o.op = Op.insert t m x v) (k e : TypeId) (ht : P.underlying t = some (.map k e)) (hk : P.underlying k = some .string)
    (es : Array MapEntry) (c : Nat) (hm : a.eval m = .map (some w.heap.size)) (key : ByteArray) (hx : a.eval x = .string key) (val : Value) (hv : a.eval v = val)
    (hnew : Instr.findNow .string (.string key) es.toList 0 = some none)
    (h : wpList P ops Q rest (a.put o.dst undef) (w.alloc (.map (es.push { key := .string key, val := val, born := c }) (c + 1)))) :
    wpList P ops Q (o :: rest) a (w.alloc (.map es c)) := by
  refine wpList_plain hg fun K' hK' => ?_
  have hb := (heap_alloc w (.map es c)).1
  have hrun : (Instr.mapUpdate t (.map (some w.heap.size)) (.string key) val).run P (w.alloc (.map es c)) = .ok () (w.alloc (.map (es.push { key := .string key, val := val, born := c }) (c + 1))) := by
    simp only [Instr.mapUpdate, Sem.run_bind, run_underlying ht, MapKept.run_getObj_map hb, MapKept.run_checkKey hk (k := .string key) trivial, MapKept.run_findKey hk hnew, MapKept.run_setObj_map _ hb, Result.andThen, set_new]
  unfold Oper.wp
  simp [execOp, hop, hm, hx, hv, hrun, Result.andThen]
  exact hK' _ _ h

set_option maxRecDepth 100000 in
set_option maxHeartbeats 1000000 in
theorem caught_idle (p : Addr) (w : World) :
    CallsD Tryz.prog 43 #[.pointer (some p)] .returning w fun e u' w' => e = .returned (.tuple #[]) ∧ u' = .returning ∧ w' = w := by
  have hta : ∀ (t : TypeId) w, (Instr.typeAssert Value.nilIface t 74 true).run Tryz.prog w = .ok (.tuple #[.string ⟨#[]⟩, .bool false]) w := fun t w => by rfl
  refine callsD_of_wpS Tryz.func43 rfl fun c₀ cs hu => ?_
  apply wpS_seq
  apply wpS_region
  simp [wpOpsS, go_sem, recoverD, hu, Tryz.ntmps43, Exit.thenS, hta]
  apply wpS_seq
  apply wpS_region
  simp [wpOpsS, go_sem, Exit.thenS]
  refine wpS_cond (t := false) (by simp [Act.eval, Array.replicate]) ?_
  simp only [Bool.false_eq_true, if_false]
  refine wpS_of_wp (wp_skip ?_)
  cases c₀
  simp_all [bodyPostS, results, Tryz.results43]

end Go.Proofs.YtmpbbflolbakhaaGreatDoor
