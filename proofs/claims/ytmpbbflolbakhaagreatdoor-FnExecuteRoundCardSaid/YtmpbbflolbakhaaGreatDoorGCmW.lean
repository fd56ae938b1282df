/-
  Chapter 9: a line's answer: the deferred closure where nothing panics; the tables of words.
  Chapter 9: the tables of words.
-/
import Derived.Test.YtmpbbflolbakhaaGreatDoorGCmA
import Derived.Defers
import Derived.Recover
import Derived.Laws.Pointers
import Derived.MapFrom
namespace Go.Proofs.YtmpbbflolbakhaaGreatDoor
open Go.RowKit Go.MapKept

theorem set_new (w : World) (o o' : Obj) : ({ (w.alloc o) with heap := (w.alloc o).heap.setIfInBounds w.heap.size o' } : World) = w.alloc o' := by
  have h : (w.heap.push o).setIfInBounds w.heap.size o' = w.heap.push o' := by
    apply Array.ext_getElem?
    intro i
    rw [Array.getElem?_setIfInBounds, Array.getElem?_push, Array.getElem?_push]
    by_cases h : w.heap.size = i
    · subst h; simp
    · simp [h, Ne.symm h]
  show ({ (w.alloc o) with heap := (w.heap.push o).setIfInBounds w.heap.size o' } : World) = _
  rw [h]; rfl
theorem wpList_insert_new {P : Program} (w : World) {ops : Array Oper} {rest : List Oper} {o : Oper} {a : Act} {Q : Exit → Act → World → Prop}
    (hg : o.guard = none) (m x v : Operand) (t : TypeId) (hop : o.op = Op.insert t m x v) (k e : TypeId) (ht : P.underlying t = some (.map k e)) (hk : P.underlying k = some .string)
    (es : Array MapEntry) (c : Nat) (hm : a.eval m = .map (some w.heap.size)) (key : ByteArray) (hx : a.eval x = .string key) (val : Value) (hv : a.eval v = val)
    (hnew : Instr.findNow .string (.string key) es.toList 0 = some none)
    (h : wpList P ops Q rest (a.put o.dst undef) (w.alloc (.map (es.push { key := .string key, val := val, born := c }) (c + 1)))) :
    wpList P ops Q (o :: rest) a (w.alloc (.map es c)) := by
  refine wpList_plain hg fun K' hK' => ?_
  have hb := (heap_alloc w (.map es c)).1
  have hrun : (Instr.mapUpdate t (.map (some w.heap.size)) (.string key) val).run P (w.alloc (.map es c)) = .ok () (w.alloc (.map (es.push { key := .string key, val := val, born := c }) (c + 1))) := by
    simp only [Instr.mapUpdate, Sem.run_bind, run_underlying ht, MapKept.run_getObj_map hb, MapKept.run_checkKey hk (k := .string key) trivial, MapKept.run_findKey hk hnew, MapKept.run_setObj_map _ hb, Result.andThen, set_new]
  unfold Oper.wp
  simp [execOp, hop, hm, hx, hv, hrun, Result.andThen]
  exact hK' _ _ h

set_option maxRecDepth 100000 in
set_option maxHeartbeats 1000000 in
theorem caught_idle (p : Addr) (w : World) :
    CallsD Tryz.prog 43 #[.pointer (some p)] .returning w fun e u' w' => e = .returned (.tuple #[]) ∧ u' = .returning ∧ w' = w := by
  have hta : ∀ (t : TypeId) w, (Instr.typeAssert Value.nilIface t 74 true).run Tryz.prog w = .ok (.tuple #[.string ⟨#[]⟩, .bool false]) w := fun t w => by rfl
  refine callsD_of_wpS Tryz.func43 rfl fun c₀ cs hu => ?_
  apply wpS_seq
  apply wpS_region
  simp [wpOpsS, go_sem, recoverD, hu, Tryz.ntmps43, Exit.thenS, hta]
  apply wpS_seq
  apply wpS_region
  simp [wpOpsS, go_sem, Exit.thenS]
  refine wpS_cond (t := false) (by simp [Act.eval, Array.replicate]) ?_
  simp only [Bool.false_eq_true, if_false]
  refine wpS_of_wp (wp_skip ?_)
  cases c₀
  simp_all [bodyPostS, results, Tryz.results43]

end Go.Proofs.YtmpbbflolbakhaaGreatDoor

namespace Go.Proofs.YtmpbbflolbakhaaGreatDoor
open Go.RowKit Go.MapKept

/-- A word looked up. -/
theorem run_look_hit {P : Program} (W : World) {mt kt et : TypeId} (ht : P.underlying mt = some (.map kt et)) (hk : P.underlying kt = some .string) {r c : Nat} {es : Array MapEntry} (hb : W.heap[r]? = some (.map es c)) {key : ByteArray} {i : Nat} {v : Value}
    (hn : Instr.findNow .string (.string key) es.toList 0 = some (some (i, v))) : (Instr.lookup mt (.map (some r)) (.string key) true).run P W = .ok (.tuple #[v, .bool true]) W := by
  simp [Instr.lookup, run_underlying ht, MapKept.run_getObj_map hb, MapKept.run_checkKey hk (k := .string key) trivial, MapKept.run_findKey hk hn, Result.andThen]
theorem run_look_miss {P : Program} (W : World) {mt kt et : TypeId} (ht : P.underlying mt = some (.map kt et)) (hk : P.underlying kt = some .string) {r c : Nat} {es : Array MapEntry} (hb : W.heap[r]? = some (.map es c)) {key : ByteArray} {z : Value}
    (hz : (zeroValue et).run P W = .ok z W) (hn : Instr.findNow .string (.string key) es.toList 0 = some none) : (Instr.lookup mt (.map (some r)) (.string key) true).run P W = .ok (.tuple #[z, .bool false]) W := by
  simp [Instr.lookup, run_underlying ht, MapKept.run_getObj_map hb, MapKept.run_checkKey hk (k := .string key) trivial, MapKept.run_findKey hk hn, hz, Result.andThen]

/-- The words without a rest, the words with one. -/
def loneEs : Array MapEntry := #[
  { key := .string ⟨#[111, 116, 104, 101, 114]⟩, val := .func (.func 62) #[] #[], born := 0 },
  { key := .string ⟨#[115, 104, 111, 119]⟩, val := .func (.func 63) #[] #[], born := 1 },
  { key := .string ⟨#[98, 101, 103, 105, 110]⟩, val := .func (.func 64) #[] #[], born := 2 },
  { key := .string ⟨#[114, 111, 117, 110, 100]⟩, val := .func (.func 65) #[] #[], born := 3 },
  { key := .string ⟨#[108, 101, 110, 103, 116, 104, 115]⟩, val := .func (.func 66) #[] #[], born := 4 },
  { key := .string ⟨#[114, 101, 115, 116, 115]⟩, val := .func (.func 67) #[] #[], born := 5 },
  { key := .string ⟨#[97, 103, 97, 105, 110]⟩, val := .func (.func 68) #[] #[], born := 6 },
  { key := .string ⟨#[104, 97, 108, 118, 101, 115]⟩, val := .func (.func 69) #[] #[], born := 7 },
  { key := .string ⟨#[99, 111, 117, 110, 116, 115]⟩, val := .func (.func 70) #[] #[], born := 8 },
  { key := .string ⟨#[115, 117, 109]⟩, val := .func (.func 71) #[] #[], born := 9 },
  { key := .string ⟨#[114, 117, 110, 115]⟩, val := .func (.func 72) #[] #[], born := 10 }]
def restEs : Array MapEntry := #[
  { key := .string ⟨#[98, 97, 115, 101]⟩, val := .agg #[.int .i64 1, .func (.func 73) #[] #[]], born := 0 },
  { key := .string ⟨#[102, 114, 97, 99]⟩, val := .agg #[.int .i64 2, .func (.func 74) #[] #[]], born := 1 },
  { key := .string ⟨#[115, 104, 105, 102, 116]⟩, val := .agg #[.int .i64 1, .func (.func 75) #[] #[]], born := 2 },
  { key := .string ⟨#[116, 105, 109, 101, 115]⟩, val := .agg #[.int .i64 1, .func (.func 76) #[] #[]], born := 3 },
  { key := .string ⟨#[97, 100, 100]⟩, val := .agg #[.int .i64 2, .func (.func 77) #[] #[]], born := 4 },
  { key := .string ⟨#[100, 105, 103, 105, 116, 115]⟩, val := .agg #[.int .i64 1, .func (.func 78) #[] #[]], born := 5 },
  { key := .string ⟨#[97, 116]⟩, val := .agg #[.int .i64 1, .func (.func 79) #[] #[]], born := 6 },
  { key := .string ⟨#[109, 97, 110, 121]⟩, val := .agg #[.int .i64 1, .func (.func 80) #[] #[]], born := 7 },
  { key := .string ⟨#[111, 114, 100, 101, 114]⟩, val := .agg #[.int .i64 1, .func (.func 81) #[] #[]], born := 8 },
  { key := .string ⟨#[111, 110, 101, 115]⟩, val := .agg #[.int .i64 1, .func (.func 82) #[] #[]], born := 9 },
  { key := .string ⟨#[101, 110, 116, 101, 114, 115]⟩, val := .agg #[.int .i64 1, .func (.func 83) #[] #[]], born := 10 },
  { key := .string ⟨#[102, 117, 108, 108]⟩, val := .agg #[.int .i64 1, .func (.func 84) #[] #[]], born := 11 },
  { key := .string ⟨#[117, 110, 105, 116, 115]⟩, val := .agg #[.int .i64 1, .func (.func 85) #[] #[]], born := 12 },
  { key := .string ⟨#[109, 111, 115, 116]⟩, val := .agg #[.int .i64 1, .func (.func 86) #[] #[]], born := 13 },
  { key := .string ⟨#[112, 97, 114, 116, 115]⟩, val := .agg #[.int .i64 1, .func (.func 87) #[] #[]], born := 14 },
  { key := .string ⟨#[109, 117, 108, 116, 105, 112, 108, 101]⟩, val := .agg #[.int .i64 1, .func (.func 88) #[] #[]], born := 15 },
  { key := .string ⟨#[102, 105, 110, 100]⟩, val := .agg #[.int .i64 2, .func (.func 89) #[] #[]], born := 16 },
  { key := .string ⟨#[99, 121, 99, 108, 105, 99]⟩, val := .agg #[.int .i64 1, .func (.func 90) #[] #[]], born := 17 },
  { key := .string ⟨#[114, 105, 103, 104, 116]⟩, val := .agg #[.int .i64 3, .func (.func 91) #[] #[]], born := 18 }]

set_option maxRecDepth 100000 in
set_option maxHeartbeats 4000000 in
theorem loneWords_any (w : World) : Calls Tryz.prog 45 #[] w fun e w' => e = .returned (.map (some w.heap.size)) ∧ w' = w.alloc (.map loneEs 11) := by
  have hmk : ∀ w : World, (Instr.makeMap 80 none).run Tryz.prog w = .ok (.map (some w.heap.size)) (w.alloc (.map #[] 0)) := fun w => rfl
  go_enter Tryz.func45, Tryz.ntmps45
  go_wp2_with (refine wpList_insert_new w rfl _ _ _ _ rfl _ _ Tryz.underlying80 Tryz.underlying9 _ _ rfl _ rfl _ rfl rfl ?_)
  go_ret
  exact ⟨rfl, rfl⟩
set_option maxRecDepth 100000 in
set_option maxHeartbeats 4000000 in
theorem restWords_any (w : World) : Calls Tryz.prog 46 #[] w fun e w' => e = .returned (.map (some w.heap.size)) ∧ w' = w.alloc (.map restEs 19) := by
  have hmk : ∀ w : World, (Instr.makeMap 86 none).run Tryz.prog w = .ok (.map (some w.heap.size)) (w.alloc (.map #[] 0)) := fun w => rfl
  go_enter Tryz.func46, Tryz.ntmps46
  go_wp2_with (refine wpList_insert_new w rfl _ _ _ _ rfl _ _ Tryz.underlying86 Tryz.underlying9 _ _ rfl _ rfl _ rfl rfl ?_)
  go_ret
  exact ⟨rfl, rfl⟩


end Go.Proofs.YtmpbbflolbakhaaGreatDoor
