/-
  errors.As at a target of the struct type noMultiple: without an error it is false and reads nothing; with an error of that very type it is true.
  Chapter 4, the program's side: the multiple of nines, where the variable that errors.As reads is laid as the program's text lays it.
  What a row that lists errors.errorType gives a walk: the variable's cell; a world in which it is laid.
-/
import Derived.Test.YtehpgcgdcoahnadDoorIn
import Derived.Stop.Asserts
import Derived.LaidEql
import Derived.RowKitTokens
import Derived.Laws.CopyRow
import Derived.Test.YtehpgcgdcoahnadDoorPartX
import Derived.Test.YtehpgcgdcoahnadDoorRows
import Derived.ChangeSame
import Derived.ChangeVars
import Derived.JoinedOf
import Derived.RowKit
import Derived.LaidLaws
import Derived.LaidHandle
import Derived.Stop.Joined
namespace Go.Proofs.YtehpgcgdcoahnadDoor
open Go.RowKit Go.Extern.Stop Go.Stop Go.Extern

/-- Without an error. -/
theorem as_none (t : Value) (w : World) : Calls Tryd.prog 18 #[.nilIface, t] w fun e w' => e = .returned (.bool false) ∧ w' = w := by
  go_enter Tryd.func18, Tryd.ntmps18
  go_wp2
  go_ret
  exact ⟨rfl, rfl⟩

/-! The model's answers on the types met here. -/
theorem rf_valueOfP (t : Addr) (w : World) : (ReflectliteValue.unpack (.iface 47 (.pointer (some t)))).run Tryd.prog w
    = .ok (.agg #[.pointer (some ⟨1, 47, none⟩), .pointer (some ⟨w.heap.size, 0, none⟩), .int .u64 150]) (w.alloc (.cells #[.pointer (some t)] 47)) := by kernel_rfl
theorem rf_typeP (a : Addr) (w : World) : (ReflectliteValue.methodAny (ReflectliteValue.valueError "reflectlite.Value.Type" 0) (fun t _ _ _ => ReflectliteType.toType t) #[.agg #[.pointer (some ⟨1, 47, none⟩), .pointer (some a), .int .u64 150]]).run Tryd.prog w
    = .ok (.iface 94 (.agg #[.pointer (some ⟨1, 47, none⟩)])) w := by kernel_rfl
theorem rf_kindM (h : Value) (w : World) : (Go.method 244 94 (.agg #[h]) "Kind").run Tryd.prog w = .ok (75, h) w := by kernel_rfl
theorem rf_kindP (w : World) : ((ReflectliteType.abiMethod fun t => (fun a : Nat => Value.int IntKind.u8 (a : Int)) <$> Rtype.kind t) #[.pointer (some ⟨1, 47, none⟩)]).run Tryd.prog w = .ok (.int .u8 22) w := by kernel_rfl
theorem rf_kindE (w : World) : ((ReflectliteType.abiMethod fun t => (fun a : Nat => Value.int IntKind.u8 (a : Int)) <$> Rtype.kind t) #[.pointer (some ⟨1, 45, none⟩)]).run Tryd.prog w = .ok (.int .u8 25) w := by kernel_rfl
theorem rf_partsP (a : Addr) (w : World) : (ReflectliteValue.parts (.agg #[.pointer (some ⟨1, 47, none⟩), .pointer (some a), .int .u64 150])).run Tryd.prog w = .ok (some (47, a, 150)) w := by kernel_rfl
theorem rf_elemM (h : Value) (w : World) : (Go.method 244 94 (.agg #[h]) "Elem").run Tryd.prog w = .ok (85, .agg #[h]) w := by kernel_rfl
theorem rf_implM (h : Value) (w : World) : (Go.method 244 94 (.agg #[h]) "Implements").run Tryd.prog w = .ok (86, .agg #[h]) w := by kernel_rfl
theorem rf_assM (h : Value) (w : World) : (Go.method 244 94 (.agg #[h]) "AssignableTo").run Tryd.prog w = .ok (83, .agg #[h]) w := by kernel_rfl
theorem rf_elemP (w : World) : (ReflectliteType.method ReflectliteType.elem #[.agg #[.pointer (some ⟨1, 47, none⟩)]]).run Tryd.prog w = .ok (.iface 94 (.agg #[.pointer (some ⟨1, 45, none⟩)])) w := by kernel_rfl
theorem rf_implE (w : World) : (ReflectliteType.relation "Implements" ReflectliteType.implements_ #[.agg #[.pointer (some ⟨1, 45, none⟩)], .iface 94 (.agg #[.pointer (some ⟨1, 41, none⟩)])]).run Tryd.prog w = .ok (.bool true) w := by kernel_rfl
theorem rf_typeE (v : Value) (w : World) : (ReflectliteType.typeOf #[.iface 45 v]).run Tryd.prog w = .ok (.iface 94 (.agg #[.pointer (some ⟨1, 45, none⟩)])) w := by kernel_rfl
theorem rf_assE (w : World) : (ReflectliteType.relation "AssignableTo" ReflectliteType.assignableTo #[.agg #[.pointer (some ⟨1, 45, none⟩)], .iface 94 (.agg #[.pointer (some ⟨1, 45, none⟩)])]).run Tryd.prog w = .ok (.bool true) w := by kernel_rfl
theorem rf_valueOfE (x : Int) (w : World) : (ReflectliteValue.unpack (.iface 45 (.agg #[.int .i64 x]))).run Tryd.prog w
    = .ok (.agg #[.pointer (some ⟨1, 45, none⟩), .pointer (some ⟨w.heap.size, 0, none⟩), .int .u64 153]) (w.alloc (.cells #[.int .i64 x] 45)) := by kernel_rfl
theorem rf_elemQ (w : World) : (Rtype.elem? 47).run Tryd.prog w = .ok (some 45) w := by kernel_rfl
theorem rf_mkE (p : Addr) (w : World) : (ReflectliteValue.mk 45 p ReflectliteValue.flagAddr).run Tryd.prog w = .ok (.agg #[.pointer (some ⟨1, 45, none⟩), .pointer (some p), .int .u64 409]) w := by kernel_rfl
theorem rf_partsEa (a : Addr) (w : World) : (ReflectliteValue.parts (.agg #[.pointer (some ⟨1, 45, none⟩), .pointer (some a), .int .u64 409])).run Tryd.prog w = .ok (some (45, a, 409)) w := by kernel_rfl
theorem rf_partsE (a : Addr) (w : World) : (ReflectliteValue.parts (.agg #[.pointer (some ⟨1, 45, none⟩), .pointer (some a), .int .u64 153])).run Tryd.prog w = .ok (some (45, a, 153)) w := by kernel_rfl
theorem rf_directE (w : World) : (Rtype.directlyAssignable 45 45).run Tryd.prog w = .ok true w := by kernel_rfl

theorem rf_method {z : Sem Value} {f : TypeId → Addr → Nat → Nat → Sem Value} {v : Value} {W : World} {t : TypeId} {a : Addr} {fl : Nat} (h : (ReflectliteValue.parts v).run Tryd.prog W = .ok (some (t, a, fl)) W) :
    (ReflectliteValue.method z f #[v]).run Tryd.prog W = (f t a fl (fl % 32)).run Tryd.prog W := by
  show Sem.run Tryd.prog (ReflectliteValue.parts v >>= _) W = _
  rw [Sem.run_bind, h]
  rfl

theorem rf_isNil (a p : Addr) (W : World) (ha : W.cell? a = some (.pointer (some p))) :
    (ReflectliteValue.method (ReflectliteValue.valueError "reflectlite.Value.IsNil" 0) ReflectliteValue.isNil #[.agg #[.pointer (some ⟨1, 47, none⟩), .pointer (some a), .int .u64 150]]).run Tryd.prog W = .ok (.bool false) W := by
  rw [rf_method (rf_partsP a W)]
  simp [ReflectliteValue.isNil, loadVar, isAgg, underlying, Tryd.underlying47, ha, Result.andThen]

theorem rf_elemV (a p : Addr) (W : World) (ha : W.cell? a = some (.pointer (some p))) :
    (ReflectliteValue.method (ReflectliteValue.valueError "reflectlite.Value.Elem" 0) ReflectliteValue.elem #[.agg #[.pointer (some ⟨1, 47, none⟩), .pointer (some a), .int .u64 150]]).run Tryd.prog W
      = .ok (.agg #[.pointer (some ⟨1, 45, none⟩), .pointer (some p), .int .u64 409]) W := by
  rw [rf_method (rf_partsP a W)]
  simp [ReflectliteValue.elem, loadVar, isAgg, underlying, Tryd.underlying47, ha, Result.andThen, rf_elemQ, rf_mkE]

theorem rf_load (b : Addr) (x : Int) (W : World) (hb : W.cell? b = some (.int .i64 x)) : (loadVar 45 b).run Tryd.prog W = .ok (.agg #[.int .i64 x]) W := by
  have hl := run_loadCells_list (P := Tryd.prog) W b [.int .i64 x] (fun j v hj => by
    match j, hj with
    | 0, hj => simp at hj; subst hj; simpa [Addr.add] using hb)
  simp [loadVar, isAgg, underlying, Tryd.underlying45] at hl ⊢
  rw [hl]
  rfl

theorem rf_setRun {v x val : Value} {W : World} {dst src : TypeId} {a b : Addr} {fl gl : Nat} (h1 : (ReflectliteValue.parts v).run Tryd.prog W = .ok (some (dst, a, fl)) W) (h2 : (ReflectliteValue.parts x).run Tryd.prog W = .ok (some (src, b, gl)) W)
    (hf : (fl / ReflectliteValue.flagAddr % 2 == 0) = false) (hl : (loadVar src b).run Tryd.prog W = .ok val W) (hd : (Rtype.directlyAssignable dst src).run Tryd.prog W = .ok true W) :
    (ReflectliteValue.set #[v, x]).run Tryd.prog W = ((storeVar dst a val).run Tryd.prog W).andThen fun _ w' => .ok (.tuple #[]) w' := by
  show Sem.run Tryd.prog (ReflectliteValue.parts v >>= _) W = _
  rw [Sem.run_bind, h1]
  show Sem.run Tryd.prog (ReflectliteValue.parts x >>= _) W = _
  rw [Sem.run_bind, h2]
  simp only [Result.andThen_ok, hf, Bool.false_eq_true, if_false, Sem.run_bind, hl, hd, if_true]
  rfl

theorem rf_set (ta b : Addr) (x : Int) (old : Value) (W : World) (hb : W.cell? b = some (.int .i64 x)) (ht : W.cell? ta = some old) (hf : W.frozen? ta = false) :
    (ReflectliteValue.set #[.agg #[.pointer (some ⟨1, 45, none⟩), .pointer (some ta), .int .u64 409], .agg #[.pointer (some ⟨1, 45, none⟩), .pointer (some b), .int .u64 153]]).run Tryd.prog W
      = .ok (.tuple #[]) (W.setCell ta (.int .i64 x)) := by
  rw [rf_setRun (rf_partsEa ta W) (rf_partsE b W) (by rfl) (rf_load b x W hb) (rf_directE W)]
  simp [storeVar, Value.cells, storeCells, Addr.add]
  rw [run_store Tryd.prog W ta _ _ (by rfl)]
  simp [ht, hf]

set_option maxHeartbeats 4000000 in
/-- With an error of the target's own type. -/
theorem as_some (x : Int) (t : Addr) (old : Value) (w : World) (hg : w.cell? ⟨0, 0, none⟩ = some (.iface 94 (.agg #[.pointer (some ⟨1, 41, none⟩)]))) (ht0 : w.cell? t = some old) (hf0 : w.frozen? t = false) :
    Calls Tryd.prog 18 #[.iface 45 (.agg #[.int .i64 x]), .iface 47 (.pointer (some t))] w fun ev w' => ev = .returned (.bool true) ∧
      w' = ((((w.alloc (.cells #[.pointer (some t)] 47)).alloc (.cells #[.pointer (some ⟨1, 47, none⟩), .pointer (some ⟨w.heap.size, 0, none⟩), .int .u64 150] 68)).alloc (.cells #[.pointer (some ⟨1, 47, none⟩), .pointer (some ⟨w.heap.size, 0, none⟩), .int .u64 150] 68)).alloc (.cells #[.int .i64 x] 45)).setCell t (.int .i64 x) := by
  have h6 := @run_callFunc_extern Tryd.prog 34 _ (fun args => ReflectliteValue.unpack (args.getD 0 (.tuple #[]))) Tryd.func34 (by kernel_rfl) (by kernel_rfl) (by kernel_rfl) (by kernel_rfl)
  have h7 := @run_callFunc_extern Tryd.prog 35 _ (ReflectliteValue.methodAny (ReflectliteValue.valueError "reflectlite.Value.Type" 0) (fun t _ _ _ => ReflectliteType.toType t)) Tryd.func35 (by kernel_rfl) (by kernel_rfl) (by kernel_rfl) (by kernel_rfl)
  have h8 := @run_callFunc_extern Tryd.prog 36 _ (ReflectliteValue.method (ReflectliteValue.valueError "reflectlite.Value.IsNil" 0) ReflectliteValue.isNil) Tryd.func36 (by kernel_rfl) (by kernel_rfl) (by kernel_rfl) (by kernel_rfl)
  have h27 := @run_callFunc_extern Tryd.prog 75 _ (ReflectliteType.abiMethod fun t => do pure (.int .u8 (← Rtype.kind t))) Tryd.func75 (by kernel_rfl) (by kernel_rfl) (by kernel_rfl) (by kernel_rfl)
  have h37 := @run_callFunc_extern Tryd.prog 85 _ (ReflectliteType.method ReflectliteType.elem) Tryd.func85 (by kernel_rfl) (by kernel_rfl) (by kernel_rfl) (by kernel_rfl)
  have h38 := @run_callFunc_extern Tryd.prog 86 _ (ReflectliteType.relation "Implements" ReflectliteType.implements_) Tryd.func86 (by kernel_rfl) (by kernel_rfl) (by kernel_rfl) (by kernel_rfl)
  have h10 := @run_callFunc_extern Tryd.prog 51 _ ReflectliteType.typeOf Tryd.func51 (by kernel_rfl) (by kernel_rfl) (by kernel_rfl) (by kernel_rfl)
  have h35 := @run_callFunc_extern Tryd.prog 83 _ (ReflectliteType.relation "AssignableTo" ReflectliteType.assignableTo) Tryd.func83 (by kernel_rfl) (by kernel_rfl) (by kernel_rfl) (by kernel_rfl)
  have h11 := @run_callFunc_extern Tryd.prog 52 _ (ReflectliteValue.method (ReflectliteValue.valueError "reflectlite.Value.Elem" 0) ReflectliteValue.elem) Tryd.func52 (by kernel_rfl) (by kernel_rfl) (by kernel_rfl) (by kernel_rfl)
  have h12 := @run_callFunc_extern Tryd.prog 53 _ ReflectliteValue.set Tryd.func53 (by kernel_rfl) (by kernel_rfl) (by kernel_rfl) (by kernel_rfl)
  have g1 := rf_typeE
  have g2 := rf_assM
  have g3 := rf_assE
  have g4 := rf_valueOfE
  have g5 := rf_valueOfP
  have g6 := rf_typeP
  have g7 := rf_kindM
  have g8 := rf_elemM
  have g9 := rf_implM
  have g10 := rf_kindP
  have g11 := rf_kindE
  have g12 := rf_elemP
  have g13 := rf_implE
  have n8 := rf_isNil ⟨w.heap.size, 0, none⟩ t ((w.alloc (.cells #[.pointer (some t)] 47)).alloc (.cells #[.pointer (some ⟨1, 47, none⟩), .pointer (some ⟨w.heap.size, 0, none⟩), .int .u64 150] 68)) (by simp)
  have hlt : 0 < w.heap.size := by
    rcases Nat.eq_zero_or_pos w.heap.size with h0 | h
    · simp [World.cell?, h0] at hg
    · exact h
  have hg2 : ((w.alloc (.cells #[.pointer (some t)] 47)).alloc (.cells #[.pointer (some ⟨1, 47, none⟩), .pointer (some ⟨w.heap.size, 0, none⟩), .int .u64 150] 68)).cell? ⟨0, 0, none⟩ = some (.iface 94 (.agg #[.pointer (some ⟨1, 41, none⟩)])) := by
    rw [World.cell?_alloc_lt _ _ ⟨0, 0, none⟩ (by simp), World.cell?_alloc_lt _ _ ⟨0, 0, none⟩ hlt]; exact hg
  have htl : t.block < w.heap.size := by
    rcases Nat.lt_or_ge t.block w.heap.size with h | h
    · exact h
    · simp [World.cell?, Array.getElem?_eq_none h] at ht0
  have el := rf_elemV ⟨w.heap.size, 0, none⟩ t (((w.alloc (.cells #[.pointer (some t)] 47)).alloc (.cells #[.pointer (some ⟨1, 47, none⟩), .pointer (some ⟨w.heap.size, 0, none⟩), .int .u64 150] 68)).alloc (.cells #[.pointer (some ⟨1, 47, none⟩), .pointer (some ⟨w.heap.size, 0, none⟩), .int .u64 150] 68))
    (by rw [World.cell?_alloc_lt _ _ ⟨w.heap.size, 0, none⟩ (by simp; omega)]; simp)
  have st := rf_set t ⟨w.heap.size + 1 + 1 + 1, 0, none⟩ x old ((((w.alloc (.cells #[.pointer (some t)] 47)).alloc (.cells #[.pointer (some ⟨1, 47, none⟩), .pointer (some ⟨w.heap.size, 0, none⟩), .int .u64 150] 68)).alloc (.cells #[.pointer (some ⟨1, 47, none⟩), .pointer (some ⟨w.heap.size, 0, none⟩), .int .u64 150] 68)).alloc (.cells #[.int .i64 x] 45))
    (by rw [World.cell?_alloc_at _ _ _ _ (by simp)]; rfl)
    (by rw [World.cell?_alloc_lt _ _ t (by simp; omega), World.cell?_alloc_lt _ _ t (by simp; omega), World.cell?_alloc_lt _ _ t (by simp; omega), World.cell?_alloc_lt _ _ t htl]; exact ht0)
    (by rw [World.frozen?_alloc_old _ _ t (by simp; omega), World.frozen?_alloc_old _ _ t (by simp; omega), World.frozen?_alloc_old _ _ t (by simp; omega), World.frozen?_alloc_old _ _ t (Nat.ne_of_lt htl)]; exact hf0)
  go_enter Tryd.func18, Tryd.ntmps18
  go_wp2
  refine wp_loop_rounds 1 ?_
  rw [rounds_succ]
  go_wp2
  go_ret
  exact ⟨rfl, rfl⟩

end Go.Proofs.YtehpgcgdcoahnadDoor

namespace Go.Proofs.YtehpgcgdcoahnadDoor
open Go.RowKit

/-- The type of errors, as errors.As reads it. -/
def Laid (w : World) : Prop := w.cell? ⟨0, 0, none⟩ = some (.iface 94 (.agg #[.pointer (some ⟨1, 41, none⟩)]))

theorem Laid.pos {w : World} (h : Laid w) : 0 < w.heap.size := by
  have := cell_lt h
  simpa using this

theorem Laid.later {w w' : World} (h : Laid w) (hb : Below w.heap.size w w') : Laid w' := (hb.cell (p := ⟨0, 0, none⟩) h.pos).trans h

/-- A function answers a number and a bool where that variable is laid. -/
def GivesIL (f : FuncId) (args : Array Value) (x : Int) (p : Bool) : Prop :=
  ∀ w : World, Laid w → Calls Tryd.prog f args w fun e w' => e = .returned (.tuple #[.int .i64 x, .bool p]) ∧ Below w.heap.size w w'

theorem GivesI.laid {f : FuncId} {args : Array Value} {x : Int} {p : Bool} (h : GivesI f args x p) : GivesIL f args x p := fun w _ => h w

def ImPartMultipleL : Prop := (∀ b t n k : Int, NoPrt b t n k → GivesIL 6 #[.int .i64 b, .agg #[.int .i64 t, .int .i64 n], .int .i64 k] 0 false) ∧
  (∀ b T B k m : Nat, Prt b T B k m → ¬ B ∣ prS b T B k (m / k) → GivesIL 6 #[.int .i64 b, .agg #[.int .i64 T, .int .i64 B], .int .i64 k] 0 false) ∧
  ∀ b T B k m q : Nat, Prt b T B k m → prS b T B k (m / k) = B * q → GivesIL 6 #[.int .i64 b, .agg #[.int .i64 T, .int .i64 B], .int .i64 k] q true

set_option maxHeartbeats 1000000 in
theorem wholeMultiple_off (b T B k m : Nat) (w : World) (h : Prt b T B k m) (hq : ¬ B ∣ prS b T B k (m / k)) :
    Calls Tryd.prog 17 #[.int .i64 b, .agg #[.int .i64 T, .int .i64 B], .int .i64 k] w fun e w' => ∃ x : Int, e = .returned (.tuple #[.int .i64 0, .iface 45 (.agg #[.int .i64 x])]) ∧ Below w.heap.size w w' := by
  have hB0 : ¬ B = 0 := by have := h.div; omega
  have hkm : k ≤ 1000 := by have := h.div; omega
  have hk1 := h.k1
  have hBm := h.bot
  have hrl := h.rlt
  have hmod : ¬ (prS b T B k (m / k) : Int) % B = 0 := by
    have h1 : ¬ prS b T B k (m / k) % B = 0 := fun e => hq (Nat.dvd_of_mod_eq_zero e)
    omega
  have hbd : prS b T B k (m / k) ≤ k * 1000 := sumN_le k fun i _ => by have := hrl (i * (m / k)); omega
  have HP := Lib.hid h; have HR := Lib.hid hrl
  clear h hq hrl
  have hlen := prsL_len b T B k (m / k)
  go_enter Tryd.func17, Tryd.ntmps17
  go_wp2_with fail
  refine (partRests_any b T B k m _ HP.out).mono ?_
  rintro e w1 ⟨v, rfl, hv, hb1⟩
  have q1 := (Box2.newAt (W := w) (T := 24) (x := .int .i64 T) (y := .int .i64 B) rfl).later hb1
  have k0 := q1.cell0
  have k1 := q1.cell1
  have hb := bel1 hb1
  clear hb1
  obtain ⟨g, off, cap, rfl, _, _, hc1, hc2⟩ := slc_some hv (by omega)
  rw [hlen] at hv hc1 ⊢
  have hcell : CellsR w1 g off k (fun i => rst b T B (i * (m / k))) := fun i hi => by
    have := Slc.cell hlen hv i hi
    rw [prsL_get b T B k (m / k) i hi] at this
    exact this
  clear hv hlen
  go_wp2_with fail
  go_loop [8, 17] (fun s i => ∃ p : Nat, p ≤ k ∧ i = .int .i64 p ∧ s = .int .i64 (sumN (fun i => rst b T B (i * (m / k))) p : Nat)) (fun _ i => k - (intOf i).toNat)
  case atStart => exact ⟨0, Nat.zero_le _, rfl, rfl⟩
  case round =>
    obtain ⟨p, hp, rfl, rfl⟩ := hrel
    by_cases hlt : p < k
    · have hc : w1.cell? ⟨g, off + p, none⟩ = some (.int .i64 (rst b T B (p * (m / k)) : Nat)) := hcell p hlt
      have i1 : (p : Int) < k := by omega
      have hrr := HR.out (p * (m / k))
      have hsl : sumN (fun i => rst b T B (i * (m / k))) p ≤ p * 1000 := sumN_le p fun i _ => by have := HR.out (i * (m / k)); omega
      have HS1 : Hid (((sumN (fun i => rst b T B (i * (m / k))) (p + 1) : Nat) : Int) = (sumN (fun i => rst b T B (i * (m / k))) p : Nat) + (rst b T B (p * (m / k)) : Nat)) := by
        show ((sumN (fun i => rst b T B (i * (m / k))) p + rst b T B (p * (m / k)) : Nat) : Int) = _
        omega
      revert hc hrr hsl HS1
      generalize rst b T B (p * (m / k)) = r
      generalize sumN (fun i => rst b T B (i * (m / k))) p = s
      intro hc hrr hsl HS1
      go_wp2_with fail
      exact ⟨⟨p + 1, by omega, rfl, by rw [HS1.out]⟩, by simp [intOf]; omega⟩
    · obtain rfl : p = k := by omega
      have i1 : ¬ (p : Int) < p := by omega
      have e : sumN (fun i => rst b T B (i * (m / p))) p = prS b T B p (m / p) := rfl
      rw [e]
      clear e hcell
      revert hmod hbd
      generalize prS b T B p (m / p) = S
      intro hmod hbd
      have hmod' : ((S : Int) % B != 0) = true := by simpa using hmod
      go_wp2_with fail
      go_ret2
      exact ⟨⟨_, rfl⟩, hb⟩

set_option maxHeartbeats 1000000 in
theorem wholeMultiple_yes (b T B k m q : Nat) (w : World) (h : Prt b T B k m) (hq : prS b T B k (m / k) = B * q) :
    Calls Tryd.prog 17 #[.int .i64 b, .agg #[.int .i64 T, .int .i64 B], .int .i64 k] w fun e w' => e = .returned (.tuple #[.int .i64 q, .nilIface]) ∧ Below w.heap.size w w' := by
  have hB0 : ¬ B = 0 := by have := h.div; omega
  have hkm : k ≤ 1000 := by have := h.div; omega
  have hk1 := h.k1
  have hBm := h.bot
  have hrl := h.rlt
  have hqk := (h.mult hq).2
  have hmod : (prS b T B k (m / k) : Int) % B = 0 := by
    have h1 : prS b T B k (m / k) % B = 0 := by rw [hq]; exact Nat.mul_mod_right B q
    omega
  have hdiv : prS b T B k (m / k) / B = q := by rw [hq]; exact Nat.mul_div_cancel_left q (by omega)
  have hdiv' : (prS b T B k (m / k) : Int) / B = q := by rw [← hdiv]; rfl
  have hbd : prS b T B k (m / k) ≤ k * 1000 := sumN_le k fun i _ => by have := hrl (i * (m / k)); omega
  have HP := Lib.hid h; have HR := Lib.hid hrl
  clear h hq hrl hdiv
  have hlen := prsL_len b T B k (m / k)
  go_enter Tryd.func17, Tryd.ntmps17
  go_wp2_with fail
  refine (partRests_any b T B k m _ HP.out).mono ?_
  rintro e w1 ⟨v, rfl, hv, hb1⟩
  have q1 := (Box2.newAt (W := w) (T := 24) (x := .int .i64 T) (y := .int .i64 B) rfl).later hb1
  have k0 := q1.cell0
  have k1 := q1.cell1
  have hb := bel1 hb1
  clear hb1
  obtain ⟨g, off, cap, rfl, _, _, hc1, hc2⟩ := slc_some hv (by omega)
  rw [hlen] at hv hc1 ⊢
  have hcell : CellsR w1 g off k (fun i => rst b T B (i * (m / k))) := fun i hi => by
    have := Slc.cell hlen hv i hi
    rw [prsL_get b T B k (m / k) i hi] at this
    exact this
  clear hv hlen
  go_wp2_with fail
  go_loop [8, 17] (fun s i => ∃ p : Nat, p ≤ k ∧ i = .int .i64 p ∧ s = .int .i64 (sumN (fun i => rst b T B (i * (m / k))) p : Nat)) (fun _ i => k - (intOf i).toNat)
  case atStart => exact ⟨0, Nat.zero_le _, rfl, rfl⟩
  case round =>
    obtain ⟨p, hp, rfl, rfl⟩ := hrel
    by_cases hlt : p < k
    · have hc : w1.cell? ⟨g, off + p, none⟩ = some (.int .i64 (rst b T B (p * (m / k)) : Nat)) := hcell p hlt
      have i1 : (p : Int) < k := by omega
      have hrr := HR.out (p * (m / k))
      have hsl : sumN (fun i => rst b T B (i * (m / k))) p ≤ p * 1000 := sumN_le p fun i _ => by have := HR.out (i * (m / k)); omega
      have HS1 : Hid (((sumN (fun i => rst b T B (i * (m / k))) (p + 1) : Nat) : Int) = (sumN (fun i => rst b T B (i * (m / k))) p : Nat) + (rst b T B (p * (m / k)) : Nat)) := by
        show ((sumN (fun i => rst b T B (i * (m / k))) p + rst b T B (p * (m / k)) : Nat) : Int) = _
        omega
      revert hc hrr hsl HS1
      generalize rst b T B (p * (m / k)) = r
      generalize sumN (fun i => rst b T B (i * (m / k))) p = s
      intro hc hrr hsl HS1
      clear hmod hdiv' hbd
      go_wp2_with fail
      exact ⟨⟨p + 1, by omega, rfl, by rw [HS1.out]⟩, by simp [intOf]; omega⟩
    · obtain rfl : p = k := by omega
      have i1 : ¬ (p : Int) < p := by omega
      have e : sumN (fun i => rst b T B (i * (m / p))) p = prS b T B p (m / p) := rfl
      rw [e]
      clear e hcell
      revert hmod hbd hdiv'
      generalize prS b T B p (m / p) = S
      intro hmod hbd hdiv'
      have hmod' : ((S : Int) % B != 0) = false := by rw [hmod]; rfl
      go_wp2_with fail
      go_ret2
      exact ⟨rfl, hb⟩

set_option maxHeartbeats 1000000 in
theorem imPartMultipleL : ImPartMultipleL := by
  refine ⟨?_, ?_, ?_⟩
  · intro b t n k h w _
    go_enter Tryd.func6, Tryd.ntmps6
    go_wp2_with fail
    refine (partsTold_no b t n k _ h).mono ?_
    rintro e w1 ⟨rfl, hb1⟩
    have hb := bel1 hb1
    go_wp2_with fail
    go_ret2
    exact ⟨rfl, hb⟩
  · intro b T B k m h hq w hL
    have HP := Lib.hid h; have HQ := Lib.hid hq
    clear h hq
    go_enter Tryd.func6, Tryd.ntmps6
    go_wp2_with fail
    refine (partsTold_yes b T B k m _ HP.out).mono ?_
    rintro e w1 ⟨rfl, hb1⟩
    have q1 := (Box2.newAt (W := w) (T := 24) (x := .int .i64 T) (y := .int .i64 B) rfl).later hb1
    have k0 := q1.cell0
    have k1 := q1.cell1
    have hb := bel1 hb1
    clear hb1
    go_wp2_with fail
    refine (wholeMultiple_off b T B k m _ HP.out HQ.out).mono ?_
    rintro e w2 ⟨x, rfl, hb2⟩
    have hbb := hb.trans (hb2.mono hb.size)
    have hL2 := hL.later hbb
    clear hb hb2 k0 k1 q1
    have hs2 := hbb.size
    have hb3 : Below w.heap.size w (w2.alloc (.cells #[.int .i64 0] 45)) := hbb.alloc hs2 _
    have hL3 : Laid (w2.alloc (.cells #[.int .i64 0] 45)) := hL.later hb3
    have hc3 : (w2.alloc (.cells #[.int .i64 0] 45)).cell? ⟨w2.heap.size, 0, none⟩ = some (.int .i64 0) := by simp
    have hf3 : (w2.alloc (.cells #[.int .i64 0] 45)).frozen? ⟨w2.heap.size, 0, none⟩ = false := by simp
    go_wp2_with fail
    refine (as_some x ⟨w2.heap.size, 0, none⟩ (.int .i64 0) _ hL3 hc3 hf3).mono ?_
    rintro e w4 ⟨rfl, he⟩
    have hb4 : Below w.heap.size w w4 := by
      rw [he]
      refine Below.setCell ?_ hs2 _
      exact (((hb3.alloc hb3.size _).alloc (Nat.le_trans hb3.size (by simp)) _).alloc (Nat.le_trans hb3.size (by simp <;> omega)) _).alloc (Nat.le_trans hb3.size (by simp <;> omega)) _
    clear he hc3 hf3 hL3 hL2
    go_wp2_with fail
    go_ret2
    exact ⟨rfl, hb4⟩
  · intro b T B k m q h hq w _
    have HP := Lib.hid h; have HQ := Lib.hid hq
    clear h hq
    go_enter Tryd.func6, Tryd.ntmps6
    go_wp2_with fail
    refine (partsTold_yes b T B k m _ HP.out).mono ?_
    rintro e w1 ⟨rfl, hb1⟩
    have q1 := (Box2.newAt (W := w) (T := 24) (x := .int .i64 T) (y := .int .i64 B) rfl).later hb1
    have k0 := q1.cell0
    have k1 := q1.cell1
    have hb := bel1 hb1
    clear hb1
    go_wp2_with fail
    refine (wholeMultiple_yes b T B k m q _ HP.out HQ.out).mono ?_
    rintro e w2 ⟨rfl, hb2⟩
    have hbb := hb.trans (hb2.mono hb.size)
    have hs2 := hbb.size
    have hb3 : Below w.heap.size w (w2.alloc (.cells #[.int .i64 0] 45)) := hbb.alloc hs2 _
    clear hb hb2 k0 k1 q1
    go_wp2_with fail
    refine (as_none _ _).mono ?_
    rintro e w4 ⟨rfl, rfl⟩
    go_wp2_with fail
    go_ret2
    exact ⟨rfl, hb3⟩

theorem bothPartMultipleL (H : ImPartMultipleL) (b t n k : Int) : ∃ x p, GivesI 7 #[.int .i64 b, .agg #[.int .i64 t, .int .i64 n], .int .i64 k] x p ∧ GivesIL 6 #[.int .i64 b, .agg #[.int .i64 t, .int .i64 n], .int .i64 k] x p := by
  rcases prt_or b t n k with h | ⟨b, T, B, k, m, rfl, rfl, rfl, rfl, h⟩
  · exact ⟨0, false, specPartMultiple_no b t n k h, H.1 b t n k h⟩
  · by_cases hq : B ∣ prS b T B k (m / k)
    · obtain ⟨q, hq⟩ := hq
      exact ⟨q, true, specPartMultiple_yes b T B k m q h hq, H.2.2 b T B k m q h hq⟩
    · exact ⟨0, false, specPartMultiple_off b T B k m h hq, H.2.1 b T B k m h hq⟩

/-- A function answers a list and a bool where the variable is laid. -/
def GivesL (f : FuncId) (args : Array Value) (xs : List Int) (p : Bool) : Prop :=
  ∀ w : World, Laid w → Calls Tryd.prog f args w fun e w' => ∃ v, e = .returned (.tuple #[v, .bool p]) ∧ Slc w.heap.size w' v xs ∧ Below w.heap.size w w'

def ImPartAllL : Prop := (∀ b n : Int, (prmB b n && decide (n ≤ 300)) = false → GivesL 10 #[.int .i64 b, .int .i64 n] [] false) ∧
  ∀ b n m : Nat, prmB b n = true → 2 ≤ b → b ≤ 16 → 2 ≤ n → n ≤ 300 → IsLen b 1 n 0 m → GivesL 10 #[.int .i64 b, .int .i64 n] (allL b n m (n + 1)) true

theorem one_lt {b n m : Nat} (hn : 2 ≤ n) (hg : Nat.gcd b n = 1) (hm : IsLen b 1 n 0 m) : m < n := by
  have h1 : m ≤ n - 1 := by
    refine php (n - 1) m (fun i => rst b 1 n i - 1) (fun i _ => ?_) fun i j hij hj e => ?_
    · have := rst_lt (b := b) (show 1 < n by omega) i; show rst b 1 n i - 1 < n - 1; omega
    · have p1 : ∀ i, 0 < rst b 1 n i := fun i => by
        have h1 := cop_rst hg (show 1 < n by omega) (Nat.gcd_one_left n) i
        refine Nat.pos_of_ne_zero fun e => ?_
        rw [e, Nat.gcd_zero_left] at h1
        omega
      have := p1 i; have := p1 j
      have e' : rst b 1 n i - 1 = rst b 1 n j - 1 := e
      exact hm.ne i j hij (by omega) (by omega)
  omega

theorem multL_one {b n m k : Nat} (H : ImPartMultipleL) (h3 : 2 ≤ b) (h4 : b ≤ 16) (hn : 2 ≤ n) (hn2 : n ≤ 1000) (hg : Nat.gcd b n = 1) (hm : IsLen b 1 n 0 m) (hk : 2 ≤ k) :
    ∃ x : Int, GivesIL 6 #[.int .i64 b, .agg #[.int .i64 1, .int .i64 n], .int .i64 k] x (okK b n m k) := by
  by_cases hd : m % k = 0
  · have hP : Prt b 1 n k m := ⟨h3, h4, by omega, hn2, Nat.gcd_one_left n, hg, by omega, by omega, hm, hd⟩
    by_cases hq : n ∣ prS b 1 n k (m / k)
    · obtain ⟨q, hq'⟩ := hq
      have : okK b n m k = true := decide_eq_true ⟨hk, hd, ⟨q, hq'⟩⟩
      rw [this]
      exact ⟨q, H.2.2 b 1 n k m q hP hq'⟩
    · have : okK b n m k = false := decide_eq_false fun h => hq h.2.2
      rw [this]
      exact ⟨0, H.2.1 b 1 n k m hP hq⟩
  · have : okK b n m k = false := decide_eq_false fun h => hd h.2.1
    rw [this]
    refine ⟨0, H.1 b 1 n k fun b' T B k' m' e1 e2 e3 e4 h => ?_⟩
    obtain rfl : b = b' := by omega
    obtain rfl : n = B := by omega
    obtain rfl : k = k' := by omega
    obtain rfl : T = 1 := by omega
    obtain rfl := (hm.unique h.len).2
    exact hd h.dvd

theorem own_later {n₀ k : Nat} {W W' : World} {T : TypeId} {v : Value} {xs : List Value} (h : W.ownsRow n₀ T 1 v k xs) (hb : Below W.heap.size W W') : W'.ownsRow n₀ T 1 v k xs := by
  refine h.kept (row := none) (grown_below hb) ?_
  cases v.ownBlock <;> simp

set_option maxRecDepth 100000 in
set_option maxHeartbeats 2000000 in
theorem imPartAllL (H : ImPartMultipleL) : ImPartAllL := by
  constructor
  · intro b n h w _
    by_cases hn : 300 < n
    · go_enter Tryd.func10, Tryd.ntmps10
      go_wp2_with fail
      go_ret2
      exact ⟨_, rfl, Slc.nil _ _, Below.refl _ _⟩
    · have hp : prmB b n = false := by
        cases hp : prmB b n with
        | false => rfl
        | true =>
          rw [hp, Bool.true_and] at h
          have := of_decide_eq_false h
          omega
      have hn' : decide (300 < n) = false := by simpa using hn
      clear h
      go_enter Tryd.func10, Tryd.ntmps10
      go_wp2_with fail
      refine (roundsTold_any _ _ _).mono ?_
      rintro e w1 ⟨rfl, rfl⟩
      rw [hp]
      go_wp2_with fail
      go_ret2
      exact ⟨_, rfl, Slc.nil _ _, Below.refl _ _⟩
  · intro b n m h h3 h4 hn hn2 hm w hL
    have hg : Nat.gcd b n = 1 := by
      obtain ⟨b', n', e1, e2, _, _, _, _, hg⟩ := prm_nat h
      obtain rfl : b = b' := by omega
      obtain rfl : n = n' := by omega
      exact hg
    have hmn := one_lt hn hg hm
    have hmp := hm.pos
    have hmul : ∀ k : Nat, 2 ≤ k → ∃ x : Int, GivesIL 6 #[.int .i64 b, .agg #[.int .i64 1, .int .i64 n], .int .i64 k] x (okK b n m k) := fun k hk => multL_one H h3 h4 hn (by omega) hg hm hk
    have hlast : allL b n m (n + 1) = allL b n m n := by
      have h1 : okK b n m n = false := decide_eq_false fun h => by have := h.2.1; rw [Nat.mod_eq_of_lt hmn] at this; omega
      show (if okK b n m n = true then allL b n m n ++ [(n : Int)] else allL b n m n) = allL b n m n
      rw [h1]; rfl
    rw [hlast]
    have HM := Lib.hid hmul
    clear hmul hm hg hlast hmn hmp
    have j1 : decide ((300 : Int) < n) = false := by simp; omega
    go_enter Tryd.func10, Tryd.ntmps10
    go_wp2_with fail
    refine (roundsTold_any _ _ _).mono ?_
    rintro e w1 ⟨rfl, rfl⟩
    rw [h]
    go_wp2_with fail
    obtain ⟨i0, hi, hz0, hz1, hz2⟩ := info_parts infoInt
    have hal2 := allL_two b n m
    go_loopw [6, 7] (fun v x wr => ∃ p : Nat, 2 ≤ p ∧ p ≤ n ∧ x = .int .i64 p ∧ wr.ownsRow w.heap.size 3 1 v (allL b n m p).length ((allL b n m p).map (Value.int .i64)) ∧ Below w.heap.size w wr) (fun _ x _ => n - (intOf x).toNat)
    case atStart =>
      refine ⟨2, Nat.le_refl _, by omega, rfl, ?_, (Below.refl _ _).alloc (Nat.le_refl _) _⟩
      rw [hal2]
      exact World.ownsRow_made (base := w.heap.size) (e := 3) (size := 1) w #[] 0 (Nat.le_refl _) (by simp) (by simp)
    case round =>
      obtain ⟨p, hp2, hpn, rfl, hown, hbel⟩ := hrel
      have hll := allL_len b n m p
      clear hal2
      by_cases hlt : p < n
      · have i1 : (p : Int) < n := by omega
        have hfs : allL b n m (p + 1) = if okK b n m p = true then allL b n m p ++ [(p : Int)] else allL b n m p := rfl
        obtain ⟨x, hx⟩ := HM.out p hp2
        have HX := Lib.hid hx
        clear hx
        cases hok : okK b n m p with
        | false =>
          rw [hok] at HX hfs
          rw [if_neg (by simp)] at hfs
          have HF := Lib.hid hfs; have HW := Lib.hid hown
          clear hfs hown hok
          go_wp2_with fail
          refine (HX.out _ (hL.later hbel)).mono ?_
          rintro e w1 ⟨rfl, hb1⟩
          have hW1 := own_later HW.out hb1
          have hB1 := hbel.trans (hb1.mono hbel.size)
          clear HW hb1 hbel
          go_wp2_with fail
          exact ⟨⟨p + 1, by omega, by omega, rfl, by rw [HF.out]; exact hW1, hB1⟩, by simp [intOf]; omega⟩
        | true =>
          rw [hok] at HX hfs
          rw [if_pos rfl] at hfs
          have HF := Lib.hid hfs; have HW := Lib.hid hown
          clear hfs hown hok
          go_wp2_with fail
          refine (HX.out _ (hL.later hbel)).mono ?_
          rintro e w1 ⟨rfl, hb1⟩
          have hW1 := own_later HW.out hb1
          have hB1 := hbel.trans (hb1.mono hbel.size)
          clear HW hb1 hbel
          go_wp2_with (at_builtin; refine wpList_append_own_at _ rfl _ _ 33 rfl w.heap.size 3 i0 (.int .i64 0) 1 8 Tryd.underlying33 hi hz0 hz1 hz2 rfl (by decide) _ _ _ rfl (hW1.alloc _) ⟨w1.heap.size, 0, none⟩ 1 1 [.int .i64 p] rfl rfl (cell_one_new _ _ _) ?c2 ?c3 ?c4 ?c5 ?_)
          case c2 => simp [Value.oneCell']
          case c3 => unfold maxLen; omega
          case c4 => omega
          case c5 => have := hB1.size; (try simp); omega
          intro v' w2 hown' hgrow _ _
          have hb2 := (hB1.alloc hB1.size (.cells #[.int .i64 p] 3)).grown hgrow (by have := hB1.size; simp; omega) (fun q e => (row_ge3 hW1 e).1)
          clear hW1 hgrow
          go_wp2_with fail
          refine ⟨⟨p + 1, by omega, by omega, rfl, ?_, hb2⟩, by simp [intOf]; omega⟩
          rw [HF.out, List.length_append, List.map_append]
          simpa using hown'
      · obtain rfl : p = n := by omega
        have i1 : ¬ (p : Int) < p := by omega
        go_wp2_with fail
        go_ret2
        exact ⟨_, rfl, Slc.of_owns hown, hbel⟩

theorem bothPartAllL (H : ImPartAllL) (b n : Int) : ∃ xs p, xs.length ≤ 1000 ∧ Gives 11 #[.int .i64 b, .int .i64 n] xs p ∧ GivesL 10 #[.int .i64 b, .int .i64 n] xs p := by
  cases h : prmB b n && decide (n ≤ 300) with
  | false => exact ⟨[], false, by simp, specPartAll_no b n h, H.1 b n h⟩
  | true =>
    rw [Bool.and_eq_true, decide_eq_true_eq] at h
    obtain ⟨hp, hn3⟩ := h
    obtain ⟨b, n, rfl, rfl, h3, h4, hn, hn2, hbn⟩ := prm_nat hp
    obtain ⟨m, hm⟩ := ord_some hbn hn
    refine ⟨_, true, ?_, specPartAll_yes b n m hp h3 h4 hn (by omega) hm, H.2 b n m hp h3 h4 hn (by omega) hm⟩
    have := allL_len b n m (n + 1)
    omega

end Go.Proofs.YtehpgcgdcoahnadDoor

namespace Go.Proofs.YtehpgcgdcoahnadDoor
open Go.ChangeShapes Go.WideShapes Go.RowKit

theorem tied_own : ownKnob Tryd.prog.godebug = none := by kernel_rfl
theorem tied_var : Tryd.prog.globalNamed "errors.errorType" = some 0 := by kernel_rfl
theorem tied_rtype : (Tryd.prog.cutTypes.find? (·.1 == "internal/reflectlite.rtype")).map (·.2) = some 94 := by kernel_rfl
theorem tied_row : ((List.range 144).filter fun t => Tryd.prog.rowNamed t [101, 114, 114, 111, 114]) = [41] := by kernel_rfl
theorem tied_size : Tryd.prog.types.size = 144 := by kernel_rfl

theorem laid_of_met {W : World} (h : laidMetH Tryd.prog [("errors.errorType", Rows.laid_errors_errorType)] W) : Laid W := by
  have h' : laidMet Tryd.prog [] W ∧ handlesMet Tryd.prog [("errors.errorType", Rows.laid_errors_errorType)] W := h
  obtain ⟨name, u, ty, e1, e2, e3, e4, e5⟩ := h'.2 _ (List.mem_singleton.2 rfl)
  have en : name = [101, 114, 114, 111, 114] := (Option.some.inj e1).symm
  subst en
  obtain rfl := Option.some.inj (tied_rtype.symm.trans e2)
  have hm : ty ∈ (List.range 144).filter fun t => Tryd.prog.rowNamed t [101, 114, 114, 111, 114] := List.mem_filter.2 ⟨List.mem_range.2 (by rw [← tied_size]; exact e3), e4⟩
  rw [tied_row] at hm
  obtain rfl := List.mem_singleton.1 hm
  have hh : typeHandle Tryd.prog 41 = .pointer (some ⟨1, 41, none⟩) := by kernel_rfl
  rw [hh] at e5
  simpa [Laid] using World.var?_cell tied_var e5 0

/-- A world in which it is laid. -/
noncomputable def laidW (os : Os) : World :=
  { World.holding Tryd.prog os ⟨#[], #[], []⟩ with heap := (World.holding Tryd.prog os ⟨#[], #[], []⟩).heap.modify 0 fun
      | .cells _ t frozen => .cells #[.iface 94 (.agg #[.pointer (some ⟨1, 41, none⟩)])] t frozen
      | o => o }

theorem laidW_met (os : Os) (args : Array Value) : laidMetH Tryd.prog [("errors.errorType", Rows.laid_errors_errorType)] ((laidW os).forCall (fun _ _ => 0) ⟨#[], args, []⟩).memory :=
  laidMetH_of_parts (laidMet_nil _ _) (by kernel_rfl)

end Go.Proofs.YtehpgcgdcoahnadDoor
