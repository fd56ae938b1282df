/-
  Chapter 7, the program's side: counts as arrays, told by a function value.
-/
import Derived.Test.YtamcpoadpkgogadCntX
import Derived.Test.YtamcpoadpkgogadCntW
import Derived.Test.YtamcpoadpkgogadGWlk
import Derived.Test.YtamcpoadpkgogadGRnd
import Derived.Deep.WholeRow
import Derived.RangeFuncBox
import Derived.Deep.RegionHeld3
import Derived.Laws.ResultCell
namespace Go.Proofs.Ytamcpoadpkgogad
open Go.RowKit

/-- Block g is a variable of a type T of its own with the numbers zs. -/
def RowZ (W : World) (g : Nat) (T : TypeId) (zs : List Int) : Prop := ∃ cur : Array Value, W.heap[g]? = some (.cells cur T (0, 0)) ∧ cur.toList = zs.map (Value.int .i64)

theorem RowZ.lt {W : World} {g : Nat} {T : TypeId} {zs : List Int} (h : RowZ W g T zs) : g < W.heap.size := by obtain ⟨cur, h, _⟩ := h; exact (Array.getElem?_eq_some_iff.1 h).1
theorem RowZ.cell {W : World} {g : Nat} {T : TypeId} {zs : List Int} (h : RowZ W g T zs) (k : Nat) (hk : k < zs.length) : W.cell? ⟨g, k, none⟩ = some (.int .i64 (zs[k]?.getD 0)) := by
  obtain ⟨cur, h, e⟩ := h
  have : cur[k]? = some (.int .i64 (zs[k]?.getD 0)) := by
    rw [← Array.getElem?_toList, e, List.getElem?_map, List.getElem?_eq_getElem hk]; rfl
  simp [World.cell?, h, this]
theorem RowZ.frozen {W : World} {g : Nat} {T : TypeId} {zs : List Int} (h : RowZ W g T zs) (k : Nat) : W.frozen? ⟨g, k, none⟩ = false := by
  obtain ⟨cur, h, e⟩ := h
  simp [World.frozen?, h]
theorem RowZ.set {W : World} {g : Nat} {T : TypeId} {zs : List Int} (h : RowZ W g T zs) (k : Nat) (x : Int) : RowZ (W.setCell ⟨g, k, none⟩ (.int .i64 x)) g T (zs.set k x) := by
  obtain ⟨cur, h, e⟩ := h
  refine ⟨cur.setIfInBounds k (.int .i64 x), ?_, ?_⟩
  · exact heap_setCell_same W g k cur T _ h
  · rw [Array.toList_setIfInBounds, e, List.map_set]
theorem RowZ.below {n : Nat} {W W' : World} {g : Nat} {T : TypeId} {zs : List Int} (h : RowZ W g T zs) (hb : Below n W W') (hn : g < n) : RowZ W' g T zs := by
  obtain ⟨cur, h, e⟩ := h; exact ⟨cur, (hb.block g hn).trans h, e⟩
theorem RowZ.later {W W' : World} {g : Nat} {T : TypeId} {zs : List Int} (h : RowZ W g T zs) (hb : Below W.heap.size W W') : RowZ W' g T zs := h.below hb h.lt
theorem RowZ.other {W : World} {g k : Nat} {T : TypeId} {zs : List Int} (h : RowZ W g T zs) (q : Nat) (x : Value) (hne : g ≠ q) : RowZ (W.setCell ⟨q, k, none⟩ x) g T zs := by
  obtain ⟨cur, h, e⟩ := h
  exact ⟨cur, (Below.heap_setCell _ ⟨q, k, none⟩ _ g (fun e => hne e)).trans h, e⟩
theorem RowZ.whole {W : World} {g : Nat} {T : TypeId} {zs : List Int} (h : RowZ W g T zs) : W.heap[g]? = some (.cells ((zs.map (Value.int .i64)).toArray) T (0, 0)) := by
  obtain ⟨cur, h, e⟩ := h
  rw [h, ← e]
theorem RowZ.new {W : World} {T : TypeId} {zs : List Int} {g : Nat} (hg : g = W.heap.size) : RowZ (W.alloc (.cells ((zs.map (Value.int .i64)).toArray) T)) g T zs := by
  subst hg
  exact ⟨_, heap_alloc_new W _, by simp⟩

theorem RowZ.put {W : World} {g : Nat} {T : TypeId} {zs : List Int} (h : RowZ W g T zs) (ys : List Int) : RowZ (W.setRow g ((ys.map (Value.int .i64)).toArray)) g T ys := by
  obtain ⟨cur, h, e⟩ := h
  exact ⟨_, setRow_heap W g cur _ T (0, 0) h, by simp⟩
theorem RowZ.putOther {W : World} {g q : Nat} {T : TypeId} {zs : List Int} (h : RowZ W g T zs) (hne : g ≠ q) (cs : Array Value) : RowZ (W.setRow q cs) g T zs := by
  obtain ⟨cur, h, e⟩ := h
  exact ⟨cur, (setRow_other W q g cs hne).trans h, e⟩
theorem below_put {n g : Nat} {W0 W : World} (h : Below n W0 W) (hg : n ≤ g) (cs : Array Value) : Below n W0 (W.setRow g cs) :=
  h.trans ⟨rfl, rfl, rfl, by simp, fun k hk => setRow_other W g k cs (by omega)⟩

/-- An array of counts as a value. -/
def cntV (zs : List Int) : Value := .agg (zs.map (Value.int .i64)).toArray

section
variable {P : Program} {ops : Array Oper} {rest : List Oper} {op : Oper} {a : Act} {w : World} {Q : Exit → Act → World → Prop}
/-- A whole array of numbers out of a variable of its own. -/
theorem wpList_load_rowZ (hgd : op.guard = none) (T e : TypeId) (x : Operand) (ho : op.op = .load T x) (g n : Nat) (hx : a.eval x = .pointer (some ⟨g, 0, none⟩)) (zs : List Int) (hR : RowZ w g T zs)
    (hu : P.underlying T = some (.array n e)) (hi : (P.info? T).map (·.size) = some zs.length)
    (h : wpList P ops Q rest (a.put op.dst (cntV zs)) w) : wpList P ops Q (op :: rest) a w :=
  wpList_load_row hgd T x ho g hx T _ (0, 0) _ hR.whole hu rfl (by simpa using hi) h
theorem run_loadAt_rowZ {T e : TypeId} {g n : Nat} {zs : List Int} (hR : RowZ w g T zs) (hu : P.underlying T = some (.array n e)) (hi : (P.info? T).map (·.size) = some zs.length) :
    (Instr.loadAt T (.pointer (some ⟨g, 0, none⟩))).run P w = .ok (cntV zs) w := by
  simp only [Instr.loadAt, Instr.sureAddr, Sem.run_bind, Sem.run_pure, Result.andThen_ok]
  exact run_loadVar_row w g T T _ (0, 0) _ hR.whole hu rfl (by simpa using hi)
theorem cntV_one (ys : List Int) : ((ys.map (Value.int .i64)).toArray).all (·.oneCell') = true := Array.all_eq_true_iff_forall_mem.2 fun v hv => by
  obtain ⟨x, _, rfl⟩ := List.mem_map.1 (List.mem_toArray.1 hv); rfl
/-- A whole array of numbers into a variable of its own. -/
theorem wpList_store_rowZ (hgd : op.guard = none) (T : TypeId) (x y : Operand) (ho : op.op = .store T x y) (g : Nat) (hx : a.eval x = .pointer (some ⟨g, 0, none⟩)) (ys : List Int) (hy : a.eval y = cntV ys) (zs : List Int) (hR : RowZ w g T zs)
    (hl : zs.length = ys.length) (hi : (P.info? T).map (·.size) = some ys.length)
    (h : wpList P ops Q rest (a.put op.dst undef) (w.setRow g ((ys.map (Value.int .i64)).toArray))) : wpList P ops Q (op :: rest) a w :=
  wpList_plain hgd fun _ hK => by
    have hst := run_storeVar_row (P := P) w g T T _ ((ys.map (Value.int .i64)).toArray) hR.whole (by simpa using hi) (by simpa using hl) (cntV_one ys)
    unfold Oper.wp execOp
    simp only [ho, hx, hy, cntV, Instr.storeAt, Instr.sureAddr, Sem.run_bind, Sem.run_pure, Result.andThen_ok, hst]
    exact hK _ _ h
end

theorem infoCnt : (Try.prog.info? 42).map (fun i => (i.zero, i.size)) = some (some (cntV (List.replicate 256 0)), 256) := by kernel_rfl

theorem run_index_cnt (L : List Int) (k : Nat) (hk : k < 256) (hl : L.length = 256) (wx : World) :
    (Instr.index 42 (cntV L) (.int .i64 k)).run Try.prog wx = .ok (.int .i64 (L[k]?.getD 0)) wx := by
  have h0 : (0 : Int) ≤ (k : Int) ∧ (k : Int) < ((256 : Nat) : Int) := by omega
  have hs : ∀ wx, (sizeOf 3).run Try.prog wx = .ok 1 wx := fun wx => Try.sizeOf3 wx
  have px : (part 3 (L.map (Value.int .i64)).toArray ((k : Int).toNat * 1)).run Try.prog wx = .ok (.int .i64 (L[k]?.getD 0)) wx := by
    simp [part, isAgg, run_underlying Try.underlying3, List.getElem?_eq_getElem (show k < L.length by omega)]
  unfold Instr.index cntV
  simp only [asIntOf, Sem.run_bind, Sem.run_pure, Result.andThen_ok, run_underlying Try.underlying42, h0, and_self, if_true, hs, px]

/-- The closure that tells the digits of a round. -/
theorem roundAt_any (B n₀ i : Nat) (v : Value) (L : List Int) (w : World) (hc : w.cell? ⟨B, 0, none⟩ = some v) (hv : Slc n₀ w v L) (hi : i < L.length) (hl : L.length ≤ 1000) :
    Calls Try.prog 27 #[.int .i64 i, .pointer (some ⟨B, 0, none⟩)] w fun e w' => e = .returned (.int .i64 (L[i]?.getD 0)) ∧ Below w.heap.size w w' := by
  obtain ⟨g, o, c, rfl, _, hgl, _, _⟩ := slc_some hv (by omega)
  have k0 := Slc.cell rfl hv i hi
  have i1 : (i : Int) < (L.length : Int) := by omega
  have i2 : (0 : Int) ≤ (i : Int) := by omega
  clear hv
  revert k0 hl hi i1 hc
  generalize L[i]?.getD 0 = x
  generalize L.length = n
  intro k0 hl hi i1 hc
  go_enter Try.func27, Try.ntmps27
  go_wp2_with fail
  go_ret
  exact ⟨rfl, Below.refl _ _⟩

set_option maxRecDepth 100000 in
set_option maxHeartbeats 2000000 in
theorem countedR_any (n B : Nat) (D : Nat → Nat) (w : World) (hn : n ≤ 1000) (hD : ∀ i, i < n → D i < 256)
    (HK : ∀ (i : Nat) (W : World), i < n → Below w.heap.size w W → Calls Try.prog 27 #[.int .i64 i, .pointer (some ⟨B, 0, none⟩)] W fun e w' => e = .returned (.int .i64 (D i)) ∧ Below W.heap.size W w') :
    Calls Try.prog 12 #[.int .i64 n, .func (.func 27) #[] #[.pointer (some ⟨B, 0, none⟩)]] w fun e w' => e = .returned (cntV (cntL 256 D n)) ∧ Below w.heap.size w w' := by
  obtain ⟨hz0, hz1⟩ := zero_of_info infoCnt
  obtain ⟨Z, hZ⟩ : ∃ Z : Array Value, ((List.replicate 256 (0 : Int)).map (Value.int .i64)).toArray = Z := ⟨_, rfl⟩
  have hz2 : ∀ wx, (zeroValue 42).run Try.prog wx = .ok (.agg Z) wx := fun wx => by rw [hz0, cntV, hZ]
  have hR0 : RowZ ((w.alloc (.cells Z 42)).alloc (.cells Z 42)) w.heap.size 42 (List.replicate 256 0) := by
    rw [← hZ]; exact (RowZ.new rfl).later ((Below.refl _ _).alloc (Nat.le_refl _) _)
  have hR1 : RowZ ((w.alloc (.cells Z 42)).alloc (.cells Z 42)) (w.heap.size + 1) 42 (cntL 256 D 0) := by
    rw [← hZ, cntL_zero]; exact RowZ.new (by simp)
  have hB0 : Below w.heap.size w ((w.alloc (.cells Z 42)).alloc (.cells Z 42)) := ((Below.refl _ _).alloc (Nat.le_refl _) _).alloc (by simp) _
  have HKK := Lib.hid HK; have HD := Lib.hid hD
  have HZ1 := Lib.hid hz1; have HZZ := Lib.hid hZ
  clear HK hD hz0 hz1 hZ
  go_enter Try.func12, Try.ntmps12
  go_wp2_with fail
  clear hz2
  go_loopw [8] (fun i' wr => ∃ i : Nat, i ≤ n ∧ i' = .int .i64 i ∧ RowZ wr w.heap.size 42 (List.replicate 256 0) ∧ RowZ wr (w.heap.size + 1) 42 (cntL 256 D i) ∧ Below w.heap.size w wr) (fun i' _ => n - (intOf i').toNat)
  case atStart => exact ⟨0, Nat.zero_le _, rfl, hR0, hR1, hB0⟩
  case round =>
    clear hR0 hR1 hB0
    obtain ⟨i, hi, rfl, hR, hS, hb⟩ := hrel
    by_cases hlt : i < n
    · have j1 : (i : Int) < (n : Int) := by omega
      go_wp2_with fail
      refine (HKK.out i wr hlt hb).mono ?_
      rintro e w1 ⟨rfl, hb1⟩
      have hR' := hR.later hb1
      have hS' := hS.later hb1
      have hbb := hb.trans (hb1.mono hb.size)
      have hDi := HD.out i hlt
      have kc := hS'.cell (D i) (by rw [cntL_len]; exact hDi)
      rw [cntL_get hDi] at kc
      have kf := hS'.frozen (D i)
      have hset := hS'.set (D i) ((dgC D (D i) i : Int) + 1)
      rw [cntL_set] at hset
      have hcl := dgC_le D (D i) i
      have hRs := hR'.other (k := D i) (w.heap.size + 1) (.int .i64 ((dgC D (D i) i : Int) + 1)) (by omega)
      have hbs : Below w.heap.size w (w1.setCell ⟨w.heap.size + 1, D i, none⟩ (.int .i64 ((dgC D (D i) i : Int) + 1))) := hbb.setCell (p := ⟨w.heap.size + 1, D i, none⟩) (Nat.le_succ _) _
      have HS := Lib.hid hset; have HRS := Lib.hid hRs; have HBS := Lib.hid hbs
      clear hset hRs hbs hR hS hR' hS' hb hb1 hbb
      revert kc kf HS HRS HBS hDi hcl
      generalize D i = d
      generalize dgC D d i = q
      intro kc kf hDi hcl HS HRS HBS
      have j2 : (0 : Int) ≤ (d : Int) := by omega
      have j3 : (d : Int) < 256 := by omega
      go_wp2_with fail
      go_roundw
      case rel => exact ⟨i + 1, hlt, by go_num, HRS.out, HS.out, HBS.out⟩
      case measure => simp [intOf]; omega
    · obtain rfl : i = n := by omega
      have j1 : ¬ (i : Int) < (i : Int) := by omega
      have hRR := hR.put (cntL 256 D i)
      have hbb := below_put hb (Nat.le_refl _) (((cntL 256 D i).map (Value.int .i64)).toArray)
      clear hb
      go_wp2_with (first | (refine wpList_load_rowZ rfl 42 3 _ rfl (w.heap.size + 1) 256 rfl (cntL 256 D i) hS Try.underlying42 (by rw [cntL_len]; exact HZ1.out) ?_) | (refine wpList_store_rowZ rfl 42 _ _ rfl w.heap.size rfl (cntL 256 D i) rfl (List.replicate 256 0) hR (by rw [cntL_len, List.length_replicate]) (by rw [cntL_len]; exact HZ1.out) ?_))
      refine bodyPost_ret (v := cntV (cntL 256 D i)) ?_ rfl ⟨rfl, hbb⟩
      exact results_cell_row rfl _ _ w.heap.size 42 _ (0, 0) _ rfl hRR.whole Try.underlying42 rfl (by simpa [cntL_len] using HZ1.out)

set_option maxRecDepth 100000 in
set_option maxHeartbeats 2000000 in
theorem countedF_any (n B C : Nat) (D : Nat → Nat) (w : World) (hn : n ≤ 1000) (hD : ∀ i, i < n → D i < 256)
    (HK : ∀ (i : Nat) (W : World), i < n → Below w.heap.size w W → Calls Try.prog 13 #[.int .i64 i, .pointer (some ⟨B, 0, none⟩), .pointer (some ⟨C, 0, none⟩)] W fun e w' => e = .returned (.int .i64 (D i)) ∧ Below W.heap.size W w') :
    Calls Try.prog 12 #[.int .i64 n, .func (.func 13) #[] #[.pointer (some ⟨B, 0, none⟩), .pointer (some ⟨C, 0, none⟩)]] w fun e w' => e = .returned (cntV (cntL 256 D n)) ∧ Below w.heap.size w w' := by
  obtain ⟨hz0, hz1⟩ := zero_of_info infoCnt
  obtain ⟨Z, hZ⟩ : ∃ Z : Array Value, ((List.replicate 256 (0 : Int)).map (Value.int .i64)).toArray = Z := ⟨_, rfl⟩
  have hz2 : ∀ wx, (zeroValue 42).run Try.prog wx = .ok (.agg Z) wx := fun wx => by rw [hz0, cntV, hZ]
  have hR0 : RowZ ((w.alloc (.cells Z 42)).alloc (.cells Z 42)) w.heap.size 42 (List.replicate 256 0) := by
    rw [← hZ]; exact (RowZ.new rfl).later ((Below.refl _ _).alloc (Nat.le_refl _) _)
  have hR1 : RowZ ((w.alloc (.cells Z 42)).alloc (.cells Z 42)) (w.heap.size + 1) 42 (cntL 256 D 0) := by
    rw [← hZ, cntL_zero]; exact RowZ.new (by simp)
  have hB0 : Below w.heap.size w ((w.alloc (.cells Z 42)).alloc (.cells Z 42)) := ((Below.refl _ _).alloc (Nat.le_refl _) _).alloc (by simp) _
  have HKK := Lib.hid HK; have HD := Lib.hid hD
  have HZ1 := Lib.hid hz1; have HZZ := Lib.hid hZ
  clear HK hD hz0 hz1 hZ
  go_enter Try.func12, Try.ntmps12
  go_wp2_with fail
  clear hz2
  go_loopw [8] (fun i' wr => ∃ i : Nat, i ≤ n ∧ i' = .int .i64 i ∧ RowZ wr w.heap.size 42 (List.replicate 256 0) ∧ RowZ wr (w.heap.size + 1) 42 (cntL 256 D i) ∧ Below w.heap.size w wr) (fun i' _ => n - (intOf i').toNat)
  case atStart => exact ⟨0, Nat.zero_le _, rfl, hR0, hR1, hB0⟩
  case round =>
    clear hR0 hR1 hB0
    obtain ⟨i, hi, rfl, hR, hS, hb⟩ := hrel
    by_cases hlt : i < n
    · have j1 : (i : Int) < (n : Int) := by omega
      go_wp2_with fail
      refine (HKK.out i wr hlt hb).mono ?_
      rintro e w1 ⟨rfl, hb1⟩
      have hR' := hR.later hb1
      have hS' := hS.later hb1
      have hbb := hb.trans (hb1.mono hb.size)
      have hDi := HD.out i hlt
      have kc := hS'.cell (D i) (by rw [cntL_len]; exact hDi)
      rw [cntL_get hDi] at kc
      have kf := hS'.frozen (D i)
      have hset := hS'.set (D i) ((dgC D (D i) i : Int) + 1)
      rw [cntL_set] at hset
      have hcl := dgC_le D (D i) i
      have hRs := hR'.other (k := D i) (w.heap.size + 1) (.int .i64 ((dgC D (D i) i : Int) + 1)) (by omega)
      have hbs : Below w.heap.size w (w1.setCell ⟨w.heap.size + 1, D i, none⟩ (.int .i64 ((dgC D (D i) i : Int) + 1))) := hbb.setCell (p := ⟨w.heap.size + 1, D i, none⟩) (Nat.le_succ _) _
      have HS := Lib.hid hset; have HRS := Lib.hid hRs; have HBS := Lib.hid hbs
      clear hset hRs hbs hR hS hR' hS' hb hb1 hbb
      revert kc kf HS HRS HBS hDi hcl
      generalize D i = d
      generalize dgC D d i = q
      intro kc kf hDi hcl HS HRS HBS
      have j2 : (0 : Int) ≤ (d : Int) := by omega
      have j3 : (d : Int) < 256 := by omega
      go_wp2_with fail
      go_roundw
      case rel => exact ⟨i + 1, hlt, by go_num, HRS.out, HS.out, HBS.out⟩
      case measure => simp [intOf]; omega
    · obtain rfl : i = n := by omega
      have j1 : ¬ (i : Int) < (i : Int) := by omega
      have hRR := hR.put (cntL 256 D i)
      have hbb := below_put hb (Nat.le_refl _) (((cntL 256 D i).map (Value.int .i64)).toArray)
      clear hb
      go_wp2_with (first | (refine wpList_load_rowZ rfl 42 3 _ rfl (w.heap.size + 1) 256 rfl (cntL 256 D i) hS Try.underlying42 (by rw [cntL_len]; exact HZ1.out) ?_) | (refine wpList_store_rowZ rfl 42 _ _ rfl w.heap.size rfl (cntL 256 D i) rfl (List.replicate 256 0) hR (by rw [cntL_len, List.length_replicate]) (by rw [cntL_len]; exact HZ1.out) ?_))
      refine bodyPost_ret (v := cntV (cntL 256 D i)) ?_ rfl ⟨rfl, hbb⟩
      exact results_cell_row rfl _ _ w.heap.size 42 _ (0, 0) _ rfl hRR.whole Try.underlying42 rfl (by simpa [cntL_len] using HZ1.out)


set_option maxRecDepth 100000 in
set_option maxHeartbeats 2000000 in
/-- How often the round has each digit. -/
theorem roundCounts_any (b T B n m : Nat) (w : World) (hf : Frd b T B n m) :
    Calls Try.prog 14 #[.int .i64 b, .agg #[.int .i64 T, .int .i64 B]] w fun e w' => e = .returned (cntV (cntL 256 (rdg b T B n) m)) ∧ Below w.heap.size w w' := by
  have h3 := hf.b2; have h4 := hf.b16; have hT := hf.lt; have hB := hf.bot; have hm2 := hf.le; have hm1 := hf.pos
  obtain ⟨hz0, hz1⟩ := zero_of_info infoCnt
  obtain ⟨Z, hZ⟩ : ∃ Z : Array Value, ((List.replicate 256 (0 : Int)).map (Value.int .i64)).toArray = Z := ⟨_, rfl⟩
  have hz2 : ∀ wx, (zeroValue 42).run Try.prog wx = .ok (.agg Z) wx := fun wx => by rw [hz0, cntV, hZ]
  have HF := Lib.hid hf; have HZ1 := Lib.hid hz1; have HZZ := Lib.hid hZ
  clear hf hz0 hz1 hZ
  go_enter Try.func14, Try.ntmps14
  go_wp2_with fail
  refine (round_any b T B _ hT HF.out.cop hB h3 h4).mono ?_
  rintro e w1 ⟨v, n', m', hm, rfl, hv, hb1⟩
  obtain ⟨rfl, rfl⟩ := HF.out.len.unique hm
  obtain ⟨g, o, c, rfl, _, hgl, _, _⟩ := slc_some hv (by rw [rndL_len]; omega)
  have hlen := rndL_len b T B n m
  rw [hlen] at hv ⊢
  have hR0 : RowZ w1 (w.heap.size + 1) 42 (List.replicate 256 0) := by
    have : RowZ ((w.alloc (.cells #[.int .i64 T, .int .i64 B] 31)).alloc (.cells Z 42)) (w.heap.size + 1) 42 (List.replicate 256 0) := by
      rw [← HZZ.out]; exact RowZ.new (by simp)
    exact this.later hb1
  have hb0 : Below w.heap.size w w1 := (((Below.refl w.heap.size w).alloc (Nat.le_refl _) _).alloc (by simp) _).trans (hb1.mono (by simp; omega))
  have HD := Lib.hid (fun (i : Nat) (hi : i < m) => rndL_get b T B n m i hi)
  have HDG := Lib.hid (fun i => HF.out.dig i)
  have hbA : Below w1.heap.size w1 (w1.alloc (.cells #[.slice (some ⟨g, o, none⟩) m c] 27)) := (Below.refl _ _).alloc (Nat.le_refl _) _
  have hcA : (w1.alloc (.cells #[.slice (some ⟨g, o, none⟩) m c] 27)).cell? ⟨w1.heap.size, 0, none⟩ = some (.slice (some ⟨g, o, none⟩) m c) := (cell_of_row _ _ 0 _ _ _ (heap_alloc_new w1 _)).trans rfl
  have hsA : Slc 0 (w1.alloc (.cells #[.slice (some ⟨g, o, none⟩) m c] 27)) (.slice (some ⟨g, o, none⟩) m c) (rndL b T B n m) := (hv.later hbA).mono (Nat.zero_le _)
  have hRA := hR0.later hbA
  have hbw : Below w.heap.size w (w1.alloc (.cells #[.slice (some ⟨g, o, none⟩) m c] 27)) := hb0.trans (hbA.mono hb0.size)
  have hszA : (w1.alloc (.cells #[.slice (some ⟨g, o, none⟩) m c] 27)).heap.size = w1.heap.size + 1 := by simp
  have HHV := Lib.hid hv
  clear hv hm hz2 hR0 hb0 hb1 hbA
  have HLEN := Lib.hid hlen
  clear hlen
  go_wp2_with fail
  revert hcA hsA hRA hbw hszA
  generalize w1.alloc (.cells #[.slice (some ⟨g, o, none⟩) m c] 27) = w2
  intro hcA hsA hRA hbw hszA
  refine (countedR_any m w1.heap.size (rdg b T B n) w2 hm2 (fun i _ => by have := HDG.out i; omega) (fun i W hi hbW => ?call)).mono ?_
  case call =>
    have := roundAt_any w1.heap.size 0 i _ (rndL b T B n m) W (cell_later hbW hcA) (hsA.later hbW) (by rw [HLEN.out]; exact hi) (by rw [HLEN.out]; exact hm2)
    rw [HD.out i hi] at this
    exact this
  rintro e w3 ⟨rfl, hb3⟩
  have hR3 := hRA.later hb3
  have hb4 := hbw.trans (hb3.mono hbw.size)
  have hRR := hR3.put (cntL 256 (rdg b T B n) m)
  have hbb := below_put hb4 (Nat.le_succ _) (((cntL 256 (rdg b T B n) m).map (Value.int .i64)).toArray)
  clear hb4 hb3 hRA hsA hcA hbw
  go_wp2_with (refine wpList_store_rowZ rfl 42 _ _ rfl (w.heap.size + 1) rfl (cntL 256 (rdg b T B n) m) rfl (List.replicate 256 0) hR3 (by rw [cntL_len, List.length_replicate]) (by rw [cntL_len]; exact HZ1.out) ?_)
  refine bodyPost_ret (v := cntV (cntL 256 (rdg b T B n) m)) ?_ rfl ⟨rfl, hbb⟩
  exact results_cell_row rfl _ _ (w.heap.size + 1) 42 _ (0, 0) _ rfl hRR.whole Try.underlying42 rfl (by simpa [cntL_len] using HZ1.out)

end Go.Proofs.Ytamcpoadpkgogad
