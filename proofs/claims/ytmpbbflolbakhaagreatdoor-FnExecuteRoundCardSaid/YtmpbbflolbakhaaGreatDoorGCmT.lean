/-
  Chapter 9: a script is lines: what its text is cut into.
  Chapter 9: strings.Builder: a string is written behind what it holds.
-/
import Derived.Test.YtmpbbflolbakhaaGreatDoorGCmA
import Derived.Lib.Builder
import Derived.Lib.AppendStr
import Derived.Laws.Externs
namespace Go.Proofs.YtmpbbflolbakhaaGreatDoor
open Go.RowKit

/-- Lines, each with a newline behind it. -/
def textOf (L : List (List UInt8)) : List UInt8 := (L.map fun l => l ++ [10]).flatten
theorem textOf_cons (l : List UInt8) (L : List (List UInt8)) : textOf (l :: L) = l ++ 10 :: textOf L := by simp [textOf]
theorem textOf_snoc (l : List UInt8) (L : List (List UInt8)) : textOf (L ++ [l]) = textOf L ++ (l ++ [10]) := by simp [textOf]
theorem index_line (l r : List UInt8) (h : (10 : UInt8) ∉ l) : Lib.index (l ++ 10 :: r) [10] = l.length := by
  refine Lib.index_first (i := l.length) (by simp) (by simp [Lib.occAt, List.isPrefixOf]) (fun j hj => ?_)
  unfold Lib.occAt
  rw [List.drop_append_of_le_length (by omega)]
  have : (10 : UInt8) ≠ l[j] := fun e => h (e ▸ List.getElem_mem hj)
  rw [show List.drop j l = l[j] :: List.drop (j + 1) l from List.drop_eq_getElem_cons hj]
  show ((10 : UInt8) == l[j] && _) = false
  rw [beq_eq_false_iff_ne.2 this]; rfl
theorem split_text : ∀ L : List (List UInt8), (∀ l ∈ L, (10 : UInt8) ∉ l) → Lib.splitK [10] 0 L.length (textOf L) = L ++ [[]]
  | [], _ => rfl
  | l :: L, h => by
    have hi := index_line l (textOf L) (h l (by simp))
    have ih := split_text L (fun x hx => h x (by simp [hx]))
    rw [textOf_cons, List.length_cons, Lib.splitK, hi, if_neg (fun e => by have := beq_iff_eq.1 e; omega)]
    have e1 : ((l.length : Int).toNat + 0) = l.length := by omega
    have e2 : (l ++ 10 :: textOf L).drop ((l.length : Int).toNat + [(10 : UInt8)].length) = textOf L := by
      rw [show (l.length : Int).toNat + [(10 : UInt8)].length = l.length + 1 by simp, List.drop_append]
      simp
    rw [e1, e2, ih, List.take_left]
    rfl
theorem count_text : ∀ L : List (List UInt8), (∀ l ∈ L, (10 : UInt8) ∉ l) → Lib.count (textOf L) [10] = L.length
  | [], _ => by rw [Lib.count_one]; rfl
  | l :: L, h => by
    have ih := count_text L (fun x hx => h x (by simp [hx]))
    rw [Lib.count_one] at ih ⊢
    rw [textOf_cons, List.count_append, List.count_cons_self, List.count_eq_zero.2 (h l (by simp)), ih, List.length_cons]
    omega
theorem splitB_text (L : List (List UInt8)) (h : ∀ l ∈ L, (10 : UInt8) ∉ l) : (Lib.splitB ⟨#[10]⟩ 0 L.length ⟨(textOf L).toArray⟩).map Value.string = (L ++ [[]]).map fun l : List UInt8 => Value.string ⟨l.toArray⟩ := by
  have hd := Lib.splitB_data ⟨#[10]⟩ 0 L.length ⟨(textOf L).toArray⟩
  have hd' : (Lib.splitB ⟨#[10]⟩ 0 L.length ⟨(textOf L).toArray⟩).map (·.data.toList) = L ++ [[]] := hd.trans (split_text L h)
  rw [← hd', List.map_map]
  rfl
theorem splitLines_any (L : List (List UInt8)) (h : ∀ l ∈ L, (10 : UInt8) ∉ l) (hl : (textOf L).length ≤ 1000) (m : Int) (W : World) (hm : W.cell? ⟨0, 0, none⟩ = some (.int .i64 m)) :
    Calls Tryz.prog 20 #[.string ⟨(textOf L).toArray⟩, .string ⟨#[10]⟩] W fun e w' => e = .returned (.slice (some ⟨W.heap.size, 0, none⟩) (L.length + 1) (L.length + 1)) ∧ w' = W.alloc (.cells ((L ++ [[]]).map fun l : List UInt8 => Value.string ⟨l.toArray⟩).toArray 9) := by
  have hc : Lib.countB ⟨(textOf L).toArray⟩ ⟨#[10]⟩ = L.length := count_text L h
  have hs := Tryz.strings_Split ⟨(textOf L).toArray⟩ ⟨#[10]⟩ m W (by show (textOf L).toArray.size < _; simp; omega) hm (by show 1 ≤ (#[10] : Array UInt8).size; simp)
  rw [hc, splitB_text L h] at hs
  exact hs

end Go.Proofs.YtmpbbflolbakhaaGreatDoor

namespace Go.Proofs.YtmpbbflolbakhaaGreatDoor
open Go.RowKit

theorem sizeBld : (Tryz.prog.info? 49).map (·.size) = some 2 := by kernel_rfl
theorem liesBld : liesAt Tryz.prog Tryz.prog.depth 49 (2 / Tryz.prog.cellsOf 49) 0 49 1 = true := by kernel_rfl
theorem infoU8 : (Tryz.prog.info? 5).map (fun i => (i.zero, i.size, i.bytes)) = some (some (.int .u8 0), 1, 1) := by kernel_rfl
set_option maxRecDepth 100000 in
set_option maxHeartbeats 1000000 in
theorem copyCheck_used (b : Nat) (w : World) (h0 : w.cell? ⟨b, 0, none⟩ = some (.pointer (some ⟨b, 0, none⟩))) :
    Calls Tryz.prog 42 #[.pointer (some ⟨b, 0, none⟩)] w fun e w' => e = .returned (.tuple #[]) ∧ w' = w := by
  obtain ⟨j, hj, _⟩ := Option.map_eq_some_iff.1 sizeBld
  go_enter Tryz.func42, Tryz.ntmps42
  go_wp2
  rw [Lib.run_neq_ptr_same w _ Tryz.underlying47 hj]
  go_wp2
  go_end0
  exact ⟨rfl, rfl⟩
set_option maxRecDepth 100000 in
set_option maxHeartbeats 1000000 in
theorem copyCheck_fresh (b : Nat) (w : World) (h0 : w.cell? ⟨b, 0, none⟩ = some (.pointer none)) (hsh : w.shape? b = some (49, 2)) (hfz : w.frozen? ⟨b, 0, none⟩ = false) :
    Calls Tryz.prog 42 #[.pointer (some ⟨b, 0, none⟩)] w fun e w' => e = .returned (.tuple #[]) ∧ w' = w.setCell ⟨b, 0, none⟩ (.pointer (some ⟨b, 0, none⟩)) := by
  obtain ⟨j, hj, hjs⟩ := Option.map_eq_some_iff.1 sizeBld
  go_enter Tryz.func42, Tryz.ntmps42
  go_wp2
  rw [Lib.run_to_unsafe w ⟨b, 0, none⟩ Tryz.underlying47 Tryz.underlying98 hj (by rw [hjs]; decide) hsh (Nat.zero_lt_succ 1)]
  simp only [Result.andThen]
  rw [Oper.upon_value]
  go_wp2
  rw [run_callFunc_extern Tryz.func60 (by kernel_rfl) (by kernel_rfl) (by kernel_rfl) (e := Extern.AbiNoEscape.same) (by kernel_rfl)]
  rw [Lib.run_noEscape]
  simp only [Result.andThen]
  rw [Oper.upon_value]
  go_wp2
  rw [Lib.run_from_unsafe w ⟨b, 0, none⟩ Tryz.underlying98 Tryz.underlying47 hj hsh liesBld]
  simp only [Result.andThen]
  rw [Oper.upon_value]
  go_wp2
  go_end0
  exact ⟨rfl, rfl⟩
theorem copyCheck_any (B b : Nat) (bs : List Value) (w : World) (h : Lib.IsBuilder 49 5 B b bs w) :
    Calls Tryz.prog 42 #[.pointer (some ⟨b, 0, none⟩)] w fun e w' => e = .returned (.tuple #[]) ∧ (Lib.BuilderAt 49 5 B b (.pointer (some ⟨b, 0, none⟩)) bs w' ∧ Below B w w') := by
  rcases h with h | h
  · refine (copyCheck_fresh b w h.cell0 h.shape h.frozen0).mono ?_
    rintro e w' ⟨rfl, rfl⟩
    exact ⟨rfl, h.used _, (Below.refl B w).setCell (p := ⟨b, 0, none⟩) h.1 _⟩
  · refine (copyCheck_used b w h.cell0).mono ?_
    rintro e w' ⟨rfl, rfl⟩
    exact ⟨rfl, h, Below.refl B _⟩
set_option maxRecDepth 100000 in
set_option maxHeartbeats 2000000 in
/-- A string written: the builder holds its bytes behind what it held. -/
theorem writeString_any (B b : Nat) (bs : List Value) (s : ByteArray) (w : World) (h : Lib.IsBuilder 49 5 B b bs w) (hlen : bs.length + s.size ≤ 140737488355328) (hBw : B ≤ w.heap.size) :
    Calls Tryz.prog 21 #[.pointer (some ⟨b, 0, none⟩), .string s] w fun e w' => e = .returned (.tuple #[.int .i64 s.size, .nilIface]) ∧ (Lib.BuilderAt 49 5 B b (.pointer (some ⟨b, 0, none⟩)) (bs ++ Lib.strCells s) w' ∧ Below B w w') := by
  obtain ⟨i0, hi, hz0, hz1, hz2⟩ := info_parts infoU8
  go_enter Tryz.func21, Tryz.ntmps21
  go_wp2_with (go_at_call 42; refine (copyCheck_any B b bs _ h).mono ?_)
  rintro e w1 ⟨rfl, h1, hb1⟩
  obtain ⟨hB, v, hbk, hown, hne⟩ := h1
  have c0 : w1.cell? ⟨b, 0, none⟩ = some (.pointer (some ⟨b, 0, none⟩)) := by rw [Lib.cell_of_heap hbk]; rfl
  have c1 : w1.cell? ⟨b, 1, none⟩ = some v := by rw [Lib.cell_of_heap hbk]; rfl
  go_wp2_with (at_builtin; refine Lib.wpList_append_own_string _ rfl _ _ 22 9 rfl B 5 i0 Tryz.underlying22 Tryz.underlying9 hi hz0 hz1 hz2 _ _ _ rfl hown s rfl ?c3 ?c4 ?c5 ?_)
  case c3 => unfold maxLen; omega
  case c4 => omega
  case c5 => have := hb1.size; omega
  intro v' w2 hown' hgrow _
  have hlt : b < w1.heap.size := by
    rcases Nat.lt_or_ge b w1.heap.size with h' | h'
    · exact h'
    · simp [Array.getElem?_eq_none h'] at hbk
  have hb2 : w2.heap[b]? = some (.cells #[.pointer (some ⟨b, 0, none⟩), v] 49 (0, 0)) := by
    rw [hgrow.block b hlt (fun e => hne e.symm)]
    exact hbk
  have d0 : w2.cell? ⟨b, 0, none⟩ = some (.pointer (some ⟨b, 0, none⟩)) := by rw [Lib.cell_of_heap hb2]; rfl
  have d1 : w2.cell? ⟨b, 1, none⟩ = some v := by rw [Lib.cell_of_heap hb2]; rfl
  have f1 : w2.frozen? ⟨b, 1, none⟩ = false := Lib.frozen_of_heap hb2 1
  obtain ⟨ao, n', cap, rfl⟩ : ∃ ao n' cap, v' = .slice ao n' cap := by
    rcases hown'.2 with ⟨hv, _⟩ | ⟨g, cap, cur, hv, _⟩
    · exact ⟨_, _, _, hv⟩
    · exact ⟨_, _, _, hv⟩
  go_wp2
  go_ret2
  refine ⟨rfl, ?_, ?_⟩
  · exact Lib.BuilderAt.put (T := 49) (e := 5) hB hb2 (bs' := bs ++ Lib.strCells s) (by simpa [Lib.strCells_length] using hown') (by decide)
  · exact (hb1.grown hgrow (by have := hb1.size; omega) (fun k hk => (hown.lt k hk).1)).setCell (p := ⟨b, 1, none⟩) hB _

end Go.Proofs.YtmpbbflolbakhaaGreatDoor
