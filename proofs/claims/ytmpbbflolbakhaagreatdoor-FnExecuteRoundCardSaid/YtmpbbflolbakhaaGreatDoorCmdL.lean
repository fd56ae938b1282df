/-
  Chapter 9: a line's answer: any word with a rest, any word without one, where nothing panics.
-/
import Derived.Test.YtmpbbflolbakhaaGreatDoorCmdM
import Derived.Test.YtmpbbflolbakhaaGreatDoorGCmW
import Derived.Laws.EntriesVeiled
namespace Go.Proofs.YtmpbbflolbakhaaGreatDoor
open Go.RowKit

/-- Below block number B all blocks but o are as they were; the streams too; no block has gone. -/
structure BelowBut (B o : Nat) (w w' : World) : Prop where
  os : w'.os = w.os
  tape : w'.tape = w.tape
  output : w'.output = w.output
  size : w.heap.size ≤ w'.heap.size
  block : ∀ k, k < B → k ≠ o → w'.heap[k]? = w.heap[k]?
theorem Below.but {B : Nat} {w w' : World} (o : Nat) (h : Below B w w') : BelowBut B o w w' := ⟨h.os, h.tape, h.output, h.size, fun k hk _ => h.block k hk⟩
theorem BelowBut.below {B B' o : Nat} {w w' : World} (h : BelowBut B o w w') (hB : B' ≤ o) (hw : B' ≤ B) : Below B' w w' := ⟨h.os, h.tape, h.output, h.size, fun k hk => h.block k (by omega) (by omega)⟩
theorem BelowBut.mono {B B' o : Nat} {w w' : World} (h : BelowBut B o w w') (hB : B' ≤ B) : BelowBut B' o w w' := ⟨h.os, h.tape, h.output, h.size, fun k hk => h.block k (by omega)⟩
theorem BelowBut.trans {B o : Nat} {a b c : World} (h : BelowBut B o a b) (k : BelowBut B o b c) : BelowBut B o a c :=
  ⟨k.os.trans h.os, k.tape.trans h.tape, k.output.trans h.output, Nat.le_trans h.size k.size, fun i hi hne => (k.block i hi hne).trans (h.block i hi hne)⟩
theorem BelowBut.set {B o : Nat} {a w : World} (h : BelowBut B o a w) (p : Addr) (hp : B ≤ p.block ∨ p.block = o) (u : Value) : BelowBut B o a (w.setCell p u) :=
  ⟨h.os, h.tape, h.output, by simpa [World.setCell] using h.size, fun k hk hne => by
    have e : k ≠ p.block := by rcases hp with h1 | h1 <;> omega
    exact (Below.heap_setCell w p u k e).trans (h.block k hk hne)⟩
/-- The bench in its own block: base, top, bottom. -/
def BenchAt (o : Nat) (b t n : Int) (w : World) : Prop := w.heap[o]? = some (.cells #[.int .i64 b, .int .i64 t, .int .i64 n] 44 (0, 0))
theorem BenchAt.lt {o : Nat} {b t n : Int} {w : World} (h : BenchAt o b t n w) : o < w.heap.size := (Array.getElem?_eq_some_iff.1 h).1
theorem BenchAt.keep {o : Nat} {b t n : Int} {w w' : World} (h : BenchAt o b t n w) (hb : Below w.heap.size w w') : BenchAt o b t n w' := (hb.block o h.lt).trans h

/-- A part of the text that never panics: what would follow a panic need not be told. -/
abbrev quietQ (Q : Exit → Act → World → Prop) : Exit → Act → World → Prop := fun e a w => match e with | .normal => Q .normal a w | _ => False
theorem wp_quiet {P : Program} {c : Code} {Q : Exit → Act → World → Prop} {a : Act} {w : World} (h : c.wp P (quietQ Q) a w) : c.wp P Q a w :=
  wp_mono h fun e a w hq => by cases e <;> first | exact hq | exact hq.elim
theorem off_heap (W : World) (o v : Nat) (x : Value) (hne : o ≠ v) : (W.setCell ⟨o, 0, none⟩ x).heap[v]? = W.heap[v]? := by
  simp [World.setCell, Array.getElem?_modify, hne]
theorem out_cell {W : World} {v : Nat} (hv : W.heap[v]? = some (.cells #[.string ⟨#[]⟩] 9 (0, 0))) :
    W.cell? ⟨v, 0, none⟩ = some (.string ⟨#[]⟩) ∧ W.frozen? ⟨v, 0, none⟩ = false :=
  ⟨by simp [World.cell?, hv], by simp [World.frozen?, hv]⟩
theorem ask_cell {W W' : World} {r : Nat} {k : Int} {f : Value} (h : W.heap[r]? = some (.cells #[.int .i64 k, f] 84 (0, 0))) (hb : Below W.drew.heap.size W.drew W') : W'.cell? ⟨r, 1, none⟩ = some f := by
  have h2 := ((below_drew1 hb).block r (Array.getElem?_eq_some_iff.1 h).1).trans h
  simp [World.cell?, h2]
set_option maxRecDepth 100000 in
set_option maxHeartbeats 4000000 in
/-- A word with a rest: what the word's own method answers. G: what is known of the numbers; K: what the method leaves. -/
theorem answerRest_any (word rest ans : List UInt8) (many m : Int) (fn ix o : Nat) (G : Value → World → Prop) (K : World → Prop) (w : World) (hw : (32 : UInt8) ∉ word) (hL : (word ++ 32 :: rest).length ≤ 1000) (hog : o < w.heap.size) (hm : w.cell? ⟨0, 0, none⟩ = some (.int .i64 m))
    (efn : ∀ args w, (callFunc fn args).run Tryz.prog w = .ok (.enter fn args) w)
    (hl0 : Instr.findNow .string (.string ⟨word.toArray⟩) loneEs.toList 0 = some none)
    (hr0 : Instr.findNow .string (.string ⟨word.toArray⟩) restEs.toList 0 = some (some (ix, .agg #[.int .i64 many, .func (.func fn) #[] #[]])))
    (hN : ∀ W, Below w.heap.size w W → Calls Tryz.prog 47 #[.string ⟨rest.toArray⟩, .int .i64 many] W fun e w' => ∃ g, e = .returned g ∧ G g w' ∧ Below W.heap.size W w')
    (hB : ∀ W g, Below w.heap.size w W → G g W → Calls Tryz.prog fn #[.pointer (some ⟨o, 0, none⟩), g] W fun e w' => e = .returned (.string ⟨ans.toArray⟩) ∧ K w' ∧ BelowBut W.heap.size o W w')
    (hK : ∀ w' (v : Nat) (x : Value), o ≠ v → K w' → K (w'.setCell ⟨v, 0, none⟩ x)) :
    Calls Tryz.prog 22 #[.pointer (some ⟨o, 0, none⟩), .string ⟨(word ++ 32 :: rest).toArray⟩] w fun e w' => e = .returned (.string ⟨ans.toArray⟩) ∧ K w' ∧ BelowBut w.heap.size o w w' := by
  have hmf : ∀ (fn : Fn) (first cap : Array Value) (w : World), (Instr.makeFunc fn first cap).run Tryz.prog w = .ok (.func fn first cap) w := fun _ _ _ _ => rfl
  have hcut : Lib.cut (word ++ 32 :: rest) [32] = (word, rest, true) := by
    have hi : Lib.index (word ++ 32 :: rest) [32] = word.length := Lib.index_first (i := word.length) (by simp) (by simp [Lib.occAt, List.isPrefixOf]) (fun j hj => by
      unfold Lib.occAt
      rw [List.drop_append_of_le_length (by omega)]
      have : (32 : UInt8) ≠ word[j] := fun e => hw (e ▸ List.getElem_mem hj)
      rw [show List.drop j word = word[j] :: List.drop (j + 1) word from List.drop_eq_getElem_cons hj]
      show ((32 : UInt8) == word[j] && _) = false
      rw [beq_eq_false_iff_ne.2 this]; rfl)
    unfold Lib.cut
    rw [hi, if_pos (by omega)]
    simp
  have hC : Hid (∀ W, W.cell? ⟨0, 0, none⟩ = some (.int .i64 m) → Calls Tryz.prog 44 #[.string ⟨(word ++ 32 :: rest).toArray⟩, .string ⟨#[32]⟩] W fun e w' => e = .returned (.tuple #[.string ⟨word.toArray⟩, .string ⟨rest.toArray⟩, .bool true]) ∧ ∃ n, w' = W.drewN n) := fun W hW => by
    have := Tryz.strings_Cut ⟨(word ++ 32 :: rest).toArray⟩ ⟨#[32]⟩ m W (by show Array.size _ < _; simp at hL ⊢; omega) hW
    rw [hcut] at this
    exact this
  have hz : ∀ W : World, (zeroValue 78).run Tryz.prog W = .ok .nilFunc W := fun W => by simp
  have HN := Lib.hid hN; have HB := Lib.hid hB; have HK := Lib.hid hK
  clear hcut hN hB hK hL hw
  have hlone : Hid (∀ W : World, (Instr.lookup 80 (.map (some W.heap.size)) (.string ⟨word.toArray⟩) true).run Tryz.prog (W.alloc (.map loneEs 11)) = .ok (.tuple #[.nilFunc, .bool false]) (W.alloc (.map loneEs 11))) := fun W =>
    run_look_miss _ Tryz.underlying80 Tryz.underlying9 (heap_alloc_new W _) (hz _) hl0
  have hrest : Hid (∀ W : World, (Instr.lookup 86 (.map (some W.heap.size)) (.string ⟨word.toArray⟩) true).run Tryz.prog (W.alloc (.map restEs 19)) = .ok (.tuple #[.agg #[.int .i64 many, .func (.func fn) #[] #[]], .bool true]) (W.alloc (.map restEs 19))) := fun W =>
    run_look_hit _ Tryz.underlying86 Tryz.underlying9 (heap_alloc_new W _) hr0
  clear hz hl0 hr0
  generalize word ++ 32 :: rest = S at hC ⊢
  go_enter_defers Tryz.func22, Tryz.ntmps22
  have h00 : (w.alloc (.cells #[.string ⟨#[]⟩] 9)).cell? ⟨0, 0, none⟩ = some (.int .i64 m) := by
    rw [World.cell?_of_block (a := ⟨0, 0, none⟩) (Below.heap_alloc _ _ 0 (by omega))]; exact hm
  have hlm := hlone.out
  have hrm : ∀ (W : World) (ob : Obj), (Instr.lookup 86 (.map (some (W.heap.size + 1))) (.string ⟨word.toArray⟩) true).run Tryz.prog ((W.alloc ob).alloc (.map restEs 19)) = .ok (.tuple #[.agg #[.int .i64 many, .func (.func fn) #[] #[]], .bool true]) ((W.alloc ob).alloc (.map restEs 19)) := fun W ob => by
    have := hrest.out (W.alloc ob)
    rwa [show (W.alloc ob).heap.size = W.heap.size + 1 by simp] at this
  go_wp2_with fail
  refine (hC.out _ h00).mono ?_
  rintro e W1 ⟨rfl, q, hW1⟩
  have hheap : W1.heap = (w.alloc (.cells #[.string ⟨#[]⟩] 9)).heap := by rw [hW1]; rfl
  have hs1 : Hid (W1.heap.size = w.heap.size + 1) := by show _ = _; rw [hheap]; simp
  have hv1 : Hid (W1.heap[w.heap.size]? = some (.cells #[.string ⟨#[]⟩] 9 (0, 0))) := by show _ = _; rw [hheap]; exact heap_alloc_new w _
  have hb1 : Hid (Below w.heap.size w W1) := by
    show Below _ _ _
    have h1 := (Below.refl w.heap.size w).alloc (Nat.le_refl _) (.cells #[.string ⟨#[]⟩] 9)
    rw [hW1]
    exact ⟨h1.os, h1.tape, h1.output, h1.size, h1.block⟩
  clear hW1 hheap
  go_wp2_with (first | (go_at_call 45; refine (loneWords_any _).mono ?_; rintro e w' ⟨rfl, rfl⟩) | (go_at_call 46; refine (restWords_any _).mono ?_; rintro e w' ⟨rfl, rfl⟩))
  clear hlm hrm hlone hrest hC h00
  obtain ⟨W2, hW2⟩ : ∃ W2, ((W1.alloc (.map loneEs 11)).alloc (.map restEs 19)).alloc (.cells #[.int .i64 many, .func (.func fn) #[] #[]] 84) = W2 := ⟨_, rfl⟩
  have hb2 : Below W1.heap.size W1 W2 := by rw [← hW2]; exact (((Below.refl _ _).alloc (Nat.le_refl _) _).alloc (by simp) _).alloc (by simp; omega) _
  have hr2 : W2.heap[W1.heap.size + 1 + 1]? = some (.cells #[.int .i64 many, .func (.func fn) #[] #[]] 84 (0, 0)) := by
    rw [← hW2]
    have := heap_alloc_new ((W1.alloc (.map loneEs 11)).alloc (.map restEs 19)) (.cells #[.int .i64 many, .func (.func fn) #[] #[]] 84)
    simpa using this
  rw [hW2]
  clear hW2
  obtain ⟨r, hr⟩ : ∃ r, W1.heap.size + 1 + 1 = r := ⟨_, rfl⟩
  rw [hr] at hr2 ⊢
  have hs1' := hs1.out
  have hBw2 : Below w.heap.size w W2 := hb1.out.trans (hb2.mono (by omega))
  have hv2 : W2.heap[w.heap.size]? = some (.cells #[.string ⟨#[]⟩] 9 (0, 0)) := (hb2.block _ (by omega)).trans hv1.out
  have hrl : r < W2.heap.size := (Array.getElem?_eq_some_iff.1 hr2).1
  have hsz2 : w.heap.size < W2.heap.size := (Array.getElem?_eq_some_iff.1 hv2).1
  have hc0 : W2.cell? ⟨r, 0, none⟩ = some (.int .i64 many) := by simp [World.cell?, hr2]
  have hc1 : W2.cell? ⟨r, 1, none⟩ = some (.func (.func fn) #[] #[]) := by simp [World.cell?, hr2]
  have HW2 := Lib.hid hBw2
  have HR := Lib.hid hr2
  have HV := Lib.hid hv2
  have hov : Hid (o ≠ w.heap.size) := by show _ ≠ _; omega
  have HS2 := Lib.hid hsz2
  clear hr2 hv2 hs1' hm hBw2 hb2 hb1 hs1 hv1
  refine wp_quiet ?_
  go_region_with (first | (go_at_call 47; with_reducible refine Calls.mono (HN.out _ HW2.out.drew) ?_; rintro e W3 ⟨g, rfl, hG, hb3⟩; have hca := ask_cell HR.out hb3) | (with_reducible refine Calls.mono (HB.out _ g (HW2.out.trans ((below_drew1 hb3).mono HW2.out.size)) hG) ?_; rintro e W4 ⟨rfl, hK4, hb4⟩; have hoc := out_cell ((hb4.block _ (Nat.lt_of_lt_of_le hsz2 (below_drew1 hb3).size) (Ne.symm hov.out)).trans (((below_drew1 hb3).block _ hsz2).trans HV.out)); have hoc1 := hoc.1; have hoc2 := hoc.2))
  all_goals (
    show Exit.then _ _ Exit.normal _ _
    go_wp2_with fail
    refine leaves_cons (f := 43) (args := #[.pointer (some ⟨w.heap.size, 0, none⟩)]) (by simp) (by simp [go_sem]) ?_
    refine (caught_idle ⟨w.heap.size, 0, none⟩ _).mono ?_
    rintro e u' w'' ⟨rfl, rfl, rfl⟩
    simp [Leaves, settle, results, Tryz.results22, go_sem]
    have hx : (W4.setCell ⟨w.heap.size, 0, none⟩ (.string ⟨ans.toArray⟩)).cell? ⟨w.heap.size, 0, none⟩ = some (.string ⟨ans.toArray⟩) := World.cell?_setCell_same _ _ _ hoc1
    rw [hx]
    exact ⟨_, rfl, rfl, HK.out _ _ _ hov.out hK4, ((Below.but o (HW2.out.trans ((below_drew1 hb3).mono HW2.out.size))).trans (hb4.mono (Nat.le_trans HW2.out.size (below_drew1 hb3).size))).set _ (.inl (Nat.le_refl _)) _⟩)

end Go.Proofs.YtmpbbflolbakhaaGreatDoor
