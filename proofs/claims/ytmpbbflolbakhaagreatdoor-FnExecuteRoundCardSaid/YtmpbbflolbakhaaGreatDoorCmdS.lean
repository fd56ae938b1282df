/-
  Chapter 9: a line's answer: any word without a rest.
-/
import Derived.Test.YtmpbbflolbakhaaGreatDoorCmdF
namespace Go.Proofs.YtmpbbflolbakhaaGreatDoor
open Go.RowKit

theorem index_absent (c : UInt8) : ∀ l : List UInt8, c ∉ l → Lib.index l [c] = -1
  | [], _ => by simp [Lib.index]
  | b :: l, h => by
    have ih := index_absent c l (fun hx => h (by simp [hx]))
    have hne : (c == b) = false := beq_eq_false_iff_ne.2 (fun e => h (by simp [e]))
    rw [Lib.index, ih]
    simp [List.isPrefixOf, hne]

set_option maxRecDepth 100000 in
set_option maxHeartbeats 4000000 in
theorem answerLone_any (word ans : List UInt8) (m : Int) (fn ix o : Nat) (K : World → Prop) (w : World) (hw : (32 : UInt8) ∉ word) (hL : word.length ≤ 1000) (hog : o < w.heap.size) (hm : w.cell? ⟨0, 0, none⟩ = some (.int .i64 m))
    (efn : ∀ args w, (callFunc fn args).run Tryz.prog w = .ok (.enter fn args) w)
    (hl0 : Instr.findNow .string (.string ⟨word.toArray⟩) loneEs.toList 0 = some (some (ix, .func (.func fn) #[] #[])))
    (hB : ∀ W, Below w.heap.size w W → Calls Tryz.prog fn #[.pointer (some ⟨o, 0, none⟩)] W fun e w' => e = .returned (.string ⟨ans.toArray⟩) ∧ K w' ∧ BelowBut W.heap.size o W w')
    (hK : ∀ w' (v : Nat) (x : Value), o ≠ v → K w' → K (w'.setCell ⟨v, 0, none⟩ x)) :
    Calls Tryz.prog 22 #[.pointer (some ⟨o, 0, none⟩), .string ⟨word.toArray⟩] w fun e w' => e = .returned (.string ⟨ans.toArray⟩) ∧ K w' ∧ BelowBut w.heap.size o w w' := by
  have hmf : ∀ (fn : Fn) (first cap : Array Value) (w : World), (Instr.makeFunc fn first cap).run Tryz.prog w = .ok (.func fn first cap) w := fun _ _ _ _ => rfl
  have hcut : Lib.cut word [32] = (word, [], false) := by
    unfold Lib.cut
    rw [index_absent 32 word hw, if_neg (by omega)]
  have hC : Hid (∀ W, W.cell? ⟨0, 0, none⟩ = some (.int .i64 m) → Calls Tryz.prog 44 #[.string ⟨word.toArray⟩, .string ⟨#[32]⟩] W fun e w' => e = .returned (.tuple #[.string ⟨word.toArray⟩, .string ⟨#[]⟩, .bool false]) ∧ ∃ n, w' = W.drewN n) := fun W hW => by
    have := Tryz.strings_Cut ⟨word.toArray⟩ ⟨#[32]⟩ m W (by show Array.size _ < _; simp; omega) hW
    rw [hcut] at this
    exact this
  have HB := Lib.hid hB; have HK := Lib.hid hK
  clear hcut hB hK hL hw
  have hlone : Hid (∀ W : World, (Instr.lookup 80 (.map (some W.heap.size)) (.string ⟨word.toArray⟩) true).run Tryz.prog (W.alloc (.map loneEs 11)) = .ok (.tuple #[.func (.func fn) #[] #[], .bool true]) (W.alloc (.map loneEs 11))) := fun W =>
    run_look_hit _ Tryz.underlying80 Tryz.underlying9 (heap_alloc_new W _) hl0
  clear hl0
  go_enter_defers Tryz.func22, Tryz.ntmps22
  have h00 : (w.alloc (.cells #[.string ⟨#[]⟩] 9)).cell? ⟨0, 0, none⟩ = some (.int .i64 m) := by
    rw [World.cell?_of_block (a := ⟨0, 0, none⟩) (Below.heap_alloc _ _ 0 (by omega))]; exact hm
  have hlm := hlone.out
  have hnot : ∀ (x : Bool) (w : World), (Op.unary .not (.bool x)).run Tryz.prog w = .ok (.bool (!x)) w := fun _ _ => rfl
  go_wp2_with fail
  refine (hC.out _ h00).mono ?_
  rintro e W1 ⟨rfl, q, hW1⟩
  have hheap : W1.heap = (w.alloc (.cells #[.string ⟨#[]⟩] 9)).heap := by rw [hW1]; rfl
  have hv1 : Hid (W1.heap[w.heap.size]? = some (.cells #[.string ⟨#[]⟩] 9 (0, 0))) := by show _ = _; rw [hheap]; exact heap_alloc_new w _
  have hb1 : Hid (Below w.heap.size w W1) := by
    show Below _ _ _
    have h1 := (Below.refl w.heap.size w).alloc (Nat.le_refl _) (.cells #[.string ⟨#[]⟩] 9)
    rw [hW1]
    exact ⟨h1.os, h1.tape, h1.output, h1.size, h1.block⟩
  clear hW1 hheap
  go_wp2_with (go_at_call 45; refine (loneWords_any _).mono ?_; rintro e w' ⟨rfl, rfl⟩)
  clear hlm hlone hC h00
  obtain ⟨W2, hW2⟩ : ∃ W2, W1.alloc (.map loneEs 11) = W2 := ⟨_, rfl⟩
  have hb2 : Below W1.heap.size W1 W2 := by rw [← hW2]; exact (Below.refl _ _).alloc (Nat.le_refl _) _
  have hv1l : w.heap.size < W1.heap.size := (Array.getElem?_eq_some_iff.1 hv1.out).1
  have HW2 : Hid (Below w.heap.size w W2) := hb1.out.trans (hb2.mono (by omega))
  have HV : Hid (W2.heap[w.heap.size]? = some (.cells #[.string ⟨#[]⟩] 9 (0, 0))) := (hb2.block _ (by omega)).trans hv1.out
  have hsz2 : w.heap.size < W2.heap.size := (Array.getElem?_eq_some_iff.1 HV.out).1
  have hov : Hid (o ≠ w.heap.size) := by show _ ≠ _; omega
  rw [hW2]
  clear hW2 hb2 hv1 hb1 hm
  refine (HB.out _ HW2.out).mono ?_
  rintro e W4 ⟨rfl, hK4, hb4⟩
  have hoc := out_cell ((hb4.block _ hsz2 (Ne.symm hov.out)).trans HV.out)
  have hoc1 := hoc.1; have hoc2 := hoc.2
  clear hoc
  go_wp2_with fail
  refine leaves_cons (f := 43) (args := #[.pointer (some ⟨w.heap.size, 0, none⟩)]) (by simp) (by simp [go_sem]) ?_
  refine (caught_idle ⟨w.heap.size, 0, none⟩ _).mono ?_
  rintro e u' w'' ⟨rfl, rfl, rfl⟩
  simp [Leaves, settle, results, Tryz.results22, go_sem]
  have hx : (W4.setCell ⟨w.heap.size, 0, none⟩ (.string ⟨ans.toArray⟩)).cell? ⟨w.heap.size, 0, none⟩ = some (.string ⟨ans.toArray⟩) := World.cell?_setCell_same _ _ _ hoc1
  rw [hx]
  exact ⟨_, rfl, rfl, HK.out _ _ _ hov.out hK4, ((Below.but o HW2.out).trans (hb4.mono HW2.out.size)).set _ (.inl (Nat.le_refl _)) _⟩

end Go.Proofs.YtmpbbflolbakhaaGreatDoor
