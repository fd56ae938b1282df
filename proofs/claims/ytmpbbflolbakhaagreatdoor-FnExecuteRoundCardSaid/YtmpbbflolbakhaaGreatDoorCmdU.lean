/-
  Chapter 9: the lines "frac T B" and "round", where all is right.
-/
import Derived.Test.YtmpbbflolbakhaaGreatDoorCmdS
import Derived.Test.YtmpbbflolbakhaaGreatDoorCmdQ
import Derived.Test.YtmpbbflolbakhaaGreatDoorLists
import Derived.Test.YtmpbbflolbakhaaGreatDoorPMath
namespace Go.Proofs.YtmpbbflolbakhaaGreatDoor
open Go.RowKit

set_option maxRecDepth 100000 in
set_option maxHeartbeats 4000000 in
theorem benchRound_any (b T B n m o : Nat) (w : World) (h : tldB b T B = true) (hnm : IsLen b T B n m) (hO : BenchAt o b T B w)
    (h64 : ∀ W, Below w.heap.size w W → W.cell? ⟨6, 15, none⟩ = some (.int .u8 4)) :
    Calls Tryz.prog 65 #[.pointer (some ⟨o, 0, none⟩)] w fun e w' => e = .returned (.string ⟨((List.range m).map fun k => hexd (dig b T B (n + k))).toArray⟩) ∧ Below w.heap.size w w' := by
  obtain ⟨h3, h4, hT, hB, hg⟩ := tld_facts h
  have hle := hnm.le hT
  have hpos := hnm.pos
  have HR : Hid (∀ W : World, Calls Tryz.prog 6 #[.int .i64 b, .agg #[.int .i64 T, .int .i64 B]] W fun e w' => ∃ v, e = .returned (.tuple #[v, .bool true]) ∧ Slc W.heap.size w' v (rndL b T B n m) ∧ Below W.heap.size W w') := fun W => implFracRound_yes b T B n m h hT hg hB h3 h4 hnm W
  have HD : Hid (∀ (W W' : World) (v : Value), Below w.heap.size w W → Slc W'.heap.size W v (rndL b T B n m) → Calls Tryz.prog 100 #[v, .bool true] W fun e w' => e = .returned (.string ⟨((List.range m).map fun k => hexd (dig b T B (n + k))).toArray⟩) ∧ Below W.heap.size W w') := fun W W' v hW hv =>
    digitsOutput_any (fun k => dig b T B (n + k)) m W'.heap.size (rndL b T B n m) v W (rndL_len b T B n m) (by omega) (by omega) hv (fun k hk => rndL_get b T B n m k hk) (fun k _ => Nat.lt_of_lt_of_le (dig_lt hT _ (by omega)) h4) (fun W2 hW2 => h64 W2 (hW.trans (hW2.mono hW.size)))
  have c0 : w.cell? ⟨o, 0, none⟩ = some (.int .i64 b) := by rw [Lib.cell_of_heap hO]; rfl
  have c1 : w.cell? ⟨o, 1, none⟩ = some (.int .i64 T) := by rw [Lib.cell_of_heap hO]; rfl
  have c2 : w.cell? ⟨o, 2, none⟩ = some (.int .i64 B) := by rw [Lib.cell_of_heap hO]; rfl
  clear h64 h hnm hg hle hpos hO hB h3 h4 hT
  generalize ((List.range m).map fun k => hexd (dig b T B (n + k))) = S at HD ⊢
  generalize rndL b T B n m = R at HD HR
  go_enter Tryz.func65, Tryz.ntmps65
  go_wp2_with fail
  go_region_with (first | (go_at_call 6; with_reducible refine Calls.mono (HR.out _) ?_; rintro e w1 ⟨v, rfl, hv, hb1⟩) | (go_at_call 100; with_reducible refine Calls.mono (HD.out _ _ _ (below_drew1 hb1) hv) ?_; rintro e w2 ⟨rfl, hb2⟩))
  all_goals (
    go_wp2_with fail
    go_ret
    exact ⟨rfl, (below_drew1 hb1).trans (hb2.mono (below_drew1 hb1).size)⟩)
theorem ansRound (b T B n m o : Nat) (k : Int) (w : World) (h : tldB b T B = true) (hnm : IsLen b T B n m) (hO : BenchAt o b T B w) (hm : w.cell? ⟨0, 0, none⟩ = some (.int .i64 k))
    (h64 : ∀ W, Below w.heap.size w W → W.cell? ⟨6, 15, none⟩ = some (.int .u8 4)) :
    Calls Tryz.prog 22 #[.pointer (some ⟨o, 0, none⟩), .string ⟨[114, 111, 117, 110, 100].toArray⟩] w fun e w' => e = .returned (.string ⟨((List.range m).map fun k => hexd (dig b T B (n + k))).toArray⟩) ∧ BenchAt o b T B w' ∧ BelowBut w.heap.size o w w' := by
  refine answerLone_any [114, 111, 117, 110, 100] _ k 65 3 o (BenchAt o b T B) w (by decide) (by decide) hO.lt hm (enters_of Tryz.func65 (by kernel_rfl) rfl) rfl ?_ (fun w' v x hne h => h.off hne)
  intro W hW
  have hO' := hO.keep hW
  refine (benchRound_any b T B n m o W h hnm hO' (fun W2 hW2 => h64 W2 (hW.trans (hW2.mono hW.size)))).mono ?_
  rintro e w' ⟨rfl, hb⟩
  exact ⟨rfl, hO'.keep hb, Below.but o hb⟩
theorem ansFrac (T B o : Nat) (b t n k : Int) (w : World) (hT : T ≤ 99999) (hB : B ≤ 99999) (hF : finB T B = true) (hO : BenchAt o b t n w) (hm : w.cell? ⟨0, 0, none⟩ = some (.int .i64 k)) :
    Calls Tryz.prog 22 #[.pointer (some ⟨o, 0, none⟩), .string ⟨([102, 114, 97, 99] ++ 32 :: restOf [Lib.decDigits T, Lib.decDigits B]).toArray⟩] w fun e w' => e = .returned (.string ⟨[111, 107].toArray⟩) ∧ BenchAt o b T B w' ∧ BelowBut w.heap.size o w w' := by
  have hol := hO.lt
  have hL1 := dec_short 4 T (by omega)
  have hL2 := dec_short 4 B (by omega)
  have nsp : ∀ k : Nat, (32 : UInt8) ∉ Lib.decDigits k := fun k h => by have := dec_dig k 32 h; simp at this
  refine answerRest_any [102, 114, 97, 99] _ [111, 107] 2 k 74 1 o (Nums 2 (fun i => if i = 0 then (T : Int) else B)) (BenchAt o b T B) w (by decide) (by simp [restOf]; omega) hol hm (enters_of Tryz.func74 (by kernel_rfl) rfl) rfl rfl ?_ ?_ (fun w' v x hne h => h.off hne)
  · intro W hW
    exact restNumbers_any (Lib.decDigits T) [Lib.decDigits B] (fun i => if i = 0 then (T : Int) else B) 2 k W rfl (by omega) (by
        intro l hl
        simp only [List.mem_cons, List.not_mem_nil, or_false] at hl
        rcases hl with rfl | rfl
        · exact nsp T
        · exact nsp B) (by simp [restOf]; omega) (cell0_keep hm hW (by omega)) (by
        intro i l W2 hl
        have hi : i = 0 ∨ i = 1 := by
          have := (List.getElem?_eq_some_iff.1 hl).1
          simp at this; omega
        rcases hi with rfl | rfl
        · simp at hl; subst hl; exact restNumber_dec T W2 hT
        · simp at hl; subst hl; exact restNumber_dec B W2 hB)
  · intro W g hW hg
    exact benchFrac_any o b t n _ g W (hO.keep hW) hg hF

end Go.Proofs.YtmpbbflolbakhaaGreatDoor
