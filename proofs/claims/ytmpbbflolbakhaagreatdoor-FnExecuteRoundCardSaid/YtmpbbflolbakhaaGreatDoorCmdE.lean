/-
  Chapter 9: a script of lines of which each is answered: what Execute prints.
-/
import Derived.Test.YtmpbbflolbakhaaGreatDoorCmdL
import Derived.Test.YtmpbbflolbakhaaGreatDoorGCmT
namespace Go.Proofs.YtmpbbflolbakhaaGreatDoor
open Go.RowKit

theorem bld_keep {w w' : World} {B b o : Nat} {bs : List Value} (h : Lib.IsBuilder 49 5 B b bs w) (ho : o < B) (hb : BelowBut w.heap.size o w w') : Lib.IsBuilder 49 5 B b bs w' := by
  have one : ∀ p, Lib.BuilderAt 49 5 B b p bs w → Lib.BuilderAt 49 5 B b p bs w' := fun p ⟨hB, v, h1, h2, h3⟩ => by
    refine ⟨hB, v, (hb.block b (Array.getElem?_eq_some_iff.1 h1).1 (by omega)).trans h1, ⟨h2.1, h2.2.imp id ?_⟩, h3⟩
    rintro ⟨g', cap', cur', e1, e2, e3, e4⟩
    exact ⟨g', cap', cur', e1, e2, (hb.block g' (Array.getElem?_eq_some_iff.1 e3).1 (by omega)).trans e3, e4⟩
  exact h.imp (one _) (one _)
theorem text_len (out : Nat → List UInt8) : ∀ q, (∀ i, i < q → (out i).length ≤ 1000) → (textOf ((List.range q).map out)).length ≤ q * 1001
  | 0, _ => by simp [textOf]
  | q + 1, h => by
    have ih := text_len out q (fun i hi => h i (by omega))
    have := h q (by omega)
    rw [List.range_succ, List.map_append, List.map_singleton, textOf_snoc, List.length_append, List.length_append, List.length_singleton]
    omega
theorem lines_len (L : List (List UInt8)) : L.length ≤ (textOf L).length := by
  induction L with
  | nil => simp [textOf]
  | cons l L ih => rw [textOf_cons]; simp; omega
theorem line_len {L : List (List UInt8)} {l : List UInt8} (h : l ∈ L) : l.length ≤ (textOf L).length := by
  induction L with
  | nil => cases h
  | cons x L ih =>
    rw [textOf_cons, List.length_append, List.length_cons]
    rcases List.mem_cons.1 h with rfl | h
    · omega
    · have := ih h; omega
set_option maxRecDepth 100000 in
set_option maxHeartbeats 4000000 in
theorem execute_any (L : List (List UInt8)) (out : Nat → List UInt8) (sb st sn : Nat → Int) (B : Nat) (m : Int) (w : World) (hnl : ∀ l ∈ L, (10 : UInt8) ∉ l) (hlen : (textOf L).length ≤ 600)
    (h0 : sb 0 = 10 ∧ st 0 = 0 ∧ sn 0 = 1) (hB : sb L.length = B) (hB2 : B ≤ 1000000) (hout : ∀ i, i < L.length → (out i).length ≤ 1000)
    (hA : ∀ i l o W, L[i]? = some l → Below w.heap.size w W → w.heap.size ≤ o → BenchAt o (sb i) (st i) (sn i) W →
      Calls Tryz.prog 22 #[.pointer (some ⟨o, 0, none⟩), .string ⟨l.toArray⟩] W fun e w' => e = .returned (.string ⟨(out i).toArray⟩) ∧ BenchAt o (sb (i + 1)) (st (i + 1)) (sn (i + 1)) w' ∧ BelowBut W.heap.size o W w')
    (hm : w.cell? ⟨0, 0, none⟩ = some (.int .i64 m)) (htab : Lib.TabBelow Tryz.prog w.heap.size w "internal/strconv.uint64pow10" .u64 Lib.pow10Tab) :
    Calls Tryz.prog 9 #[.string ⟨(textOf L).toArray⟩] w fun e w' => e = .returned (.string ⟨(textOf ((List.range L.length).map out) ++ ([98, 97, 115, 101, 32] ++ Lib.decDigits B ++ [10])).toArray⟩) ∧ Below w.heap.size w w' := by
  have hn := lines_len L
  have hsz0 : 0 < w.heap.size := by
    rcases Nat.eq_zero_or_pos w.heap.size with h | h
    · have : w.heap[0]? = none := Array.getElem?_eq_none (by omega)
      simp [World.cell?, this] at hm
    · exact h
  have HA := Lib.hid hA; have HT := Lib.hid htab; have HO := Lib.hid hout; have H0 := Lib.hid h0; have HBe := Lib.hid hB
  have HD := Lib.hid (dec_len B hB2)
  have hS := Lib.hid (fun W (hW : W.cell? ⟨0, 0, none⟩ = some (.int .i64 m)) => splitLines_any L hnl (by omega) m W hW)
  have HLl : Hid (∀ l, l ∈ L → l.length ≤ 600) := fun l hl => Nat.le_trans (line_len hl) hlen
  clear hA htab hout h0 hB hnl
  have htx : ¬ ((textOf L).toArray.size : Int) > 600 := by simp; omega
  have hnL : Hid (L.length ≤ 600) := by show _ ≤ _; omega
  generalize hT : textOf L = T at hS htx hlen ⊢
  clear hT hn
  go_enter Tryz.func9, Tryz.ntmps9
  go_wp2_with fail
  refine (hS.out _ (by rw [World.cell?_of_block (a := ⟨0, 0, none⟩) (Below.heap_alloc _ _ 0 hsz0)]; exact hm)).mono ?_
  rintro e W1 ⟨rfl, rfl⟩
  clear hS
  have hwn : IntKind.i64.wrap (L.length : Int) = L.length := IntWalk.i64_in _ (by have := hnL.out; omega)
  have hLc : Hid (∀ i, i < L.length → ((L ++ [[]]).map fun l : List UInt8 => Value.string ⟨l.toArray⟩).toArray[i]? = (L[i]?).map fun l => Value.string ⟨l.toArray⟩) := fun i hi => by
    rw [List.getElem?_toArray, List.getElem?_map, List.getElem?_append_left hi]
  generalize ((L ++ [[]]).map fun l : List UInt8 => Value.string ⟨l.toArray⟩).toArray = LC at hLc ⊢
  go_wp2_with fail
  obtain ⟨W3, hW3⟩ : ∃ W3, ((w.alloc (.cells #[.int .i64 10, .int .i64 0, .int .i64 1] 44)).alloc (.cells LC 9)).alloc (.cells #[.pointer none, .slice none 0 0] 49) = W3 := ⟨_, rfl⟩
  have hb3 : Below w.heap.size w W3 := by rw [← hW3]; exact (((Below.refl _ _).alloc (Nat.le_refl _) _).alloc (by simp) _).alloc (by simp; omega) _
  have ho3 : BenchAt w.heap.size 10 0 1 W3 := by
    show W3.heap[_]? = _
    rw [← hW3, Below.heap_alloc _ _ _ (by simp; omega), Below.heap_alloc _ _ _ (by simp)]
    exact heap_alloc_new w _
  have hg3 : W3.heap[w.heap.size + 1]? = some (.cells LC 9 (0, 0)) := by
    rw [← hW3, Below.heap_alloc _ _ _ (by simp)]
    have := heap_alloc_new (w.alloc (.cells #[.int .i64 10, .int .i64 0, .int .i64 1] 44)) (.cells LC 9)
    simpa using this
  have hk3 : W3.heap[w.heap.size + 2]? = some (.cells #[.pointer none, .slice none 0 0] 49 (0, 0)) := by
    rw [← hW3]
    have := heap_alloc_new ((w.alloc (.cells #[.int .i64 10, .int .i64 0, .int .i64 1] 44)).alloc (.cells LC 9)) (.cells #[.pointer none, .slice none 0 0] 49)
    simpa using this
  rw [hW3]
  clear hW3
  have hi3 : Lib.IsBuilder 49 5 (w.heap.size + 2) (w.heap.size + 2) (Lib.byteCells (textOf ((List.range 0).map out))) W3 :=
    .inl ⟨Nat.le_refl _, _, hk3, World.ownsRow_nil _ _ _ _, by simp [Value.ownBlock]⟩
  have hs3 : w.heap.size + 2 < W3.heap.size := (Array.getElem?_eq_some_iff.1 hk3).1
  obtain ⟨o, ho⟩ : ∃ o, w.heap.size = o := ⟨_, rfl⟩
  rw [ho] at hb3 ho3 hg3 hk3 hi3 hs3 HA HT hsz0 ⊢
  have hnL' := hnL.out
  obtain ⟨d, hd⟩ : ∃ d, o + 1 + 1 = d := ⟨_, rfl⟩
  rw [show o + 2 = o + 1 + 1 from rfl] at hk3 hi3 hs3
  rw [hd] at hk3 hi3 hs3 ⊢
  have hod : o + 1 < d := by omega
  clear hd
  go_loopw [7, 22] (fun _ x wr => ∃ q : Nat, q ≤ L.length ∧ x = .int .i64 q ∧ Hid (BenchAt o (sb q) (st q) (sn q) wr) ∧ Hid (Lib.IsBuilder 49 5 d d (Lib.byteCells (textOf ((List.range q).map out))) wr) ∧ Hid (BelowBut d o W3 wr)) (fun _ x _ => L.length - (intOf x).toNat)
  case atStart =>
    refine ⟨0, by omega, rfl, ?_, hi3, Below.but o (Below.refl _ _)⟩
    show BenchAt _ _ _ _ _
    rw [H0.out.1, H0.out.2.1, H0.out.2.2]; exact ho3
  case round =>
    obtain ⟨q, hq, rfl, HQ, HI, HK⟩ := hrel
    have hBw : Hid (Below o w wr) := by
      refine hb3.trans (HK.out.below (Nat.le_refl _) (by omega))
    have hds : d < wr.heap.size := by
      have := HI.out
      rcases this with h | h <;> exact h.lt
    by_cases hlt : q < L.length
    · obtain ⟨l, hl⟩ : ∃ l, L[q]? = some l := ⟨_, List.getElem?_eq_getElem hlt⟩
      have hLq := hLc.out q hlt
      rw [hl] at hLq
      have hcl : wr.cell? ⟨o + 1, q, none⟩ = some (.string ⟨l.toArray⟩) := by
        have h1 : wr.heap[o + 1]? = some (.cells LC 9 (0, 0)) := (HK.out.block (o + 1) hod (by omega)).trans hg3
        simp [World.cell?, h1, hLq]
      have hltI : ((q : Int) < L.length) := by omega
      have hAq := Lib.hid (HA.out q l o wr hl hBw.out (Nat.le_refl _) HQ.out)
      have hol := HO.out q hlt
      have hadd : ∀ W, (Op.stringOp .add ⟨(out q).toArray⟩ ⟨#[10]⟩).run Tryz.prog W = .ok (.string ⟨(out q ++ [10]).toArray⟩) W := fun W => str_add (out q) [10] (by omega) (by simp) W
      have htl := text_len out q (fun i hi => HO.out i (by omega))
      have hwq : IntKind.i64.wrap ((q : Int) + 1) = q + 1 := IntWalk.i64_in _ (by omega)
      clear hLq hl hi3 ho3 hg3 hk3
      go_wp2_with fail
      refine hAq.out.mono ?_
      rintro e w1 ⟨rfl, hbe1, hbb1⟩
      have HB1 := Lib.hid hbe1; have HK1 := Lib.hid (HK.out.trans (hbb1.mono (Nat.le_of_lt hds)))
      have hi1 := Lib.hid (bld_keep HI.out (by omega) hbb1)
      have hsz1 := hbb1.size
      clear hbe1 hbb1 hAq HQ HI HK hBw hcl
      have hWS := Lib.hid (writeString_any d d _ ⟨(out q ++ [10]).toArray⟩ w1 hi1.out (by
        rw [Lib.byteCells_length]
        show _ + (out q ++ [10]).toArray.size ≤ _
        simp; omega) (by omega))
      go_wp2_with fail
      with_reducible refine Calls.mono hWS.out ?_
      rintro e w2 ⟨rfl, hbd2, hb2⟩
      have HB2 : Hid (BenchAt o (sb (q + 1)) (st (q + 1)) (sn (q + 1)) w2) := (hb2.block o (by omega)).trans HB1.out
      have HK2 := Lib.hid (HK1.out.trans (Below.but o hb2))
      have HI2 : Hid (Lib.IsBuilder 49 5 d d (Lib.byteCells (textOf ((List.range (q + 1)).map out))) w2) := by
        refine .inr ?_
        rw [List.range_succ, List.map_append, List.map_singleton, textOf_snoc, Lib.byteCells_append]
        exact hbd2
      clear hbd2 hb2 HB1 HK1 hi1
      go_wp2_with fail
      exact ⟨⟨q + 1, by omega, by simp, HB2, HI2, HK2⟩, by simp [intOf]; omega⟩
    · obtain rfl : q = L.length := by omega
      have hcb : wr.cell? ⟨o, 0, none⟩ = some (.int .i64 B) := by
        have h1 := HQ.out
        rw [HBe.out] at h1
        unfold BenchAt at h1
        simp [World.cell?, h1]
      have hIt : Hid (Calls Tryz.prog 23 #[.int .i64 B] wr fun e w' => e = .returned (.string ⟨(Lib.decDigits B).toArray⟩) ∧ Below wr.heap.size wr w') := by
        refine (Tryz.strconv_Itoa B (by omega) (by omega) wr (HT.out wr hBw.out)).mono ?_
        rintro e w' ⟨rfl, q, os, rfl⟩
        rw [Lib.itoa_nonneg]
        exact ⟨rfl, Lib.below_grow _ wr (Nat.le_refl _) q os⟩
      have hDl := HD.out
      have htl := text_len out L.length (fun i hi => HO.out i hi)
      obtain ⟨D, hDD⟩ : ∃ D, Lib.decDigits B = D := ⟨_, rfl⟩
      rw [hDD] at hIt hDl
      obtain ⟨E1, hE1⟩ : ∃ E1, [98, 97, 115, 101, 32] ++ D = E1 := ⟨_, rfl⟩
      obtain ⟨E2, hE2⟩ : ∃ E2, E1 ++ [10] = E2 := ⟨_, rfl⟩
      have hl1 : E1.length = D.length + 5 := by rw [← hE1]; simp
      have hl2 : E2.length = E1.length + 1 := by rw [← hE2]; simp
      have hadd1 : ∀ W, (Op.stringOp .add ⟨#[98, 97, 115, 101, 32]⟩ ⟨D.toArray⟩).run Tryz.prog W = .ok (.string ⟨E1.toArray⟩) W := fun W => by rw [← hE1]; exact str_add [98, 97, 115, 101, 32] D (by simp) (by omega) W
      have hadd2 : ∀ W, (Op.stringOp .add ⟨E1.toArray⟩ ⟨#[10]⟩).run Tryz.prog W = .ok (.string ⟨E2.toArray⟩) W := fun W => by rw [← hE2]; exact str_add E1 [10] (by omega) (by simp) W
      obtain ⟨X, hX⟩ : ∃ X, textOf ((List.range L.length).map out) = X := ⟨_, rfl⟩
      rw [hX] at HI htl
      have HX := Lib.hid hX; have HE1 := Lib.hid hE1; have HE2 := Lib.hid hE2; have HDD := Lib.hid hDD
      clear hE1 hE2 hX hDD hi3 ho3 hg3 hk3 hb3 hs3
      go_wp2_with fail
      refine hIt.out.mono ?_
      rintro e w1 ⟨rfl, hb1⟩
      have hi1 := Lib.hid (bld_keep HI.out (by omega) (Below.but o hb1))
      have hsz1 := hb1.size
      have hB1 := Lib.hid (hBw.out.trans (hb1.mono (by have := hBw.out.size; omega)))
      have hWS := Lib.hid (writeString_any d d _ ⟨E2.toArray⟩ w1 hi1.out (by
        rw [Lib.byteCells_length]
        show _ + E2.toArray.size ≤ _
        simp; omega) (by omega))
      clear hb1 hIt HI HQ HK hBw hcb
      go_wp2_with fail
      with_reducible refine Calls.mono hWS.out ?_
      rintro e w2 ⟨rfl, hbd2, hb2⟩
      have hB2' := Lib.hid (hB1.out.trans (hb2.mono (by omega)))
      have hST := Lib.hid (Tryz.Builder_String_any d d (X ++ E2) w2 (.inr (by rw [Lib.byteCells_append]; exact hbd2)) (by have := hb2.size; omega))
      have hsz2 := hb2.size
      clear hbd2 hb2 hWS hi1 hB1
      go_wp2_with fail
      with_reducible refine Calls.mono hST.out ?_
      rintro e w3 ⟨rfl, hb4⟩
      go_wp2_with fail
      go_ret
      have hfin : textOf (List.map out (List.range L.length)) ++ 98 :: 97 :: 115 :: 101 :: 32 :: (D ++ [10]) = X ++ E2 := by rw [HX.out, ← HE2.out, ← HE1.out]; simp
      rw [HDD.out, hfin, ho]
      exact ⟨rfl, hB2'.out.trans (hb4.mono (by omega))⟩

end Go.Proofs.YtmpbbflolbakhaaGreatDoor
