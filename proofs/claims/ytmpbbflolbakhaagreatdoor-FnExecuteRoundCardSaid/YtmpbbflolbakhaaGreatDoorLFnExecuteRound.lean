/-
  The law FnExecuteRound's walk.
-/
import Derived.Test.YtmpbbflolbakhaaGreatDoorDrawS
import Derived.Test.YtmpbbflolbakhaaGreatDoorGRow
import Derived.Test.YtmpbbflolbakhaaGreatDoorGPrt
import Derived.Test.YtmpbbflolbakhaaGreatDoorCmdU
import Derived.Test.YtmpbbflolbakhaaGreatDoorDrawD
namespace Go.Proofs.YtmpbbflolbakhaaGreatDoor
open Go.RowKit

theorem cell_keep {w W : World} {a : Addr} {x : Value} (h : w.cell? a = some x) (hb : Below w.heap.size w W) : W.cell? a = some x := by
  have ha : a.block < w.heap.size := by
    rcases Nat.lt_or_ge a.block w.heap.size with h' | h'
    · exact h'
    · have : w.heap[a.block]? = none := Array.getElem?_eq_none h'
      simp [World.cell?, this] at h
  rw [World.cell?_of_block (a := a) (hb.block _ ha)]; exact h
set_option maxRecDepth 100000 in
set_option maxHeartbeats 4000000 in
theorem executeRound_right (b T B n m : Nat) (k : Int) (w : World) (h : tldB b T B = true) (hnm : IsLen b T B n m) (hm : w.cell? ⟨0, 0, none⟩ = some (.int .i64 k))
    (htab : Lib.TabBelow Tryz.prog w.heap.size w "internal/strconv.uint64pow10" .u64 Lib.pow10Tab) (h64 : w.cell? ⟨6, 15, none⟩ = some (.int .u8 4)) :
    Calls Tryz.prog 9 #[.string ⟨([98, 97, 115, 101, 32] ++ Lib.decDigits b ++ [10, 102, 114, 97, 99, 32] ++ Lib.decDigits T ++ [32] ++ Lib.decDigits B ++ [10, 114, 111, 117, 110, 100, 10]).toArray⟩] w fun e w' =>
      e = .returned (.string ⟨([111, 107, 10, 111, 107, 10] ++ ((List.range m).map fun k => hexd (dig b T B (n + k))) ++ [10, 98, 97, 115, 101, 32] ++ Lib.decDigits b ++ [10]).toArray⟩) ∧ Below w.heap.size w w' := by
  obtain ⟨h3, h4, hT, hB, hg⟩ := tld_facts h
  have hle := hnm.le hT
  have hF : finB T B = true := by
    have h' := h
    unfold tldB at h'
    rw [Bool.and_eq_true] at h'
    exact h'.2
  have hz : 0 < w.heap.size := by
    rcases Nat.eq_zero_or_pos w.heap.size with h | h
    · have : w.heap[0]? = none := Array.getElem?_eq_none (by omega)
      simp [World.cell?, this] at hm
    · exact h
  have hLb := dec_short 4 b (by omega)
  have hLT := dec_short 4 T (by omega)
  have hLB := dec_short 4 B (by omega)
  have nl : ∀ (c : UInt8) (k : Nat), c.toNat < 48 → c ∉ Lib.decDigits k := fun c k hc h => by have := dec_dig k c h; omega
  have hSl : ((List.range m).map fun k => hexd (dig b T B (n + k))).length = m := by simp
  obtain ⟨S, hS⟩ : ∃ S, ((List.range m).map fun k => hexd (dig b T B (n + k))) = S := ⟨_, rfl⟩
  rw [hS] at hSl ⊢
  have H := execute_any [[98, 97, 115, 101] ++ 32 :: Lib.decDigits b, [102, 114, 97, 99] ++ 32 :: restOf [Lib.decDigits T, Lib.decDigits B], [114, 111, 117, 110, 100]] (fun i => if i = 2 then S else [111, 107]) (fun i => if i = 0 then 10 else b) (fun i => if i ≤ 1 then 0 else T) (fun i => if i ≤ 1 then 1 else B) b k w
    (by
      intro l hl
      simp only [List.mem_cons, List.not_mem_nil, or_false] at hl
      rcases hl with rfl | rfl | rfl
      · simp [nl 10 b (by decide)]
      · simp [restOf, nl 10 T (by decide), nl 10 B (by decide)]
      · decide)
    (by simp [textOf, restOf]; omega) ⟨rfl, rfl, rfl⟩ rfl (by omega) (by intro i _; split <;> first | (simp; done) | omega)
    (by
      intro i l o W hil hW ho hO
      have hi : i = 0 ∨ i = 1 ∨ i = 2 := by
        have := (List.getElem?_eq_some_iff.1 hil).1
        simp at this; omega
      rcases hi with rfl | rfl | rfl
      · simp at hil
        subst hil
        exact ansBase b o 10 0 1 k W h3 h4 hO (cell0_keep hm hW hz)
      · simp at hil
        subst hil
        exact ansFrac T B o b 0 1 k W (by omega) (by omega) hF hO (cell0_keep hm hW hz)
      · simp at hil
        subst hil
        have := ansRound b T B n m o k W h hnm hO (cell0_keep hm hW hz) (fun W2 hW2 => cell_keep h64 (hW.trans (hW2.mono hW.size)))
        rw [hS] at this
        exact this)
    hm htab
  have e1 : textOf [[98, 97, 115, 101] ++ 32 :: Lib.decDigits b, [102, 114, 97, 99] ++ 32 :: restOf [Lib.decDigits T, Lib.decDigits B], [114, 111, 117, 110, 100]] = [98, 97, 115, 101, 32] ++ Lib.decDigits b ++ [10, 102, 114, 97, 99, 32] ++ Lib.decDigits T ++ [32] ++ Lib.decDigits B ++ [10, 114, 111, 117, 110, 100, 10] := by simp [textOf, restOf]
  have e2 : textOf ((List.range 3).map fun i => if i = 2 then S else [111, 107]) ++ ([98, 97, 115, 101, 32] ++ Lib.decDigits b ++ [10]) = [111, 107, 10, 111, 107, 10] ++ S ++ [10, 98, 97, 115, 101, 32] ++ Lib.decDigits b ++ [10] := by simp [textOf, List.range_succ]
  rw [e1] at H
  refine H.mono ?_
  rintro e w' ⟨rfl, hb⟩
  exact ⟨by rw [← e2]; rfl, hb⟩

set_option maxRecDepth 100000 in
set_option maxHeartbeats 4000000 in
theorem lawExecuteRound_any (a : Option Addr) (len cap : Nat) (zs : List Int) (w : World) (r : IsRow .u8 w a len cap zs) (k : Int) (hm : w.cell? ⟨0, 0, none⟩ = some (.int .i64 k))
    (htab : Lib.TabBelow Tryz.prog w.heap.size w "internal/strconv.uint64pow10" .u64 Lib.pow10Tab) (h64 : w.cell? ⟨6, 15, none⟩ = some (.int .u8 4)) :
    Calls Tryz.prog 3 #[.slice a len cap] w fun e w' => e = .returned (.bool true) ∧ Below w.heap.size w w' := by
  have hB := byt_of_row r
  clear r
  by_cases hl : 1048576 < len
  · have hl' : (1048576 : Int) < (len : Int) := by omega
    go_enter Tryz.func3, Tryz.ntmps3
    go_wp2
    go_ret
    exact ⟨rfl, Below.refl _ _⟩
  have hl' : decide ((1048576 : Int) < (len : Int)) = false := by simp; omega
  have HM := Lib.hid hm; have HT := Lib.hid htab; have H64 := Lib.hid h64
  clear hm htab h64
  go_enter Tryz.func3, Tryz.ntmps3
  go_wp2_with fail
  refine (drawFracRound_any a len cap _ hB).mono ?_
  rintro e w1 ⟨b, t, n, hd, rfl, hb1⟩
  obtain ⟨b, T, B, rfl, rfl, rfl, d1, d2, d3, d4⟩ := hd.nat
  clear hd hl hB
  have Q1 := Box2.new w1 24 (.int .i64 T) (.int .i64 B)
  have B1 := hb1.alloc hb1.size (.cells #[.int .i64 T, .int .i64 B] 24)
  clear hb1
  have c0 := Q1.cell0
  have c1 := Q1.cell1
  cases h : tldB b T B with
  | false =>
    go_wp2_with fail
    refine (implFracRound_no _ _ _ h _).mono ?_
    rintro e w2 ⟨v, rfl, v2, hb2⟩
    have Q2 := Q1.later hb2
    have B2 := B1.trans (hb2.mono B1.size)
    clear c0 c1 Q1 B1 hb2
    have c0 := Q2.cell0
    have c1 := Q2.cell1
    go_wp2_with fail
    refine (specFracRound_no _ _ _ h _).mono ?_
    rintro e w3 ⟨u, rfl, u3, hb3⟩
    have Q3 := Q2.later hb3
    have B3 := B2.trans (hb3.mono B2.size)
    have v3 := v2.later hb3
    clear c0 c1 Q2 B2 hb3 v2
    have c0 := Q3.cell0
    have c1 := Q3.cell1
    go_wp2_with fail
    refine (sameInts_any _ _ _ _ [] [] _ v3 u3 (by simp) (by simp)).mono ?_
    rintro e w4 ⟨rfl, hb4⟩
    have Q4 := Q3.later hb4
    have B4 := B3.trans (hb4.mono B3.size)
    have v4 := v3.later hb4
    have u4 := u3.later hb4
    clear c0 c1 Q3 B3 hb4 v3 u3
    have c0 := Q4.cell0
    have c1 := Q4.cell1
    go_wp2_with fail
    refine (sameInts_any _ _ _ _ [] [] _ v4 u4 (by simp) (by simp)).mono ?_
    rintro e w5 ⟨rfl, hb5⟩
    have Q5 := Q4.later hb5
    have B5 := B4.trans (hb5.mono B4.size)
    clear c0 c1 Q4 B4 hb5
    have c0 := Q5.cell0
    have c1 := Q5.cell1
    go_wp2_with fail
    go_ret
    exact ⟨rfl, B5⟩
  | true =>
    obtain ⟨h3, h4, hT, hB, hg⟩ := tld_facts h
    obtain ⟨n, m, hnm⟩ := len_some (b := b) hT hg
    have hle := hnm.le hT
    have hpos := hnm.pos
    have hly := rndL_len b T B n m
    have HG := Lib.hid hg; clear hg
    have DB := Lib.hid (fun W => digits_any b W (by omega))
    have DT := Lib.hid (fun W => digits_any T W (by omega))
    have DN := Lib.hid (fun W => digits_any B W (by omega))
    have hLb := dec_short 4 b (by omega)
    have hLT := dec_short 4 T (by omega)
    have hLN := dec_short 4 B (by omega)
    have SG : Hid (∀ (W : World) (v : Value) (n₀ : Nat), Slc n₀ W v (rndL b T B n m) → Calls Tryz.prog 11 #[v] W fun e w' => e = .returned (.string ⟨((List.range m).map fun k => hexd (dig b T B (n + k))).toArray⟩) ∧ Below W.heap.size W w') := fun W v n₀ hv =>
      signs_any (fun k => dig b T B (n + k)) m n₀ (rndL b T B n m) v W hly (by omega) (by omega) hv (fun k hk => rndL_get b T B n m k hk) (fun k _ => Nat.lt_of_lt_of_le (dig_lt hT _ (by omega)) h4)
    have EX := Lib.hid (fun W (hW : Below w.heap.size w W) => executeRound_right b T B n m k W h hnm (cell_keep HM.out hW) (tab_later HT.out hW) (cell_keep H64.out hW))
    have hLS : ((List.range m).map fun k => hexd (dig b T B (n + k))).length ≤ 1000 := by simp; omega
    go_wp2_with fail
    refine (implFracRound_yes b T B n m h hT HG.out hB h3 h4 hnm _).mono ?_
    rintro e w2 ⟨v, rfl, v2, hb2⟩
    have Q2 := Q1.later hb2
    have B2 := B1.trans (hb2.mono B1.size)
    clear c0 c1 Q1 B1 hb2
    have c0 := Q2.cell0
    have c1 := Q2.cell1
    go_wp2_with fail
    refine (specFracRound_yes b T B n m h hT hB h3 h4 hnm _).mono ?_
    rintro e w3 ⟨u, rfl, u3, hb3⟩
    have Q3 := Q2.later hb3
    have B3 := B2.trans (hb3.mono B2.size)
    have v3 := v2.later hb3
    clear c0 c1 Q2 B2 hb3 v2
    have c0 := Q3.cell0
    have c1 := Q3.cell1
    go_wp2_with fail
    refine (sameInts_any _ _ _ _ _ _ _ v3 u3 (by omega) (by omega)).mono ?_
    rintro e w4 ⟨rfl, hb4⟩
    have Q4 : Hid (Box2 w4.drew w1.heap.size 24 (.int .i64 T) (.int .i64 B)) := (id (Q3.later hb4) : w4.heap[w1.heap.size]? = _)
    have B4 := Lib.hid ((B3.trans (hb4.mono B3.size)).drew)
    have v4 : Hid (Slc w1.heap.size w4.drew v (rndL b T B n m)) := (v3.later hb4).mono (by simp)
    have c0 := Q4.out.cell0
    have c1 := Q4.out.cell1
    have hxx : decide (rndL b T B n m = rndL b T B n m) = true := by simp
    rw [hxx]
    clear hxx Q3 B3 hb4 v3 u3 hnm hle hpos hly HM HT H64 h hT hB h3 h4 HG
    generalize rndL b T B n m = R at v4 SG
    generalize ((List.range m).map fun k => hexd (dig b T B (n + k))) = S at SG EX hLS
    generalize Lib.decDigits b = Db at DB EX hLb
    generalize Lib.decDigits T = Dt at DT EX hLT
    generalize Lib.decDigits B = Dn at DN EX hLN
    obtain ⟨A1, hA1⟩ : ∃ A1, [98, 97, 115, 101, 32] ++ Db = A1 := ⟨_, rfl⟩
    obtain ⟨A2, hA2⟩ : ∃ A2, A1 ++ [10, 102, 114, 97, 99, 32] = A2 := ⟨_, rfl⟩
    obtain ⟨A3, hA3⟩ : ∃ A3, A2 ++ Dt = A3 := ⟨_, rfl⟩
    obtain ⟨A4, hA4⟩ : ∃ A4, A3 ++ [32] = A4 := ⟨_, rfl⟩
    obtain ⟨A5, hA5⟩ : ∃ A5, A4 ++ Dn = A5 := ⟨_, rfl⟩
    obtain ⟨A6, hA6⟩ : ∃ A6, A5 ++ [10, 114, 111, 117, 110, 100, 10] = A6 := ⟨_, rfl⟩
    obtain ⟨C1, hC1⟩ : ∃ C1, [111, 107, 10, 111, 107, 10] ++ S = C1 := ⟨_, rfl⟩
    obtain ⟨C2, hC2⟩ : ∃ C2, C1 ++ [10, 98, 97, 115, 101, 32] = C2 := ⟨_, rfl⟩
    obtain ⟨C3, hC3⟩ : ∃ C3, C2 ++ Db = C3 := ⟨_, rfl⟩
    obtain ⟨C4, hC4⟩ : ∃ C4, C3 ++ [10] = C4 := ⟨_, rfl⟩
    have l1 : A1.length = Db.length + 5 := by rw [← hA1]; simp
    have l2 : A2.length = A1.length + 6 := by rw [← hA2]; simp
    have l3 : A3.length = A2.length + Dt.length := by rw [← hA3]; simp
    have l4 : A4.length = A3.length + 1 := by rw [← hA4]; simp
    have l5 : A5.length = A4.length + Dn.length := by rw [← hA5]; simp
    have k1 : C1.length = S.length + 6 := by rw [← hC1]; simp
    have k2 : C2.length = C1.length + 6 := by rw [← hC2]; simp
    have k3 : C3.length = C2.length + Db.length := by rw [← hC3]; simp
    have a1 : ∀ W, (Op.stringOp .add ⟨#[98, 97, 115, 101, 32]⟩ ⟨Db.toArray⟩).run Tryz.prog W = .ok (.string ⟨A1.toArray⟩) W := fun W => by rw [← hA1]; exact str_add [98, 97, 115, 101, 32] Db (by simp) (by omega) W
    have a2 : ∀ W, (Op.stringOp .add ⟨A1.toArray⟩ ⟨#[10, 102, 114, 97, 99, 32]⟩).run Tryz.prog W = .ok (.string ⟨A2.toArray⟩) W := fun W => by rw [← hA2]; exact str_add A1 [10, 102, 114, 97, 99, 32] (by omega) (by simp) W
    have a3 : ∀ W, (Op.stringOp .add ⟨A2.toArray⟩ ⟨Dt.toArray⟩).run Tryz.prog W = .ok (.string ⟨A3.toArray⟩) W := fun W => by rw [← hA3]; exact str_add A2 Dt (by omega) (by omega) W
    have a4 : ∀ W, (Op.stringOp .add ⟨A3.toArray⟩ ⟨#[32]⟩).run Tryz.prog W = .ok (.string ⟨A4.toArray⟩) W := fun W => by rw [← hA4]; exact str_add A3 [32] (by omega) (by simp) W
    have a5 : ∀ W, (Op.stringOp .add ⟨A4.toArray⟩ ⟨Dn.toArray⟩).run Tryz.prog W = .ok (.string ⟨A5.toArray⟩) W := fun W => by rw [← hA5]; exact str_add A4 Dn (by omega) (by omega) W
    have a6 : ∀ W, (Op.stringOp .add ⟨A5.toArray⟩ ⟨#[10, 114, 111, 117, 110, 100, 10]⟩).run Tryz.prog W = .ok (.string ⟨A6.toArray⟩) W := fun W => by rw [← hA6]; exact str_add A5 [10, 114, 111, 117, 110, 100, 10] (by omega) (by simp) W
    have x1 : ∀ W, (Op.stringOp .add ⟨#[111, 107, 10, 111, 107, 10]⟩ ⟨S.toArray⟩).run Tryz.prog W = .ok (.string ⟨C1.toArray⟩) W := fun W => by rw [← hC1]; exact str_add [111, 107, 10, 111, 107, 10] S (by simp) (by omega) W
    have x2 : ∀ W, (Op.stringOp .add ⟨C1.toArray⟩ ⟨#[10, 98, 97, 115, 101, 32]⟩).run Tryz.prog W = .ok (.string ⟨C2.toArray⟩) W := fun W => by rw [← hC2]; exact str_add C1 [10, 98, 97, 115, 101, 32] (by omega) (by simp) W
    have x3 : ∀ W, (Op.stringOp .add ⟨C2.toArray⟩ ⟨Db.toArray⟩).run Tryz.prog W = .ok (.string ⟨C3.toArray⟩) W := fun W => by rw [← hC3]; exact str_add C2 Db (by omega) (by omega) W
    have x4 : ∀ W, (Op.stringOp .add ⟨C3.toArray⟩ ⟨#[10]⟩).run Tryz.prog W = .ok (.string ⟨C4.toArray⟩) W := fun W => by rw [← hC4]; exact str_add C3 [10] (by omega) (by simp) W
    rw [hA1, hA2, hA3, hA4, hA5, hA6, hC1, hC2, hC3, hC4] at EX
    clear hA1 hA2 hA3 hA4 hA5 hA6 hC1 hC2 hC3 hC4 l1 l2 l3 l4 l5 k1 k2 k3 hLb hLT hLN hLS d1 d2 d3 d4
    go_wp2_with fail
    go_region_with (first
      | (go_at_call 10; first
          | (with_reducible refine Calls.mono (DB.out _) ?_; rintro e wk ⟨rfl, hbk⟩; replace B4 := Lib.hid (B4.out.trans (hbk.mono B4.out.size)); replace Q4 := Lib.hid (Q4.out.later hbk); replace v4 := Lib.hid (v4.out.later hbk); have cc0 := Q4.out.cell0; have cc1 := Q4.out.cell1)
          | (with_reducible refine Calls.mono (DT.out _) ?_; rintro e wk ⟨rfl, hbk⟩; replace B4 := Lib.hid (B4.out.trans (hbk.mono B4.out.size)); replace Q4 := Lib.hid (Q4.out.later hbk); replace v4 := Lib.hid (v4.out.later hbk); have cc0 := Q4.out.cell0; have cc1 := Q4.out.cell1)
          | (with_reducible refine Calls.mono (DN.out _) ?_; rintro e wk ⟨rfl, hbk⟩; replace B4 := Lib.hid (B4.out.trans (hbk.mono B4.out.size)); replace Q4 := Lib.hid (Q4.out.later hbk); replace v4 := Lib.hid (v4.out.later hbk); have cc0 := Q4.out.cell0; have cc1 := Q4.out.cell1))
      | (go_at_call 9; with_reducible refine Calls.mono (EX.out _ B4.out) ?_; rintro e wk ⟨rfl, hbk⟩; replace B4 := Lib.hid (B4.out.trans (hbk.mono B4.out.size)); replace Q4 := Lib.hid (Q4.out.later hbk); replace v4 := Lib.hid (v4.out.later hbk))
      | (go_at_call 11; with_reducible refine Calls.mono (SG.out _ _ _ v4.out) ?_; rintro e wk ⟨rfl, hbk⟩; replace B4 := Lib.hid (B4.out.trans (hbk.mono B4.out.size)); replace Q4 := Lib.hid (Q4.out.later hbk); replace v4 := Lib.hid (v4.out.later hbk)))
    all_goals (
      go_wp2_with fail
      go_ret
      exact ⟨rfl, B4.out⟩)

end Go.Proofs.YtmpbbflolbakhaaGreatDoor
