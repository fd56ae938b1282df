/-
  The law FnExecuteOrder's walk.
-/
import Derived.Test.YtmpbbflolbakhaaGreatDoorDrawO
import Derived.Test.YtmpbbflolbakhaaGreatDoorGOrx
import Derived.Test.YtmpbbflolbakhaaGreatDoorCmdF
namespace Go.Proofs.YtmpbbflolbakhaaGreatDoor
open Go.RowKit

set_option maxRecDepth 100000 in
set_option maxHeartbeats 4000000 in
theorem executeOrder_right (b n m : Nat) (k : Int) (w : World) (h3 : 2 ≤ b) (hp : prmB b n = true) (h4 : b ≤ 16) (hn : 2 ≤ n) (hn2 : n ≤ 1000) (hl : IsLen b 1 n 0 m) (hm : w.cell? ⟨0, 0, none⟩ = some (.int .i64 k))
    (htab : Lib.TabBelow Tryz.prog w.heap.size w "internal/strconv.uint64pow10" .u64 Lib.pow10Tab) :
    Calls Tryz.prog 9 #[.string ⟨([98, 97, 115, 101, 32] ++ Lib.decDigits b ++ [10, 111, 114, 100, 101, 114, 32] ++ Lib.decDigits n ++ [10]).toArray⟩] w fun e w' =>
      e = .returned (.string ⟨([111, 107, 10] ++ Lib.decDigits m ++ [10, 98, 97, 115, 101, 32] ++ Lib.decDigits b ++ [10]).toArray⟩) ∧ Below w.heap.size w w' := by
  have hmn : m ≤ 1000 := by have := hl.le (show 1 < n by omega); omega
  have hz : 0 < w.heap.size := by
    rcases Nat.eq_zero_or_pos w.heap.size with h | h
    · have : w.heap[0]? = none := Array.getElem?_eq_none (by omega)
      simp [World.cell?, this] at hm
    · exact h
  have hLb := dec_short 4 b (by omega)
  have hLn := dec_short 4 n (by omega)
  have hLm := dec_short 4 m (by omega)
  have nl : ∀ (c : UInt8) (k : Nat), c.toNat < 48 → c ∉ Lib.decDigits k := fun c k hc h => by have := dec_dig k c h; omega
  have H := execute_any [[98, 97, 115, 101] ++ 32 :: Lib.decDigits b, [111, 114, 100, 101, 114] ++ 32 :: Lib.decDigits n] (fun i => if i = 0 then [111, 107] else Lib.decDigits m) (fun i => if i = 0 then 10 else b) (fun _ => 0) (fun _ => 1) b k w
    (by
      intro l hl
      simp only [List.mem_cons, List.not_mem_nil, or_false] at hl
      rcases hl with rfl | rfl
      · simp [nl 10 b (by decide)]
      · simp [nl 10 n (by decide)])
    (by simp [textOf]; omega) ⟨rfl, rfl, rfl⟩ rfl (by omega) (by intro i _; split <;> first | (simp; done) | omega)
    (by
      intro i l o W hil hW ho hO
      have hi : i = 0 ∨ i = 1 := by
        have := (List.getElem?_eq_some_iff.1 hil).1
        simp at this; omega
      rcases hi with rfl | rfl
      · simp at hil
        subst hil
        exact ansBase b o 10 0 1 k W h3 h4 hO (cell0_keep hm hW hz)
      · simp at hil
        subst hil
        exact ansOrder b n m o 0 1 k W hp h4 hn hn2 hl hO (cell0_keep hm hW hz) (tab_later htab hW))
    hm htab
  have e1 : textOf [[98, 97, 115, 101] ++ 32 :: Lib.decDigits b, [111, 114, 100, 101, 114] ++ 32 :: Lib.decDigits n] = [98, 97, 115, 101, 32] ++ Lib.decDigits b ++ [10, 111, 114, 100, 101, 114, 32] ++ Lib.decDigits n ++ [10] := by simp [textOf]
  have e2 : textOf ((List.range 2).map fun i => if i = 0 then [111, 107] else Lib.decDigits m) ++ ([98, 97, 115, 101, 32] ++ Lib.decDigits b ++ [10]) = [111, 107, 10] ++ Lib.decDigits m ++ [10, 98, 97, 115, 101, 32] ++ Lib.decDigits b ++ [10] := by simp [textOf, List.range_succ]
  rw [e1] at H
  refine H.mono ?_
  rintro e w' ⟨rfl, hb⟩
  exact ⟨by rw [← e2]; rfl, hb⟩

set_option maxRecDepth 100000 in
set_option maxHeartbeats 4000000 in
theorem lawExecuteOrder_any (HF : ImOf) (a : Option Addr) (len cap : Nat) (zs : List Int) (w : World) (r : IsRow .u8 w a len cap zs) (k : Int) (hm : w.cell? ⟨0, 0, none⟩ = some (.int .i64 k))
    (htab : Lib.TabBelow Tryz.prog w.heap.size w "internal/strconv.uint64pow10" .u64 Lib.pow10Tab) :
    Calls Tryz.prog 4 #[.slice a len cap] w fun e w' => e = .returned (.bool true) ∧ Below w.heap.size w w' := by
  have hB := byt_of_row r
  clear r
  by_cases hl : 1048576 < len
  · have hl' : (1048576 : Int) < (len : Int) := by omega
    go_enter Tryz.func4, Tryz.ntmps4
    go_wp2
    go_ret
    exact ⟨rfl, Below.refl _ _⟩
  have hl' : decide ((1048576 : Int) < (len : Int)) = false := by simp; omega
  have HM := Lib.hid hm; have HT := Lib.hid htab
  clear hm htab
  go_enter Tryz.func4, Tryz.ntmps4
  go_wp2_with fail
  refine (drawOrderOf_any a len cap _ hB).mono ?_
  rintro e w1 ⟨b, n, rfl, B1⟩
  clear hl hB
  cases h : prmB b n with
  | false =>
    go_wp2_with fail
    refine (HF.1 b n h _).mono ?_
    rintro e w2 ⟨rfl, hb2⟩
    have B2 := B1.trans (hb2.mono B1.size)
    clear B1 hb2
    go_wp2_with fail
    refine (specOrderOf_no b n h _).mono ?_
    rintro e w3 ⟨rfl, hb3⟩
    have B3 := B2.trans (hb3.mono B2.size)
    clear B2 hb3
    go_wp2_with fail
    go_ret
    exact ⟨rfl, B3⟩
  | true =>
    obtain ⟨b, n, rfl, rfl, h3, h4, hn, hn2, hbn⟩ := prm_nat h
    obtain ⟨m, hlen⟩ := ord_some hbn hn
    have hmn : m ≤ 1000 := by have := hlen.le (show 1 < n by omega); omega
    have S := Lib.hid (specOrderOf_yes b n m h h4 hn hn2 hlen)
    have I := Lib.hid (HF.2 b n m h h4 hn hn2 hlen)
    have DB := Lib.hid (fun W => digits_any b W (by omega))
    have DN := Lib.hid (fun W => digits_any n W (by omega))
    have DM := Lib.hid (fun W => digits_any m W (by omega))
    have hLb := dec_short 4 b (by omega)
    have hLn := dec_short 4 n (by omega)
    have hLm := dec_short 4 m (by omega)
    have hz : 0 < w.heap.size := by
      have hm := HM.out
      rcases Nat.eq_zero_or_pos w.heap.size with h | h
      · have : w.heap[0]? = none := Array.getElem?_eq_none (by omega)
        simp [World.cell?, this] at hm
      · exact h
    have EX := Lib.hid (fun W (hW : Below w.heap.size w W) => executeOrder_right b n m k W h3 h h4 hn hn2 hlen (cell0_keep HM.out hW hz) (tab_later HT.out hW))
    clear h hlen hbn HF
    generalize Lib.decDigits b = Db at DB EX hLb
    generalize Lib.decDigits n = Dn at DN EX hLn
    generalize Lib.decDigits m = Dm at DM EX hLm
    obtain ⟨A1, hA1⟩ : ∃ A1, [98, 97, 115, 101, 32] ++ Db = A1 := ⟨_, rfl⟩
    obtain ⟨A2, hA2⟩ : ∃ A2, A1 ++ [10, 111, 114, 100, 101, 114, 32] = A2 := ⟨_, rfl⟩
    obtain ⟨A3, hA3⟩ : ∃ A3, A2 ++ Dn = A3 := ⟨_, rfl⟩
    obtain ⟨A4, hA4⟩ : ∃ A4, A3 ++ [10] = A4 := ⟨_, rfl⟩
    obtain ⟨C1, hC1⟩ : ∃ C1, [111, 107, 10] ++ Dm = C1 := ⟨_, rfl⟩
    obtain ⟨C2, hC2⟩ : ∃ C2, C1 ++ [10, 98, 97, 115, 101, 32] = C2 := ⟨_, rfl⟩
    obtain ⟨C3, hC3⟩ : ∃ C3, C2 ++ Db = C3 := ⟨_, rfl⟩
    obtain ⟨C4, hC4⟩ : ∃ C4, C3 ++ [10] = C4 := ⟨_, rfl⟩
    have l1 : A1.length = Db.length + 5 := by rw [← hA1]; simp
    have l2 : A2.length = A1.length + 7 := by rw [← hA2]; simp
    have l3 : A3.length = A2.length + Dn.length := by rw [← hA3]; simp
    have l5 : C1.length = Dm.length + 3 := by rw [← hC1]; simp
    have l6 : C2.length = C1.length + 6 := by rw [← hC2]; simp
    have l7 : C3.length = C2.length + Db.length := by rw [← hC3]; simp
    have a1 : ∀ W, (Op.stringOp .add ⟨#[98, 97, 115, 101, 32]⟩ ⟨Db.toArray⟩).run Tryz.prog W = .ok (.string ⟨A1.toArray⟩) W := fun W => by rw [← hA1]; exact str_add [98, 97, 115, 101, 32] Db (by simp) (by omega) W
    have a2 : ∀ W, (Op.stringOp .add ⟨A1.toArray⟩ ⟨#[10, 111, 114, 100, 101, 114, 32]⟩).run Tryz.prog W = .ok (.string ⟨A2.toArray⟩) W := fun W => by rw [← hA2]; exact str_add A1 [10, 111, 114, 100, 101, 114, 32] (by omega) (by simp) W
    have a3 : ∀ W, (Op.stringOp .add ⟨A2.toArray⟩ ⟨Dn.toArray⟩).run Tryz.prog W = .ok (.string ⟨A3.toArray⟩) W := fun W => by rw [← hA3]; exact str_add A2 Dn (by omega) (by omega) W
    have a4 : ∀ W, (Op.stringOp .add ⟨A3.toArray⟩ ⟨#[10]⟩).run Tryz.prog W = .ok (.string ⟨A4.toArray⟩) W := fun W => by rw [← hA4]; exact str_add A3 [10] (by omega) (by simp) W
    have c1 : ∀ W, (Op.stringOp .add ⟨#[111, 107, 10]⟩ ⟨Dm.toArray⟩).run Tryz.prog W = .ok (.string ⟨C1.toArray⟩) W := fun W => by rw [← hC1]; exact str_add [111, 107, 10] Dm (by simp) (by omega) W
    have c2 : ∀ W, (Op.stringOp .add ⟨C1.toArray⟩ ⟨#[10, 98, 97, 115, 101, 32]⟩).run Tryz.prog W = .ok (.string ⟨C2.toArray⟩) W := fun W => by rw [← hC2]; exact str_add C1 [10, 98, 97, 115, 101, 32] (by omega) (by simp) W
    have c3 : ∀ W, (Op.stringOp .add ⟨C2.toArray⟩ ⟨Db.toArray⟩).run Tryz.prog W = .ok (.string ⟨C3.toArray⟩) W := fun W => by rw [← hC3]; exact str_add C2 Db (by omega) (by omega) W
    have c4 : ∀ W, (Op.stringOp .add ⟨C3.toArray⟩ ⟨#[10]⟩).run Tryz.prog W = .ok (.string ⟨C4.toArray⟩) W := fun W => by rw [← hC4]; exact str_add C3 [10] (by omega) (by simp) W
    rw [hA1, hA2, hA3, hA4, hC1, hC2, hC3, hC4] at EX
    clear hA1 hA2 hA3 hA4 hC1 hC2 hC3 hC4 l1 l2 l3 l5 l6 l7 hLb hLn hLm hmn
    go_wp2_with fail
    refine (I.out _).mono ?_
    rintro e w2 ⟨rfl, hb2⟩
    have B2 := B1.trans (hb2.mono B1.size)
    clear B1 hb2
    go_wp2_with fail
    refine (S.out _).mono ?_
    rintro e w3 ⟨rfl, hb3⟩
    have B3 := B2.trans (hb3.mono B2.size)
    clear B2 hb3
    go_wp2_with fail
    refine (DB.out _).mono ?_
    rintro e w4 ⟨rfl, hb4⟩
    have B4 := B3.trans (hb4.mono B3.size)
    clear B3 hb4
    go_wp2_with fail
    refine (DN.out _).mono ?_
    rintro e w5 ⟨rfl, hb5⟩
    have B5 := B4.trans (hb5.mono B4.size)
    clear B4 hb5
    go_wp2_with fail
    refine (EX.out _ B5).mono ?_
    rintro e w6 ⟨rfl, hb6⟩
    have B6 := B5.trans (hb6.mono B5.size)
    clear B5 hb6
    go_wp2_with fail
    refine (DM.out _).mono ?_
    rintro e w7 ⟨rfl, hb7⟩
    have B7 := B6.trans (hb7.mono B6.size)
    clear B6 hb7
    go_wp2_with fail
    refine (DB.out _).mono ?_
    rintro e w8 ⟨rfl, hb8⟩
    have B8 := B7.trans (hb8.mono B7.size)
    clear B7 hb8
    go_wp2_with fail
    go_ret
    exact ⟨rfl, B8⟩

end Go.Proofs.YtmpbbflolbakhaaGreatDoor
