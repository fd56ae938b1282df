/-
  The law FnRestSame's walk.
-/
import Derived.Test.YtdbijigbggjmgaaDrawSame
import Derived.Test.YtdbijigbggjmgaaLenLaw
import Derived.Test.YtdbijigbggjmgaaSameM
import Derived.Test.YtdbijigbggjmgaaPMath
namespace Go.Proofs.Ytdbijigbggjmgaa
open Go.RowKit

set_option maxRecDepth 100000 in
set_option maxHeartbeats 4000000 in
theorem lawRestSame_any (a : Option Addr) (len cap : Nat) (zs : List Int) (w : World) (r : IsRow .u8 w a len cap zs) :
    Calls Try.prog 4 #[.slice a len cap] w fun e w' => e = .returned (.bool true) ∧ Below w.heap.size w w' := by
  have hB := byt_of_row r
  clear r
  by_cases hl : 1048576 < len
  · have hl' : (1048576 : Int) < (len : Int) := by omega
    go_enter Try.func4, Try.ntmps4
    go_wp2
    go_ret
    exact ⟨rfl, Below.refl _ _⟩
  have hl' : decide ((1048576 : Int) < (len : Int)) = false := by simp; omega
  go_enter Try.func4, Try.ntmps4
  go_wp2_with fail
  refine (drawRestSame_any a len cap _ hB).mono ?_
  rintro e w1 ⟨b, t, n, t2, n2, rfl, hb1⟩
  clear hl hB
  have Q1 := (Box2.new w1 24 (.int .i64 t) (.int .i64 n)).alloc (.cells #[.int .i64 t2, .int .i64 n2] 24)
  have R1 : Box2 _ (w1.heap.size + 1) 24 (.int .i64 t2) (.int .i64 n2) := Box2.newAt (W := w1.alloc (.cells #[.int .i64 t, .int .i64 n] 24)) (by simp)
  have B1 := (hb1.alloc hb1.size (.cells #[.int .i64 t, .int .i64 n] 24)).alloc (hb1.alloc hb1.size _).size (.cells #[.int .i64 t2, .int .i64 n2] 24)
  clear hb1
  have cQ0 := Q1.cell0
  have cQ1 := Q1.cell1
  have cR0 := R1.cell0
  have cR1 := R1.cell1
  cases h : tldB b t n with
  | false =>
    go_wp2_with fail
    refine (implRestSame_no1 _ _ _ _ _ h _).mono ?_
    rintro e w2 ⟨rfl, hb2⟩
    have Q2 := (Q1.later hb2)
    have R2 := (R1.later hb2)
    have B2 := B1.trans (hb2.mono B1.size)
    clear B1 hb2 Q1 R1
    have cQ0 := Q2.cell0
    have cQ1 := Q2.cell1
    have cR0 := R2.cell0
    have cR1 := R2.cell1
    go_wp2_with fail
    refine (specRestSame_no1 _ _ _ _ _ h _).mono ?_
    rintro e w3 ⟨rfl, hb3⟩
    have Q3 := (Q2.later hb3)
    have R3 := (R2.later hb3)
    have B3 := B2.trans (hb3.mono B2.size)
    clear B2 hb3 Q2 R2
    have cQ0 := Q3.cell0
    have cQ1 := Q3.cell1
    have cR0 := R3.cell0
    have cR1 := R3.cell1
    go_wp2_with fail
    go_ret
    exact ⟨rfl, B3⟩
  | true =>
    cases h' : tldB b t2 n2 with
    | false =>
      go_wp2_with fail
      refine (implRestSame_no2 _ _ _ _ _ h h' _).mono ?_
      rintro e w2 ⟨rfl, hb2⟩
      have Q2 := (Q1.later hb2)
      have R2 := (R1.later hb2)
      have B2 := B1.trans (hb2.mono B1.size)
      clear B1 hb2 Q1 R1
      have cQ0 := Q2.cell0
      have cQ1 := Q2.cell1
      have cR0 := R2.cell0
      have cR1 := R2.cell1
      go_wp2_with fail
      refine (specRestSame_no2 _ _ _ _ _ h h' _).mono ?_
      rintro e w3 ⟨rfl, hb3⟩
      have Q3 := (Q2.later hb3)
      have R3 := (R2.later hb3)
      have B3 := B2.trans (hb3.mono B2.size)
      clear B2 hb3 Q2 R2
      have cQ0 := Q3.cell0
      have cQ1 := Q3.cell1
      have cR0 := R3.cell0
      have cR1 := R3.cell1
      go_wp2_with fail
      go_ret
      exact ⟨rfl, B3⟩
    | true =>
      obtain ⟨b, T, B, rfl, rfl, rfl, h3, h4, hT, hB, hg⟩ := tld_nat h
      obtain ⟨b', T', B', eb, rfl, rfl, h3', h4', hT', hB', hg'⟩ := tld_nat h'
      obtain rfl : b = b' := by omega
      clear eb h3' h4'
      obtain ⟨n, m, hnm⟩ := len_some (b := b) hT hg
      obtain ⟨n', m', hnm'⟩ := len_some (b := b) hT' hg'
      have I := implRestSame_yes b T B n m T' B' n' m' h h' hT hg hB hT' hg' hB' h3 h4 hnm hnm'
      have S := specRestSame_yes b T B n m T' B' n' m' _ _ rfl rfl h h' hT hB hT' hB' h3 h4 hnm hnm'
      rw [← sam_tur h3 hT hg hnm hT' hg' hnm'] at S
      have TI := implRestSame_yes b T' B' n' m' T B n m h' h hT' hg' hB' hT hg hB h3 h4 hnm' hnm
      have L1 := fun w => implFracLengths_yes b T B n m w h hT hg hB h3 h4 hnm
      have L2 := fun w => implFracLengths_yes b T' B' n' m' w h' hT' hg' hB' h3 h4 hnm'
      obtain ⟨p, hp⟩ : ∃ p, samB b T B n m T' B' n' = p := ⟨_, rfl⟩
      have hmm : p = true → m = m' := by
        rintro rfl
        obtain ⟨i, hi, e⟩ := of_decide_eq_true hp
        exact len_of_fr hT hg hT' hg' hnm hnm' hi e
      have htt : p = true → samB b T' B' n' m' T B n = true := by
        rintro rfl
        obtain ⟨i, hi, e⟩ := of_decide_eq_true hp
        exact sam_symm hT hg hT' hg' hnm hnm' hi e
      rw [hp] at I S
      have HI := Lib.hid I; have HS := Lib.hid S; have HTI := Lib.hid TI; have HL1 := Lib.hid L1; have HL2 := Lib.hid L2
      clear I S TI L1 L2 hp hnm hnm' hg hg'
      cases p with
      | false =>
        go_wp2_with fail
        refine (HI.out _).mono ?_
        rintro e w2 ⟨rfl, hb2⟩
        have Q2 := (Q1.later hb2)
        have R2 := (R1.later hb2)
        have B2 := B1.trans (hb2.mono B1.size)
        clear B1 hb2 Q1 R1
        have cQ0 := Q2.cell0
        have cQ1 := Q2.cell1
        have cR0 := R2.cell0
        have cR1 := R2.cell1
        go_wp2_with fail
        refine (HS.out _).mono ?_
        rintro e w3 ⟨rfl, hb3⟩
        have Q3 := (Q2.later hb3)
        have R3 := (R2.later hb3)
        have B3 := B2.trans (hb3.mono B2.size)
        clear B2 hb3 Q2 R2
        have cQ0 := Q3.cell0
        have cQ1 := Q3.cell1
        have cR0 := R3.cell0
        have cR1 := R3.cell1
        go_wp2_with fail
        go_ret
        exact ⟨rfl, B3⟩
      | true =>
        obtain rfl := hmm rfl
        rw [htt rfl] at HTI
        clear hmm htt
        go_wp2_with fail
        refine (HI.out _).mono ?_
        rintro e w2 ⟨rfl, hb2⟩
        have Q2 := (Q1.later hb2)
        have R2 := (R1.later hb2)
        have B2 := B1.trans (hb2.mono B1.size)
        clear B1 hb2 Q1 R1
        have cQ0 := Q2.cell0
        have cQ1 := Q2.cell1
        have cR0 := R2.cell0
        have cR1 := R2.cell1
        go_wp2_with fail
        refine (HS.out _).mono ?_
        rintro e w3 ⟨rfl, hb3⟩
        have Q3 := (Q2.later hb3)
        have R3 := (R2.later hb3)
        have B3 := B2.trans (hb3.mono B2.size)
        clear B2 hb3 Q2 R2
        have cQ0 := Q3.cell0
        have cQ1 := Q3.cell1
        have cR0 := R3.cell0
        have cR1 := R3.cell1
        go_wp2_with fail
        refine (HL1.out _).mono ?_
        rintro e w4 ⟨rfl, hb4⟩
        have Q4 := (Q3.later hb4)
        have R4 := (R3.later hb4)
        have B4 := B3.trans (hb4.mono B3.size)
        clear B3 hb4 Q3 R3
        have cQ0 := Q4.cell0
        have cQ1 := Q4.cell1
        have cR0 := R4.cell0
        have cR1 := R4.cell1
        go_wp2_with fail
        refine (HL2.out _).mono ?_
        rintro e w5 ⟨rfl, hb5⟩
        have Q5 := (Q4.later hb5)
        have R5 := (R4.later hb5)
        have B5 := B4.trans (hb5.mono B4.size)
        clear B4 hb5 Q4 R4
        have cQ0 := Q5.cell0
        have cQ1 := Q5.cell1
        have cR0 := R5.cell0
        have cR1 := R5.cell1
        go_wp2_with fail
        refine (HTI.out _).mono ?_
        rintro e w6 ⟨rfl, hb6⟩
        have Q6 := (Q5.later hb6)
        have R6 := (R5.later hb6)
        have B6 := B5.trans (hb6.mono B5.size)
        clear B5 hb6 Q5 R5
        have cQ0 := Q6.cell0
        have cQ1 := Q6.cell1
        have cR0 := R6.cell0
        have cR1 := R6.cell1
        go_wp2_with fail
        go_ret
        exact ⟨rfl, B6⟩

end Go.Proofs.Ytdbijigbggjmgaa
