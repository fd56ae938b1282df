/-
  The law FnRuns's walk.
-/
import Derived.Test.YtamcpoadpkgogacDrawS
import Derived.Test.YtamcpoadpkgogacCntB
import Derived.Test.YtamcpoadpkgogacLenLaw
namespace Go.Proofs.Ytamcpoadpkgogac
open Go.RowKit

set_option maxRecDepth 100000 in
set_option maxHeartbeats 4000000 in
theorem lawRuns_any (H : ImCountRuns) (a : Option Addr) (len cap : Nat) (zs : List Int) (w : World) (r : IsRow .u8 w a len cap zs) :
    Calls Try.prog 5 #[.slice a len cap] w fun e w' => e = .returned (.bool true) ∧ Below w.heap.size w w' := by
  have hB := byt_of_row r
  clear r
  by_cases hl : 1048576 < len
  · have hl' : (1048576 : Int) < (len : Int) := by omega
    go_enter Try.func5, Try.ntmps5
    go_wp2
    go_ret
    exact ⟨rfl, Below.refl _ _⟩
  have hl' : decide ((1048576 : Int) < (len : Int)) = false := by simp; omega
  go_enter Try.func5, Try.ntmps5
  go_wp2_with fail
  refine (drawCountRuns_any a len cap _ hB).mono ?_
  rintro e w1 ⟨b, t, n, hd, rfl, hb1⟩
  clear hl hB hd
  have Q1 := Box2.new w1 24 (.int .i64 t) (.int .i64 n)
  have B1 := hb1.alloc hb1.size (.cells #[.int .i64 t, .int .i64 n] 24)
  clear hb1
  have cQ0 := Q1.cell0
  have cQ1 := Q1.cell1
  cases h : tldB b t n with
  | false =>
    have HI := Lib.hid (H.1 b t n h); have HS := Lib.hid (specCountRuns_no b t n h)
    clear h
    go_wp2_with fail
    refine (HI.out _).mono ?_
    rintro e w2 ⟨rfl, hb2⟩
    have Q2 := Q1.later hb2
    have B2 := B1.trans (hb2.mono B1.size)
    clear B1 hb2 Q1
    have cQ0 := Q2.cell0
    have cQ1 := Q2.cell1
    go_wp2_with fail
    refine (HS.out _).mono ?_
    rintro e w3 ⟨rfl, hb3⟩
    have Q3 := Q2.later hb3
    have B3 := B2.trans (hb3.mono B2.size)
    clear B2 hb3 Q2
    have cQ0 := Q3.cell0
    have cQ1 := Q3.cell1
    go_wp2_with fail
    go_ret
    exact ⟨rfl, B3⟩
  | true =>
    obtain ⟨b, T, B, i0, m, rfl, rfl, rfl, hf⟩ := frd_some h
    clear h
    have hb2' := hf.b2; have hb16 := hf.b16; have hm1 := hf.pos; have hm2 := hf.le
    have hB1 := hf.bot; have hTB := hf.lt
    obtain ⟨r, hr⟩ := run_some (rdg b T B i0) hf.pos
    have HI := Lib.hid (H.2 b T B i0 m r hf hr); have HS := Lib.hid (specCountRuns_yes b T B i0 m r hf hr)
    have h1 := hr.pos; have h2 := hr.le
    have h3 := run_one hf.lt hf.b2 hf.len hr
    have HL := Lib.hid (fun wx => implFracLengths_yes b T B i0 m wx hf.told hf.lt hf.cop hf.bot hf.b2 hf.b16 hf.len)
    clear hf hr
    go_wp2_with fail
    refine (HI.out _).mono ?_
    rintro e w2 ⟨rfl, hb2⟩
    have Q2 := Q1.later hb2
    have B2 := B1.trans (hb2.mono B1.size)
    clear B1 hb2 Q1
    have cQ0 := Q2.cell0
    have cQ1 := Q2.cell1
    go_wp2_with fail
    refine (HS.out _).mono ?_
    rintro e w3 ⟨rfl, hb3⟩
    have Q3 := Q2.later hb3
    have B3 := B2.trans (hb3.mono B2.size)
    clear B2 hb3 Q2
    have cQ0 := Q3.cell0
    have cQ1 := Q3.cell1
    go_wp2_with fail
    refine (HL.out _).mono ?_
    rintro e w4 ⟨rfl, hb4⟩
    have Q4 := Q3.later hb4
    have B4 := B3.trans (hb4.mono B3.size)
    clear B3 hb4 Q3
    have cQ0 := Q4.cell0
    have cQ1 := Q4.cell1
    have j1 : (r : Int) ≥ 1 := by omega
    have j2 : (r : Int) ≤ (m : Int) := by omega
    by_cases e1 : m = 1
    · have j3 : ((r : Int) == (m : Int)) = true := by simp; omega
      have j4 : ((m : Int) == 1) = true := by simp; omega
      clear h3 e1
      go_wp2_with fail
      go_ret
      exact ⟨rfl, B4⟩
    · have j3 : ((r : Int) == (m : Int)) = false := by simp; omega
      have j4 : ((m : Int) == 1) = false := by simp; omega
      clear h3 e1
      go_wp2_with fail
      go_ret
      exact ⟨rfl, B4⟩

end Go.Proofs.Ytamcpoadpkgogac
