/-
  RestRounds and RestMany: both sides.
-/
import Derived.Test.YtfhhfnkgdanakaaRndsI
import Derived.Test.YtfhhfnkgdanakaaPrm
namespace Go.Proofs.Ytfhhfnkgdanakaa
open Go.RowKit

/-- A function answers a new list of new lists and a bool. -/
def GivesSS (f : FuncId) (args : Array Value) (L : List (List Int)) (p : Bool) : Prop :=
  ∀ w : World, Calls Try.prog f args w fun e w' => ∃ v, e = .returned (.tuple #[v, .bool p]) ∧ RowSS w.heap.size w' v L ∧ Below w.heap.size w w'

set_option maxHeartbeats 1000000 in
theorem rounds_no (b n : Int) (h : prmB b n = false) : GivesSS 7 #[.int .i64 b, .int .i64 n] [] false ∧ GivesSS 6 #[.int .i64 b, .int .i64 n] [] false := by
  refine ⟨fun w => ?_, fun w => ?_⟩
  · go_enter Try.func7, Try.ntmps7
    go_wp2_with fail
    refine (l2Prime_any _ _ _).mono ?_
    rintro e w1 ⟨rfl, rfl⟩
    rw [h]
    go_wp2_with fail
    go_ret2
    exact ⟨_, rfl, RowSS.zero _ _ (Nat.le_refl _), (Below.refl _ _).alloc (Nat.le_refl _) _⟩
  · go_enter Try.func6, Try.ntmps6
    go_wp2_with fail
    refine (roundsTold_any _ _ _).mono ?_
    rintro e w1 ⟨rfl, rfl⟩
    rw [h]
    go_wp2_with fail
    go_ret2
    exact ⟨_, rfl, RowSS.nil _ _ _ ⟨rfl, .inl ⟨rfl, rfl⟩⟩, Below.refl _ _⟩

set_option maxHeartbeats 1000000 in
theorem rounds_at (b n : Nat) (L : List (List Int)) (h : prmB b n = true) (h3 : 2 ≤ b) (h4 : b ≤ 16) (hn : 2 ≤ n) (hn2 : n ≤ 1000) (hbn : Nat.gcd b n = 1) (hL : Rnds b n n L) :
    GivesSS 7 #[.int .i64 b, .int .i64 n] L true ∧ GivesSS 6 #[.int .i64 b, .int .i64 n] L true := by
  have HL := Lib.hid hL; have HB := Lib.hid hbn
  clear hL hbn
  refine ⟨fun w => ?_, fun w => ?_⟩
  · go_enter Try.func7, Try.ntmps7
    go_wp2_with fail
    refine (l2Prime_any _ _ _).mono ?_
    rintro e w1 ⟨rfl, rfl⟩
    rw [h]
    go_wp2_with fail
    refine (l2Rounds_any b n w HB.out h3 h4 hn hn2).mono ?_
    rintro e w1 ⟨v, L', hL', rfl, hv, hb⟩
    obtain rfl := HL.out.unique hL'
    go_wp2_with fail
    go_ret2
    exact ⟨_, rfl, hv, hb⟩
  · go_enter Try.func6, Try.ntmps6
    go_wp2_with fail
    refine (roundsTold_any _ _ _).mono ?_
    rintro e w1 ⟨rfl, rfl⟩
    rw [h]
    go_wp2_with fail
    refine (restRounds_any b n w HB.out h3 h4 hn hn2).mono ?_
    rintro e w1 ⟨v, L', hL', rfl, hv, hb⟩
    obtain rfl := HL.out.unique hL'
    go_wp2_with fail
    go_ret2
    exact ⟨_, rfl, hv, hb⟩

theorem both_rounds (b n : Int) : ∃ L p, (L.length ≤ 1000 ∧ ∀ xs ∈ L, xs.length ≤ 1000) ∧ GivesSS 7 #[.int .i64 b, .int .i64 n] L p ∧ GivesSS 6 #[.int .i64 b, .int .i64 n] L p := by
  cases h : prmB b n with
  | false => exact ⟨[], false, by simp, rounds_no b n h⟩
  | true =>
    obtain ⟨b, n, rfl, rfl, h3, h4, hn, hn2, hbn⟩ := prm_nat h
    obtain ⟨L, hL⟩ := rnds_some hbn n (Nat.le_refl _)
    have hbd := hL.bound (Nat.le_refl _)
    exact ⟨L, true, ⟨by omega, fun xs hx => by have := (hbd.2 xs hx).2; omega⟩, rounds_at b n L h h3 h4 hn hn2 hbn hL⟩

set_option maxHeartbeats 1000000 in
theorem specMany_no (b n : Int) (h : prmB b n = false) : GivesII 13 #[.int .i64 b, .int .i64 n] 0 0 false := by
  intro w
  go_enter Try.func13, Try.ntmps13
  go_wp2_with fail
  refine (l2Prime_any _ _ _).mono ?_
  rintro e w1 ⟨rfl, rfl⟩
  rw [h]
  go_wp2_with fail
  refine bodyPost_ret (v := .tuple #[.int .i64 0, .int .i64 0, .bool false]) (by simp [results, Try.results13, go_sem]) rfl ⟨rfl, Below.refl _ _⟩

set_option maxHeartbeats 1000000 in
theorem specMany_at (b n l m : Nat) (L : List (List Int)) (h : prmB b n = true) (h3 : 2 ≤ b) (h4 : b ≤ 16) (hn : 2 ≤ n) (hn2 : n ≤ 1000) (hbn : Nat.gcd b n = 1) (hL : Rnds b n n L) (hl0 : L.length = l) (hm0 : (L[0]?.getD []).length = m) :
    GivesII 13 #[.int .i64 b, .int .i64 n] l m true := by
  have hpos := hL.some hn hn
  have HL := Lib.hid hL; have HB := Lib.hid hbn
  have HL0 := Lib.hid hl0; have HM0 := Lib.hid hm0
  clear hL hbn hl0 hm0
  intro w
  go_enter Try.func13, Try.ntmps13
  go_wp2_with fail
  refine (l2Prime_any _ _ _).mono ?_
  rintro e w1 ⟨rfl, rfl⟩
  rw [h]
  go_wp2_with fail
  refine (l2Rounds_any b n w HB.out h3 h4 hn hn2).mono ?_
  rintro e w1 ⟨v, L', hL', rfl, ⟨vs, hl, hV, _⟩, hb⟩
  obtain rfl := HL.out.unique hL'
  obtain ⟨g, c, u, rfl, hc, _, hu⟩ := hV.cell hl 0 hpos
  obtain ⟨au, cu, rfl⟩ := slc_form hu
  clear HL HB hu hV hl hL'
  rw [HM0.out] at hc
  rw [HL0.out] at hpos ⊢
  have hcD : w1.drew.cell? ⟨g, 0, none⟩ = some (.slice au m cu) := hc
  have i1 : (0 : Int) < (l : Int) := by omega
  go_wp2_with fail
  go_region
  all_goals (
    go_wp2
    refine bodyPost_ret (v := .tuple #[.int .i64 l, .int .i64 m, .bool true]) (by simp [results, Try.results13, go_sem]) rfl ⟨rfl, ?_⟩
    exact hb.drew)

set_option maxHeartbeats 1000000 in
theorem implMany_no (b n : Int) (h : prmB b n = false) : GivesII 12 #[.int .i64 b, .int .i64 n] 0 0 false := by
  intro w
  go_enter Try.func12, Try.ntmps12
  go_wp2_with fail
  refine (roundsTold_any _ _ _).mono ?_
  rintro e w1 ⟨rfl, rfl⟩
  rw [h]
  go_wp2_with fail
  refine bodyPost_ret (v := .tuple #[.int .i64 0, .int .i64 0, .bool false]) (by simp [results, Try.results12, go_sem]) rfl ⟨rfl, Below.refl _ _⟩

set_option maxHeartbeats 1000000 in
theorem implMany_at (b n l m : Nat) (L : List (List Int)) (h : prmB b n = true) (h3 : 2 ≤ b) (h4 : b ≤ 16) (hn : 2 ≤ n) (hn2 : n ≤ 1000) (hbn : Nat.gcd b n = 1) (hL : Rnds b n n L) (hl0 : L.length = l) (hm0 : (L[0]?.getD []).length = m) :
    GivesII 12 #[.int .i64 b, .int .i64 n] l m true := by
  have hpos := hL.some hn hn
  have HL := Lib.hid hL; have HB := Lib.hid hbn
  have HL0 := Lib.hid hl0; have HM0 := Lib.hid hm0
  clear hL hbn hl0 hm0
  intro w
  go_enter Try.func12, Try.ntmps12
  go_wp2_with fail
  refine (roundsTold_any _ _ _).mono ?_
  rintro e w1 ⟨rfl, rfl⟩
  rw [h]
  go_wp2_with fail
  refine (restRounds_any b n w HB.out h3 h4 hn hn2).mono ?_
  rintro e w1 ⟨v, L', hL', rfl, ⟨vs, hl, hV, _⟩, hb⟩
  obtain rfl := HL.out.unique hL'
  obtain ⟨g, c, u, rfl, hc, _, hu⟩ := hV.cell hl 0 hpos
  obtain ⟨au, cu, rfl⟩ := slc_form hu
  clear HL HB hu hV hl hL'
  rw [HM0.out] at hc
  rw [HL0.out] at hpos ⊢
  have hcD : w1.drew.cell? ⟨g, 0, none⟩ = some (.slice au m cu) := hc
  have i1 : (0 : Int) < (l : Int) := by omega
  go_wp2_with fail
  go_region
  all_goals (
    go_wp2
    refine bodyPost_ret (v := .tuple #[.int .i64 l, .int .i64 m, .bool true]) (by simp [results, Try.results12, go_sem]) rfl ⟨rfl, ?_⟩
    exact hb.drew)

theorem many_no (b n : Int) (h : prmB b n = false) : GivesII 13 #[.int .i64 b, .int .i64 n] 0 0 false ∧ GivesII 12 #[.int .i64 b, .int .i64 n] 0 0 false := ⟨specMany_no b n h, implMany_no b n h⟩

theorem many_at (b n l m : Nat) (L : List (List Int)) (h : prmB b n = true) (h3 : 2 ≤ b) (h4 : b ≤ 16) (hn : 2 ≤ n) (hn2 : n ≤ 1000) (hbn : Nat.gcd b n = 1) (hL : Rnds b n n L) (hl0 : L.length = l) (hm0 : (L[0]?.getD []).length = m) :
    GivesII 13 #[.int .i64 b, .int .i64 n] l m true ∧ GivesII 12 #[.int .i64 b, .int .i64 n] l m true :=
  ⟨specMany_at b n l m L h h3 h4 hn hn2 hbn hL hl0 hm0, implMany_at b n l m L h h3 h4 hn hn2 hbn hL hl0 hm0⟩

theorem both_many (b n : Int) : ∃ x y p, GivesII 13 #[.int .i64 b, .int .i64 n] x y p ∧ GivesII 12 #[.int .i64 b, .int .i64 n] x y p := by
  cases h : prmB b n with
  | false => exact ⟨0, 0, false, many_no b n h⟩
  | true =>
    obtain ⟨b, n, rfl, rfl, h3, h4, hn, hn2, hbn⟩ := prm_nat h
    obtain ⟨L, hL⟩ := rnds_some hbn n (Nat.le_refl _)
    exact ⟨_, _, true, many_at b n _ _ L h h3 h4 hn hn2 hbn hL rfl rfl⟩

end Go.Proofs.Ytfhhfnkgdanakaa
