/-
  What the program's functions of chapter 8 answer, as one sentence each.
-/
import Derived.Test.YtbgpdhnfaacenaaRgtM
import Derived.Test.YtbgpdhnfaacenaaAns
import Derived.Test.YtbgpdhnfaacenaaTold
import Derived.Test.YtbgpdhnfaacenaaPMath
namespace Go.Proofs.Ytbgpdhnfaacenaa
open Go.RowKit

/-- There are a base and a value. -/
def vlB (b t n : Int) : Bool := decide (2 ≤ b ∧ b ≤ 16) && (decide (-10000 ≤ t ∧ t ≤ 10000) && (decide (1 ≤ n ∧ n ≤ 1000) && decide (gcdI b n = 1)))

/-- A base and a value. -/
structure Rgv (b B : Nat) (t : Int) : Prop where
  r : Rgb b B
  lo : -10000 ≤ t
  hi : t ≤ 10000
theorem Rgv.told {b B : Nat} {t : Int} (h : Rgv b B t) : vlB b t B = true := by
  have := h.r.b2; have := h.r.b16; have := h.r.B1; have := h.r.B2; have := h.r.cop; have := h.lo; have := h.hi
  unfold vlB
  rw [Bool.and_eq_true, Bool.and_eq_true, Bool.and_eq_true, decide_eq_true_eq, decide_eq_true_eq, decide_eq_true_eq, decide_eq_true_eq, gcdI_nat]
  omega
theorem vl_some {b t n : Int} (h : vlB b t n = true) : ∃ b' B : Nat, b = b' ∧ n = B ∧ Rgv b' B t := by
  unfold vlB at h
  rw [Bool.and_eq_true, Bool.and_eq_true, Bool.and_eq_true, decide_eq_true_eq, decide_eq_true_eq, decide_eq_true_eq, decide_eq_true_eq] at h
  obtain ⟨⟨h1, h2⟩, ⟨h3, h4⟩, ⟨h5, h6⟩, h7⟩ := h
  obtain ⟨b', rfl⟩ := Int.eq_ofNat_of_zero_le (show 0 ≤ b by omega)
  obtain ⟨n', rfl⟩ := Int.eq_ofNat_of_zero_le (show 0 ≤ n by omega)
  rw [gcdI_nat] at h7
  exact ⟨b', n', rfl, rfl, ⟨by omega, by omega, by omega, by omega, by omega⟩, h3, h4⟩
theorem Rgv.some {b B : Nat} {t : Int} (h : Rgv b B t) : ∃ n m, IsRg b B t n m := by
  obtain ⟨n, m, h1, _⟩ := rg_some h.r h.lo h.hi
  exact ⟨n, m, h1⟩
theorem Rgv.big {b B : Nat} {t : Int} (h : Rgv b B t) (i : Nat) : -10000 ≤ rgT b B t i ∧ rgT b B t i ≤ 10000 := rgT_big h.r h.lo h.hi i
theorem Rgv.dig {b B : Nat} {t : Int} (h : Rgv b B t) (x : Int) : rgD b B x < b := (rgD_spec (by have := h.r.b2; omega) h.r.cop x).1

/-- The first right digits; the first tops. -/
def rgL (b B : Nat) (t : Int) (k : Nat) : List Int := (List.range k).map fun i => (rgD b B (rgT b B t i) : Int)
def tpL (b B : Nat) (t : Int) (k : Nat) : List Int := (List.range k).map fun i => rgT b B t i
theorem rgL_len (b B : Nat) (t : Int) (k : Nat) : (rgL b B t k).length = k := by simp [rgL]
theorem tpL_len (b B : Nat) (t : Int) (k : Nat) : (tpL b B t k).length = k := by simp [tpL]
theorem rgL_succ (b B : Nat) (t : Int) (k : Nat) : rgL b B t (k + 1) = rgL b B t k ++ [(rgD b B (rgT b B t k) : Int)] := by
  unfold rgL; rw [List.range_succ, List.map_append]; rfl
theorem tpL_succ (b B : Nat) (t : Int) (k : Nat) : tpL b B t (k + 1) = tpL b B t k ++ [rgT b B t k] := by
  unfold tpL; rw [List.range_succ, List.map_append]; rfl
theorem rgL_get {b B : Nat} {t : Int} {k i : Nat} (h : i < k) : (rgL b B t k)[i]?.getD 0 = (rgD b B (rgT b B t i) : Int) := by
  unfold rgL; rw [List.getElem?_map, List.getElem?_range h]; rfl
theorem tpL_get {b B : Nat} {t : Int} {k i : Nat} (h : i < k) : (tpL b B t k)[i]?.getD 0 = rgT b B t i := by
  unfold tpL; rw [List.getElem?_map, List.getElem?_range h]; rfl
/-- The digits of a round from its end on. -/
def bkL (b T B m : Nat) : List Int := (List.range m).map fun i => (dig b T B (m - 1 - i) : Int)
theorem bkL_len (b T B m : Nat) : (bkL b T B m).length = m := by simp [bkL]
theorem bkL_get {b T B m i : Nat} (h : i < m) : (bkL b T B m)[i]?.getD 0 = (dig b T B (m - 1 - i) : Int) := by
  unfold bkL; rw [List.getElem?_map, List.getElem?_range h]; rfl
theorem bk_rg {b B T m : Nat} (h : Rgb b B) (hT : T < B) (hl : IsLen b T B 0 m) : (rgL b B (-(T : Int)) (0 + m)).drop 0 = bkL b T B m := by
  rw [List.drop_zero, Nat.zero_add]
  unfold rgL bkL
  refine List.map_congr_left fun i hi => ?_
  rw [(rg_back h hT hl i (by have := List.mem_range.1 hi; omega)).2 (List.mem_range.1 hi)]

/-- A fraction whose bottom has no common divisor with the base. -/
def ngB (b t n : Int) : Bool := tldB b t n && decide (gcdI b n = 1)
structure Rgf (b T B m : Nat) : Prop where
  r : Rgb b B
  lt : T < B
  cop : Nat.gcd T B = 1
  len : IsLen b T B 0 m
theorem Rgf.told {b T B m : Nat} (h : Rgf b T B m) : ngB b T B = true := by
  unfold ngB
  rw [Bool.and_eq_true, decide_eq_true_eq, gcdI_nat]
  exact ⟨tld_mk h.r.b2 h.r.b16 h.lt h.r.B2 h.cop, by have := h.r.cop; omega⟩
theorem ng_some {b t n : Int} (h : ngB b t n = true) : ∃ b' T B m : Nat, b = b' ∧ t = T ∧ n = B ∧ Rgf b' T B m := by
  unfold ngB at h
  rw [Bool.and_eq_true, decide_eq_true_eq] at h
  obtain ⟨b, T, B, rfl, rfl, rfl, h3, h4, hT, hB, hgT⟩ := tld_nat h.1
  have hg := h.2
  rw [gcdI_nat] at hg
  obtain ⟨m, hm⟩ := len_zero (b := b) (by omega) hT hgT
  exact ⟨b, T, B, m, rfl, rfl, rfl, ⟨h3, h4, by omega, hB, by omega⟩, hT, hgT, hm⟩
theorem Rgf.val {b T B m : Nat} (h : Rgf b T B m) : Rgv b B (-(T : Int)) := ⟨h.r, by have := h.lt; have := h.r.B2; omega, by omega⟩

def ImRightDigits : Prop := (∀ b t n k : Int, (vlB b t n && decide (0 ≤ k ∧ k ≤ 200)) = false → Gives 8 #[.int .i64 b, .int .i64 t, .int .i64 n, .int .i64 k] [] false) ∧
  ∀ (b B k : Nat) (t : Int), Rgv b B t → k ≤ 200 → Gives 8 #[.int .i64 b, .int .i64 t, .int .i64 B, .int .i64 k] (rgL b B t k) true
def ImRightTops : Prop := (∀ b t n k : Int, (vlB b t n && decide (0 ≤ k ∧ k ≤ 200)) = false → Gives 13 #[.int .i64 b, .int .i64 t, .int .i64 n, .int .i64 k] [] false) ∧
  ∀ (b B k : Nat) (t : Int), Rgv b B t → k ≤ 200 → Gives 13 #[.int .i64 b, .int .i64 t, .int .i64 B, .int .i64 k] (tpL b B t k) true
def ImRightLengths : Prop := (∀ b t n : Int, vlB b t n = false → GivesII 15 #[.int .i64 b, .int .i64 t, .int .i64 n] 0 0 false) ∧
  ∀ (b B n m : Nat) (t : Int), Rgv b B t → IsRg b B t n m → GivesII 15 #[.int .i64 b, .int .i64 t, .int .i64 B] n m true
def ImRightRest : Prop := (∀ b t n k : Int, (vlB b t n && decide (0 ≤ k ∧ k ≤ 4)) = false → GivesI 17 #[.int .i64 b, .int .i64 t, .int .i64 n, .int .i64 k] 0 false) ∧
  ∀ (b B k : Nat) (t : Int), Rgv b B t → k ≤ 4 → GivesI 17 #[.int .i64 b, .int .i64 t, .int .i64 B, .int .i64 k] (rgV b B t k) true

end Go.Proofs.Ytbgpdhnfaacenaa
