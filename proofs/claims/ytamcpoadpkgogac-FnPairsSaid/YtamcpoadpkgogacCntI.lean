/-
  What the program's functions of chapter 7 answer, as one sentence each.
-/
import Derived.Test.YtamcpoadpkgogacCntN
import Derived.Test.YtamcpoadpkgogacAns
import Derived.Test.YtamcpoadpkgogacTold
import Derived.Test.YtamcpoadpkgogacGRnd
import Derived.Test.YtamcpoadpkgogacPrm
namespace Go.Proofs.Ytamcpoadpkgogac
open Go.RowKit

/-- A fraction of a base with its lengths. -/
structure Frd (b T B n m : Nat) : Prop where
  b2 : 2 ≤ b
  b16 : b ≤ 16
  lt : T < B
  bot : B ≤ 1000
  cop : Nat.gcd T B = 1
  len : IsLen b T B n m
theorem Frd.told {b T B n m : Nat} (h : Frd b T B n m) : tldB b T B = true := by
  unfold tldB
  rw [Bool.and_eq_true, decide_eq_true_eq]
  refine ⟨by have := h.b2; have := h.b16; omega, ?_⟩
  rw [finB_eq_of (by have := h.lt; omega) (by have := h.bot; omega) (by omega) (by have := h.lt; omega), decide_eq_true_eq, gcdI_nat]
  have := h.cop
  omega
theorem Frd.pos {b T B n m : Nat} (h : Frd b T B n m) : 1 ≤ m := h.len.pos
theorem Frd.le {b T B n m : Nat} (h : Frd b T B n m) : m ≤ 1000 := by have := h.len.le h.lt; have := h.bot; omega
theorem frd_some {b t n : Int} (h : tldB b t n = true) : ∃ b' T B i m : Nat, b = b' ∧ t = T ∧ n = B ∧ Frd b' T B i m := by
  obtain ⟨b', T, B, rfl, rfl, rfl, h3, h4, hT, hB, hg⟩ := tld_nat h
  obtain ⟨i, m, hm⟩ := len_some (b := b') hT hg
  exact ⟨b', T, B, i, m, rfl, rfl, rfl, h3, h4, hT, hB, hg, hm⟩

/-- The digits of the round. -/
def rdg (b T B n : Nat) (i : Nat) : Nat := dig b T B (n + i)
theorem Frd.dig {b T B n m : Nat} (h : Frd b T B n m) (i : Nat) : rdg b T B n i < b := by
  unfold rdg Go.Proofs.Ytamcpoadpkgogac.dig
  rw [Nat.div_lt_iff_lt_mul (by have := h.lt; omega), Nat.mul_comm]
  exact Nat.mul_lt_mul_of_pos_left (rst_lt h.lt _) (by have := h.b2; omega)

/-- No full prime, or no digit. -/
def NoFul (b p d : Int) : Prop := ∀ b' p' d' : Nat, b = b' → p = p' → d = d' → primeB p' = true → prmB b' p' = true → IsLen b' 1 p' 0 (p' - 1) → ¬ d' < b'
theorem ful_or (b p d : Int) : NoFul b p d ∨ ∃ b' p' d' : Nat, b = b' ∧ p = p' ∧ d = d' ∧ primeB p' = true ∧ prmB b' p' = true ∧ IsLen b' 1 p' 0 (p' - 1) ∧ d' < b' := by
  by_cases h : ∃ b' p' d' : Nat, b = b' ∧ p = p' ∧ d = d' ∧ primeB p' = true ∧ prmB b' p' = true ∧ IsLen b' 1 p' 0 (p' - 1) ∧ d' < b'
  · exact .inr h
  · exact .inl fun b' p' d' e1 e2 e3 h1 h2 h3 h4 => h ⟨b', p', d', e1, e2, e3, h1, h2, h3, h4⟩

def ImCountDigits : Prop := (∀ b t n : Int, tldB b t n = false → Gives 13 #[.int .i64 b, .agg #[.int .i64 t, .int .i64 n]] [] false) ∧
  ∀ b T B n m : Nat, Frd b T B n m → Gives 13 #[.int .i64 b, .agg #[.int .i64 T, .int .i64 B]] (cntL b (rdg b T B n) m) true
def ImCountMost : Prop := (∀ b t n : Int, tldB b t n = false → GivesI 8 #[.int .i64 b, .agg #[.int .i64 t, .int .i64 n]] 0 false) ∧
  ∀ b T B n m M : Nat, Frd b T B n m → IsMost (fun v => dgC (rdg b T B n) v m) b M → GivesI 8 #[.int .i64 b, .agg #[.int .i64 T, .int .i64 B]] M true
def ImCountRuns : Prop := (∀ b t n : Int, tldB b t n = false → GivesI 18 #[.int .i64 b, .agg #[.int .i64 t, .int .i64 n]] 0 false) ∧
  ∀ b T B n m r : Nat, Frd b T B n m → IsRun (rdg b T B n) m r → GivesI 18 #[.int .i64 b, .agg #[.int .i64 T, .int .i64 B]] r true
def ImCountPairs : Prop := (∀ b t n : Int, tldB b t n = false → GivesI 21 #[.int .i64 b, .agg #[.int .i64 t, .int .i64 n]] 0 false) ∧
  ∀ b T B n m : Nat, Frd b T B n m → GivesI 21 #[.int .i64 b, .agg #[.int .i64 T, .int .i64 B]] (frs (prP b (rdg b T B n) m) m : Nat) true

end Go.Proofs.Ytamcpoadpkgogac
