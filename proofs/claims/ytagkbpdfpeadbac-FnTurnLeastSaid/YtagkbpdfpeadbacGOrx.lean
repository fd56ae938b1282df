/-
  What the program's functions of chapter 3 answer, as one sentence each; the law's own test of primes.
  Chapter 3, the program's side where no goroutine is started: orders, units, rows of ones, products, beginnings.
-/
import Derived.Test.YtagkbpdfpeadbacOrdS
namespace Go.Proofs.Ytagkbpdfpeadbac
open Go.RowKit




/-- Beginnings are no longer than ten. -/
theorem pow_bound {b n f s k : Nat} (hn : 2 ≤ n) (hn2 : n ≤ 1000) (hs : IsSplit b n f s) (hk : IsPow b f k) : 2 ^ k ≤ n ∧ k ≤ 9 := by
  have hfp : 0 < f := Nat.pos_of_ne_zero fun e => by have := hs.eq; rw [e, Nat.zero_mul] at this; omega
  have hsp : 0 < s := Nat.pos_of_ne_zero fun e => by have := hs.eq; rw [e, Nat.mul_zero] at this; omega
  have h1 := pow_short hfp hk
  have h2 : f ≤ n := by rw [← hs.eq]; exact Nat.le_mul_of_pos_right _ hsp
  refine ⟨by omega, ?_⟩
  rcases Nat.lt_or_ge 9 k with h | h
  · have : 2 ^ 10 ≤ 2 ^ k := Nat.pow_le_pow_right (by omega) h
    omega
  · exact h


end Go.Proofs.Ytagkbpdfpeadbac

namespace Go.Proofs.Ytagkbpdfpeadbac
open Go.RowKit









end Go.Proofs.Ytagkbpdfpeadbac
