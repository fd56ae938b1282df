/-
  What the program's functions of chapter 4 answer, as one sentence each.
-/
import Derived.Test.YtamcpoadpkgogacGPrt
import Derived.Test.YtamcpoadpkgogacGRow
import Derived.Test.YtamcpoadpkgogacAns
import Derived.Test.YtamcpoadpkgogacPrm
namespace Go.Proofs.Ytamcpoadpkgogac
open Go.RowKit

/-- Not as chapter 4 asks. -/
def NoPrt (b t n k : Int) : Prop := ∀ b' T B k' m : Nat, b = b' → t = T → n = B → k = k' → ¬ Prt b' T B k' m

theorem prt_or (b t n k : Int) : NoPrt b t n k ∨ ∃ b' T B k' m : Nat, b = b' ∧ t = T ∧ n = B ∧ k = k' ∧ Prt b' T B k' m := by
  by_cases h : ∃ b' T B k' m : Nat, b = b' ∧ t = T ∧ n = B ∧ k = k' ∧ Prt b' T B k' m
  · exact .inr h
  · exact .inl fun b' T B k' m e1 e2 e3 e4 hp => h ⟨b', T, B, k', m, e1, e2, e3, e4, hp⟩

theorem Prt.told {b T B k m : Nat} (h : Prt b T B k m) : tldB b T B = true := tld_mk h.b2 h.b16 h.lt h.bot h.gT

/-- A fraction that is told, and what else is asked. -/
theorem prt_of_told {b t n k : Int} (h : tldB b t n = true) (hg : gcdI b n = 1) (ht : t ≠ 0) (hk : 1 ≤ k) : ∃ b' T B k' m : Nat, b = b' ∧ t = T ∧ n = B ∧ k = k' ∧ IsLen b' T B 0 m ∧ (m % k' = 0 → Prt b' T B k' m) := by
  obtain ⟨b, T, B, rfl, rfl, rfl, h3, h4, hT, hB, hgT⟩ := tld_nat h
  obtain ⟨k, rfl⟩ := Int.eq_ofNat_of_zero_le (show 0 ≤ k by omega)
  rw [gcdI_nat] at hg
  obtain ⟨m, hm⟩ := len_zero (b := b) (by omega) hT hgT
  exact ⟨b, T, B, k, m, rfl, rfl, rfl, rfl, hm, fun hd => ⟨h3, h4, hT, hB, hgT, by omega, by omega, by omega, hm, hd⟩⟩

def ImPartHalves : Prop := (∀ b t n : Int, NoPrt b t n 2 → GivesB 16 #[.int .i64 b, .agg #[.int .i64 t, .int .i64 n]] false) ∧
  ∀ b T B m : Nat, Prt b T B 2 m → GivesB 16 #[.int .i64 b, .agg #[.int .i64 T, .int .i64 B]] (decide (prS b T B 2 (m / 2) = B))

end Go.Proofs.Ytamcpoadpkgogac
