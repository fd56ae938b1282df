/-
  What the program's functions of chapter 4 answer, as one sentence each.
-/
import Derived.Test.YtehpgcgdcoahnacDoorGPrt
import Derived.Test.YtehpgcgdcoahnacDoorGRow
import Derived.Test.YtehpgcgdcoahnacDoorAns
import Derived.Test.YtehpgcgdcoahnacDoorPrm
namespace Go.Proofs.YtehpgcgdcoahnacDoor
open Go.RowKit

/-- Not as chapter 4 asks. -/
def NoPrt (b t n k : Int) : Prop := ∀ b' T B k' m : Nat, b = b' → t = T → n = B → k = k' → ¬ Prt b' T B k' m

theorem prt_or (b t n k : Int) : NoPrt b t n k ∨ ∃ b' T B k' m : Nat, b = b' ∧ t = T ∧ n = B ∧ k = k' ∧ Prt b' T B k' m := by
  by_cases h : ∃ b' T B k' m : Nat, b = b' ∧ t = T ∧ n = B ∧ k = k' ∧ Prt b' T B k' m
  · exact .inr h
  · exact .inl fun b' T B k' m e1 e2 e3 e4 hp => h ⟨b', T, B, k', m, e1, e2, e3, e4, hp⟩

theorem Prt.told {b T B k m : Nat} (h : Prt b T B k m) : tldB b T B = true := tld_mk h.b2 h.b16 h.lt h.bot h.gT

/-- A fraction that is told, and what else is asked. -/
theorem prt_of_told {b t n k : Int} (h : tldB b t n = true) (hg : gcdI b n = 1) (ht : t ≠ 0) (hk : 1 ≤ k) : ∃ b' T B k' m : Nat, b = b' ∧ t = T ∧ n = B ∧ k = k' ∧ IsLen b' T B 0 m ∧ (m % k' = 0 → Prt b' T B k' m) := by
  obtain ⟨b, T, B, rfl, rfl, rfl, h3, h4, hT, hB, hgT⟩ := tld_nat h
  obtain ⟨k, rfl⟩ := Int.eq_ofNat_of_zero_le (show 0 ≤ k by omega)
  rw [gcdI_nat] at hg
  obtain ⟨m, hm⟩ := len_zero (b := b) (by omega) hT hgT
  exact ⟨b, T, B, k, m, rfl, rfl, rfl, rfl, hm, fun hd => ⟨h3, h4, hT, hB, hgT, by omega, by omega, by omega, hm, hd⟩⟩

def ImPartList : Prop := (∀ b t n k : Int, NoPrt b t n k → GivesSR 18 #[.int .i64 b, .agg #[.int .i64 t, .int .i64 n], .int .i64 k] [] false) ∧
  ∀ b T B k m : Nat, Prt b T B k m → GivesSR 18 #[.int .i64 b, .agg #[.int .i64 T, .int .i64 B], .int .i64 k] (ptsL b T B k (m / k)) true
def ImPartRests : Prop := (∀ b t n k : Int, NoPrt b t n k → Gives 15 #[.int .i64 b, .agg #[.int .i64 t, .int .i64 n], .int .i64 k] [] false) ∧
  ∀ b T B k m : Nat, Prt b T B k m → Gives 15 #[.int .i64 b, .agg #[.int .i64 T, .int .i64 B], .int .i64 k] (prsL b T B k (m / k)) true
def ImPartMultiple : Prop := (∀ b t n k : Int, NoPrt b t n k → GivesI 13 #[.int .i64 b, .agg #[.int .i64 t, .int .i64 n], .int .i64 k] 0 false) ∧
  (∀ b T B k m : Nat, Prt b T B k m → ¬ B ∣ prS b T B k (m / k) → GivesI 13 #[.int .i64 b, .agg #[.int .i64 T, .int .i64 B], .int .i64 k] 0 false) ∧
  ∀ b T B k m q : Nat, Prt b T B k m → prS b T B k (m / k) = B * q → GivesI 13 #[.int .i64 b, .agg #[.int .i64 T, .int .i64 B], .int .i64 k] q true
def ImPartHalves : Prop := (∀ b t n : Int, NoPrt b t n 2 → GivesB 23 #[.int .i64 b, .agg #[.int .i64 t, .int .i64 n]] false) ∧
  ∀ b T B m : Nat, Prt b T B 2 m → GivesB 23 #[.int .i64 b, .agg #[.int .i64 T, .int .i64 B]] (decide (prS b T B 2 (m / 2) = B))
def ImPartAll : Prop := (∀ b n : Int, (prmB b n && decide (n ≤ 300)) = false → Gives 8 #[.int .i64 b, .int .i64 n] [] false) ∧
  ∀ b n m : Nat, prmB b n = true → 2 ≤ b → b ≤ 16 → 2 ≤ n → n ≤ 300 → IsLen b 1 n 0 m → Gives 8 #[.int .i64 b, .int .i64 n] (allL b n m (n + 1)) true

end Go.Proofs.YtehpgcgdcoahnacDoor
