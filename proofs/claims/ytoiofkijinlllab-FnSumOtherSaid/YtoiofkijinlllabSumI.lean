/-
  What the program's functions of chapter 6 answer, as one sentence each.
-/
import Derived.Test.YtoiofkijinlllabSumM
import Derived.Test.YtoiofkijinlllabTurnI
namespace Go.Proofs.Ytoiofkijinlllab
open Go.RowKit

theorem fin_nat {t n : Int} (h : finB t n = true) : ∃ T B : Nat, t = T ∧ n = B ∧ FOk T B := by
  by_cases hr : 1 ≤ n ∧ n ≤ 1000 ∧ 0 ≤ t ∧ t < n
  · obtain ⟨h1, h2, h3, h4⟩ := hr
    rw [finB_eq_of h1 h2 h3 h4, decide_eq_true_eq] at h
    obtain ⟨T, rfl⟩ := Int.eq_ofNat_of_zero_le h3
    obtain ⟨B, rfl⟩ := Int.eq_ofNat_of_zero_le (show 0 ≤ n by omega)
    rw [gcdI_nat] at h
    exact ⟨T, B, rfl, rfl, by omega, by omega, by omega⟩
  · rw [finB_false_of hr] at h; cases h

theorem FOk.fin {T B : Nat} (h : FOk T B) : finB T B = true := by
  rw [finB_eq_of (by have := h.lt; omega) (by have := h.bot; omega) (by omega) (by have := h.lt; omega), decide_eq_true_eq, gcdI_nat]
  have := h.cop
  omega

theorem FOk.told {b T B : Nat} (h : FOk T B) (h3 : 2 ≤ b) (h4 : b ≤ 16) : tldB b T B = true := tld_mk h3 h4 h.lt h.bot h.cop

theorem fin_and {t n u m : Int} (h : (finB t n && finB u m) = true) : ∃ T B U C : Nat, t = T ∧ n = B ∧ u = U ∧ m = C ∧ FOk T B ∧ FOk U C := by
  rw [Bool.and_eq_true] at h
  obtain ⟨T, B, rfl, rfl, h1⟩ := fin_nat h.1
  obtain ⟨U, C, rfl, rfl, h2⟩ := fin_nat h.2
  exact ⟨T, B, U, C, rfl, rfl, rfl, rfl, h1, h2⟩

theorem tld_and {b t n u m : Int} (h : (tldB b t n && tldB b u m) = true) : ∃ b' T B U C : Nat, b = b' ∧ t = T ∧ n = B ∧ u = U ∧ m = C ∧ 2 ≤ b' ∧ b' ≤ 16 ∧ FOk T B ∧ FOk U C := by
  rw [Bool.and_eq_true] at h
  obtain ⟨b', T, B, rfl, rfl, rfl, h3, h4, hT, hB, hg⟩ := tld_nat h.1
  obtain ⟨b2, U, C, e1, rfl, rfl, _, _, hU, hC, hg'⟩ := tld_nat h.2
  exact ⟨b', T, B, U, C, rfl, rfl, rfl, rfl, rfl, h3, h4, ⟨hT, hB, hg⟩, ⟨hU, hC, hg'⟩⟩

/-- A function of two lists answers a new list and a bool. -/
def GivesDD (f : FuncId) (args : Value → Value → Array Value) (xs ys zs : List Int) (p : Bool) : Prop :=
  ∀ (n₀ n₁ : Nat) (v u : Value) (w : World), Slc n₀ w v xs → Slc n₁ w u ys → Calls Try.prog f (args v u) w fun e w' => ∃ z, e = .returned (.tuple #[z, .bool p]) ∧ Slc w.heap.size w' z zs ∧ Below w.heap.size w w'

/-- Two rings of a base of one length. -/
def twoB (b : Int) (x y : List Int) : Bool := rngB b x && (rngB b y && decide (x.length = y.length))

theorem two_nat {b : Int} {x y : List Int} (h : twoB b x y = true) : ∃ b' : Nat, b = b' ∧ Rng b' x ∧ Rng b' y ∧ x.length = y.length := by
  unfold twoB at h
  rw [Bool.and_eq_true, Bool.and_eq_true, decide_eq_true_eq] at h
  obtain ⟨h1, h2, h3⟩ := h
  obtain ⟨b', rfl, r1⟩ := rng_nat h1
  obtain ⟨b2, e, r2⟩ := rng_nat h2
  obtain rfl : b' = b2 := by omega
  exact ⟨b', rfl, r1, r2, h3⟩

theorem Rng.add {b : Nat} {x y : List Int} (hx : Rng b x) : Rng b (addL b x y) :=
  ⟨hx.b2, hx.b16, by rw [addL_len]; exact hx.l1, by rw [addL_len]; exact hx.l2, addL_dgt (by have := hx.b2; omega) x y⟩
theorem Rng.oth {b : Nat} {x : List Int} (hx : Rng b x) : Rng b (othL b x) :=
  ⟨hx.b2, hx.b16, by rw [othL_len]; exact hx.l1, by rw [othL_len]; exact hx.l2, othL_dgt hx.dg⟩

def ImSumRound : Prop := (∀ (b : Int) (x y : List Int), x.length ≤ 1048576 → y.length ≤ 1048576 → twoB b x y = false → GivesDD 9 (fun v u => #[.int .i64 b, v, u]) x y [] false) ∧
  ∀ (b : Nat) (x y : List Int), Rng b x → Rng b y → x.length = y.length → GivesDD 9 (fun v u => #[.int .i64 b, v, u]) x y (addL b x y) true
def ImSumOther : Prop := (∀ (b : Int) (x : List Int), x.length ≤ 1048576 → rngB b x = false → GivesD 20 (fun v => #[.int .i64 b, v]) x [] false) ∧
  ∀ (b : Nat) (x : List Int), Rng b x → GivesD 20 (fun v => #[.int .i64 b, v]) x (othL b x) true
def ImSumLengths : Prop := (∀ b t n u m : Int, (tldB b t n && tldB b u m) = false → GivesI 15 #[.int .i64 b, .agg #[.int .i64 t, .int .i64 n], .agg #[.int .i64 u, .int .i64 m]] 0 false) ∧
  ∀ b T B U C n m i k : Nat, 2 ≤ b → b ≤ 16 → FOk T B → FOk U C → IsLen b T B n m → IsLen b U C i k → GivesI 15 #[.int .i64 b, .agg #[.int .i64 T, .int .i64 B], .agg #[.int .i64 U, .int .i64 C]] (lcmL m k) true

end Go.Proofs.Ytoiofkijinlllab
