/-
  What the program's functions of chapter 5 answer, as one sentence each.
-/
import Derived.Test.YtamcpoadpkgogadTurnN
import Derived.Test.YtamcpoadpkgogadOfTool
import Derived.Test.YtamcpoadpkgogadAns
import Derived.Test.YtamcpoadpkgogadPrm
namespace Go.Proofs.Ytamcpoadpkgogad
open Go.RowKit

/-- A ring of a base. -/
def rngB (b : Int) (d : List Int) : Bool := decide (2 ≤ b ∧ b ≤ 16) && (decide (1 ≤ d.length ∧ d.length ≤ 250) && digB b d)

structure Rng (b : Nat) (d : List Int) : Prop where
  b2 : 2 ≤ b
  b16 : b ≤ 16
  l1 : 1 ≤ d.length
  l2 : d.length ≤ 250
  dg : Dgt b d

theorem rng_nat {b : Int} {d : List Int} (h : rngB b d = true) : ∃ b' : Nat, b = b' ∧ Rng b' d := by
  unfold rngB at h
  rw [Bool.and_eq_true, Bool.and_eq_true, decide_eq_true_eq, decide_eq_true_eq] at h
  obtain ⟨h1, h2, h3⟩ := h
  obtain ⟨b', rfl⟩ := Int.eq_ofNat_of_zero_le (show 0 ≤ b by omega)
  refine ⟨b', rfl, by omega, by omega, h2.1, h2.2, fun x hx => ?_⟩
  unfold digB at h3
  rw [List.all_eq_true] at h3
  simpa using h3 x hx

theorem Rng.told {b : Nat} {d : List Int} (h : Rng b d) : rngB b d = true := by
  unfold rngB
  rw [Bool.and_eq_true, Bool.and_eq_true, decide_eq_true_eq, decide_eq_true_eq]
  have := h.b2; have := h.b16
  refine ⟨by omega, ⟨h.l1, h.l2⟩, ?_⟩
  unfold digB
  rw [List.all_eq_true]
  intro x hx
  simpa using h.dg x hx

theorem Rng.rot {b : Nat} {d : List Int} (h : Rng b d) (r : Nat) : Rng b (rotL d r) :=
  ⟨h.b2, h.b16, by rw [rotL_len]; exact h.l1, by rw [rotL_len]; exact h.l2, h.dg.rot⟩

/-- A function of a list answers a new list and a bool. -/
def GivesD (f : FuncId) (args : Value → Array Value) (zs xs : List Int) (p : Bool) : Prop :=
  ∀ (n₀ : Nat) (v : Value) (w : World), Slc n₀ w v zs → Calls Try.prog f (args v) w fun e w' => ∃ u, e = .returned (.tuple #[u, .bool p]) ∧ Slc w.heap.size w' u xs ∧ Below w.heap.size w w'
/-- .. a number and a bool; a bool. -/
def GivesDI (f : FuncId) (args : Value → Array Value) (zs : List Int) (x : Int) (p : Bool) : Prop :=
  ∀ (n₀ : Nat) (v : Value) (w : World), Slc n₀ w v zs → Calls Try.prog f (args v) w fun e w' => e = .returned (.tuple #[.int .i64 x, .bool p]) ∧ Below w.heap.size w w'
def GivesDB (f : FuncId) (args : Value → Array Value) (zs : List Int) (p : Bool) : Prop :=
  ∀ (n₀ : Nat) (v : Value) (w : World), Slc n₀ w v zs → Calls Try.prog f (args v) w fun e w' => e = .returned (.bool p) ∧ Below w.heap.size w w'

/-- The product is the ring with its last digit in front. -/
def isB (b : Nat) (d : List Int) (k : Nat) : Bool := decide ((tim b k d).1 = 0 ∧ (tim b k d).2 = rotL d (d.length - 1))

/-- A base and a full prime, as chapter 5 asks. -/
def NoCyc (b p : Int) : Prop := ∀ b' p' : Nat, b = b' → p = p' → p' ≤ 200 → primeB p' = true → prmB b' p' = true → ¬ IsLen b' 1 p' 0 (p' - 1)

/-- Numbers for which no ring is found. -/
def findB (b k d : Int) : Bool := decide (2 ≤ b ∧ b ≤ 16) && (decide (1 ≤ k ∧ k ≤ b - 1) && (decide (1 ≤ d ∧ d ≤ b - 1) && decide (d < k * b - 1)))


end Go.Proofs.Ytamcpoadpkgogad
