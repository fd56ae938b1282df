/-
  The two programs agree, function by function.
-/
import Derived.Test.YthoaldiadgeonaaTq
import Derived.Test.YthoaldiadgeonaaGTrD
namespace Go.Proofs.Ythoaldiadgeonaa.Tq
open Go.Proofs.Ythoaldiadgeonaa.Tr
set_option maxRecDepth 100000
set_option maxHeartbeats 4000000

def changed : List Nat := [0, 1, 2, 27, 48, 49, 50, 51, 57, 58, 59, 60, 61, 62, 63, 64, 65, 66, 67, 68, 69, 70, 71, 72, 73, 74, 78, 79, 80, 81, 82, 84, 85, 86, 87, 88, 89, 90, 91, 92, 93, 94, 95, 96, 97, 98, 99, 100]
/-- One function of the two programs: kept, changed, or without a body. -/
def Ag (f : Nat) : Prop :=
  (changed.contains f = false ∧ ∃ fn b, (Try.prog).funcs[f]? = some fn ∧ Tryq.fs[f]? = some fn ∧ fn.body = some b ∧ okCode Try.prog true b = true ∧ okCode Tryq.prog true b = true ∧ (fn.name == "runtime.NumGoroutine") = false) ∨
  (changed.contains f = true ∧ ∃ fn fn' b, (Try.prog).funcs[f]? = some fn ∧ Tryq.fs[f]? = some fn' ∧ fn.body.isSome = true ∧ fn'.body = some b ∧ okCode Tryq.prog true b = true ∧ fn'.name = fn.name ∧ fn'.results = fn.results ∧ (fn.name == "runtime.NumGoroutine") = false ∧ (f = 27 ∨ ∃ s, b = .refuse s)) ∨
  (changed.contains f = true ∧ ∃ fn, (Try.prog).funcs[f]? = some fn ∧ Tryq.fs[f]? = some noFunc ∧ fn.body = none)
theorem ag0 : Ag 0 := .inr (.inr ⟨by kernel_rfl, Try.f0, by kernel_rfl, by kernel_rfl, by kernel_rfl⟩)
theorem ag1 : Ag 1 := .inr (.inr ⟨by kernel_rfl, Try.f1, by kernel_rfl, by kernel_rfl, by kernel_rfl⟩)
theorem ag2 : Ag 2 := .inr (.inl ⟨by kernel_rfl, Try.f2, refused Try.f2, _, by kernel_rfl, by kernel_rfl, by kernel_rfl, rfl, by kernel_rfl, by kernel_rfl, by kernel_rfl, by kernel_rfl, .inr ⟨_, rfl⟩⟩)
theorem ag3 : Ag 3 := .inl ⟨by kernel_rfl, Try.f3, _, by kernel_rfl, by kernel_rfl, rfl, by kernel_rfl, by kernel_rfl, by kernel_rfl⟩
theorem ag4 : Ag 4 := .inl ⟨by kernel_rfl, Try.f4, _, by kernel_rfl, by kernel_rfl, rfl, by kernel_rfl, by kernel_rfl, by kernel_rfl⟩
theorem ag5 : Ag 5 := .inl ⟨by kernel_rfl, Try.f5, _, by kernel_rfl, by kernel_rfl, rfl, by kernel_rfl, by kernel_rfl, by kernel_rfl⟩
theorem ag6 : Ag 6 := .inl ⟨by kernel_rfl, Try.f6, _, by kernel_rfl, by kernel_rfl, rfl, by kernel_rfl, by kernel_rfl, by kernel_rfl⟩
theorem ag7 : Ag 7 := .inl ⟨by kernel_rfl, Try.f7, _, by kernel_rfl, by kernel_rfl, rfl, by kernel_rfl, by kernel_rfl, by kernel_rfl⟩
theorem ag8 : Ag 8 := .inl ⟨by kernel_rfl, Try.f8, _, by kernel_rfl, by kernel_rfl, rfl, by kernel_rfl, by kernel_rfl, by kernel_rfl⟩
theorem ag9 : Ag 9 := .inl ⟨by kernel_rfl, Try.f9, _, by kernel_rfl, by kernel_rfl, rfl, by kernel_rfl, by kernel_rfl, by kernel_rfl⟩
theorem ag10 : Ag 10 := .inl ⟨by kernel_rfl, Try.f10, _, by kernel_rfl, by kernel_rfl, rfl, by kernel_rfl, by kernel_rfl, by kernel_rfl⟩
theorem ag11 : Ag 11 := .inl ⟨by kernel_rfl, Try.f11, _, by kernel_rfl, by kernel_rfl, rfl, by kernel_rfl, by kernel_rfl, by kernel_rfl⟩
theorem ag12 : Ag 12 := .inl ⟨by kernel_rfl, Try.f12, _, by kernel_rfl, by kernel_rfl, rfl, by kernel_rfl, by kernel_rfl, by kernel_rfl⟩
theorem ag13 : Ag 13 := .inl ⟨by kernel_rfl, Try.f13, _, by kernel_rfl, by kernel_rfl, rfl, by kernel_rfl, by kernel_rfl, by kernel_rfl⟩
theorem ag14 : Ag 14 := .inl ⟨by kernel_rfl, Try.f14, _, by kernel_rfl, by kernel_rfl, rfl, by kernel_rfl, by kernel_rfl, by kernel_rfl⟩
theorem ag15 : Ag 15 := .inl ⟨by kernel_rfl, Try.f15, _, by kernel_rfl, by kernel_rfl, rfl, by kernel_rfl, by kernel_rfl, by kernel_rfl⟩
theorem ag16 : Ag 16 := .inl ⟨by kernel_rfl, Try.f16, _, by kernel_rfl, by kernel_rfl, rfl, by kernel_rfl, by kernel_rfl, by kernel_rfl⟩
theorem ag17 : Ag 17 := .inl ⟨by kernel_rfl, Try.f17, _, by kernel_rfl, by kernel_rfl, rfl, by kernel_rfl, by kernel_rfl, by kernel_rfl⟩
theorem ag18 : Ag 18 := .inl ⟨by kernel_rfl, Try.f18, _, by kernel_rfl, by kernel_rfl, rfl, by kernel_rfl, by kernel_rfl, by kernel_rfl⟩
theorem ag19 : Ag 19 := .inl ⟨by kernel_rfl, Try.f19, _, by kernel_rfl, by kernel_rfl, rfl, by kernel_rfl, by kernel_rfl, by kernel_rfl⟩
theorem ag20 : Ag 20 := .inl ⟨by kernel_rfl, Try.f20, _, by kernel_rfl, by kernel_rfl, rfl, by kernel_rfl, by kernel_rfl, by kernel_rfl⟩
theorem ag21 : Ag 21 := .inl ⟨by kernel_rfl, Try.f21, _, by kernel_rfl, by kernel_rfl, rfl, by kernel_rfl, by kernel_rfl, by kernel_rfl⟩
theorem ag22 : Ag 22 := .inl ⟨by kernel_rfl, Try.f22, _, by kernel_rfl, by kernel_rfl, rfl, by kernel_rfl, by kernel_rfl, by kernel_rfl⟩
theorem ag23 : Ag 23 := .inl ⟨by kernel_rfl, Try.f23, _, by kernel_rfl, by kernel_rfl, rfl, by kernel_rfl, by kernel_rfl, by kernel_rfl⟩
theorem ag24 : Ag 24 := .inl ⟨by kernel_rfl, Try.f24, _, by kernel_rfl, by kernel_rfl, rfl, by kernel_rfl, by kernel_rfl, by kernel_rfl⟩
theorem ag25 : Ag 25 := .inl ⟨by kernel_rfl, Try.f25, _, by kernel_rfl, by kernel_rfl, rfl, by kernel_rfl, by kernel_rfl, by kernel_rfl⟩
theorem ag26 : Ag 26 := .inl ⟨by kernel_rfl, Try.f26, _, by kernel_rfl, by kernel_rfl, rfl, by kernel_rfl, by kernel_rfl, by kernel_rfl⟩
theorem ag27 : Ag 27 := .inr (.inl ⟨by kernel_rfl, Try.f27, ordersQ, _, by kernel_rfl, by kernel_rfl, by kernel_rfl, rfl, by kernel_rfl, by kernel_rfl, by kernel_rfl, by kernel_rfl, .inl rfl⟩)
theorem ag28 : Ag 28 := .inl ⟨by kernel_rfl, Try.f28, _, by kernel_rfl, by kernel_rfl, rfl, by kernel_rfl, by kernel_rfl, by kernel_rfl⟩
theorem ag29 : Ag 29 := .inl ⟨by kernel_rfl, Try.f29, _, by kernel_rfl, by kernel_rfl, rfl, by kernel_rfl, by kernel_rfl, by kernel_rfl⟩
theorem ag30 : Ag 30 := .inl ⟨by kernel_rfl, Try.f30, _, by kernel_rfl, by kernel_rfl, rfl, by kernel_rfl, by kernel_rfl, by kernel_rfl⟩
theorem ag31 : Ag 31 := .inl ⟨by kernel_rfl, Try.f31, _, by kernel_rfl, by kernel_rfl, rfl, by kernel_rfl, by kernel_rfl, by kernel_rfl⟩
theorem ag32 : Ag 32 := .inl ⟨by kernel_rfl, Try.f32, _, by kernel_rfl, by kernel_rfl, rfl, by kernel_rfl, by kernel_rfl, by kernel_rfl⟩
theorem ag33 : Ag 33 := .inl ⟨by kernel_rfl, Try.f33, _, by kernel_rfl, by kernel_rfl, rfl, by kernel_rfl, by kernel_rfl, by kernel_rfl⟩
theorem ag34 : Ag 34 := .inl ⟨by kernel_rfl, Try.f34, _, by kernel_rfl, by kernel_rfl, rfl, by kernel_rfl, by kernel_rfl, by kernel_rfl⟩
theorem ag35 : Ag 35 := .inl ⟨by kernel_rfl, Try.f35, _, by kernel_rfl, by kernel_rfl, rfl, by kernel_rfl, by kernel_rfl, by kernel_rfl⟩
theorem ag36 : Ag 36 := .inl ⟨by kernel_rfl, Try.f36, _, by kernel_rfl, by kernel_rfl, rfl, by kernel_rfl, by kernel_rfl, by kernel_rfl⟩
theorem ag37 : Ag 37 := .inl ⟨by kernel_rfl, Try.f37, _, by kernel_rfl, by kernel_rfl, rfl, by kernel_rfl, by kernel_rfl, by kernel_rfl⟩
theorem ag38 : Ag 38 := .inl ⟨by kernel_rfl, Try.f38, _, by kernel_rfl, by kernel_rfl, rfl, by kernel_rfl, by kernel_rfl, by kernel_rfl⟩
theorem ag39 : Ag 39 := .inl ⟨by kernel_rfl, Try.f39, _, by kernel_rfl, by kernel_rfl, rfl, by kernel_rfl, by kernel_rfl, by kernel_rfl⟩
theorem ag40 : Ag 40 := .inl ⟨by kernel_rfl, Try.f40, _, by kernel_rfl, by kernel_rfl, rfl, by kernel_rfl, by kernel_rfl, by kernel_rfl⟩
theorem ag41 : Ag 41 := .inl ⟨by kernel_rfl, Try.f41, _, by kernel_rfl, by kernel_rfl, rfl, by kernel_rfl, by kernel_rfl, by kernel_rfl⟩
theorem ag42 : Ag 42 := .inl ⟨by kernel_rfl, Try.f42, _, by kernel_rfl, by kernel_rfl, rfl, by kernel_rfl, by kernel_rfl, by kernel_rfl⟩
theorem ag43 : Ag 43 := .inl ⟨by kernel_rfl, Try.f43, _, by kernel_rfl, by kernel_rfl, rfl, by kernel_rfl, by kernel_rfl, by kernel_rfl⟩
theorem ag44 : Ag 44 := .inl ⟨by kernel_rfl, Try.f44, _, by kernel_rfl, by kernel_rfl, rfl, by kernel_rfl, by kernel_rfl, by kernel_rfl⟩
theorem ag45 : Ag 45 := .inl ⟨by kernel_rfl, Try.f45, _, by kernel_rfl, by kernel_rfl, rfl, by kernel_rfl, by kernel_rfl, by kernel_rfl⟩
theorem ag46 : Ag 46 := .inl ⟨by kernel_rfl, Try.f46, _, by kernel_rfl, by kernel_rfl, rfl, by kernel_rfl, by kernel_rfl, by kernel_rfl⟩
theorem ag47 : Ag 47 := .inl ⟨by kernel_rfl, Try.f47, _, by kernel_rfl, by kernel_rfl, rfl, by kernel_rfl, by kernel_rfl, by kernel_rfl⟩
theorem ag48 : Ag 48 := .inr (.inl ⟨by kernel_rfl, Try.f48, refused Try.f48, _, by kernel_rfl, by kernel_rfl, by kernel_rfl, rfl, by kernel_rfl, by kernel_rfl, by kernel_rfl, by kernel_rfl, .inr ⟨_, rfl⟩⟩)
theorem ag49 : Ag 49 := .inr (.inl ⟨by kernel_rfl, Try.f49, refused Try.f49, _, by kernel_rfl, by kernel_rfl, by kernel_rfl, rfl, by kernel_rfl, by kernel_rfl, by kernel_rfl, by kernel_rfl, .inr ⟨_, rfl⟩⟩)
theorem ag50 : Ag 50 := .inr (.inl ⟨by kernel_rfl, Try.f50, refused Try.f50, _, by kernel_rfl, by kernel_rfl, by kernel_rfl, rfl, by kernel_rfl, by kernel_rfl, by kernel_rfl, by kernel_rfl, .inr ⟨_, rfl⟩⟩)
theorem ag51 : Ag 51 := .inr (.inl ⟨by kernel_rfl, Try.f51, refused Try.f51, _, by kernel_rfl, by kernel_rfl, by kernel_rfl, rfl, by kernel_rfl, by kernel_rfl, by kernel_rfl, by kernel_rfl, .inr ⟨_, rfl⟩⟩)
theorem ag52 : Ag 52 := .inl ⟨by kernel_rfl, Try.f52, _, by kernel_rfl, by kernel_rfl, rfl, by kernel_rfl, by kernel_rfl, by kernel_rfl⟩
theorem ag53 : Ag 53 := .inl ⟨by kernel_rfl, Try.f53, _, by kernel_rfl, by kernel_rfl, rfl, by kernel_rfl, by kernel_rfl, by kernel_rfl⟩
theorem ag54 : Ag 54 := .inl ⟨by kernel_rfl, Try.f54, _, by kernel_rfl, by kernel_rfl, rfl, by kernel_rfl, by kernel_rfl, by kernel_rfl⟩
theorem ag55 : Ag 55 := .inl ⟨by kernel_rfl, Try.f55, _, by kernel_rfl, by kernel_rfl, rfl, by kernel_rfl, by kernel_rfl, by kernel_rfl⟩
theorem ag56 : Ag 56 := .inl ⟨by kernel_rfl, Try.f56, _, by kernel_rfl, by kernel_rfl, rfl, by kernel_rfl, by kernel_rfl, by kernel_rfl⟩
theorem ag57 : Ag 57 := .inr (.inr ⟨by kernel_rfl, Try.f57, by kernel_rfl, by kernel_rfl, by kernel_rfl⟩)
theorem ag58 : Ag 58 := .inr (.inr ⟨by kernel_rfl, Try.f58, by kernel_rfl, by kernel_rfl, by kernel_rfl⟩)
theorem ag59 : Ag 59 := .inr (.inr ⟨by kernel_rfl, Try.f59, by kernel_rfl, by kernel_rfl, by kernel_rfl⟩)
theorem ag60 : Ag 60 := .inr (.inr ⟨by kernel_rfl, Try.f60, by kernel_rfl, by kernel_rfl, by kernel_rfl⟩)
theorem ag61 : Ag 61 := .inr (.inr ⟨by kernel_rfl, Try.f61, by kernel_rfl, by kernel_rfl, by kernel_rfl⟩)
theorem ag62 : Ag 62 := .inr (.inr ⟨by kernel_rfl, Try.f62, by kernel_rfl, by kernel_rfl, by kernel_rfl⟩)
theorem ag63 : Ag 63 := .inr (.inl ⟨by kernel_rfl, Try.f63, refused Try.f63, _, by kernel_rfl, by kernel_rfl, by kernel_rfl, rfl, by kernel_rfl, by kernel_rfl, by kernel_rfl, by kernel_rfl, .inr ⟨_, rfl⟩⟩)
theorem ag64 : Ag 64 := .inr (.inl ⟨by kernel_rfl, Try.f64, refused Try.f64, _, by kernel_rfl, by kernel_rfl, by kernel_rfl, rfl, by kernel_rfl, by kernel_rfl, by kernel_rfl, by kernel_rfl, .inr ⟨_, rfl⟩⟩)
theorem ag65 : Ag 65 := .inr (.inr ⟨by kernel_rfl, Try.f65, by kernel_rfl, by kernel_rfl, by kernel_rfl⟩)
theorem ag66 : Ag 66 := .inr (.inl ⟨by kernel_rfl, Try.f66, refused Try.f66, _, by kernel_rfl, by kernel_rfl, by kernel_rfl, rfl, by kernel_rfl, by kernel_rfl, by kernel_rfl, by kernel_rfl, .inr ⟨_, rfl⟩⟩)
theorem ag67 : Ag 67 := .inr (.inl ⟨by kernel_rfl, Try.f67, refused Try.f67, _, by kernel_rfl, by kernel_rfl, by kernel_rfl, rfl, by kernel_rfl, by kernel_rfl, by kernel_rfl, by kernel_rfl, .inr ⟨_, rfl⟩⟩)
theorem ag68 : Ag 68 := .inr (.inr ⟨by kernel_rfl, Try.f68, by kernel_rfl, by kernel_rfl, by kernel_rfl⟩)
theorem ag69 : Ag 69 := .inr (.inr ⟨by kernel_rfl, Try.f69, by kernel_rfl, by kernel_rfl, by kernel_rfl⟩)
theorem ag70 : Ag 70 := .inr (.inr ⟨by kernel_rfl, Try.f70, by kernel_rfl, by kernel_rfl, by kernel_rfl⟩)
theorem ag71 : Ag 71 := .inr (.inr ⟨by kernel_rfl, Try.f71, by kernel_rfl, by kernel_rfl, by kernel_rfl⟩)
theorem ag72 : Ag 72 := .inr (.inl ⟨by kernel_rfl, Try.f72, refused Try.f72, _, by kernel_rfl, by kernel_rfl, by kernel_rfl, rfl, by kernel_rfl, by kernel_rfl, by kernel_rfl, by kernel_rfl, .inr ⟨_, rfl⟩⟩)
theorem ag73 : Ag 73 := .inr (.inr ⟨by kernel_rfl, Try.f73, by kernel_rfl, by kernel_rfl, by kernel_rfl⟩)
theorem ag74 : Ag 74 := .inr (.inr ⟨by kernel_rfl, Try.f74, by kernel_rfl, by kernel_rfl, by kernel_rfl⟩)
theorem ag75 : Ag 75 := .inl ⟨by kernel_rfl, Try.f75, _, by kernel_rfl, by kernel_rfl, rfl, by kernel_rfl, by kernel_rfl, by kernel_rfl⟩
theorem ag76 : Ag 76 := .inl ⟨by kernel_rfl, Try.f76, _, by kernel_rfl, by kernel_rfl, rfl, by kernel_rfl, by kernel_rfl, by kernel_rfl⟩
theorem ag77 : Ag 77 := .inl ⟨by kernel_rfl, Try.f77, _, by kernel_rfl, by kernel_rfl, rfl, by kernel_rfl, by kernel_rfl, by kernel_rfl⟩
theorem ag78 : Ag 78 := .inr (.inr ⟨by kernel_rfl, Try.f78, by kernel_rfl, by kernel_rfl, by kernel_rfl⟩)
theorem ag79 : Ag 79 := .inr (.inr ⟨by kernel_rfl, Try.f79, by kernel_rfl, by kernel_rfl, by kernel_rfl⟩)
theorem ag80 : Ag 80 := .inr (.inr ⟨by kernel_rfl, Try.f80, by kernel_rfl, by kernel_rfl, by kernel_rfl⟩)
theorem ag81 : Ag 81 := .inr (.inr ⟨by kernel_rfl, Try.f81, by kernel_rfl, by kernel_rfl, by kernel_rfl⟩)
theorem ag82 : Ag 82 := .inr (.inr ⟨by kernel_rfl, Try.f82, by kernel_rfl, by kernel_rfl, by kernel_rfl⟩)
theorem ag83 : Ag 83 := .inl ⟨by kernel_rfl, Try.f83, _, by kernel_rfl, by kernel_rfl, rfl, by kernel_rfl, by kernel_rfl, by kernel_rfl⟩
theorem ag84 : Ag 84 := .inr (.inr ⟨by kernel_rfl, Try.f84, by kernel_rfl, by kernel_rfl, by kernel_rfl⟩)
theorem ag85 : Ag 85 := .inr (.inr ⟨by kernel_rfl, Try.f85, by kernel_rfl, by kernel_rfl, by kernel_rfl⟩)
theorem ag86 : Ag 86 := .inr (.inr ⟨by kernel_rfl, Try.f86, by kernel_rfl, by kernel_rfl, by kernel_rfl⟩)
theorem ag87 : Ag 87 := .inr (.inr ⟨by kernel_rfl, Try.f87, by kernel_rfl, by kernel_rfl, by kernel_rfl⟩)
theorem ag88 : Ag 88 := .inr (.inr ⟨by kernel_rfl, Try.f88, by kernel_rfl, by kernel_rfl, by kernel_rfl⟩)
theorem ag89 : Ag 89 := .inr (.inr ⟨by kernel_rfl, Try.f89, by kernel_rfl, by kernel_rfl, by kernel_rfl⟩)
theorem ag90 : Ag 90 := .inr (.inr ⟨by kernel_rfl, Try.f90, by kernel_rfl, by kernel_rfl, by kernel_rfl⟩)
theorem ag91 : Ag 91 := .inr (.inr ⟨by kernel_rfl, Try.f91, by kernel_rfl, by kernel_rfl, by kernel_rfl⟩)
theorem ag92 : Ag 92 := .inr (.inr ⟨by kernel_rfl, Try.f92, by kernel_rfl, by kernel_rfl, by kernel_rfl⟩)
theorem ag93 : Ag 93 := .inr (.inr ⟨by kernel_rfl, Try.f93, by kernel_rfl, by kernel_rfl, by kernel_rfl⟩)
theorem ag94 : Ag 94 := .inr (.inr ⟨by kernel_rfl, Try.f94, by kernel_rfl, by kernel_rfl, by kernel_rfl⟩)
theorem ag95 : Ag 95 := .inr (.inr ⟨by kernel_rfl, Try.f95, by kernel_rfl, by kernel_rfl, by kernel_rfl⟩)
theorem ag96 : Ag 96 := .inr (.inr ⟨by kernel_rfl, Try.f96, by kernel_rfl, by kernel_rfl, by kernel_rfl⟩)
theorem ag97 : Ag 97 := .inr (.inr ⟨by kernel_rfl, Try.f97, by kernel_rfl, by kernel_rfl, by kernel_rfl⟩)
theorem ag98 : Ag 98 := .inr (.inr ⟨by kernel_rfl, Try.f98, by kernel_rfl, by kernel_rfl, by kernel_rfl⟩)
theorem ag99 : Ag 99 := .inr (.inr ⟨by kernel_rfl, Try.f99, by kernel_rfl, by kernel_rfl, by kernel_rfl⟩)
theorem ag100 : Ag 100 := .inr (.inr ⟨by kernel_rfl, Try.f100, by kernel_rfl, by kernel_rfl, by kernel_rfl⟩)
theorem below_succ {p : Nat → Prop} {n : Nat} (h : ∀ f, f < n → p f) (k : p n) : ∀ f, f < n + 1 → p f := fun f hf => by
  rcases Nat.lt_succ_iff_lt_or_eq.1 hf with h1 | rfl
  · exact h f h1
  · exact k
theorem ag_0 : ∀ f, f < 0 → Ag f := fun f h => absurd h (Nat.not_lt_zero f)
theorem ag_1 : ∀ f, f < 1 → Ag f := below_succ ag_0 ag0
theorem ag_2 : ∀ f, f < 2 → Ag f := below_succ ag_1 ag1
theorem ag_3 : ∀ f, f < 3 → Ag f := below_succ ag_2 ag2
theorem ag_4 : ∀ f, f < 4 → Ag f := below_succ ag_3 ag3
theorem ag_5 : ∀ f, f < 5 → Ag f := below_succ ag_4 ag4
theorem ag_6 : ∀ f, f < 6 → Ag f := below_succ ag_5 ag5
theorem ag_7 : ∀ f, f < 7 → Ag f := below_succ ag_6 ag6
theorem ag_8 : ∀ f, f < 8 → Ag f := below_succ ag_7 ag7
theorem ag_9 : ∀ f, f < 9 → Ag f := below_succ ag_8 ag8
theorem ag_10 : ∀ f, f < 10 → Ag f := below_succ ag_9 ag9
theorem ag_11 : ∀ f, f < 11 → Ag f := below_succ ag_10 ag10
theorem ag_12 : ∀ f, f < 12 → Ag f := below_succ ag_11 ag11
theorem ag_13 : ∀ f, f < 13 → Ag f := below_succ ag_12 ag12
theorem ag_14 : ∀ f, f < 14 → Ag f := below_succ ag_13 ag13
theorem ag_15 : ∀ f, f < 15 → Ag f := below_succ ag_14 ag14
theorem ag_16 : ∀ f, f < 16 → Ag f := below_succ ag_15 ag15
theorem ag_17 : ∀ f, f < 17 → Ag f := below_succ ag_16 ag16
theorem ag_18 : ∀ f, f < 18 → Ag f := below_succ ag_17 ag17
theorem ag_19 : ∀ f, f < 19 → Ag f := below_succ ag_18 ag18
theorem ag_20 : ∀ f, f < 20 → Ag f := below_succ ag_19 ag19
theorem ag_21 : ∀ f, f < 21 → Ag f := below_succ ag_20 ag20
theorem ag_22 : ∀ f, f < 22 → Ag f := below_succ ag_21 ag21
theorem ag_23 : ∀ f, f < 23 → Ag f := below_succ ag_22 ag22
theorem ag_24 : ∀ f, f < 24 → Ag f := below_succ ag_23 ag23
theorem ag_25 : ∀ f, f < 25 → Ag f := below_succ ag_24 ag24
theorem ag_26 : ∀ f, f < 26 → Ag f := below_succ ag_25 ag25
theorem ag_27 : ∀ f, f < 27 → Ag f := below_succ ag_26 ag26
theorem ag_28 : ∀ f, f < 28 → Ag f := below_succ ag_27 ag27
theorem ag_29 : ∀ f, f < 29 → Ag f := below_succ ag_28 ag28
theorem ag_30 : ∀ f, f < 30 → Ag f := below_succ ag_29 ag29
theorem ag_31 : ∀ f, f < 31 → Ag f := below_succ ag_30 ag30
theorem ag_32 : ∀ f, f < 32 → Ag f := below_succ ag_31 ag31
theorem ag_33 : ∀ f, f < 33 → Ag f := below_succ ag_32 ag32
theorem ag_34 : ∀ f, f < 34 → Ag f := below_succ ag_33 ag33
theorem ag_35 : ∀ f, f < 35 → Ag f := below_succ ag_34 ag34
theorem ag_36 : ∀ f, f < 36 → Ag f := below_succ ag_35 ag35
theorem ag_37 : ∀ f, f < 37 → Ag f := below_succ ag_36 ag36
theorem ag_38 : ∀ f, f < 38 → Ag f := below_succ ag_37 ag37
theorem ag_39 : ∀ f, f < 39 → Ag f := below_succ ag_38 ag38
theorem ag_40 : ∀ f, f < 40 → Ag f := below_succ ag_39 ag39
theorem ag_41 : ∀ f, f < 41 → Ag f := below_succ ag_40 ag40
theorem ag_42 : ∀ f, f < 42 → Ag f := below_succ ag_41 ag41
theorem ag_43 : ∀ f, f < 43 → Ag f := below_succ ag_42 ag42
theorem ag_44 : ∀ f, f < 44 → Ag f := below_succ ag_43 ag43
theorem ag_45 : ∀ f, f < 45 → Ag f := below_succ ag_44 ag44
theorem ag_46 : ∀ f, f < 46 → Ag f := below_succ ag_45 ag45
theorem ag_47 : ∀ f, f < 47 → Ag f := below_succ ag_46 ag46
theorem ag_48 : ∀ f, f < 48 → Ag f := below_succ ag_47 ag47
theorem ag_49 : ∀ f, f < 49 → Ag f := below_succ ag_48 ag48
theorem ag_50 : ∀ f, f < 50 → Ag f := below_succ ag_49 ag49
theorem ag_51 : ∀ f, f < 51 → Ag f := below_succ ag_50 ag50
theorem ag_52 : ∀ f, f < 52 → Ag f := below_succ ag_51 ag51
theorem ag_53 : ∀ f, f < 53 → Ag f := below_succ ag_52 ag52
theorem ag_54 : ∀ f, f < 54 → Ag f := below_succ ag_53 ag53
theorem ag_55 : ∀ f, f < 55 → Ag f := below_succ ag_54 ag54
theorem ag_56 : ∀ f, f < 56 → Ag f := below_succ ag_55 ag55
theorem ag_57 : ∀ f, f < 57 → Ag f := below_succ ag_56 ag56
theorem ag_58 : ∀ f, f < 58 → Ag f := below_succ ag_57 ag57
theorem ag_59 : ∀ f, f < 59 → Ag f := below_succ ag_58 ag58
theorem ag_60 : ∀ f, f < 60 → Ag f := below_succ ag_59 ag59
theorem ag_61 : ∀ f, f < 61 → Ag f := below_succ ag_60 ag60
theorem ag_62 : ∀ f, f < 62 → Ag f := below_succ ag_61 ag61
theorem ag_63 : ∀ f, f < 63 → Ag f := below_succ ag_62 ag62
theorem ag_64 : ∀ f, f < 64 → Ag f := below_succ ag_63 ag63
theorem ag_65 : ∀ f, f < 65 → Ag f := below_succ ag_64 ag64
theorem ag_66 : ∀ f, f < 66 → Ag f := below_succ ag_65 ag65
theorem ag_67 : ∀ f, f < 67 → Ag f := below_succ ag_66 ag66
theorem ag_68 : ∀ f, f < 68 → Ag f := below_succ ag_67 ag67
theorem ag_69 : ∀ f, f < 69 → Ag f := below_succ ag_68 ag68
theorem ag_70 : ∀ f, f < 70 → Ag f := below_succ ag_69 ag69
theorem ag_71 : ∀ f, f < 71 → Ag f := below_succ ag_70 ag70
theorem ag_72 : ∀ f, f < 72 → Ag f := below_succ ag_71 ag71
theorem ag_73 : ∀ f, f < 73 → Ag f := below_succ ag_72 ag72
theorem ag_74 : ∀ f, f < 74 → Ag f := below_succ ag_73 ag73
theorem ag_75 : ∀ f, f < 75 → Ag f := below_succ ag_74 ag74
theorem ag_76 : ∀ f, f < 76 → Ag f := below_succ ag_75 ag75
theorem ag_77 : ∀ f, f < 77 → Ag f := below_succ ag_76 ag76
theorem ag_78 : ∀ f, f < 78 → Ag f := below_succ ag_77 ag77
theorem ag_79 : ∀ f, f < 79 → Ag f := below_succ ag_78 ag78
theorem ag_80 : ∀ f, f < 80 → Ag f := below_succ ag_79 ag79
theorem ag_81 : ∀ f, f < 81 → Ag f := below_succ ag_80 ag80
theorem ag_82 : ∀ f, f < 82 → Ag f := below_succ ag_81 ag81
theorem ag_83 : ∀ f, f < 83 → Ag f := below_succ ag_82 ag82
theorem ag_84 : ∀ f, f < 84 → Ag f := below_succ ag_83 ag83
theorem ag_85 : ∀ f, f < 85 → Ag f := below_succ ag_84 ag84
theorem ag_86 : ∀ f, f < 86 → Ag f := below_succ ag_85 ag85
theorem ag_87 : ∀ f, f < 87 → Ag f := below_succ ag_86 ag86
theorem ag_88 : ∀ f, f < 88 → Ag f := below_succ ag_87 ag87
theorem ag_89 : ∀ f, f < 89 → Ag f := below_succ ag_88 ag88
theorem ag_90 : ∀ f, f < 90 → Ag f := below_succ ag_89 ag89
theorem ag_91 : ∀ f, f < 91 → Ag f := below_succ ag_90 ag90
theorem ag_92 : ∀ f, f < 92 → Ag f := below_succ ag_91 ag91
theorem ag_93 : ∀ f, f < 93 → Ag f := below_succ ag_92 ag92
theorem ag_94 : ∀ f, f < 94 → Ag f := below_succ ag_93 ag93
theorem ag_95 : ∀ f, f < 95 → Ag f := below_succ ag_94 ag94
theorem ag_96 : ∀ f, f < 96 → Ag f := below_succ ag_95 ag95
theorem ag_97 : ∀ f, f < 97 → Ag f := below_succ ag_96 ag96
theorem ag_98 : ∀ f, f < 98 → Ag f := below_succ ag_97 ag97
theorem ag_99 : ∀ f, f < 99 → Ag f := below_succ ag_98 ag98
theorem ag_100 : ∀ f, f < 100 → Ag f := below_succ ag_99 ag99
theorem ag_101 : ∀ f, f < 101 → Ag f := below_succ ag_100 ag100
theorem ag_all : ∀ f, f < 101 → Ag f := ag_101
theorem size_P : (Try.prog).funcs.size = 101 := by kernel_rfl
theorem size_Q : Tryq.fs.size = 101 := by kernel_rfl

end Go.Proofs.Ythoaldiadgeonaa.Tq
