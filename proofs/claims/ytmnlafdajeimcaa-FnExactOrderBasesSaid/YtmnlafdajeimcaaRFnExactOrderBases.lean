/-
  The law FnExactOrderBases: its one good run, whatever the schedule.
-/
import Derived.Test.YtmnlafdajeimcaaQBases
import Derived.Test.YtmnlafdajeimcaaLFnExactOrderBases
import Derived.Test.YtmnlafdajeimcaaGTqB
namespace Go.Proofs.Ytmnlafdajeimcaa
open Go.RowKit Go.Conc Go.Proofs.Ytmnlafdajeimcaa.Tr Go.Proofs.Ytmnlafdajeimcaa.Tq

theorem runFnExactOrderBases (x0 : Int) (x1 : Int) (W : World) (wx0 : (Lit.int .i64 x0).wf = true) (wx1 : (Lit.int .i64 x1).wf = true) :
    ∃ M last o w' t', runNT Try.prog (M + 1) (solo (G (Frame.enter Try.prog 5 #[.int .i64 x0, .int .i64 x1] .normal) []) W) #[] = (.ended o w', t') ∧ runN Try.prog M (solo (G (Frame.enter Try.prog 5 #[.int .i64 x0, .int .i64 x1] .normal) []) W) = .next last ∧
      Go.step Try.prog last = .ended o w' ∧ Conc.Good Try.prog (fun v w' => v = .bool true ∧ Below W.heap.size W w') last o w' t' := by
  obtain ⟨M, last, o, w', t', h1, h2, h3, h4⟩ := run_of_q (W := W) (f := 5) (args := #[.int .i64 x0, .int .i64 x1]) (R := fun v w' => v = .bool true ∧ ∃ τ, Below (re τ (tamed W)).heap.size (re τ (tamed W)) w') (by kernel_rfl) (by kernel_rfl)
    (fun fn hf tmps => by
      rw [Try.func5] at hf
      obtain rfl := Option.some.inj hf
      exact ⟨_, results_one Try.results5⟩)
    ⟨_, Try.func5, by kernel_rfl⟩ (fun τ => (lawOrderBases_any imBases x0 x1 (re τ (tamed W)) wx0 wx1).mono fun e w' h => by obtain ⟨rfl, hb⟩ := h; exact ⟨rfl, τ, hb⟩)
  exact ⟨M, last, o, w', t', h1, h2, h3, h4.mono fun v hv => by
      obtain ⟨w2, Shun, G, ⟨e, hb⟩, hr, ht⟩ := hv
      exact ⟨e, below_of hb hr ht⟩⟩

end Go.Proofs.Ytmnlafdajeimcaa
