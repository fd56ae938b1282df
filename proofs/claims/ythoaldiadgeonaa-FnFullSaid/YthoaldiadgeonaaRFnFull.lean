/-
  The law FnFull: its one good run, whatever the schedule.
-/
import Derived.Test.YthoaldiadgeonaaQFull
import Derived.Test.YthoaldiadgeonaaLFnFull
import Derived.Test.YthoaldiadgeonaaGTqB
namespace Go.Proofs.Ythoaldiadgeonaa
open Go.RowKit Go.Conc Go.Proofs.Ythoaldiadgeonaa.Tr Go.Proofs.Ythoaldiadgeonaa.Tq

theorem runFnFull (a0 : Option Addr) (len0 cap0 : Nat) (z0 : List Int) (W : World) (w0 : IsRow .u8 W a0 len0 cap0 z0) :
    ∃ M last o w' t', runNT Try.prog (M + 1) (solo (G (Frame.enter Try.prog 4 #[.slice a0 len0 cap0] .normal) []) W) #[] = (.ended o w', t') ∧ runN Try.prog M (solo (G (Frame.enter Try.prog 4 #[.slice a0 len0 cap0] .normal) []) W) = .next last ∧
      Go.step Try.prog last = .ended o w' ∧ Conc.Good Try.prog (fun v w' => v = .bool true ∧ Below W.heap.size W w') last o w' t' := by
  obtain ⟨M, last, o, w', t', h1, h2, h3, h4⟩ := run_of_q (W := W) (f := 4) (args := #[.slice a0 len0 cap0]) (R := fun v w' => v = .bool true ∧ ∃ τ, Below (re τ (tamed W)).heap.size (re τ (tamed W)) w') (by kernel_rfl) (by kernel_rfl)
    (fun fn hf tmps => by
      rw [Try.func4] at hf
      obtain rfl := Option.some.inj hf
      exact ⟨_, results_one Try.results4⟩)
    ⟨_, Try.func4, by kernel_rfl⟩ (fun τ => (lawFull_any imFull a0 len0 cap0 z0 (re τ (tamed W)) (isRow_re w0 τ)).mono fun e w' h => by obtain ⟨rfl, hb⟩ := h; exact ⟨rfl, τ, hb⟩)
  exact ⟨M, last, o, w', t', h1, h2, h3, h4.mono fun v hv => by
      obtain ⟨w2, Shun, G, ⟨e, hb⟩, hr, ht⟩ := hv
      exact ⟨e, below_of hb hr ht⟩⟩

end Go.Proofs.Ythoaldiadgeonaa
