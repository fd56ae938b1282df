/-
  A call that starts no goroutine, though it might: from its contract alone to the run that a row which says 'leaving' asks for.
-/
import Derived.Test.YtmpbbflolbakhaaGreatDoorRows
import Derived.Conc.LeavingOf
import Derived.Eval
namespace Go.Proofs.YtmpbbflolbakhaaGreatDoor
open Go.Conc

theorem run_of_calls {P : Program} {f : FuncId} {args : Array Value} {W : World} {R : Value → World → Prop} (hi : P.inits.idxOf? f = none)
    (h : Calls P f args W fun | .returned v, w' => R v w' | _, _ => False) :
    ∃ M last o w' t', runNT P (M + 1) (solo (G (Frame.enter P f args .normal) []) W) #[] = (.ended o w', t') ∧ runN P M (solo (G (Frame.enter P f args .normal) []) W) = .next last ∧
      step P last = .ended o w' ∧ Conc.Good P R last o w' t' := by
  have e0 : solo (G (Frame.enter P f args .normal) []) W = lone (Frame.enter P f args .normal) [] W := rfl
  rw [e0]
  obtain ⟨n, v, w', fr, hn, hend, hp⟩ := h.done_lone hi
  refine ⟨n, _, .done v, w', (runNT P (n + 1) (lone (Frame.enter P f args .normal) [] W) #[]).2, ?_, hn, step_of_runs hn hend, v, rfl, hp, ?_, handedOver_of_lone hn, ?_, ?_⟩
  · have := runNT_fst P (n + 1) (lone (Frame.enter P f args .normal) [] W) #[]
    rw [hend] at this
    exact Prod.ext this rfl
  · intro said
    exact (no_race_of_lone (said := said) P n _ _ hn (by simp [lone]) rfl).2
  · exact ⟨fun g hg => by simp [lone] at hg, by simp [lone]⟩
  · intro i g hg hne
    cases i with
    | zero => exact absurd rfl hne
    | succ k => simp [lone] at hg

end Go.Proofs.YtmpbbflolbakhaaGreatDoor
