/-
  The card of the law FnExecuteRound out of its walk: whatever the input, the answer is true, and what was there is left as it was.
  Conditions: those of the given row: the six listed variables of the library hold what the program's text lays in them (the card ties them).
-/
import Derived.Test.YtmpbbflolbakhaaGreatDoorLFnExecuteRound
import Derived.Test.YtmpbbflolbakhaaGreatDoorFrame
import Derived.Test.YtmpbbflolbakhaaGreatDoorTiedZ
import Derived.Test.YtmpbbflolbakhaaGreatDoorCards
import Derived.Test.YtmpbbflolbakhaaGreatDoorTie
import Derived.Test.YtmpbbflolbakhaaGreatDoorLeaveX
import Derived.ProofKit
import Derived.Test.YtmpbbflolbakhaaGreatDoorLeave
import Derived.OpenShut
import Derived.ShutString
import Derived.ChangeOld
import Derived.Lib.SmallJoins
namespace Go.Proofs.YtmpbbflolbakhaaGreatDoor.fnExecuteRound
open Go.ChangeShapes Go.WideShapes Go.ChangeAt Go.RowKit Go.Joins
set_option linter.unusedVariables false

set_option maxRecDepth 100000 in
theorem lifted (os : Os) (started : os.Started) (H : Type) (enc : TypeId × Value → H) :
    ReturnsInLeavingWide Rows.fnExecuteRoundRow.assume Tryz.checked os 3 .any (fun w args => (Rows.fnExecuteRoundSpec.pre enc Tryz.prog Tryz.f3 Rows.fnExecuteRoundRow.domain false w args ∧ laidMetH Tryz.prog laidL w) ∧ sizedMet enc Tryz.prog Tryz.f3 (OpenSpec.ofChange Rows.fnExecuteRoundSpec) false w args)
      (Rows.fnExecuteRoundSpec.post enc Tryz.prog Tryz.f3 false true false false) := by
  refine leaving_of_change_and (C := Tryz.checked) (X := fun w _ => laidMetH Tryz.prog laidL w) (fun _ _ _ hh h => h.of_heap hh) own started Tryz.func3
    (ChangeSpec.witness_shaped (enc := enc) (C := Tryz.checked) (os := os) (X := fun w _ => laidMetH Tryz.prog laidL w) false (laidZ os) #[.slice none 0 0] 8 (laidZ_os os) (laidZ_shaped os _) (by kernel_rfl) (by kernel_rfl) (by kernel_rfl) (laidZ_met os _)) ?_
  intro W base args ds gs before hsh hval0 hW hlaid
  obtain ⟨hmax, hm0⟩ := max_of_shaped hsh
  have htab := Lib.tabBelow_of_tabIs (pow10_of_met hlaid)
  have h64 := bruijn_of_met hlaid
  clear hsh hlaid
  have hval : ∀ (j : Nat) t v, Tryz.f3.params[j]? = some t → args[j]? = some v → Value.okWide Tryz.prog W .any base t v := hval0
  have hW' := hW
  obtain ⟨p, q, hA0, hV, rfl, hfz, hnd⟩ := hW
  have hA : DataW.TrodAll enc Tryz.prog W 0 (fun _ => true) true Tryz.f3.params.toList args.toList ds p := hA0
  rw [Tryz.params3] at hA hval
  obtain ⟨v0, vs0, d0, ds0, p0, q0, hargs, rfl, rfl, h0, r0⟩ := trodAll_cons hA
  obtain ⟨rfl, rfl, rfl⟩ := trodAll_nil r0
  obtain rfl : args = #[v0] := by cases args; simp_all
  obtain ⟨rfl, rfl⟩ := trodVars_none hV
  have k0 := h0
  have lt0 : ∀ x ∈ p0, x.block < W.heap.size := by obtain ⟨m, hm⟩ := k0; exact DataW.trod_lt m _ _ _ hm
  obtain ⟨a0, len0, cap0, rfl⟩ := okWide_slice Tryz.underlying22 (hval 0 22 v0 rfl rfl)
  obtain ⟨z0, w0⟩ : ∃ zs, IsRow .u8 W a0 len0 cap0 zs := by
    obtain ⟨fuel, hf⟩ := h0
    rcases open_ints Tryz.underlying22 Tryz.underlying5 (by kernel_rfl) hf with ⟨hcs, _⟩ | ⟨x, l, c, zs, hcs, _, hl, hm, hz, _, hcell, hwz⟩
    · simp [Value.cells] at hcs
      obtain ⟨rfl, rfl, rfl⟩ := hcs
      exact ⟨[], .inl ⟨rfl, rfl, rfl, rfl⟩⟩
    · simp [Value.cells] at hcs
      obtain ⟨rfl, rfl, rfl⟩ := hcs
      exact ⟨zs, .inr ⟨_, rfl, hl, hm, by simpa using hz, hcell, hwz⟩⟩
  clear hA0 hval0
  obtain ⟨M, last, o, w', t', q1, q2, q3, q4⟩ := run_of_calls (R := fun v W' => v = .bool true ∧ Below W.heap.size W W') (by kernel_rfl) ((lawExecuteRound_any a0 len0 cap0 z0 W w0 hmax hm0 htab h64).mono fun e W' h => by obtain ⟨rfl, hb⟩ := h; exact ⟨rfl, hb⟩)
  refine ⟨M, last, o, w', t', q1, q2, q3, q4.mono fun v ⟨he, bel⟩ => ?_⟩
  subst he
  exact ⟨_, _, _, [], _, [], hW', trodAll_mk1 (shut_bool Tryz.underlying4 _), (trodAll_cons_mk (Below.trod laidOut (by kernel_rfl) (of_decide_eq_true (by kernel_rfl)) k0 bel lt0) trodAll_mk0), rfl, bel.frame _, fun h => by cases h⟩

theorem over : Rows.fnExecuteRoundRow.holds Tryz.pinned (OpenSpec.ofChange Rows.fnExecuteRoundSpec) :=
  OpenClaim.holds_of_wide_leaving 3 Tryz.f3 rfl rfl rfl rfl rfl rfl rfl ⟨rfl, rfl, rfl, rfl, rfl⟩ rfl rfl rfl rfl rfl (by kernel_rfl) Tryz.func3 (by kernel_rfl)
    (of_decide_eq_true (by kernel_rfl)) (by unfold Func.isWrapper; first | (rw [if_pos (by decide +kernel)]; kernel_rfl) | (rw [if_neg (by decide +kernel)]; exact ⟨rfl, rfl⟩))
    (fun os started H enc _ => lifted os started H enc)

theorem proved : Rows.FnExecuteRoundCardSaid :=
  card_tied_goes [.data, .data, .data, .data, .handle, .pinned] true _ true
    over (by kernel_rfl) fnExecuteRound_row_tie rfl ⟨rfl, rfl⟩ (by kernel_rfl) rfl
    (fun f fn hf hfn => by
      obtain rfl : f = 3 := Option.some.inj ((show Tryz.prog.funcNamed "loop.example/fractionrounds/laws.FnExecuteRound" = some 3 by kernel_rfl).symm.trans hf) |>.symm
      obtain rfl : fn = Tryz.f3 := (Option.some.inj (Tryz.func3.symm.trans hfn)).symm
      exact ⟨by kernel_rfl, fun j t ht => by
        rw [Tryz.params3] at ht
        have hall : ∀ t' ∈ [22], Tryz.prog.wantsStandIn t' = false := by
          intro t' h'
          simp only [List.mem_cons, List.not_mem_nil, or_false] at h'
          rcases h' with rfl <;> kernel_rfl
        exact hall t (by
          rcases j with _ | j
          all_goals (simp at ht <;> simp [← ht]))⟩)
    (by kernel_rfl)

end Go.Proofs.YtmpbbflolbakhaaGreatDoor.fnExecuteRound
