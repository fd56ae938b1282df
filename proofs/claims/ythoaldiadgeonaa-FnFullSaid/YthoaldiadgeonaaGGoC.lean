/-
  sync.WaitGroup's Add(1) and Wait in company, over whatever rely and guarantee.
  sync.WaitGroup's Wait in company, over whatever rely and guarantee.
  The starter of the program's orders: what it suffers and may do; one round of its loop, up to the go statement.
-/
import Derived.Test.YthoaldiadgeonaaGGoB
import Derived.Conc.WgArith
import Derived.Lib.Hide
import Derived.Lib.SmallJoins
namespace Go.Proofs.Ythoaldiadgeonaa.Cr
open Go.Conc Go.ConcR Go.RowKit Go.Conc.Lib Go.ConcR.Gen

section
variable (P : Program) (R : World → World → Prop) (D : World → World → Array Event → Prop) (ty : TypeId) (Wg : Nat) (K : Goroutine → World → Prop)
/-- Add(1), from its end backwards. -/
def StKe (g : Goroutine) (w : World) : Prop := AtSay P true .enable (fun g w => ∃ m, Goes P true R D K m g w) g w
def StA1 (g : Goroutine) (w : World) : Prop :=
  g.status = .running ∧ ∀ v : Nat, v < 2147483647 → WgAt ty Wg w (v * KK) 0 →
    ∃ g', stepG P true g w = .go g' (w.setCell (stA Wg) (.int .u64 ((v + 1) * KK))) #[rd (stA Wg), wr (stA Wg)] ∧ ∃ m, Goes P true R D (StKe P R D K) m g' (w.setCell (stA Wg) (.int .u64 ((v + 1) * KK)))
def StAdd (g : Goroutine) (w : World) : Prop := AtSay P true .disable (fun g w => ∃ m, Goes P true R D (StA1 P R D ty Wg K) m g w) g w
end

variable {P : Program} {R : World → World → Prop} {D : World → World → Array Event → Prop} {F : World → Prop} {L : WgLink}

set_option maxRecDepth 100000 in
set_option maxHeartbeats 8000000 in
theorem addPos (H : WgLib P L) (E : Hold R D F) {K : Goroutine → World → Prop} {Wg : Nat} (live : ∀ w, F w → ∃ st sm, WgAt L.tWg Wg w st sm) (said : ∀ w, F w → D w w #[⟨.mark (.read ⟨Wg, 1, none⟩), false, true⟩])
    (turn : ∀ w st sm st', F w → WgAt L.tWg Wg w st sm → F (w.setCell (stA Wg) (.int .u64 st'))) {b₀ : Frame} {a₀ : Act} {ops₀ : Array Oper} {i₀ : Nat} {rest₀ : List Nat} {k₀ : List Item} {cs : List Frame} {mT : Nat}
    (hT : GF P true R D K F mT (G (b₀.at (a₀.put ((ops₀[i₀]?).bind (·.dst)) (.tuple #[])) (.inRegion ops₀ rest₀ :: k₀)) cs)) :
    GF P true R D (StAdd P R D L.tWg Wg K) F 12 (G ((base L.add).at ⟨#[.pointer (some ⟨Wg, 0, none⟩), .int .i64 1] ++ Array.replicate 115 undef, []⟩ [.code (body_add L)]) (b₀.at a₀ (.inRegion ops₀ (i₀ :: rest₀) :: k₀) :: cs)) := by
  lib_facts
  simp only [body_add, addFn, Option.getD_some]
  walk_nrm
  repeat (first
    | refine GF.seq E ?_
    | refine GF.regEnd E ?_
    | refine GF.nop E ?_
    | (refine GF.reg E ?_; simp only [List.size_toArray, List.length_cons, List.length_nil, Nat.reduceAdd, Nat.zero_add, List.range, List.range.loop])
    | (refine GF.cond E (t := true) rfl ?_; simp only [↓reduceIte])
    | (refine GF.cond E (t := false) rfl ?_; simp only [Bool.false_eq_true, ↓reduceIte])
    | (refine GF.oper E rfl rfl (base_kind _) rfl (fun w hF K hK => ?_); go_simp; refine hK _ ⟨?_, ?_⟩; (· intro e he; first | (simp [go_sem] at he; done) | (simp [go_sem, *] at he; done)); clear hK K hF w; (try (walk_nrm)); (try (w_num)))
    | (refine GF.skip E rfl rfl ?_; (try (walk_nrm)))
    | refine GF.ret E ?_
    | (refine GF.defer E rfl rfl (base_kind _) rfl ?_; walk_nrm)
    | (refine GF.ctl E rfl (fun _ => stepG_entry_pure (.bool false) rfl rfl (base_kind _) rfl H.f_inBubble (x_inBubble_n L) (x_inBubble_b L) (x_inBubble_x L) (x_inBubble_f L)) ?_; walk_nrm)
    | (refine GF.call E rfl rfl (base_kind _) rfl H.f_uAdd (nm_uAdd L) rfl ?_; walk_nrmf uAddFn)
    | (refine GF.leave1 E rfl rfl H.f_uAdd rfl ?_; walk_nrm))
  refine GF.stop E (fun w hF => ⟨rfl, _, stepG_mark0 .disable (by simp) rfl rfl (base_kind _) rfl H.f_disable (x_disable_n L) (x_disable_b L) (x_disable_x L) (x_disable_f L), 60, ?_⟩)
  refine (?_ : GF P true R D (StA1 P R D L.tWg Wg K) F _ _) w hF
  clear hF w
  walk_nrm
  repeat (first
    | refine GF.seq E ?_
    | refine GF.regEnd E ?_
    | refine GF.nop E ?_
    | (refine GF.reg E ?_; simp only [List.size_toArray, List.length_cons, List.length_nil, Nat.reduceAdd, Nat.zero_add, List.range, List.range.loop])
    | (refine GF.cond E (t := true) rfl ?_; simp only [↓reduceIte])
    | (refine GF.cond E (t := false) rfl ?_; simp only [Bool.false_eq_true, ↓reduceIte])
    | (refine GF.oper E rfl rfl (base_kind _) rfl (fun w hF K hK => ?_); go_simp; refine hK _ ⟨?_, ?_⟩; (· intro e he; first | (simp [go_sem] at he; done) | (simp [go_sem, *] at he; done)); clear hK K hF w; (try (walk_nrm)); (try (w_num)))
    | (refine GF.skip E rfl rfl ?_; (try (walk_nrm)))
    | refine GF.ret E ?_
    | (refine GF.defer E rfl rfl (base_kind _) rfl ?_; walk_nrm)
    | (refine GF.ctl E rfl (fun _ => stepG_entry_pure (.bool false) rfl rfl (base_kind _) rfl H.f_inBubble (x_inBubble_n L) (x_inBubble_b L) (x_inBubble_x L) (x_inBubble_f L)) ?_; walk_nrm)
    | (refine GF.call E rfl rfl (base_kind _) rfl H.f_uAdd (nm_uAdd L) rfl ?_; walk_nrmf uAddFn)
    | (refine GF.leave1 E rfl rfl H.f_uAdd rfl ?_; walk_nrm))
  refine GF.stop E (fun w hF => ⟨rfl, fun v hv hw => ?_⟩)
  have eS : IntKind.u64.wrap ((v : Int) * KK + 4294967296) = ((v : Int) + 1) * KK := by rw [IntKind.wrap_u64]; simp only [KK]; omega
  refine ⟨_, (stepG_add_atomic rfl rfl (base_kind _) rfl H.f_addU64 (x_addU64_n L) (x_addU64_b L) (x_addU64_x L) .u64 (x_addU64_f L) rfl rfl hw.cellSt (hw.thaw 0)).trans (by rw [eS]; rfl), mT + 200, ?_⟩
  refine (?_ : GF P true R D (StKe P R D K) F _ _) _ (turn w _ _ _ hF hw)
  clear hF hw w eS
  obtain ⟨V, hV⟩ : ∃ V : Int, V = (v : Int) + 1 := ⟨_, rfl⟩
  obtain ⟨S, hS⟩ : ∃ S : Int, S = V * KK := ⟨_, rfl⟩
  rw [← hV, ← hS]
  have a1 : S / 4294967296 = V := by rw [hS]; simp only [KK]; omega
  have b1 : bits .and .u64 S 2147483648 = 0 := by rw [hS, hV]; have := ConcN.st_flag (v + 1) 0 (by omega) (by omega); simpa [KK] using this
  have b2 : bits .and .u64 S 2147483647 = 0 := by rw [hS, hV]; have := ConcN.st_waiters (v + 1) 0 (by omega) (by omega); simpa [KK] using this
  have c1 : IntKind.i32.wrap V = V := by rw [IntKind.wrap_i32]; omega
  have q3 : decide (V < 0) = false := decide_eq_false (by omega)
  have q4 : decide (0 < V) = true := decide_eq_true (by omega)
  have q4' : 0 < V := by omega
  have w1 : IntKind.i32.wrap 1 = 1 := by decide
  by_cases h1 : V = 1
  · subst h1
    clear hS hV
    walk_nrm
    repeat (first
      | refine GF.seq E ?_
      | refine GF.regEnd E ?_
      | refine GF.nop E ?_
      | (refine GF.reg E ?_; simp only [List.size_toArray, List.length_cons, List.length_nil, Nat.reduceAdd, Nat.zero_add, List.range, List.range.loop])
      | (refine GF.cond E (t := true) rfl ?_; simp only [↓reduceIte])
      | (refine GF.cond E (t := false) rfl ?_; simp only [Bool.false_eq_true, ↓reduceIte])
      | (refine GF.oper E rfl rfl (base_kind _) rfl (fun w hF K hK => ?_); go_simp; refine hK _ ⟨?_, ?_⟩; (· intro e he; first | (simp [go_sem] at he; done) | (simp [go_sem, *] at he; done)); clear hK K hF w; (try (walk_nrm)); (try (w_num)))
      | (refine GF.skip E rfl rfl ?_; (try (walk_nrm)))
      | refine GF.ret E ?_
      | (refine GF.defer E rfl rfl (base_kind _) rfl ?_; walk_nrm)
      | (refine GF.ctl E rfl (fun _ => stepG_entry_pure (.bool false) rfl rfl (base_kind _) rfl H.f_inBubble (x_inBubble_n L) (x_inBubble_b L) (x_inBubble_x L) (x_inBubble_f L)) ?_; walk_nrm)
      | (refine GF.call E rfl rfl (base_kind _) rfl H.f_uAdd (nm_uAdd L) rfl ?_; walk_nrmf uAddFn)
      | (refine GF.leave1 E rfl rfl H.f_uAdd rfl ?_; walk_nrm))
    refine GF.oper E rfl rfl (base_kind _) rfl (fun w hF K hK => ?_)
    obtain ⟨st, sm, hw⟩ := live w hF
    have hcv := run_convert_to_unsafe (P := P) H.underlying_tPU32 H.underlying_tUP H.room_tU32 (a := ⟨Wg, 1, none⟩) hw.cellSm
    have hce := fun es => events_convert_to_unsafe (P := P) H.underlying_tPU32 H.underlying_tUP H.room_tU32 (a := ⟨Wg, 1, none⟩) hw.cellSm es
    go_simp
    refine hK _ ⟨?_, ?_⟩
    · intro e he
      simp [go_sem, hce] at he
    clear hK K hcv hce hw hF w
    refine GF.says E rfl (fun _ => stepG_markAt .read (by simp) rfl rfl (base_kind _) rfl H.f_raceRead (x_raceRead_n L) (x_raceRead_b L) (x_raceRead_x L) (x_raceRead_f L) (ad := ⟨Wg, 1, none⟩) (by simp [Act.eval])) said ?_
    walk_nrm
    repeat (first
      | refine GF.seq E ?_
      | refine GF.regEnd E ?_
      | refine GF.nop E ?_
      | (refine GF.reg E ?_; simp only [List.size_toArray, List.length_cons, List.length_nil, Nat.reduceAdd, Nat.zero_add, List.range, List.range.loop])
      | (refine GF.cond E (t := true) rfl ?_; simp only [↓reduceIte])
      | (refine GF.cond E (t := false) rfl ?_; simp only [Bool.false_eq_true, ↓reduceIte])
      | (refine GF.oper E rfl rfl (base_kind _) rfl (fun w hF K hK => ?_); go_simp; refine hK _ ⟨?_, ?_⟩; (· intro e he; first | (simp [go_sem] at he; done) | (simp [go_sem, *] at he; done)); clear hK K hF w; (try (walk_nrm)); (try (w_num)))
      | (refine GF.skip E rfl rfl ?_; (try (walk_nrm)))
      | refine GF.ret E ?_
      | (refine GF.defer E rfl rfl (base_kind _) rfl ?_; walk_nrm)
      | (refine GF.ctl E rfl (fun _ => stepG_entry_pure (.bool false) rfl rfl (base_kind _) rfl H.f_inBubble (x_inBubble_n L) (x_inBubble_b L) (x_inBubble_x L) (x_inBubble_f L)) ?_; walk_nrm)
      | (refine GF.call E rfl rfl (base_kind _) rfl H.f_uAdd (nm_uAdd L) rfl ?_; walk_nrmf uAddFn)
      | (refine GF.leave1 E rfl rfl H.f_uAdd rfl ?_; walk_nrm))
    refine GF.stop E (fun w hF => ⟨rfl, _, unwind_enable H rfl w, mT + 1, ?_⟩)
    refine (?_ : GF P true R D K F _ _) w hF
    exact GF.leave0 E rfl rfl H.f_add rfl hT
  · have q5 : (V == 1) = false := by simpa using h1
    have q5' : (V == IntKind.i32.wrap 1) = false := by rw [w1]; exact q5
    have q6 : decide (V = 1) = false := decide_eq_false h1
    clear hS hV
    walk_nrm
    repeat (first
      | refine GF.seq E ?_
      | refine GF.regEnd E ?_
      | refine GF.nop E ?_
      | (refine GF.reg E ?_; simp only [List.size_toArray, List.length_cons, List.length_nil, Nat.reduceAdd, Nat.zero_add, List.range, List.range.loop])
      | (refine GF.cond E (t := true) rfl ?_; simp only [↓reduceIte])
      | (refine GF.cond E (t := false) rfl ?_; simp only [Bool.false_eq_true, ↓reduceIte])
      | (refine GF.oper E rfl rfl (base_kind _) rfl (fun w hF K hK => ?_); go_simp; refine hK _ ⟨?_, ?_⟩; (· intro e he; first | (simp [go_sem] at he; done) | (simp [go_sem, *] at he; done)); clear hK K hF w; (try (walk_nrm)); (try (w_num)))
      | (refine GF.skip E rfl rfl ?_; (try (walk_nrm)))
      | refine GF.ret E ?_
      | (refine GF.defer E rfl rfl (base_kind _) rfl ?_; walk_nrm)
      | (refine GF.ctl E rfl (fun _ => stepG_entry_pure (.bool false) rfl rfl (base_kind _) rfl H.f_inBubble (x_inBubble_n L) (x_inBubble_b L) (x_inBubble_x L) (x_inBubble_f L)) ?_; walk_nrm)
      | (refine GF.call E rfl rfl (base_kind _) rfl H.f_uAdd (nm_uAdd L) rfl ?_; walk_nrmf uAddFn)
      | (refine GF.leave1 E rfl rfl H.f_uAdd rfl ?_; walk_nrm))
    refine GF.stop E (fun w hF => ⟨rfl, _, unwind_enable H rfl w, mT + 1, ?_⟩)
    refine (?_ : GF P true R D K F _ _) w hF
    exact GF.leave0 E rfl rfl H.f_add rfl hT

end Go.Proofs.Ythoaldiadgeonaa.Cr

namespace Go.Proofs.Ythoaldiadgeonaa.Cr
open Go.Conc Go.ConcR Go.RowKit Go.Conc.Lib Go.ConcR.Gen

section
variable (P : Program) (R : World → World → Prop) (D : World → World → Array Event → Prop) (ty : TypeId) (Wg : Nat) (K A : Goroutine → World → Prop)
/-- Wait, from its end backwards; A: at the loop's head. -/
def StAcq (g : Goroutine) (w : World) : Prop := AtSay P true (.acquire (stA Wg)) (fun g w => ∃ m, Goes P true R D K m g w) g w
def StKw (g : Goroutine) (w : World) : Prop := AtSay P true .enable (fun g w => ∃ m, Goes P true R D (StAcq P R D Wg K) m g w) g w
def StW4 (g : Goroutine) (w : World) : Prop :=
  g.status = .running ∧ (WgAt ty Wg w 0 0 → ∃ g', stepG P true g w = .go g' w #[rd (stA Wg)] ∧ ∃ m, Goes P true R D (StKw P R D Wg K) m g' w)
def StW3 (g : Goroutine) (w : World) : Prop :=
  g.status = .running ∧ g.offers = none ∧ ((∃ st, WgAt ty Wg w st 0) → stepG P true g w = .go { g with status := .blocked } w #[]) ∧
    (WgAt ty Wg w 0 1 → ∃ g', stepG P true g w = .go g' (w.setCell (smA Wg) (.int .u32 0)) (semEvents (smA Wg)) ∧ ∃ m, Goes P true R D (StW4 P R D ty Wg K) m g' (w.setCell (smA Wg) (.int .u32 0)))
def StW2 (vs : Nat) (g : Goroutine) (w : World) : Prop :=
  g.status = .running ∧ ∀ v : Nat, v < 2147483648 → WgAt ty Wg w (v * KK) 0 →
    (v = vs → ∃ g', stepG P true g w = .go g' (w.setCell (stA Wg) (.int .u64 (v * KK + 1))) #[rd (stA Wg), wr (stA Wg)] ∧ ∃ m, Goes P true R D (StW3 P R D ty Wg K) m g' (w.setCell (stA Wg) (.int .u64 (v * KK + 1)))) ∧
    (v ≠ vs → ∃ g', stepG P true g w = .go g' w #[rd (stA Wg)] ∧ ∃ m, Goes P true R D A m g' w)
def StW1 (g : Goroutine) (w : World) : Prop :=
  g.status = .running ∧ ∀ v : Nat, v < 2147483648 → WgAt ty Wg w (v * KK) 0 → ∃ g', stepG P true g w = .go g' w #[rd (stA Wg)] ∧
    (v = 0 → ∃ m, Goes P true R D (StKw P R D Wg K) m g' w) ∧ (v ≠ 0 → ∃ m, Goes P true R D (StW2 P R D ty Wg K A v) m g' w)
def StKd (g : Goroutine) (w : World) : Prop := AtSay P true .disable (fun g w => ∃ m, Goes P true R D A m g w) g w
end

/-- At the head of Wait's loop. -/
def Anc (L : WgLink) (F : World → Prop) (Wg : Nat) (c : Frame) (cs : List Frame) (g : Goroutine) (w : World) : Prop :=
  ∃ T : Array Value, g = G ((base L.wait).at ⟨T, []⟩ [.code (L7 L), .inLoop (L7 L), .inBlock 0]) (c :: cs) ∧ T.size = 84 ∧ T[0]? = some (.pointer (some ⟨Wg, 0, none⟩)) ∧ F w

variable {P : Program} {R : World → World → Prop} {D : World → World → Array Event → Prop} {F : World → Prop} {L : WgLink}

set_option maxRecDepth 100000 in
set_option maxHeartbeats 8000000 in
theorem waitStart (H : WgLib P L) (E : Hold R D F) {Wg : Nat} {c : Frame} {cs : List Frame} :
    GF P true R D (StKd P R D (Anc L F Wg c cs)) F 3 (G ((base L.wait).at ⟨#[.pointer (some ⟨Wg, 0, none⟩)] ++ Array.replicate 83 undef, []⟩ [.code (body_wait L)]) (c :: cs)) := by
  lib_facts
  simp only [body_wait, waitFn, Option.getD_some]
  walk_nrm
  refine GF.seq E ?_
  refine GF.cond E (t := true) rfl ?_
  simp only [↓reduceIte]
  refine GF.reg E ?_
  simp only [List.size_toArray, List.length_cons, List.length_nil, Nat.zero_add, List.range, List.range.loop]
  refine GF.stop E (fun w hF => ⟨rfl, _, stepG_mark0 .disable (by simp) rfl rfl (by k_ne) rfl H.f_disable (x_disable_n L) (x_disable_b L) (x_disable_x L) (x_disable_f L), 3, ?_⟩)
  refine (?_ : GF P true R D _ F _ _) w hF
  clear hF w
  walk_nrm
  refine GF.regEnd E ?_
  refine GF.block E ?_
  refine GF.loop E ?_
  exact GF.stop E (fun w hF => ⟨_, rfl, by simp, by simp, hF⟩)

set_option maxRecDepth 100000 in
set_option maxHeartbeats 16000000 in
theorem waitRound (H : WgLib P L) (E : Hold R D F) {K : Goroutine → World → Prop} {Wg : Nat} (live : ∀ w, F w → ∃ st sm, WgAt L.tWg Wg w st sm) (said : ∀ w, F w → D w w #[⟨.mark (.write ⟨Wg, 1, none⟩), false, true⟩])
    (turn : ∀ w st sm st', F w → WgAt L.tWg Wg w st sm → F (w.setCell (stA Wg) (.int .u64 st'))) (turn1 : ∀ w st sm sm', F w → WgAt L.tWg Wg w st sm → F (w.setCell (smA Wg) (.int .u32 sm')))
    {b₀ : Frame} {a₀ : Act} {ops₀ : Array Oper} {i₀ : Nat} {rest₀ : List Nat} {k₀ : List Item} {cs : List Frame} {mT : Nat}
    (hT : GF P true R D K F mT (G (b₀.at (a₀.put ((ops₀[i₀]?).bind (·.dst)) (.tuple #[])) (.inRegion ops₀ rest₀ :: k₀)) cs))
    (g : Goroutine) (w : World) (h : Anc L F Wg (b₀.at a₀ (.inRegion ops₀ (i₀ :: rest₀) :: k₀)) cs g w) :
    ∃ m, Goes P true R D (StW1 P R D L.tWg Wg K (Anc L F Wg (b₀.at a₀ (.inRegion ops₀ (i₀ :: rest₀) :: k₀)) cs)) m g w := by
  lib_facts
  obtain ⟨T, rfl, hT84, t0, hF⟩ := h
  obtain ⟨v0, v1, v2, v3, v4, v5, v6, v7, v8, v9, v10, v11, v12, v13, v14, v15, v16, v17, v18, v19, v20, v21, v22, v23, v24, v25, v26, v27, v28, v29, v30, v31, v32, v33, v34, v35, v36, v37, v38, v39, v40, v41, v42, v43, v44, v45, v46, v47, v48, v49, v50, v51, v52, v53, v54, v55, v56, v57, v58, v59, v60, v61, v62, v63, v64, v65, v66, v67, v68, v69, v70, v71, v72, v73, v74, v75, v76, v77, v78, v79, v80, v81, v82, v83, rfl⟩ := array84 T hT84
  simp only [List.getElem?_toArray, List.getElem?_cons_zero, Option.some.injEq] at t0
  subst t0
  clear hT84
  refine ⟨30, ?_⟩
  simp only [L7, body_wait, waitFn, Option.getD_some]
  refine (?_ : GF P true R D _ F _ _) w hF
  clear hF w
  repeat (first
    | refine GF.seq E ?_
    | refine GF.regEnd E ?_
    | refine GF.nop E ?_
    | (refine GF.reg E ?_; simp only [List.size_toArray, List.length_cons, List.length_nil, Nat.reduceAdd, Nat.zero_add, List.range, List.range.loop])
    | (refine GF.cond E (t := true) rfl ?_; simp only [↓reduceIte])
    | (refine GF.cond E (t := false) rfl ?_; simp only [Bool.false_eq_true, ↓reduceIte])
    | (refine GF.oper E rfl rfl (base_kind _) rfl (fun w hF K hK => ?_); go_simp; refine hK _ ⟨?_, ?_⟩; (· intro e he; first | (simp [go_sem] at he; done) | (simp [go_sem, *] at he; done)); clear hK K hF w; (try (walk_nrm)); (try (w_num)))
    | (refine GF.skip E rfl rfl ?_; (try (walk_nrm)))
    | refine GF.ret E ?_
    | (refine GF.defer E rfl rfl (base_kind _) rfl ?_; walk_nrm)
    | (refine GF.ctl E rfl (fun _ => stepG_entry_pure (.bool false) rfl rfl (base_kind _) rfl H.f_inBubble (x_inBubble_n L) (x_inBubble_b L) (x_inBubble_x L) (x_inBubble_f L)) ?_; walk_nrm)
    | (refine GF.call E rfl rfl (base_kind _) rfl H.f_uLoad (nm_uLoad L) rfl ?_; walk_nrmf uLoadFn)
    | (refine GF.call E rfl rfl (base_kind _) rfl H.f_uCas (nm_uCas L) rfl ?_; walk_nrmf uCasFn)
    | (refine GF.leave1 E rfl rfl H.f_uLoad rfl ?_; walk_nrm)
    | (refine GF.leave1 E rfl rfl H.f_uCas rfl ?_; walk_nrm)
    | refine GF.block E ?_
    | refine GF.inBlock E ?_
    | refine GF.loop E ?_)
  refine GF.stop E (fun w hF => ⟨rfl, fun v hv hw => ?_⟩)
  obtain ⟨S, hS⟩ : ∃ S : Int, (v : Int) * KK = S := ⟨_, rfl⟩
  rw [hS] at hw
  refine ⟨_, stepG_load_atomic (v := S) rfl rfl (base_kind _) rfl H.f_loadU64 (x_loadU64_n L) (x_loadU64_b L) (x_loadU64_x L) .u64 (x_loadU64_f L) rfl hw.cellSt, fun h0 => ⟨200, ?_⟩, fun h0 => ⟨200, ?_⟩⟩
  · subst h0
    have z : S = 0 := by rw [← hS]; simp
    subst z
    clear hw hS
    refine (?_ : GF P true R D _ F _ _) w hF
    clear hF w hv
    walk_nrm
    repeat (first
      | refine GF.seq E ?_
      | refine GF.regEnd E ?_
      | refine GF.nop E ?_
      | (refine GF.reg E ?_; simp only [List.size_toArray, List.length_cons, List.length_nil, Nat.reduceAdd, Nat.zero_add, List.range, List.range.loop])
      | (refine GF.cond E (t := true) rfl ?_; simp only [↓reduceIte])
      | (refine GF.cond E (t := false) rfl ?_; simp only [Bool.false_eq_true, ↓reduceIte])
      | (refine GF.oper E rfl rfl (base_kind _) rfl (fun w hF K hK => ?_); go_simp; refine hK _ ⟨?_, ?_⟩; (· intro e he; first | (simp [go_sem] at he; done) | (simp [go_sem, *] at he; done)); clear hK K hF w; (try (walk_nrm)); (try (w_num)))
      | (refine GF.skip E rfl rfl ?_; (try (walk_nrm)))
      | refine GF.ret E ?_
      | (refine GF.defer E rfl rfl (base_kind _) rfl ?_; walk_nrm)
      | (refine GF.ctl E rfl (fun _ => stepG_entry_pure (.bool false) rfl rfl (base_kind _) rfl H.f_inBubble (x_inBubble_n L) (x_inBubble_b L) (x_inBubble_x L) (x_inBubble_f L)) ?_; walk_nrm)
      | (refine GF.call E rfl rfl (base_kind _) rfl H.f_uLoad (nm_uLoad L) rfl ?_; walk_nrmf uLoadFn)
      | (refine GF.call E rfl rfl (base_kind _) rfl H.f_uCas (nm_uCas L) rfl ?_; walk_nrmf uCasFn)
      | (refine GF.leave1 E rfl rfl H.f_uLoad rfl ?_; walk_nrm)
      | (refine GF.leave1 E rfl rfl H.f_uCas rfl ?_; walk_nrm)
      | refine GF.block E ?_
      | refine GF.inBlock E ?_
      | refine GF.loop E ?_)
    refine GF.stop E (fun w hF => ⟨rfl, _, stepG_mark0 .enable (by simp) rfl rfl (base_kind _) rfl H.f_enable (x_enable_n L) (x_enable_b L) (x_enable_x L) (x_enable_f L), 12, ?_⟩)
    refine (?_ : GF P true R D _ F _ _) w hF
    clear hF w
    walk_nrm
    repeat (first
      | refine GF.seq E ?_
      | refine GF.regEnd E ?_
      | refine GF.nop E ?_
      | (refine GF.reg E ?_; simp only [List.size_toArray, List.length_cons, List.length_nil, Nat.reduceAdd, Nat.zero_add, List.range, List.range.loop])
      | (refine GF.cond E (t := true) rfl ?_; simp only [↓reduceIte])
      | (refine GF.cond E (t := false) rfl ?_; simp only [Bool.false_eq_true, ↓reduceIte])
      | (refine GF.oper E rfl rfl (base_kind _) rfl (fun w hF K hK => ?_); go_simp; refine hK _ ⟨?_, ?_⟩; (· intro e he; first | (simp [go_sem] at he; done) | (simp [go_sem, *] at he; done)); clear hK K hF w; (try (walk_nrm)); (try (w_num)))
      | (refine GF.skip E rfl rfl ?_; (try (walk_nrm)))
      | refine GF.ret E ?_
      | (refine GF.defer E rfl rfl (base_kind _) rfl ?_; walk_nrm)
      | (refine GF.ctl E rfl (fun _ => stepG_entry_pure (.bool false) rfl rfl (base_kind _) rfl H.f_inBubble (x_inBubble_n L) (x_inBubble_b L) (x_inBubble_x L) (x_inBubble_f L)) ?_; walk_nrm)
      | (refine GF.call E rfl rfl (base_kind _) rfl H.f_uLoad (nm_uLoad L) rfl ?_; walk_nrmf uLoadFn)
      | (refine GF.call E rfl rfl (base_kind _) rfl H.f_uCas (nm_uCas L) rfl ?_; walk_nrmf uCasFn)
      | (refine GF.leave1 E rfl rfl H.f_uLoad rfl ?_; walk_nrm)
      | (refine GF.leave1 E rfl rfl H.f_uCas rfl ?_; walk_nrm)
      | refine GF.block E ?_
      | refine GF.inBlock E ?_
      | refine GF.loop E ?_)
    refine GF.oper E rfl rfl (base_kind _) rfl (fun w hF K hK => ?_)
    obtain ⟨st, sm, hw⟩ := live w hF
    have hcv := run_convert_to_unsafe (P := P) H.underlying_tWgP H.underlying_tUP H.room_tWg (a := ⟨Wg, 0, none⟩) hw.cellSt
    have hce := fun es => events_convert_to_unsafe (P := P) H.underlying_tWgP H.underlying_tUP H.room_tWg (a := ⟨Wg, 0, none⟩) hw.cellSt es
    go_simp
    refine hK _ ⟨?_, ?_⟩
    · intro e he
      simp [go_sem, hce] at he
    clear hK K hcv hce hw hF w
    refine GF.stop E (fun w hF => ⟨rfl, _, stepG_markAt .acquire (by simp) rfl rfl (base_kind _) rfl H.f_acquire (x_acquire_n L) (x_acquire_b L) (x_acquire_x L) (x_acquire_f L) (by simp [Act.eval, stA]), mT + 60, ?_⟩)
    refine (?_ : GF P true R D _ F _ _) w hF
    clear hF w
    walk_nrm
    repeat (first
      | refine GF.seq E ?_
      | refine GF.regEnd E ?_
      | refine GF.nop E ?_
      | (refine GF.reg E ?_; simp only [List.size_toArray, List.length_cons, List.length_nil, Nat.reduceAdd, Nat.zero_add, List.range, List.range.loop])
      | (refine GF.cond E (t := true) rfl ?_; simp only [↓reduceIte])
      | (refine GF.cond E (t := false) rfl ?_; simp only [Bool.false_eq_true, ↓reduceIte])
      | (refine GF.oper E rfl rfl (base_kind _) rfl (fun w hF K hK => ?_); go_simp; refine hK _ ⟨?_, ?_⟩; (· intro e he; first | (simp [go_sem] at he; done) | (simp [go_sem, *] at he; done)); clear hK K hF w; (try (walk_nrm)); (try (w_num)))
      | (refine GF.skip E rfl rfl ?_; (try (walk_nrm)))
      | refine GF.ret E ?_
      | (refine GF.defer E rfl rfl (base_kind _) rfl ?_; walk_nrm)
      | (refine GF.ctl E rfl (fun _ => stepG_entry_pure (.bool false) rfl rfl (base_kind _) rfl H.f_inBubble (x_inBubble_n L) (x_inBubble_b L) (x_inBubble_x L) (x_inBubble_f L)) ?_; walk_nrm)
      | (refine GF.call E rfl rfl (base_kind _) rfl H.f_uLoad (nm_uLoad L) rfl ?_; walk_nrmf uLoadFn)
      | (refine GF.call E rfl rfl (base_kind _) rfl H.f_uCas (nm_uCas L) rfl ?_; walk_nrmf uCasFn)
      | (refine GF.leave1 E rfl rfl H.f_uLoad rfl ?_; walk_nrm)
      | (refine GF.leave1 E rfl rfl H.f_uCas rfl ?_; walk_nrm)
      | refine GF.block E ?_
      | refine GF.inBlock E ?_
      | refine GF.loop E ?_)
    exact (GF.leave0 E rfl rfl H.f_wait rfl hT).le (by omega)
  · have a1 : S / 4294967296 = (v : Int) := by rw [← hS]; simp only [KK]; omega
    have b1 : bits .and .u64 S 2147483648 = 0 := by rw [← hS]; have := ConcN.st_flag v 0 (by omega) (by omega); simpa [KK] using this
    have b2 : bits .and .u64 S 2147483647 = 0 := by rw [← hS]; have := ConcN.st_waiters v 0 (by omega) (by omega); simpa [KK] using this
    have c1 : IntKind.i32.wrap (v : Int) = (v : Int) := by rw [IntKind.wrap_i32]; omega
    have w1 : IntKind.u64.wrap (S + 1) = S + 1 := by rw [IntKind.wrap_u64, ← hS]; simp only [KK]; omega
    have q3 : decide ((v : Int) < 0) = false := decide_eq_false (by omega)
    have q4 : decide (0 < (v : Int)) = true := decide_eq_true (by omega)
    have q5 : ((v : Int) == 0) = false := by simp; omega
    have q6 : decide ((v : Int) = 0) = false := decide_eq_false (by omega)
    have q7 : (v == 0) = false := by simp; omega
    have q8 : ¬ v = 0 := h0
    have HS := _root_.Go.Lib.hid hS
    clear hw hS h0
    refine (?_ : GF P true R D _ F _ _) w hF
    clear hF w
    walk_nrm
    repeat (first
      | refine GF.seq E ?_
      | refine GF.regEnd E ?_
      | refine GF.nop E ?_
      | (refine GF.reg E ?_; simp only [List.size_toArray, List.length_cons, List.length_nil, Nat.reduceAdd, Nat.zero_add, List.range, List.range.loop])
      | (refine GF.cond E (t := true) rfl ?_; simp only [↓reduceIte])
      | (refine GF.cond E (t := false) rfl ?_; simp only [Bool.false_eq_true, ↓reduceIte])
      | (refine GF.oper E rfl rfl (base_kind _) rfl (fun w hF K hK => ?_); go_simp; refine hK _ ⟨?_, ?_⟩; (· intro e he; first | (simp [go_sem] at he; done) | (simp [go_sem, *] at he; done)); clear hK K hF w; (try (walk_nrm)); (try (w_num)))
      | (refine GF.skip E rfl rfl ?_; (try (walk_nrm)))
      | refine GF.ret E ?_
      | (refine GF.defer E rfl rfl (base_kind _) rfl ?_; walk_nrm)
      | (refine GF.ctl E rfl (fun _ => stepG_entry_pure (.bool false) rfl rfl (base_kind _) rfl H.f_inBubble (x_inBubble_n L) (x_inBubble_b L) (x_inBubble_x L) (x_inBubble_f L)) ?_; walk_nrm)
      | (refine GF.call E rfl rfl (base_kind _) rfl H.f_uLoad (nm_uLoad L) rfl ?_; walk_nrmf uLoadFn)
      | (refine GF.call E rfl rfl (base_kind _) rfl H.f_uCas (nm_uCas L) rfl ?_; walk_nrmf uCasFn)
      | (refine GF.leave1 E rfl rfl H.f_uLoad rfl ?_; walk_nrm)
      | (refine GF.leave1 E rfl rfl H.f_uCas rfl ?_; walk_nrm)
      | refine GF.block E ?_
      | refine GF.inBlock E ?_
      | refine GF.loop E ?_)
    refine GF.stop E (fun w hF => ⟨rfl, fun v' hv' hw => ⟨fun e => ?_, fun e => ?_⟩⟩)
    · subst e
      rw [HS.out] at hw ⊢
      refine ⟨_, (stepG_cas_hit (v := S) (n := S + 1) rfl rfl (base_kind _) rfl H.f_casU64 (x_casU64_n L) (x_casU64_b L) (x_casU64_x L) .u64 (x_casU64_f L) rfl rfl rfl hw.cellSt (hw.thaw 0)).trans (by rfl), 200, ?_⟩
      refine (?_ : GF P true R D _ F _ _) _ (turn w _ _ _ hF hw)
      clear hF hw w HS
      walk_nrm
      repeat (first
        | refine GF.seq E ?_
        | refine GF.regEnd E ?_
        | refine GF.nop E ?_
        | (refine GF.reg E ?_; simp only [List.size_toArray, List.length_cons, List.length_nil, Nat.reduceAdd, Nat.zero_add, List.range, List.range.loop])
        | (refine GF.cond E (t := true) rfl ?_; simp only [↓reduceIte])
        | (refine GF.cond E (t := false) rfl ?_; simp only [Bool.false_eq_true, ↓reduceIte])
        | (refine GF.oper E rfl rfl (base_kind _) rfl (fun w hF K hK => ?_); go_simp; refine hK _ ⟨?_, ?_⟩; (· intro e he; first | (simp [go_sem] at he; done) | (simp [go_sem, *] at he; done)); clear hK K hF w; (try (walk_nrm)); (try (w_num)))
        | (refine GF.skip E rfl rfl ?_; (try (walk_nrm)))
        | refine GF.ret E ?_
        | (refine GF.defer E rfl rfl (base_kind _) rfl ?_; walk_nrm)
        | (refine GF.ctl E rfl (fun _ => stepG_entry_pure (.bool false) rfl rfl (base_kind _) rfl H.f_inBubble (x_inBubble_n L) (x_inBubble_b L) (x_inBubble_x L) (x_inBubble_f L)) ?_; walk_nrm)
        | (refine GF.call E rfl rfl (base_kind _) rfl H.f_uLoad (nm_uLoad L) rfl ?_; walk_nrmf uLoadFn)
        | (refine GF.call E rfl rfl (base_kind _) rfl H.f_uCas (nm_uCas L) rfl ?_; walk_nrmf uCasFn)
        | (refine GF.leave1 E rfl rfl H.f_uLoad rfl ?_; walk_nrm)
        | (refine GF.leave1 E rfl rfl H.f_uCas rfl ?_; walk_nrm)
        | refine GF.block E ?_
        | refine GF.inBlock E ?_
        | refine GF.loop E ?_)
      refine GF.oper E rfl rfl (base_kind _) rfl (fun w hF K hK => ?_)
      obtain ⟨st, sm, hw⟩ := live w hF
      have hcv := run_convert_to_unsafe (P := P) H.underlying_tPU32 H.underlying_tUP H.room_tU32 (a := ⟨Wg, 1, none⟩) hw.cellSm
      have hce := fun es => events_convert_to_unsafe (P := P) H.underlying_tPU32 H.underlying_tUP H.room_tU32 (a := ⟨Wg, 1, none⟩) hw.cellSm es
      go_simp
      refine hK _ ⟨?_, ?_⟩
      · intro e he
        simp [go_sem, hce] at he
      clear hK K hcv hce hw hF w
      refine GF.says E rfl (fun _ => stepG_markAt .write (by simp) rfl rfl (base_kind _) rfl H.f_raceWrite (x_raceWrite_n L) (x_raceWrite_b L) (x_raceWrite_x L) (x_raceWrite_f L) (ad := ⟨Wg, 1, none⟩) (by simp [Act.eval])) said ?_
      walk_nrm
      repeat (first
        | refine GF.seq E ?_
        | refine GF.regEnd E ?_
        | refine GF.nop E ?_
        | (refine GF.reg E ?_; simp only [List.size_toArray, List.length_cons, List.length_nil, Nat.reduceAdd, Nat.zero_add, List.range, List.range.loop])
        | (refine GF.cond E (t := true) rfl ?_; simp only [↓reduceIte])
        | (refine GF.cond E (t := false) rfl ?_; simp only [Bool.false_eq_true, ↓reduceIte])
        | (refine GF.oper E rfl rfl (base_kind _) rfl (fun w hF K hK => ?_); go_simp; refine hK _ ⟨?_, ?_⟩; (· intro e he; first | (simp [go_sem] at he; done) | (simp [go_sem, *] at he; done)); clear hK K hF w; (try (walk_nrm)); (try (w_num)))
        | (refine GF.skip E rfl rfl ?_; (try (walk_nrm)))
        | refine GF.ret E ?_
        | (refine GF.defer E rfl rfl (base_kind _) rfl ?_; walk_nrm)
        | (refine GF.ctl E rfl (fun _ => stepG_entry_pure (.bool false) rfl rfl (base_kind _) rfl H.f_inBubble (x_inBubble_n L) (x_inBubble_b L) (x_inBubble_x L) (x_inBubble_f L)) ?_; walk_nrm)
        | (refine GF.call E rfl rfl (base_kind _) rfl H.f_uLoad (nm_uLoad L) rfl ?_; walk_nrmf uLoadFn)
        | (refine GF.call E rfl rfl (base_kind _) rfl H.f_uCas (nm_uCas L) rfl ?_; walk_nrmf uCasFn)
        | (refine GF.leave1 E rfl rfl H.f_uLoad rfl ?_; walk_nrm)
        | (refine GF.leave1 E rfl rfl H.f_uCas rfl ?_; walk_nrm)
        | refine GF.block E ?_
        | refine GF.inBlock E ?_
        | refine GF.loop E ?_)
      refine GF.stop E (fun w hF => ⟨rfl, rfl, fun ⟨st, hw⟩ => stepG_semacquire_wait rfl rfl rfl H.f_semacquire (x_semacquire_n L) (x_semacquire_b L) (x_semacquire_x L) (x_semacquire_f L) (by simp [Act.eval, smA]) hw.cellSm, fun hf => ?_⟩)
      refine ⟨_, (stepG_semacquire (n := 1) rfl rfl (base_kind _) rfl H.f_semacquire (x_semacquire_n L) (x_semacquire_b L) (x_semacquire_x L) (x_semacquire_f L) (by simp [Act.eval, smA]) hf.cellSm (by decide) (hf.thaw 1)).trans (by rfl), 100, ?_⟩
      refine (?_ : GF P true R D _ F _ _) _ (turn1 w _ _ _ hF hf)
      clear hF hf w
      walk_nrm
      repeat (first
        | refine GF.seq E ?_
        | refine GF.regEnd E ?_
        | refine GF.nop E ?_
        | (refine GF.reg E ?_; simp only [List.size_toArray, List.length_cons, List.length_nil, Nat.reduceAdd, Nat.zero_add, List.range, List.range.loop])
        | (refine GF.cond E (t := true) rfl ?_; simp only [↓reduceIte])
        | (refine GF.cond E (t := false) rfl ?_; simp only [Bool.false_eq_true, ↓reduceIte])
        | (refine GF.oper E rfl rfl (base_kind _) rfl (fun w hF K hK => ?_); go_simp; refine hK _ ⟨?_, ?_⟩; (· intro e he; first | (simp [go_sem] at he; done) | (simp [go_sem, *] at he; done)); clear hK K hF w; (try (walk_nrm)); (try (w_num)))
        | (refine GF.skip E rfl rfl ?_; (try (walk_nrm)))
        | refine GF.ret E ?_
        | (refine GF.defer E rfl rfl (base_kind _) rfl ?_; walk_nrm)
        | (refine GF.ctl E rfl (fun _ => stepG_entry_pure (.bool false) rfl rfl (base_kind _) rfl H.f_inBubble (x_inBubble_n L) (x_inBubble_b L) (x_inBubble_x L) (x_inBubble_f L)) ?_; walk_nrm)
        | (refine GF.call E rfl rfl (base_kind _) rfl H.f_uLoad (nm_uLoad L) rfl ?_; walk_nrmf uLoadFn)
        | (refine GF.call E rfl rfl (base_kind _) rfl H.f_uCas (nm_uCas L) rfl ?_; walk_nrmf uCasFn)
        | (refine GF.leave1 E rfl rfl H.f_uLoad rfl ?_; walk_nrm)
        | (refine GF.leave1 E rfl rfl H.f_uCas rfl ?_; walk_nrm)
        | refine GF.block E ?_
        | refine GF.inBlock E ?_
        | refine GF.loop E ?_)
      refine GF.stop E (fun w hF => ⟨rfl, fun hw => ⟨_, stepG_load_atomic (v := 0) rfl rfl (base_kind _) rfl H.f_loadU64 (x_loadU64_n L) (x_loadU64_b L) (x_loadU64_x L) .u64 (x_loadU64_f L) rfl hw.cellSt, 100, ?_⟩⟩)
      clear hw
      refine (?_ : GF P true R D _ F _ _) w hF
      clear hF w
      walk_nrm
      repeat (first
        | refine GF.seq E ?_
        | refine GF.regEnd E ?_
        | refine GF.nop E ?_
        | (refine GF.reg E ?_; simp only [List.size_toArray, List.length_cons, List.length_nil, Nat.zero_add, List.range, List.range.loop])
        | (refine GF.cond E (t := true) rfl ?_; simp only [↓reduceIte])
        | (refine GF.cond E (t := false) rfl ?_; simp only [Bool.false_eq_true, ↓reduceIte])
        | (refine GF.oper E rfl rfl (base_kind _) rfl (fun w hF K hK => ?_); go_simp; refine hK _ ⟨?_, ?_⟩; (· intro e he; first | (simp [go_sem] at he; done) | (simp [go_sem, *] at he; done)); clear hK K hF w; (try (walk_nrm)); (try (w_num)))
        | (refine GF.skip E rfl rfl ?_; (try (walk_nrm)))
        | refine GF.ret E ?_
        | (refine GF.defer E rfl rfl (base_kind _) rfl ?_; walk_nrm)
        | (refine GF.ctl E rfl (fun _ => stepG_entry_pure (.bool false) rfl rfl (base_kind _) rfl H.f_inBubble (x_inBubble_n L) (x_inBubble_b L) (x_inBubble_x L) (x_inBubble_f L)) ?_; walk_nrm)
        | (refine GF.call E rfl rfl (base_kind _) rfl H.f_uLoad (nm_uLoad L) rfl ?_; walk_nrmf uLoadFn)
        | (refine GF.call E rfl rfl (base_kind _) rfl H.f_uCas (nm_uCas L) rfl ?_; walk_nrmf uCasFn)
        | (refine GF.leave1 E rfl rfl H.f_uLoad rfl ?_; walk_nrm)
        | (refine GF.leave1 E rfl rfl H.f_uCas rfl ?_; walk_nrm)
        | refine GF.block E ?_
        | refine GF.inBlock E ?_
        | refine GF.loop E ?_)
      refine GF.stop E (fun w hF => ⟨rfl, _, stepG_mark0 .enable (by simp) rfl rfl (base_kind _) rfl H.f_enable (x_enable_n L) (x_enable_b L) (x_enable_x L) (x_enable_f L), 12, ?_⟩)
      refine (?_ : GF P true R D _ F _ _) w hF
      clear hF w
      walk_nrm
      repeat (first
        | refine GF.seq E ?_
        | refine GF.regEnd E ?_
        | refine GF.nop E ?_
        | (refine GF.reg E ?_; simp only [List.size_toArray, List.length_cons, List.length_nil, Nat.reduceAdd, Nat.zero_add, List.range, List.range.loop])
        | (refine GF.cond E (t := true) rfl ?_; simp only [↓reduceIte])
        | (refine GF.cond E (t := false) rfl ?_; simp only [Bool.false_eq_true, ↓reduceIte])
        | (refine GF.oper E rfl rfl (base_kind _) rfl (fun w hF K hK => ?_); go_simp; refine hK _ ⟨?_, ?_⟩; (· intro e he; first | (simp [go_sem] at he; done) | (simp [go_sem, *] at he; done)); clear hK K hF w; (try (walk_nrm)); (try (w_num)))
        | (refine GF.skip E rfl rfl ?_; (try (walk_nrm)))
        | refine GF.ret E ?_
        | (refine GF.defer E rfl rfl (base_kind _) rfl ?_; walk_nrm)
        | (refine GF.ctl E rfl (fun _ => stepG_entry_pure (.bool false) rfl rfl (base_kind _) rfl H.f_inBubble (x_inBubble_n L) (x_inBubble_b L) (x_inBubble_x L) (x_inBubble_f L)) ?_; walk_nrm)
        | (refine GF.call E rfl rfl (base_kind _) rfl H.f_uLoad (nm_uLoad L) rfl ?_; walk_nrmf uLoadFn)
        | (refine GF.call E rfl rfl (base_kind _) rfl H.f_uCas (nm_uCas L) rfl ?_; walk_nrmf uCasFn)
        | (refine GF.leave1 E rfl rfl H.f_uLoad rfl ?_; walk_nrm)
        | (refine GF.leave1 E rfl rfl H.f_uCas rfl ?_; walk_nrm)
        | refine GF.block E ?_
        | refine GF.inBlock E ?_
        | refine GF.loop E ?_)
      refine GF.oper E rfl rfl (base_kind _) rfl (fun w hF K hK => ?_)
      obtain ⟨st, sm, hw⟩ := live w hF
      have hcv := run_convert_to_unsafe (P := P) H.underlying_tWgP H.underlying_tUP H.room_tWg (a := ⟨Wg, 0, none⟩) hw.cellSt
      have hce := fun es => events_convert_to_unsafe (P := P) H.underlying_tWgP H.underlying_tUP H.room_tWg (a := ⟨Wg, 0, none⟩) hw.cellSt es
      go_simp
      refine hK _ ⟨?_, ?_⟩
      · intro e he
        simp [go_sem, hce] at he
      clear hK K hcv hce hw hF w
      refine GF.stop E (fun w hF => ⟨rfl, _, stepG_markAt .acquire (by simp) rfl rfl (base_kind _) rfl H.f_acquire (x_acquire_n L) (x_acquire_b L) (x_acquire_x L) (x_acquire_f L) (by simp [Act.eval, stA]), mT + 60, ?_⟩)
      refine (?_ : GF P true R D _ F _ _) w hF
      clear hF w
      walk_nrm
      repeat (first
        | refine GF.seq E ?_
        | refine GF.regEnd E ?_
        | refine GF.nop E ?_
        | (refine GF.reg E ?_; simp only [List.size_toArray, List.length_cons, List.length_nil, Nat.zero_add, List.range, List.range.loop])
        | (refine GF.cond E (t := true) rfl ?_; simp only [↓reduceIte])
        | (refine GF.cond E (t := false) rfl ?_; simp only [Bool.false_eq_true, ↓reduceIte])
        | (refine GF.oper E rfl rfl (base_kind _) rfl (fun w hF K hK => ?_); go_simp; refine hK _ ⟨?_, ?_⟩; (· intro e he; first | (simp [go_sem] at he; done) | (simp [go_sem, *] at he; done)); clear hK K hF w; (try (walk_nrm)); (try (w_num)))
        | (refine GF.skip E rfl rfl ?_; (try (walk_nrm)))
        | refine GF.ret E ?_
        | (refine GF.defer E rfl rfl (base_kind _) rfl ?_; walk_nrm)
        | (refine GF.ctl E rfl (fun _ => stepG_entry_pure (.bool false) rfl rfl (base_kind _) rfl H.f_inBubble (x_inBubble_n L) (x_inBubble_b L) (x_inBubble_x L) (x_inBubble_f L)) ?_; walk_nrm)
        | (refine GF.call E rfl rfl (base_kind _) rfl H.f_uLoad (nm_uLoad L) rfl ?_; walk_nrmf uLoadFn)
        | (refine GF.call E rfl rfl (base_kind _) rfl H.f_uCas (nm_uCas L) rfl ?_; walk_nrmf uCasFn)
        | (refine GF.leave1 E rfl rfl H.f_uLoad rfl ?_; walk_nrm)
        | (refine GF.leave1 E rfl rfl H.f_uCas rfl ?_; walk_nrm)
        | refine GF.block E ?_
        | refine GF.inBlock E ?_
        | refine GF.loop E ?_)
      exact (GF.leave0 E rfl rfl H.f_wait rfl hT).le (by omega)
    · refine ⟨_, stepG_cas_miss (v := (v' : Int) * KK) (old := S) (n := S + 1) rfl rfl (base_kind _) rfl H.f_casU64 (x_casU64_n L) (x_casU64_b L) (x_casU64_x L) .u64 (x_casU64_f L) rfl rfl rfl hw.cellSt (hw.thaw 0) (by have := HS.out; simp only [KK] at this ⊢; omega), 100, ?_⟩
      clear hw
      refine (?_ : GF P true R D _ F _ _) w hF
      clear hF w HS e hv'
      walk_nrm
      repeat (first
        | refine GF.seq E ?_
        | refine GF.regEnd E ?_
        | refine GF.nop E ?_
        | (refine GF.reg E ?_; simp only [List.size_toArray, List.length_cons, List.length_nil, Nat.reduceAdd, Nat.zero_add, List.range, List.range.loop])
        | (refine GF.cond E (t := true) rfl ?_; simp only [↓reduceIte])
        | (refine GF.cond E (t := false) rfl ?_; simp only [Bool.false_eq_true, ↓reduceIte])
        | (refine GF.oper E rfl rfl (base_kind _) rfl (fun w hF K hK => ?_); go_simp; refine hK _ ⟨?_, ?_⟩; (· intro e he; first | (simp [go_sem] at he; done) | (simp [go_sem, *] at he; done)); clear hK K hF w; (try (walk_nrm)); (try (w_num)))
        | (refine GF.skip E rfl rfl ?_; (try (walk_nrm)))
        | refine GF.ret E ?_
        | (refine GF.defer E rfl rfl (base_kind _) rfl ?_; walk_nrm)
        | (refine GF.ctl E rfl (fun _ => stepG_entry_pure (.bool false) rfl rfl (base_kind _) rfl H.f_inBubble (x_inBubble_n L) (x_inBubble_b L) (x_inBubble_x L) (x_inBubble_f L)) ?_; walk_nrm)
        | (refine GF.call E rfl rfl (base_kind _) rfl H.f_uLoad (nm_uLoad L) rfl ?_; walk_nrmf uLoadFn)
        | (refine GF.call E rfl rfl (base_kind _) rfl H.f_uCas (nm_uCas L) rfl ?_; walk_nrmf uCasFn)
        | (refine GF.leave1 E rfl rfl H.f_uLoad rfl ?_; walk_nrm)
        | (refine GF.leave1 E rfl rfl H.f_uCas rfl ?_; walk_nrm)
        | refine GF.block E ?_
        | refine GF.inBlock E ?_
        | refine GF.loop E ?_)
      refine GF.inLoop E ?_
      exact GF.stop E (fun w hF => ⟨_, rfl, by simp, by simp, hF⟩)

end Go.Proofs.Ythoaldiadgeonaa.Cr

namespace Go.Proofs.Ythoaldiadgeonaa.Cr
open Go.Conc Go.ConcR Go.RowKit Go.Conc.Lib Go.ConcR.Gen
open Go.ConcN (WgLive Has)
open Go.Joins (cell_of_block unfrozen_of_block block_setCell)

/-- What the starter suffers: other blocks come, and of those that are there the group's and the channel's alone may turn. -/
structure R0 (Wg Ch : Nat) (w w₁ : World) : Prop where
  tape : w₁.tape = w.tape
  os : w₁.os = w.os
  output : w₁.output = w.output
  size : w.heap.size ≤ w₁.heap.size
  keep : ∀ b, b < w.heap.size → b ≠ Wg → b ≠ Ch → w₁.heap[b]? = w.heap[b]?
  live : WgLive wgl.tWg Wg w → WgLive wgl.tWg Wg w₁

/-- What the starter may do on its way: write what is its own, read that and what stands. -/
structure D0 (Wg : Nat) (rds own : Nat → Prop) (w w' : World) (es : Array Event) : Prop where
  tape : w'.tape = w.tape
  os : w'.os = w.os
  output : w'.output = w.output
  size : w'.heap.size = w.heap.size
  keep : ∀ b, ¬ own b → w'.heap[b]? = w.heap[b]?
  plain : ∀ b, PlainAt w b → PlainAt w' b
  evs : ∀ e ∈ es, e = ⟨.mark (.read ⟨Wg, 1, none⟩), false, true⟩ ∨ e = ⟨.mark (.write ⟨Wg, 1, none⟩), false, true⟩ ∨ ∃ a b, e = ⟨.cell a, b, false⟩ ∧ (own a.block ∨ (rds a.block ∧ b = false))

theorem R0.refl {Wg Ch : Nat} (w : World) : R0 Wg Ch w w := ⟨rfl, rfl, rfl, Nat.le_refl _, fun _ _ _ _ => rfl, id⟩
theorem D0.idle {Wg : Nat} {rds own : Nat → Prop} (w : World) : D0 Wg rds own w w #[] := ⟨rfl, rfl, rfl, rfl, fun _ _ => rfl, fun _ h => h, fun e he => by simp at he⟩
theorem D0.says {Wg : Nat} {rds own : Nat → Prop} (w : World) {e : Event} (he : e = ⟨.mark (.read ⟨Wg, 1, none⟩), false, true⟩ ∨ e = ⟨.mark (.write ⟨Wg, 1, none⟩), false, true⟩) : D0 Wg rds own w w #[e] :=
  ⟨rfl, rfl, rfl, rfl, fun _ _ => rfl, fun _ h => h, fun e' h => by simp at h; subst h; rcases he with h | h <;> simp [h]⟩
theorem D0.read {Wg : Nat} {rds own : Nat → Prop} {w : World} {ads : List Addr} (h : ∀ a ∈ ads, own a.block ∨ rds a.block) : D0 Wg rds own w w (ads.map fun a => (⟨.cell a, false, false⟩ : Event)).toArray :=
  ⟨rfl, rfl, rfl, rfl, fun _ _ => rfl, fun _ h => h, fun e he => by
    simp only [List.mem_toArray, List.mem_map] at he
    obtain ⟨a, ha, rfl⟩ := he
    exact .inr (.inr ⟨a, false, rfl, (h a ha).imp id fun x => ⟨x, rfl⟩⟩)⟩

/-- Where the starter's places lie. -/
structure StP (Wg Ch cb A : Nat) : Prop where
  cb : cb ≠ Wg ∧ cb ≠ Ch
  A : A ≠ Wg ∧ A ≠ Ch

/-- What it knows: the channel's variable, the asks, and that all of them stand. -/
structure StF (Wg Ch cb A off n : Nat) (ask : Nat → Nat × Nat) (w : World) : Prop where
  ch : w.cell? ⟨cb, 0, none⟩ = some (.chan (some Ch))
  a0 : ∀ i, i < n → w.cell? ⟨A, off + i * 2, none⟩ = some (.int .i64 (ask i).1)
  a1 : ∀ i, i < n → w.cell? ⟨A, off + i * 2 + 1, none⟩ = some (.int .i64 (ask i).2)
  live : WgLive wgl.tWg Wg w
  wg : Wg < w.heap.size
  sch : Ch < w.heap.size
  scb : cb < w.heap.size
  sA : A < w.heap.size

def At (b : Nat) (o : Obj) (w : World) : Prop := w.heap[b]? = some o
theorem At.lt {b : Nat} {o : Obj} {w : World} (h : At b o w) : b < w.heap.size := by
  unfold At at h
  exact (Array.getElem?_eq_some_iff.1 h).1
theorem At.rely {Wg Ch b : Nat} {o : Obj} {w w₁ : World} (h : At b o w) (r : R0 Wg Ch w w₁) (h1 : b ≠ Wg) (h2 : b ≠ Ch) : At b o w₁ := (r.keep b h.lt h1 h2).trans h

section
variable {Wg Ch cb A off n : Nat} {ask : Nat → Nat × Nat} {w w₁ : World}
theorem StF.rely (p : StP Wg Ch cb A) (h : StF Wg Ch cb A off n ask w) (r : R0 Wg Ch w w₁) : StF Wg Ch cb A off n ask w₁ := by
  have e1 := r.keep cb h.scb p.cb.1 p.cb.2
  have e2 := r.keep A h.sA p.A.1 p.A.2
  exact ⟨(cell_eq e1 0).trans h.ch, fun i hi => (cell_eq e2 _).trans (h.a0 i hi), fun i hi => (cell_eq e2 _).trans (h.a1 i hi), r.live h.live, Nat.lt_of_lt_of_le h.wg r.size, Nat.lt_of_lt_of_le h.sch r.size, Nat.lt_of_lt_of_le h.scb r.size, Nat.lt_of_lt_of_le h.sA r.size⟩

/-- All but the blocks 'own' stands as it is. -/
structure Mine (own : Nat → Prop) (w w' : World) : Prop where
  tape : w'.tape = w.tape
  os : w'.os = w.os
  output : w'.output = w.output
  size : w'.heap.size = w.heap.size
  keep : ∀ b, ¬ own b → w'.heap[b]? = w.heap[b]?
  plain : ∀ b, PlainAt w b → PlainAt w' b

theorem StF.mine {own : Nat → Prop} (h : StF Wg Ch cb A off n ask w) (r : Mine own w w₁) (h1 : ¬ own cb) (h2 : ¬ own A) (h3 : ¬ own Wg) : StF Wg Ch cb A off n ask w₁ := by
  have e1 := r.keep cb h1
  have e2 := r.keep A h2
  have e3 := r.keep Wg h3
  exact ⟨(cell_eq e1 0).trans h.ch, fun i hi => (cell_eq e2 _).trans (h.a0 i hi), fun i hi => (cell_eq e2 _).trans (h.a1 i hi), live_same e3 h.live, by rw [r.size]; exact h.wg, by rw [r.size]; exact h.sch, by rw [r.size]; exact h.scb, by rw [r.size]; exact h.sA⟩

theorem StF.alloc {o : Obj} (h : StF Wg Ch cb A off n ask w) : StF Wg Ch cb A off n ask (w.alloc o) := by
  have e1 : (w.alloc o).heap[cb]? = w.heap[cb]? := alloc_at h.scb
  have e2 : (w.alloc o).heap[A]? = w.heap[A]? := alloc_at h.sA
  have e3 : (w.alloc o).heap[Wg]? = w.heap[Wg]? := alloc_at h.wg
  have es : (w.alloc o).heap.size = w.heap.size + 1 := by show (w.heap.push o).size = _; simp
  exact ⟨(cell_eq e1 0).trans h.ch, fun i hi => (cell_eq e2 _).trans (h.a0 i hi), fun i hi => (cell_eq e2 _).trans (h.a1 i hi), live_same e3 h.live, by have := h.wg; omega, by have := h.sch; omega, by have := h.scb; omega, by have := h.sA; omega⟩
end

noncomputable def osBody : Code := Try.f27.body.getD .skip
noncomputable def osLoop : Code := match osBody with | .seq _ (.seq _ (.seq _ (.seq (.seq _ (.block _ (.loop c))) _))) => c | _ => .skip
noncomputable def osEnd : Code := match osBody with | .seq _ (.seq _ (.seq _ (.seq (.seq _ (.block _ (.loop _))) c))) => c | _ => .skip
theorem osLoud : (Try.prog.funcs[(base 27).fn]?).any (·.norace) = false := by kernel_rfl

/-- The stop ahead of a new block, on the main goroutine. -/
def StNew (o : Obj) (Next : Nat → Goroutine → World → Prop) (g : Goroutine) (w : World) : Prop :=
  g.status = .running ∧ ∃ g', stepG Try.prog true g w = .go g' (w.alloc o) #[] ∧ Next w.heap.size g' (w.alloc o)

theorem not2 {p q x : Nat} (h : p ≠ x) (h' : q ≠ x) : ¬ (x = p ∨ x = q) := fun e => e.elim (fun e => h e.symm) (fun e => h' e.symm)
theorem mine_setCell (own : Nat → Prop) (w : World) (a : Addr) (v : Value) (h : own a.block) : Mine own w (w.setCell a v) :=
  ⟨by simp [World.setCell], by simp [World.setCell], by simp [World.setCell], by simp [World.setCell], fun b hb => Below.heap_setCell w a v b (fun e => hb (e ▸ h)), fun _ h => h.setCell a v⟩
theorem Mine.trans {own : Nat → Prop} {a b c : World} (h : Mine own a b) (h' : Mine own b c) : Mine own a c :=
  ⟨h'.tape.trans h.tape, h'.os.trans h.os, h'.output.trans h.output, h'.size.trans h.size, fun x hx => (h'.keep x hx).trans (h.keep x hx), fun x hx => h'.plain x (h.plain x hx)⟩
theorem D0.wrote {Wg : Nat} {rds own : Nat → Prop} {w w' : World} {ads : List Addr} (m : Mine own w w') (h : ∀ a ∈ ads, own a.block) : D0 Wg rds own w w' (ads.map fun a => (⟨.cell a, true, false⟩ : Event)).toArray :=
  ⟨m.tape, m.os, m.output, m.size, m.keep, m.plain, fun e he => by
    simp only [List.mem_toArray, List.mem_map] at he
    obtain ⟨a, ha, rfl⟩ := he
    exact .inr (.inr ⟨a, true, rfl, .inl (h a ha)⟩)⟩

/-- An operation that turns the world. -/
theorem GF.operW {P : Program} {main : Bool} {R : World → World → Prop} {D : World → World → Array Event → Prop} {Stop : Goroutine → World → Prop} {F F' : World → Prop} {b : Frame} {a : Act} {k : List Item} {cs : List Frame}
    (E : Hold R D F) {n : Nat} {ops : Array Oper} {i : Nat} {rest : List Nat} {o : Oper} (ho : ops[i]? = some o) (hw : Region.wanted o (yielded ops a.tmps) = true) (hk : b.kind ≠ .early) (loud : (P.funcs[b.fn]?).any (·.norace) = false)
    (h : ∀ w, F w → ∀ K : Act → World → Prop, (∀ a' w' es, ((execOp a.eval o).events P w #[] = es ∧ (∀ e ∈ es, ∀ f, e.loc ≠ .mark (.extern f)) ∧ D w w' es ∧ F' w' ∧ GF P main R D Stop F' n (G (b.at a' (.inRegion ops rest :: k)) cs)) → K a' w') → uponK o a K ((execOp a.eval o).run P w)) :
    GF P main R D Stop F (n + 1) (G (b.at a (.inRegion ops (i :: rest) :: k)) cs) := fun w hF => Goes.step rfl fun w₁ h₁ => by
  have hF₁ := E.rel w w₁ hF h₁
  refine goes_oper_k ho hw hk fun K hK => h w₁ hF₁ K fun a' w' es ⟨he, hm, hd, hf, hg⟩ => hK a' w' ⟨?_, hg w' hf⟩
  have hl : listed P b.fn a o w₁ = es := by unfold listed; rw [he]; exact seen_eq loud hm
  rw [hl]
  exact hd

/-- The facts, with the two variables of a round. -/
structure StV (Wg Ch cb A off n : Nat) (ask : Nat → Nat × Nat) (p q : Nat) (vp vx vn : Int) (w : World) : Prop extends StF Wg Ch cb A off n ask w where
  p : At p (.cells #[.int .i64 vp] 3) w
  q : At q (.cells #[.int .i64 vx, .int .i64 vn] 43) w
structure StU (Wg Ch cb A off n : Nat) (ask : Nat → Nat × Nat) (p : Nat) (vp : Int) (w : World) : Prop extends StF Wg Ch cb A off n ask w where
  p : At p (.cells #[.int .i64 vp] 3) w
/-- A block of its own lies aside. -/
structure New (Wg Ch cb A p : Nat) : Prop where
  wg : p ≠ Wg
  ch : p ≠ Ch
  cb : p ≠ cb
  A : p ≠ A

section
variable {Wg Ch cb A off n : Nat} {ask : Nat → Nat × Nat} {w w₁ : World} {p q : Nat} {rds : Nat → Prop} {vp vx vn : Int}
theorem st_hold (s : StP Wg Ch cb A) (own : Nat → Prop) : Hold (R0 Wg Ch) (D0 Wg rds own) (StF Wg Ch cb A off n ask) := ⟨fun _ _ h r => h.rely s r, D0.idle⟩
theorem st_holdU (s : StP Wg Ch cb A) (hp : New Wg Ch cb A p) (own : Nat → Prop) : Hold (R0 Wg Ch) (D0 Wg rds own) (StU Wg Ch cb A off n ask p vp) :=
  ⟨fun _ _ h r => ⟨h.toStF.rely s r, h.p.rely r hp.wg hp.ch⟩, D0.idle⟩
theorem st_holdV (s : StP Wg Ch cb A) (hp : New Wg Ch cb A p) (hq : New Wg Ch cb A q) (own : Nat → Prop) : Hold (R0 Wg Ch) (D0 Wg rds own) (StV Wg Ch cb A off n ask p q vp vx vn) :=
  ⟨fun _ _ h r => ⟨h.toStF.rely s r, h.p.rely r hp.wg hp.ch, h.q.rely r hq.wg hq.ch⟩, D0.idle⟩
theorem StF.new (h : StF Wg Ch cb A off n ask w) : New Wg Ch cb A w.heap.size := ⟨by have := h.wg; omega, by have := h.sch; omega, by have := h.scb; omega, by have := h.sA; omega⟩
end

theorem StV.turn {Wg Ch cb A off n : Nat} {ask : Nat → Nat × Nat} {p q : Nat} {vp vx vn : Int} {w : World} {st sm st' : Int} (h : StV Wg Ch cb A off n ask p q vp vx vn w) (hp : New Wg Ch cb A p) (hq : New Wg Ch cb A q) (s : StP Wg Ch cb A) (hw : WgAt wgl.tWg Wg w st sm) :
    StV Wg Ch cb A off n ask p q vp vx vn (w.setCell (stA Wg) (.int .u64 st')) := by
  have hm := mine_setCell (· = Wg) w (stA Wg) (.int .u64 st') rfl
  have e1 := hm.keep cb s.cb.1
  have e2 := hm.keep A s.A.1
  have e3 := hm.keep p hp.wg
  have e4 := hm.keep q hq.wg
  exact ⟨⟨(cell_eq e1 0).trans h.ch, fun i hi => (cell_eq e2 _).trans (h.a0 i hi), fun i hi => (cell_eq e2 _).trans (h.a1 i hi), ⟨_, _, hw.setSt st'⟩, by rw [hm.size]; exact h.wg, by rw [hm.size]; exact h.sch, by rw [hm.size]; exact h.scb, by rw [hm.size]; exact h.sA⟩, e3.trans h.p, e4.trans h.q⟩

/-- The call of Add(1), whole. -/
theorem GF.add1 {R : World → World → Prop} {D : World → World → Array Event → Prop} {F : World → Prop} (E : Hold R D F) {K : Goroutine → World → Prop} {Wg mT : Nat} (live : ∀ w, F w → ∃ st sm, WgAt wgl.tWg Wg w st sm) (said : ∀ w, F w → D w w #[⟨.mark (.read ⟨Wg, 1, none⟩), false, true⟩])
    (turn : ∀ w st sm st', F w → WgAt wgl.tWg Wg w st sm → F (w.setCell (stA Wg) (.int .u64 st'))) {b : Frame} {a : Act} {ops : Array Oper} {i : Nat} {rest : List Nat} {o : Oper} {args : Array Operand} {ats : Array TypeId} {k : List Item} {cs : List Frame}
    (ho : ops[i]? = some o) (hw : Region.wanted o (yielded ops a.tmps) = true) (hk : b.kind ≠ .early) (hop : o.op = .call { callee := .value (.func wgl.add), args, argTypes := ats }) (hargs : args.map a.eval = #[.pointer (some ⟨Wg, 0, none⟩), .int .i64 1])
    (hT : GF Try.prog true R D K F mT (G (b.at (a.put ((ops[i]?).bind (·.dst)) (.tuple #[])) (.inRegion ops rest :: k)) cs)) :
    GF Try.prog true R D (StAdd Try.prog R D wgl.tWg Wg K) F (12 + 1) (G (b.at a (.inRegion ops (i :: rest) :: k)) cs) := by
  refine GF.call E ho hw hk hop wgLib.f_add (nm_add wgl) rfl ?_
  rw [hargs]
  have e : (addFn wgl).ntmps - (#[.pointer (some ⟨Wg, 0, none⟩), .int .i64 1] : Array Value).size = 115 := rfl
  rw [e]
  exact addPos wgLib E live said turn hT

/-- The go statement, as a stop. -/
def StGo (Wg Ch cb j x n : Nat) (p q : Nat) (Next : Goroutine → World → Prop) (g : Goroutine) (w : World) : Prop :=
  g.status = .running ∧ WkF Ch cb p q j x n w ∧ ∃ g', stepG Try.prog true g w = .spawn g' (born Try.prog (wkCall Wg cb p q)) w #[] ∧ Next g' w

/-- The slots of the starter at the head of its loop. -/
def osT (Wg cb _A _off n : Nat) (cap : Option Addr × Nat) (i : Nat) (T : Array Value) : Prop :=
  ∃ v1 v5 v6 v7 v8 v9 v10 v11 v15 v16 v17 v18 v19 v20 v21 v22 v23 v24 v25 v26 v27 v28 v29 v30 v31 v32 v33 v34 v35 v36 v37 : Value,
    T = #[.slice cap.1 n cap.2, v1, .slice none 0 0, .pointer (some ⟨cb, 0, none⟩), .pointer (some ⟨Wg, 0, none⟩), v5, v6, v7, v8, v9, v10, v11, .slice cap.1 n cap.2, .int .i64 n, .int .i64 i, v15, v16, v17, v18, v19, v20, v21, v22, v23, v24, v25, v26, v27, v28, v29, v30, v31, v32, v33, v34, v35, v36, v37]
/-- At the head of the loop. -/
noncomputable def osHead (T : Array Value) (cs : List Frame) : Goroutine := G ((base 27).at ⟨T, []⟩ [.code osLoop, .inLoop osLoop, .inBlock 0, .code osEnd]) cs

/-- A round, as a script. -/
def Round (Wg Ch cb : Nat) (rds : Nat → Prop) (j x n : Nat) (Next : Nat → Nat → Goroutine → World → Prop) : Goroutine → World → Prop :=
  StNew (.cells #[.int .i64 0] 3) fun p g w => Goes Try.prog true (R0 Wg Ch) (D0 Wg rds (· = p)) (StNew (.cells #[.int .i64 0, .int .i64 0] 43) fun q g w =>
    Goes Try.prog true (R0 Wg Ch) (D0 Wg rds fun b => b = p ∨ b = q) (StAdd Try.prog (R0 Wg Ch) (D0 Wg rds fun b => b = p ∨ b = q) wgl.tWg Wg (StGo Wg Ch cb j x n p q (Next p q))) 60 g w) 1 g w

set_option maxRecDepth 100000 in
set_option maxHeartbeats 8000000 in
/-- One round of the starter's loop. -/
theorem st_round {Wg Ch cb A off n i : Nat} {cap : Option Addr × Nat} {ask : Nat → Nat × Nat} {rds : Nat → Prop} {Stop : Nat → Nat → Goroutine → World → Prop} {M : Nat} (s : StP Wg Ch cb A) (rA : rds A) (hn : n < 100000) (hi : i < n) (hb : cap.1 = some ⟨A, off, none⟩) {T : Array Value} (hT : osT Wg cb A off n cap i T) {cs : List Frame}
    (hN : ∀ p q T', osT Wg cb A off n cap (i + 1) T' → GF Try.prog true (R0 Wg Ch) (D0 Wg rds fun _ => False) (Stop p q) (StF Wg Ch cb A off n ask) M (osHead T' cs)) :
    GF Try.prog true (R0 Wg Ch) (D0 Wg rds fun _ => False) (Round Wg Ch cb rds i (ask i).1 (ask i).2 fun p q g w => Goes Try.prog true (R0 Wg Ch) (D0 Wg rds fun _ => False) (Stop p q) (M + 20) g w) (StF Wg Ch cb A off n ask) 30 (osHead T cs) := by
  obtain ⟨v1, v5, v6, v7, v8, v9, v10, v11, v15, v16, v17, v18, v19, v20, v21, v22, v23, v24, v25, v26, v27, v28, v29, v30, v31, v32, v33, v34, v35, v36, v37, rfl⟩ := hT
  obtain ⟨cb0, cp⟩ := cap
  dsimp only at hb
  subst hb
  dsimp only
  have q1 : decide ((i : Int) < (n : Int)) = true := by simp; omega
  have q2 : 0 ≤ (i : Int) ∧ (i : Int) < (n : Int) := by omega
  have q3 : (i : Int).toNat = i := by omega
  have E : Hold (R0 Wg Ch) (D0 Wg rds fun _ => False) (StF Wg Ch cb A off n ask) := st_hold s _
  have HN := _root_.Go.Lib.hid hN
  clear hN
  simp only [osHead, osLoop, osEnd, osBody, Try.f27, Option.getD_some] at HN ⊢
  repeat (first
    | refine GF.seq E ?_
    | refine GF.regEnd E ?_
    | refine GF.nop E ?_
    | (refine GF.reg E ?_; simp only [List.size_toArray, List.length_cons, List.length_nil, Nat.reduceAdd, Nat.zero_add, List.range, List.range.loop])
    | (refine GF.cond E (t := true) rfl ?_; simp only [↓reduceIte])
    | (refine GF.oper E rfl rfl (base_kind _) rfl (fun w hF K hK => ?_); go_simp; refine hK _ ⟨?_, ?_⟩; (· intro e he; first | (simp [go_sem] at he; done) | (simp [go_sem, *] at he; done)); clear hK K hF w; (try (walk_nrm)))
    | refine GF.block E ?_)
  refine GF.operE E rfl rfl (base_kind _) osLoud (fun w hF K hK => ?_)
  have c0 := hF.a0 i hi
  have c1 := hF.a1 i hi
  go_simp
  refine hK _ #[⟨.cell ⟨A, off + i * 2, none⟩, false, false⟩, ⟨.cell ⟨A, off + i * 2 + 1, none⟩, false, false⟩] ⟨by simp [go_sem, *], by simp, ?_, ?_⟩
  · simpa using D0.read (Wg := Wg) (rds := rds) (own := fun _ => False) (w := w) (ads := [⟨A, off + i * 2, none⟩, ⟨A, off + i * 2 + 1, none⟩]) (by simp [rA])
  clear hK K c0 c1 hF w
  try walk_nrm
  refine GF.stop E (fun w hF => ⟨rfl, _, box_step rfl rfl (base_kind _) (by go_simp) (by simp [go_sem]), ?_⟩)
  have hp := hF.new
  have F1 : StU Wg Ch cb A off n ask w.heap.size 0 (w.alloc (.cells #[.int .i64 0] 3)) := ⟨hF.alloc, alloc_new⟩
  refine (?_ : GF Try.prog true (R0 Wg Ch) (D0 Wg rds (· = w.heap.size)) _ (StU Wg Ch cb A off n ask w.heap.size 0) 1 _) _ F1
  generalize w.heap.size = p at hp
  clear F1 hF w E
  try walk_nrm
  refine GF.stop (st_holdU s hp _) (fun w hF => ⟨rfl, _, box_step rfl rfl (base_kind _) (by go_simp) (by simp [go_sem]), ?_⟩)
  have hq := hF.toStF.new
  have hpq : p ≠ w.heap.size := fun e => by have := hF.p.lt; omega
  have F1 : StV Wg Ch cb A off n ask p w.heap.size 0 0 0 (w.alloc (.cells #[.int .i64 0, .int .i64 0] 43)) := ⟨hF.toStF.alloc, (alloc_at hF.p.lt).trans hF.p, alloc_new⟩
  refine (?_ : GF Try.prog true (R0 Wg Ch) (D0 Wg rds fun b => b = p ∨ b = w.heap.size) _ (StV Wg Ch cb A off n ask p w.heap.size 0 0 0) 60 _) _ F1
  generalize w.heap.size = q at hq hpq
  clear F1 hF w
  try walk_nrm
  have E : ∀ {a b c : Int}, Hold (R0 Wg Ch) (D0 Wg rds fun b => b = p ∨ b = q) (StV Wg Ch cb A off n ask p q a b c) := st_holdV s hp hq _
  refine GF.operW (F' := StV Wg Ch cb A off n ask p q i 0 0) E rfl rfl (base_kind _) osLoud (fun w hF K hK => ?_)
  have c0 : w.cell? ⟨p, 0, none⟩ = some (.int .i64 0) := (cell_of_block hF.p 0).trans rfl
  have f0 := unfrozen_of_block hF.p 0
  have hm := mine_setCell (fun b => b = p ∨ b = q) w ⟨p, 0, none⟩ (.int .i64 i) (.inl rfl)
  have hk : StV Wg Ch cb A off n ask p q i 0 0 (w.setCell ⟨p, 0, none⟩ (.int .i64 i)) :=
    ⟨hF.toStF.mine hm (not2 hp.cb hq.cb) (not2 hp.A hq.A) (not2 hp.wg hq.wg),
      (block_setCell hF.p _).trans rfl, ((mine_setCell (· = p) w ⟨p, 0, none⟩ (.int .i64 i) rfl).keep q (fun h => hpq h.symm)).trans hF.q⟩
  go_simp
  refine hK _ _ #[⟨.cell ⟨p, 0, none⟩, true, false⟩] ⟨by simp [go_sem, *], by simp, ?_, hk, ?_⟩
  · simpa using D0.wrote (Wg := Wg) (rds := rds) (ads := [⟨p, 0, none⟩]) hm (by simp)
  clear hK K c0 f0 hm hk hF w
  try walk_nrm
  refine GF.operW (F' := StV Wg Ch cb A off n ask p q i (ask i).1 (ask i).2) E rfl rfl (base_kind _) osLoud (fun w hF K hK => ?_)
  have c0 : w.cell? ⟨q, 0, none⟩ = some (.int .i64 0) := (cell_of_block hF.q 0).trans rfl
  have c1 : w.cell? ⟨q, 1, none⟩ = some (.int .i64 0) := (cell_of_block hF.q 1).trans rfl
  have f0 := unfrozen_of_block hF.q 0
  have f1 := unfrozen_of_block hF.q 1
  have hm1 := mine_setCell (fun b => b = p ∨ b = q) w ⟨q, 0, none⟩ (.int .i64 (ask i).1) (.inr rfl)
  have hm := hm1.trans (mine_setCell (fun b => b = p ∨ b = q) (w.setCell ⟨q, 0, none⟩ (.int .i64 (ask i).1)) ⟨q, 1, none⟩ (.int .i64 (ask i).2) (.inr rfl))
  have b1 := block_setCell (i := 0) hF.q (.int .i64 (ask i).1)
  have hk : StV Wg Ch cb A off n ask p q i (ask i).1 (ask i).2 ((w.setCell ⟨q, 0, none⟩ (.int .i64 (ask i).1)).setCell ⟨q, 1, none⟩ (.int .i64 (ask i).2)) :=
    ⟨hF.toStF.mine hm (not2 hp.cb hq.cb) (not2 hp.A hq.A) (not2 hp.wg hq.wg),
      (((mine_setCell (· = q) w ⟨q, 0, none⟩ (.int .i64 (ask i).1) rfl).trans (mine_setCell (· = q) (w.setCell ⟨q, 0, none⟩ (.int .i64 (ask i).1)) ⟨q, 1, none⟩ (.int .i64 (ask i).2) rfl)).keep p hpq).trans hF.p,
      (block_setCell b1 _).trans rfl⟩
  clear hm1 b1
  go_simp
  refine hK _ _ #[⟨.cell ⟨q, 0, none⟩, true, false⟩, ⟨.cell ⟨q, 1, none⟩, true, false⟩] ⟨by simp [go_sem, *], by simp, ?_, hk, ?_⟩
  · simpa using D0.wrote (Wg := Wg) (rds := rds) (ads := [⟨q, 0, none⟩, ⟨q, 1, none⟩]) hm (by simp)
  clear hK K c0 c1 f0 f1 hm hk hF w
  try walk_nrm
  refine GF.regEnd E ?_
  refine GF.seq E ?_
  refine GF.reg E ?_
  simp only [List.size_toArray, List.length_cons, List.length_nil, Nat.zero_add, List.range, List.range.loop]
  refine GF.le (n := 12 + 1) ?_ (by omega)
  refine GF.add1 (E (a := i) (b := (ask i).1) (c := (ask i).2)) (mT := M + 24) (fun w h => h.live) (fun w h => D0.says w (.inl rfl)) (fun w st sm st' hF hw => hF.turn hp hq s hw) rfl rfl (base_kind _) rfl (by walk_nrm) ?_
  try walk_nrm
  refine GF.regEnd E ?_
  refine GF.reg E ?_
  simp only [List.size_toArray, List.length_cons, List.length_nil, Nat.reduceAdd, Nat.zero_add, List.range, List.range.loop]
  refine GF.oper E rfl rfl (base_kind _) rfl (fun w hF K hK => ?_)
  go_simp
  refine hK _ ⟨?_, ?_⟩
  · intro e he; first | (simp [go_sem] at he; done) | (simp [go_sem, *] at he; done)
  clear hK K hF w
  try walk_nrm
  have q4 : IntKind.i64.wrap ((i : Int) + 1) = ((i + 1 : Nat) : Int) := by rw [IntWalk.i64_in _ (by omega)]; simp
  refine GF.stop E (fun w hF => ⟨rfl, ⟨hF.ch, (cell_of_block hF.p 0).trans rfl, (cell_of_block hF.q 0).trans rfl, (cell_of_block hF.q 1).trans rfl⟩, _, (stepG_spawn (d := wkCall Wg cb p q) (w' := w) rfl rfl (base_kind _) (by simp [go_sem, wkCall]) rfl).trans (by rw [listed_nil (by simp [go_sem])]), ?_⟩)
  have hN := HN.out p q
  refine (?_ : GF Try.prog true (R0 Wg Ch) (D0 Wg rds fun _ => False) _ (StF Wg Ch cb A off n ask) _ _) w hF.toStF
  clear hF w E HN
  have E : Hold (R0 Wg Ch) (D0 Wg rds fun _ => False) (StF Wg Ch cb A off n ask) := st_hold s _
  try walk_nrm
  refine GF.le (n := M + 12) ?_ (by omega)
  refine GF.regEnd E ?_
  refine GF.inBlock E ?_
  refine GF.reg E ?_
  simp only [List.size_toArray, List.length_cons, List.length_nil, Nat.reduceAdd, Nat.zero_add, List.range, List.range.loop]
  repeat (first
    | refine GF.regEnd E ?_
    | (refine GF.oper E rfl rfl (base_kind _) rfl (fun w hF K hK => ?_); go_simp; refine hK _ ⟨?_, ?_⟩; (· intro e he; first | (simp [go_sem] at he; done) | (simp [go_sem, *] at he; done)); clear hK K hF w; (try (walk_nrm))))
  refine GF.inLoop E ?_
  exact (hN _ ⟨_, _, _, _, _, _, _, _, _, _, _, _, _, _, _, _, _, _, _, _, _, _, _, _, _, _, _, _, _, _, _, rfl⟩).le (by omega)

theorem Goes.imp {P : Program} {main : Bool} {R : World → World → Prop} {D : World → World → Array Event → Prop} {S S' : Goroutine → World → Prop} (hs : ∀ g w, S g w → S' g w) : ∀ {n : Nat} {g : Goroutine} {w : World}, Goes P main R D S n g w → Goes P main R D S' n g w
  | 0, _, _, h => fun w₁ h₁ => hs _ _ (h w₁ h₁)
  | n + 1, g, _, h => by
    rcases h with h | ⟨hr, h⟩
    · exact .inl fun w₁ h₁ => hs _ _ (h w₁ h₁)
    · refine .inr ⟨hr, fun w₁ h₁ => ?_⟩
      have := h w₁ h₁
      revert this
      cases stepG P main g w₁ <;> simp only [GStep.goes, imp_self]
      exact fun ⟨d, x⟩ => ⟨d, Goes.imp hs x⟩
theorem GF.imp {P : Program} {main : Bool} {R : World → World → Prop} {D : World → World → Array Event → Prop} {S S' : Goroutine → World → Prop} {F : World → Prop} {n : Nat} {g : Goroutine} (hs : ∀ g w, S g w → S' g w) (h : GF P main R D S F n g) : GF P main R D S' F n g :=
  fun w hw => Goes.imp hs (h w hw)

/-- The call of Wait, up to its entry. -/
theorem GF.wait1 {R : World → World → Prop} {D : World → World → Array Event → Prop} {F : World → Prop} (E : Hold R D F) {Wg : Nat} {b : Frame} {a : Act} {ops : Array Oper} {i : Nat} {rest : List Nat} {o : Oper} {args : Array Operand} {ats : Array TypeId} {k : List Item} {cs : List Frame}
    (ho : ops[i]? = some o) (hw : Region.wanted o (yielded ops a.tmps) = true) (hk : b.kind ≠ .early) (hop : o.op = .call { callee := .value (.func wgl.wait), args, argTypes := ats }) (hargs : args.map a.eval = #[.pointer (some ⟨Wg, 0, none⟩)]) :
    GF Try.prog true R D (StKd Try.prog R D (Anc wgl F Wg (b.at a (.inRegion ops (i :: rest) :: k)) cs)) F (3 + 1) (G (b.at a (.inRegion ops (i :: rest) :: k)) cs) := by
  refine GF.call E ho hw hk hop wgLib.f_wait (nm_wait wgl) rfl ?_
  rw [hargs]
  have e : (waitFn wgl).ntmps - (#[.pointer (some ⟨Wg, 0, none⟩)] : Array Value).size = 83 := rfl
  rw [e]
  exact waitStart wgLib E

noncomputable def osWaitOps : Array Oper := match osEnd with | .seq (.region _ ops _) _ => ops | _ => #[]
noncomputable def osRest : Code := match osEnd with | .seq _ c => c | _ => .skip
/-- The starter's own frame while it is in Wait. -/
noncomputable def osWaitC (T : Array Value) : Frame := (base 27).at ⟨T, []⟩ [.inRegion osWaitOps [0], .code osRest]

/-- The starter enters Wait. -/
def StWait (Wg Ch cb A off n : Nat) (cap : Option Addr × Nat) (ask : Nat → Nat × Nat) (rds : Nat → Prop) (cs : List Frame) (g : Goroutine) (w : World) : Prop :=
  ∃ T, osT Wg cb A off n cap n T ∧ StKd Try.prog (R0 Wg Ch) (D0 Wg rds fun _ => False) (Anc wgl (StF Wg Ch cb A off n ask) Wg (osWaitC T) cs) g w

set_option maxRecDepth 100000 in
set_option maxHeartbeats 2000000 in
theorem st_exit {Wg Ch cb A off n : Nat} {cap : Option Addr × Nat} {ask : Nat → Nat × Nat} {rds : Nat → Prop} (s : StP Wg Ch cb A) {T : Array Value} (hT : osT Wg cb A off n cap n T) {cs : List Frame} :
    GF Try.prog true (R0 Wg Ch) (D0 Wg rds fun _ => False) (StWait Wg Ch cb A off n cap ask rds cs) (StF Wg Ch cb A off n ask) 30 (osHead T cs) := by
  obtain ⟨v1, v5, v6, v7, v8, v9, v10, v11, v15, v16, v17, v18, v19, v20, v21, v22, v23, v24, v25, v26, v27, v28, v29, v30, v31, v32, v33, v34, v35, v36, v37, rfl⟩ := hT
  have E : Hold (R0 Wg Ch) (D0 Wg rds fun _ => False) (StF Wg Ch cb A off n ask) := st_hold s _
  simp only [osHead, osLoop, osEnd, osBody, Try.f27, Option.getD_some]
  repeat (first
    | refine GF.seq E ?_
    | refine GF.regEnd E ?_
    | refine GF.nop E ?_
    | (refine GF.reg E ?_; simp only [List.size_toArray, List.length_cons, List.length_nil, Nat.zero_add, List.range, List.range.loop])
    | (refine GF.cond E (t := false) rfl ?_; simp only [Bool.false_eq_true, ↓reduceIte])
    | (refine GF.oper E rfl rfl (base_kind _) rfl (fun w hF K hK => ?_); go_simp; refine hK _ ⟨?_, ?_⟩; (· intro e he; first | (simp [go_sem] at he; done) | (simp [go_sem, *] at he; done)); clear hK K hF w; (try (walk_nrm))))
  refine GF.exit E rfl ?_
  refine GF.seq E ?_
  refine GF.reg E ?_
  simp only [List.size_toArray, List.length_cons, List.length_nil, Nat.zero_add, List.range, List.range.loop]
  refine GF.le (n := 3 + 1) ?_ (by omega)
  refine GF.imp ?_ (GF.wait1 (Wg := Wg) E rfl rfl (base_kind _) rfl (by walk_nrm))
  intro g w h
  refine ⟨_, ⟨v1, v5, v6, v7, v8, v9, v10, v11, .bool false, v16, v17, v18, v19, v20, v21, v22, v23, v24, v25, v26, v27, v28, v29, v30, v31, v32, v33, v34, v35, v36, v37, rfl⟩, ?_⟩
  simp only [osWaitC, osWaitOps, osRest, osEnd, osBody, Try.f27, Option.getD_some]
  exact h

/-- The starter's whole script in the loop: r asks are still to be started. -/
def Spn (Wg Ch cb A off n : Nat) (cap : Option Addr × Nat) (ask : Nat → Nat × Nat) (rds : Nat → Prop) (cs : List Frame) : Nat → Goroutine → World → Prop
  | 0 => StWait Wg Ch cb A off n cap ask rds cs
  | r + 1 => Round Wg Ch cb rds (n - (r + 1)) (ask (n - (r + 1))).1 (ask (n - (r + 1))).2 fun _ _ g w => Goes Try.prog true (R0 Wg Ch) (D0 Wg rds fun _ => False) (Spn Wg Ch cb A off n cap ask rds cs r) (30 + 20) g w

theorem st_loop {Wg Ch cb A off n : Nat} {cap : Option Addr × Nat} {ask : Nat → Nat × Nat} {rds : Nat → Prop} (s : StP Wg Ch cb A) (rA : rds A) (hn : n < 100000) (hb : 0 < n → cap.1 = some ⟨A, off, none⟩) {cs : List Frame} : ∀ (r : Nat), r ≤ n → ∀ {T : Array Value}, osT Wg cb A off n cap (n - r) T →
    GF Try.prog true (R0 Wg Ch) (D0 Wg rds fun _ => False) (Spn Wg Ch cb A off n cap ask rds cs r) (StF Wg Ch cb A off n ask) 30 (osHead T cs) := by
  intro r
  induction r with
  | zero => intro _ T hT; exact st_exit s hT
  | succ r ih =>
    intro hr T hT
    refine st_round (M := 30) (Stop := fun _ _ => Spn Wg Ch cb A off n cap ask rds cs r) s rA hn (by omega) (hb (by omega)) hT fun p q T' hT' => ?_
    refine ih (by omega) ?_
    have e : n - (r + 1) + 1 = n - r := by omega
    rw [e] at hT'
    exact hT'

theorem StF.turn {Wg Ch cb A off n : Nat} {ask : Nat → Nat × Nat} {w : World} {st sm : Int} (h : StF Wg Ch cb A off n ask w) (s : StP Wg Ch cb A) {a : Addr} {v : Value} (ha : a.block = Wg) (hw : WgAt wgl.tWg Wg (w.setCell a v) st sm) :
    StF Wg Ch cb A off n ask (w.setCell a v) := by
  have hm := mine_setCell (· = Wg) w a v ha
  have e1 := hm.keep cb s.cb.1
  have e2 := hm.keep A s.A.1
  exact ⟨(cell_eq e1 0).trans h.ch, fun i hi => (cell_eq e2 _).trans (h.a0 i hi), fun i hi => (cell_eq e2 _).trans (h.a1 i hi), ⟨_, _, hw⟩, by rw [hm.size]; exact h.wg, by rw [hm.size]; exact h.sch, by rw [hm.size]; exact h.scb, by rw [hm.size]; exact h.sA⟩

/-- The starter behind Wait. -/
noncomputable def osBehind (T : Array Value) (cs : List Frame) : Goroutine :=
  G ((base 27).at (Act.put ⟨T, []⟩ ((osWaitOps[0]?).bind (·.dst)) (.tuple #[])) [.inRegion osWaitOps [], .code osRest]) cs

/-- From the head of Wait's loop to the load of the state, and what follows then, up to the moment behind Wait. -/
theorem st_wait {Wg Ch cb A off n : Nat} {ask : Nat → Nat × Nat} {rds : Nat → Prop} (s : StP Wg Ch cb A) (T : Array Value) (cs : List Frame) (g : Goroutine) (w : World) (h : Anc wgl (StF Wg Ch cb A off n ask) Wg (osWaitC T) cs g w) :
    ∃ m, Goes Try.prog true (R0 Wg Ch) (D0 Wg rds fun _ => False) (StW1 Try.prog (R0 Wg Ch) (D0 Wg rds fun _ => False) wgl.tWg Wg (fun g w => g = osBehind T cs ∧ StF Wg Ch cb A off n ask w) (Anc wgl (StF Wg Ch cb A off n ask) Wg (osWaitC T) cs)) m g w := by
  have E : Hold (R0 Wg Ch) (D0 Wg rds fun _ => False) (StF Wg Ch cb A off n ask) := st_hold s _
  exact waitRound wgLib E (fun w h => h.live) (fun w h => D0.says w (.inr rfl)) (fun w st sm st' hF hw => hF.turn s rfl (hw.setSt st')) (fun w st sm sm' hF hw => hF.turn s rfl (hw.setSm sm'))
    (mT := 0) (GF.stop E fun w h => ⟨rfl, h⟩) g w h

end Go.Proofs.Ythoaldiadgeonaa.Cr
