/-
  sync.WaitGroup's functions and types under this program's numbers.
  A machine in which all but goroutine 0 are only leaving: what is held of it between calls ('Fr'), and goroutine 0's walk through it.
-/
import Derived.Test.YthoaldiadgeonaaRows
import Derived.Conc.WgGenN3
import Derived.KernelRfl
import Derived.Conc.CrowdRun
import Derived.Conc.CrowdComm
import Derived.Conc.Beside
namespace Go.Proofs.Ythoaldiadgeonaa

abbrev wgl : Go.Conc.Lib.WgLink := { add := 48, done := 50, wait := 51, relMerge := 57, disable := 58, enable := 59, inBubble := 60, associate := 61, fatal := 62, uOr := 63, uAdd := 64, raceRead := 65, uLoad := 66, uStore := 67, disassociate := 68, semrelease := 69, acquire := 70, isAssociated := 71, uCas := 72, raceWrite := 73, semacquire := 74, orU64 := 78, addU64 := 79, loadU64 := 80, storeU64 := 81, casU64 := 82, tWgP := 84, tUP := 86, tAssoc := 88, tWg := 68, tAU := 65, tU64 := 63, tUint := 92, tU32 := 66, tPU32 := 93, tPAU := 107, tPU64 := 109, tNoCopy := 60, tANoCopy := 61, tAlign64 := 62 }
set_option maxRecDepth 100000 in
theorem wgLib : Go.Conc.Lib.WgLib Try.prog wgl :=
  ⟨Try.func48, Try.func50, Try.func51, Try.func57, Try.func58, Try.func59, Try.func60, Try.func61, Try.func62, Try.func63, Try.func64, Try.func65, Try.func66, Try.func67, Try.func68, Try.func69, Try.func70, Try.func71, Try.func72, Try.func73, Try.func74, Try.func78, Try.func79, Try.func80, Try.func81, Try.func82, Try.underlying84, Try.runUnderlying84, Try.sizeOf84, Try.isAgg84, Try.zeroValue84, Try.underlying86, Try.runUnderlying86, Try.sizeOf86, Try.isAgg86, Try.zeroValue86, Try.underlying88, Try.runUnderlying88, Try.sizeOf88, Try.isAgg88, Try.zeroValue88, Try.underlying68, Try.runUnderlying68, Try.sizeOf68, Try.isAgg68, Try.zeroValue68, Try.underlying65, Try.runUnderlying65, Try.sizeOf65, Try.isAgg65, Try.zeroValue65, Try.underlying63, Try.runUnderlying63, Try.sizeOf63, Try.isAgg63, Try.zeroValue63, Try.underlying92, Try.runUnderlying92, Try.sizeOf92, Try.isAgg92, Try.zeroValue92, Try.underlying66, Try.runUnderlying66, Try.sizeOf66, Try.isAgg66, Try.zeroValue66, Try.underlying93, Try.runUnderlying93, Try.sizeOf93, Try.isAgg93, Try.zeroValue93, Try.underlying107, Try.runUnderlying107, Try.sizeOf107, Try.isAgg107, Try.zeroValue107, Try.underlying109, Try.runUnderlying109, Try.sizeOf109, Try.isAgg109, Try.zeroValue109, Try.underlying0, Try.runUnderlying0, Try.sizeOf0, Try.isAgg0, Try.zeroValue0, Try.underlying3, Try.runUnderlying3, Try.sizeOf3, Try.isAgg3, Try.zeroValue3, Try.underlying4, Try.runUnderlying4, Try.sizeOf4, Try.isAgg4, Try.zeroValue4, Try.underlying9, Try.runUnderlying9, Try.sizeOf9, Try.isAgg9, Try.zeroValue9, Try.underlying20, Try.runUnderlying20, Try.sizeOf20, Try.isAgg20, Try.zeroValue20, Try.underlying21, Try.runUnderlying21, Try.sizeOf21, Try.isAgg21, Try.zeroValue21, (by kernel_rfl), (by kernel_rfl)⟩

end Go.Proofs.Ythoaldiadgeonaa

namespace Go.Proofs.Ythoaldiadgeonaa.Cr
open Go.Conc Go.ConcR Go.RowKit
open Go.ConcN (sumTo upd upd_same upd_ne sumTo_upd)

/-- Every touch is of memory. -/
def MemT (t : Trace) : Prop := ∀ op ∈ t, ∀ x, op.act.touch? = some x → x.loc.isMemory = true
theorem MemT.app {t u : Trace} (h : MemT t) (hu : MemT u) : MemT (t ++ u) := fun op hop => (Array.mem_append.1 hop).elim (h op) (hu op)

/-- What goroutine 0 lists between the calls: touches of memory below B, of shunned places none that is plain; 'acquire', 'release', 'disable' .. are not said. -/
def Tame (Shun : Loc → Prop) (B : Nat) (e : Event) : Prop :=
  (∀ x, (MemAct.ofEvent e).touch? = some x → x.loc.isMemory = true ∧ (Shun x.loc → x.kind ≠ .plain)) ∧ (MemAct.ofEvent e).low B ∧ e.loc ≠ .mark .disable ∧ e.loc ≠ .mark .enable ∧ ∀ a, e.loc ≠ .mark (.release a)
theorem Tame.evL {Shun : Loc → Prop} {B : Nat} {e : Event} (h : Tame Shun B e) : EvL Shun B e := ⟨fun x hx => (h.1 x hx).2, h.2.2.1, h.2.2.2.1, h.2.1⟩

/-- A step of goroutine 0's between the calls. -/
def DF (Shun : Loc → Prop) (w w' : World) (es : Array Event) : Prop := w.heap.size ≤ w'.heap.size ∧ ∀ e ∈ es, Tame Shun w'.heap.size e
theorem df_none {Shun : Loc → Prop} {w w' : World} (h : w.heap.size ≤ w'.heap.size) : DF Shun w w' #[] := ⟨h, fun e he => by simp at he⟩
theorem df_idle {Shun : Loc → Prop} (w : World) : DF Shun w w #[] := df_none (Nat.le_refl _)
theorem tame_cell {Shun : Loc → Prop} {B : Nat} (a : Addr) (wr : Bool) (hS : ¬ Shun (.cell a)) (hB : a.block < B) : Tame Shun B ⟨.cell a, wr, false⟩ := by
  refine ⟨fun x hx => ?_, hB, by simp, by simp, by simp⟩
  simp only [MemAct.ofEvent, MemAct.touch?, Option.some.injEq] at hx
  subst hx
  exact ⟨rfl, fun h => absurd h hS⟩

structure Fr (P : Program) (Shun : Loc → Prop) (gs : Array Goroutine) (w : World) (t : Trace) (q : Nat → Nat) : Prop where
  leav : Leavers P t gs q
  past : Past Shun w.heap.size t
  quiet : Quiet Shun t
  mem : MemT t
  gsN : ∀ op ∈ t, op.g < gs.size

section
variable {P : Program} {Shun : Loc → Prop} {gs gs' : Array Goroutine} {w w' : World} {t : Trace} {q : Nat → Nat}

theorem woken_quiet {a a' g : Goroutine} {w : World} (h : g.status = .running ∨ g.status = .finished) : woken P a a' w g = g := by
  unfold Go.Conc.woken
  split
  · exact again_running _ h
  · rfl

/-- Goroutine 0's own step. -/
theorem Fr.own (h : Fr P Shun gs w t q) {a a' : Goroutine} (ha : gs[0]? = some a) {fn : FuncId} {pos : String} {es : Array Event} (hs : w.heap.size ≤ w'.heap.size) (hes : ∀ e ∈ es, Tame Shun w'.heap.size e) :
    Fr P Shun ((gs.map (woken P a a' w')).setIfInBounds 0 a') w' (t ++ MemOp.ofEvents 0 fn pos es) q := by
  have hlt : 0 < gs.size := (Array.getElem?_eq_some_iff.1 ha).1
  have hg0 : ∀ op ∈ MemOp.ofEvents 0 fn pos es, op.g = 0 := g_of_ofEvents
  refine ⟨⟨fun j x hj hx => ?_, fun j hj => ?_⟩, (h.past.mono hs).own fun e he => (hes e he).evL, h.quiet.app fun op hop x hx hS => ?_, h.mem.app fun op hop x hx => ?_, fun op hop => ?_⟩
  · rw [Array.getElem?_setIfInBounds_ne (by omega), Array.getElem?_map] at hx
    obtain ⟨y, hy, rfl⟩ := Option.map_eq_some_iff.1 hx
    have hq := h.leav.old j y hj hy
    rw [woken_quiet hq.status, Deaf_other t (by omega) _ hg0]
    exact hq
  · rw [Deaf_other t (by simp at hj; omega) _ hg0]
    exact h.leav.above j (by simpa using hj)
  · obtain ⟨e, he, rfl⟩ := Go.Conc.mem_ofEvents hop
    exact ⟨((hes e he).1 x hx).2 hS, fun _ => rfl⟩
  · obtain ⟨e, he, rfl⟩ := Go.Conc.mem_ofEvents hop
    exact ((hes e he).1 x hx).1
  · rcases Array.mem_append.1 hop with hop | hop
    · simpa using h.gsN op hop
    · rw [hg0 op hop]; simpa using hlt

/-- A leaver's step. -/
theorem Fr.mute (h : Fr P Shun gs w t q) {i k : Nat} {g g' : Goroutine} (hi : gs[i]? = some g) (hpos : 0 < i) {fn : FuncId} {pos : String} {es : Array Event} (hm : ∀ e ∈ es, e.mute = true) (hq : QuitsD P k (deafBehind (Deaf t i) es) g') (d : Nat) :
    Fr P Shun ((gs.map (woken P g g' (w.at d))).setIfInBounds i g') (w.at d) (t ++ MemOp.ofEvents i fn pos es) (upd q i k) := by
  have hlt : i < gs.size := (Array.getElem?_eq_some_iff.1 hi).1
  have hgi : ∀ op ∈ MemOp.ofEvents i fn pos es, op.g = i := g_of_ofEvents
  have hnt : ∀ op ∈ MemOp.ofEvents i fn pos es, op.act.touch? = none := fun op hop => by
    obtain ⟨e, he, rfl⟩ := Go.Conc.mem_ofEvents hop
    exact touch_mute (hm e he)
  refine ⟨⟨fun j x hj hx => ?_, fun j hj => ?_⟩, h.past.mute (by omega) hm, h.quiet.app fun op hop x hx hS => ?_, h.mem.app fun op hop x hx => ?_, fun op hop => ?_⟩
  · by_cases hji : i = j
    · subst hji
      rw [Array.getElem?_setIfInBounds_self_of_lt (by simpa using hlt)] at hx
      obtain rfl := Option.some.inj hx
      rw [upd_same, Deaf_own]
      exact hq
    · rw [Array.getElem?_setIfInBounds_ne hji, Array.getElem?_map] at hx
      obtain ⟨y, hy, rfl⟩ := Option.map_eq_some_iff.1 hx
      have hqj := h.leav.old j y hj hy
      rw [woken_quiet hqj.status, upd_ne q k (Ne.symm hji), Deaf_other t hji _ hgi]
      exact hqj
  · rw [Deaf_other t (by simp at hj; omega) _ hgi]
    exact h.leav.above j (by simpa using hj)
  · rw [hnt op hop] at hx; cases hx
  · rw [hnt op hop] at hx; cases hx
  · rcases Array.mem_append.1 hop with hop | hop
    · simpa using h.gsN op hop
    · rw [hgi op hop]; simpa using hlt

theorem Fr.at (h : Fr P Shun gs w t q) (d : Nat) : Fr P Shun gs (w.at d) t q := ⟨h.leav, h.past, h.quiet, h.mem, h.gsN⟩

theorem Fr.awake (h : Fr P Shun gs w t q) {a : Goroutine} (ha : gs[0]? = some a) (hrun : a.status = .running) : ∀ g ∈ gs, awake g := by
  intro g hg
  obtain ⟨i, hi, rfl⟩ := Array.mem_iff_getElem.1 hg
  rcases Nat.eq_zero_or_pos i with rfl | hpos
  · have : gs[0] = a := by simpa [Array.getElem?_eq_getElem hi] using ha
    rw [this]; exact awake_of (.inl hrun)
  · exact awake_of ((h.leav.old i _ hpos (Array.getElem?_eq_getElem hi)).status.elim .inl fun x => .inr (.inr x))

theorem norel_tame {Shun : Loc → Prop} {B g : Nat} {fn : FuncId} {pos : String} {es : Array Event} {ad : Addr} (h : NoRelease ad t) (hes : ∀ e ∈ es, Tame Shun B e ∨ e.mute = true) : NoRelease ad (t ++ MemOp.ofEvents g fn pos es) := by
  refine h.app fun op hop => ?_
  obtain ⟨e, he, rfl⟩ := Go.Conc.mem_ofEvents hop
  intro hx
  have h2 := loc_of_ofEvent hx
  rcases hes e he with h1 | h1
  · exact h1.2.2.2.2 ad h2
  · obtain ⟨l, b1, b2⟩ := e
    subst h2
    simp [Event.mute] at h1

/-- THE WALK BESIDE LEAVERS, in the frame. -/
theorem fr_walk {D : World → World → Array Event → Prop} {Stop : Goroutine → World → Prop} (hD : ∀ w w' es, D w w' es → w.heap.size ≤ w'.heap.size ∧ ∀ e ∈ es, Tame Shun w'.heap.size e) :
    ∀ (M n : Nat) (gs : Array Goroutine) (a : Goroutine) (w : World) (sl : Option (Nat × Nat)) (t : Trace) (q : Nat → Nat), n + sumTo gs.size q ≤ M → gs[0]? = some a → Fr P Shun gs w t q → Goes P true AtRel D Stop n a w →
      ∃ (N : Nat) (gs' : Array Goroutine) (a' : Goroutine) (w' : World) (sl' : Option (Nat × Nat)) (t' : Trace) (q' : Nat → Nat),
        runNT P N (crowd gs w sl) t = (.next (crowd gs' w' sl'), t') ∧ gs'.size = gs.size ∧ gs'[0]? = some a' ∧ Stop a' w' ∧ Fr P Shun gs' w' t' q' ∧ ∀ ad, NoRelease ad t → NoRelease ad t' := by
  intro M
  induction M with
  | zero =>
    intro n gs a w sl t q hM h0 hF hG
    obtain rfl : n = 0 := by omega
    exact ⟨0, gs, a, w, sl, t, q, rfl, rfl, h0, hG w (atRel_refl w), hF, fun _ h => h⟩
  | succ M ih =>
    intro n gs a w sl t q hM h0 hF hG
    cases n with
    | zero => exact ⟨0, gs, a, w, sl, t, q, rfl, rfl, h0, hG w (atRel_refl w), hF, fun _ h => h⟩
    | succ n =>
      rcases hG with hstop | ⟨hrun, hstep⟩
      · exact ⟨0, gs, a, w, sl, t, q, rfl, rfl, h0, hstop w (atRel_refl w), hF, fun _ h => h⟩
      obtain ⟨i, g, d, sl', hi, hg, hst⟩ := crowd_pick (P := P) (w := w) (sl := sl) (hF.awake h0 hrun) ⟨0, a, h0, hrun⟩
      rcases Nat.eq_zero_or_pos i with rfl | hpos
      · obtain rfl : g = a := by rw [h0] at hi; exact (Option.some.inj hi).symm
        obtain ⟨a', w', es, hgo, hd, hG'⟩ := goes_elim (hstep (w.at d) ⟨d, rfl⟩)
        obtain ⟨hs, hes⟩ := hD _ _ _ hd
        have hrunT := runT_crowd_go (P := P) (sl := sl') (i := 0) hi (show stepG P (0 == 0) g (w.at d) = _ from hgo)
        have hlt : 0 < gs.size := (Array.getElem?_eq_some_iff.1 h0).1
        have hsz : ((gs.map (woken P g a' w')).setIfInBounds 0 a').size = gs.size := by simp
        obtain ⟨N, gs', a'', w'', sl'', t', q', hr, hs', h0', hS, hF', hnr⟩ := ih n ((gs.map (woken P g a' w')).setIfInBounds 0 a') a' w' sl' (t ++ MemOp.ofEvents 0 g.frame.fn g.frame.place es) q (by rw [hsz]; omega) (by simp [hlt]) ((hF.at d).own h0 hs hes) hG'
        exact ⟨N + 1, gs', a'', w'', sl'', t', q', by simp only [runNT, hst, hrunT]; exact hr, hs'.trans hsz, h0', hS, hF', fun ad h => hnr ad (norel_tame h fun e he => .inl (hes e he))⟩
      · have hq := hF.leav.old i g hpos hi
        have hi0 : (i == 0) = false := by simp; omega
        have hlt : i < gs.size := (Array.getElem?_eq_some_iff.1 hi).1
        cases hqi : q i with
        | zero => rw [hqi] at hq; rw [hq.1] at hg; cases hg
        | succ k =>
          rw [hqi] at hq
          rcases hq with ⟨hf, _⟩ | ⟨_, g', es, hm, hstp, hq'⟩
          · rw [hf] at hg; cases hg
          have hrunT := runT_crowd_go (P := P) (sl := sl') (i := i) hi (by rw [hi0]; exact hstp (w.at d))
          have hsz : ((gs.map (woken P g g' (w.at d))).setIfInBounds i g').size = gs.size := by simp
          have hsum : sumTo gs.size (upd q i k) + (k + 1) = sumTo gs.size q + k := by
            have := sumTo_upd q k id hlt
            simpa [hqi] using this
          obtain ⟨N, gs', a'', w'', sl'', t', q', hr, hs', h0', hS, hF', hnr⟩ := ih (n + 1) ((gs.map (woken P g g' (w.at d))).setIfInBounds i g') a (w.at d) sl' (t ++ MemOp.ofEvents i g.frame.fn g.frame.place es) (upd q i k) (by rw [hsz]; omega)
            (by
              have hne : i ≠ 0 := by omega
              rw [Array.getElem?_setIfInBounds_ne hne, Array.getElem?_map, h0]
              simp [woken_quiet (.inl hrun)])
            (hF.mute hi hpos hm hq' d) (Goes.rely atRel_trans (.inr ⟨hrun, hstep⟩) ⟨d, rfl⟩)
          exact ⟨N + 1, gs', a'', w'', sl'', t', q', by simp only [runNT, hst, hrunT]; exact hr, hs'.trans hsz, h0', hS, hF', fun ad h => hnr ad (norel_tame (Shun := Shun) (B := 0) h fun e he => .inr (hm e he))⟩

/-- A wider rely. -/
theorem Goes.narrow {main : Bool} {R R' : World → World → Prop} {D : World → World → Array Event → Prop} {Stop : Goroutine → World → Prop} (h : ∀ a b, R' a b → R a b) : ∀ {n : Nat} {g : Goroutine} {w : World}, Goes P main R D Stop n g w → Goes P main R' D Stop n g w
  | 0, _, _, hg => fun w₁ r => hg w₁ (h _ _ r)
  | _ + 1, _, _, hg => hg.imp (fun hs w₁ r => hs w₁ (h _ _ r)) fun ⟨hr, hst⟩ => ⟨hr, fun w₁ r => by
      obtain ⟨g', w', es, e, hd, hn⟩ := goes_elim (hst w₁ (h _ _ r))
      rw [e]
      exact ⟨hd, Goes.narrow h hn⟩⟩
end

end Go.Proofs.Ythoaldiadgeonaa.Cr
