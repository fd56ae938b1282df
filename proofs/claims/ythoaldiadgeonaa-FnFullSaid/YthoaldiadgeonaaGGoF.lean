/-
  Many workers and their starter, beside old leavers: every step of a worker's, of an old leaver's.
  Many workers and their starter, beside old leavers: every step of the starter's, up to its 'acquire' behind Wait.
  Many workers and their starter, beside old leavers: from the head of the starter's loop to the moment behind Wait, on every tape.
-/
import Derived.Test.YthoaldiadgeonaaGGoE
namespace Go.Proofs.Ythoaldiadgeonaa.Cr
open Go.Conc Go.ConcR Go.RowKit Go.Conc.Lib Go.ConcR.Gen
open Go.ConcN

theorem offers_nil {g : Goroutine} {r : Nat} {b : Bool} (h : g.status ≠ .blocked ∨ g.offers = none) : offersAt g r b = [] := by
  unfold offersAt
  rcases h with h | h
  · cases hs : g.status <;> simp_all
  · cases hs : g.status <;> simp [h]

section
variable {p : Ph} {j : Nat} {gs : Array Goroutine} {w w' : World} {sl : Option (Nat × Nat)} {t : Trace} {D : Nat → WD} {X : Nat → WX} {q : Nat → Nat} {d0 f0 : Nat} {own0 : Nat → Prop} {tag : CTag} {a : Goroutine} {st sm : Int}

/-- Nobody offers anything. -/
theorem no_partners (ha : gs[0]? = some a) (hss : SS p tag j f0 d0 own0 a w) (hcom : Com p j gs w t D X q d0 own0) (i : Nat) (x : Goroutine) (hx : x.status = .finished) (r : Nat) (b : Bool) : partners (gs.setIfInBounds i x) r b = [] := by
  refine partners_nil fun k g hg => offers_nil ?_
  by_cases e : i = k
  · subst e
    by_cases hlt : i < gs.size
    · rw [Array.getElem?_setIfInBounds_self_of_lt hlt] at hg
      cases hg; exact .inl (by rw [hx]; simp)
    · rw [Array.getElem?_eq_none (by simpa using hlt)] at hg; cases hg
  · rw [Array.getElem?_setIfInBounds_ne e] at hg
    have hlt : k < gs.size := (Array.getElem?_eq_some_iff.1 hg).1
    rcases Nat.eq_zero_or_pos k with rfl | hk
    · rw [ha] at hg; cases hg
      rcases hss.status with ⟨h, _⟩ | ⟨_, h, _⟩
      · exact .inl (by rw [h]; simp)
      · exact .inr h
    · by_cases hkj : k ≤ p.j0
      · rcases (hcom.old k g hk hkj hg).status with h | h <;> exact .inl (by rw [h]; simp)
      · obtain ⟨i', rfl⟩ : ∃ i', k = p.kk i' := ⟨k - (p.j0 + 1), by unfold Ph.kk; omega⟩
        obtain ⟨g', hg', hs⟩ := hcom.wk i' (by have := hcom.size; unfold Ph.kk at hlt; omega)
        rw [hg] at hg'; cases hg'
        rcases hs.status with h | h <;> exact .inl (by rw [h]; simp)

/-- THE SENDING. -/
theorem wSend (ok : p.Ok) (ha : gs[0]? = some a) (hss : SS p tag j f0 d0 own0 a w) (hcom : Com p j gs w t D X q d0 own0) (hwg : WgAt wgl.tWg p.Wg w st sm) (hm : ConcN.Mode j D tag st sm) (hz : w.heap.size = p.N0 + 3 + 2 * j + eOf tag + nb j X)
    {i : Nat} (hi : i < j) {g : Goroutine} {L β m pb ab : Nat} (hg : gs[p.kk i]? = some g) (hX : X i = ⟨L, some β, false⟩) (hD : D i = ⟨7, m + 42, 0⟩)
    (hst : StSend p.Ch (p.ans i) (fun g _ => g = wkSent p.Wg p.Ch p.cb pb ab i (p.ask i).1 (p.ask i).2 (p.ord i)) g w) :
    ∃ m₁ u μ', runT Try.prog (crowd gs w sl) (p.kk i) = (.next m₁, u) ∧ Lt2 μ' (mu p j D q tag f0) ∧ Inv p μ' m₁ (t ++ u) := by
  obtain ⟨_, hcm, hK⟩ := hst
  obtain ⟨buf, s, r, tm, hch, hbuf⟩ := hcom.chan
  have hlt' : p.kk i < gs.size := (Array.getElem?_eq_some_iff.1 hg).1
  have hjn := hcom.jn
  have hsz := hcom.chlt ok
  have hns : (X i).sent = false := by rw [hX]
  have hperm := filter_toggle (f := fun k => (X k).sent) (f' := fun k => (upd X i ⟨L, some β, true⟩ k).sent) (i := i) hns (by simp [upd_same]) (fun k hk => by rw [upd_ne X _ hk]) hi
  have hroom : buf.size < p.n := by
    have h1 := hbuf.length_eq
    have h2 := hperm.length_eq
    have h3 := List.length_filter_le (fun k => (upd X i ⟨L, some β, true⟩ k).sent) (List.range j)
    simp at h1 h2 h3
    omega
  have hrun := crowd_send_room (P := Try.prog) (sl := sl) (i := p.kk i) hg (by rw [kk_ne]; exact hcm) hch hroom (no_partners ha hss hcom _ _ rfl _ _)
  have R : R0 p.Wg p.Ch w (w.setChan p.Ch p.n (buf.push (p.ans i)) false (s + 1) r tm) := R0.setChan w ok.chwg
  have hF := hcom.F.rely ok.pl R
  have hsz2 : (w.setChan p.Ch p.n (buf.push (p.ans i)) false (s + 1) r tm).heap.size = w.heap.size := by show (w.heap.setIfInBounds p.Ch _).size = _; simp
  have hwg' : (w.setChan p.Ch p.n (buf.push (p.ans i)) false (s + 1) r tm).heap[p.Wg]? = w.heap[p.Wg]? := by
    show (w.heap.setIfInBounds p.Ch _)[p.Wg]? = _
    rw [Array.getElem?_setIfInBounds_ne ok.chwg]
  have hnb : nb j (upd X i ⟨L, some β, true⟩) = nb j X := by
    unfold nb
    refine sumTo_congr fun k _ => ?_
    by_cases e : k = i
    · subst e; rw [upd_same, hX]
    · rw [upd_ne X _ e]
  have hm' : ConcN.Mode j (upd D i ⟨7, 40, 0⟩) tag st sm := by have := hm.same (i := i) 40 0; rwa [show (D i).stage = 7 by rw [hD]] at this
  refine ⟨_, _, mu p j (upd D i ⟨7, 40, 0⟩) q tag f0, hrun, mu_work hi (by omega) (.inl rfl) (.inr ⟨by rw [hD], by rw [hD]; show 40 < m + 42; omega⟩), _, _, sl, j, upd D i ⟨7, 40, 0⟩, upd X i ⟨L, some β, true⟩, q, tag, f0, d0, own0, a, st, sm, rfl, ?_, hss.rely R, ?_, hwg.of_block hwg', hm', by rw [hsz2, hz, hnb], rfl⟩
  · rw [Array.getElem?_setIfInBounds_ne (by unfold Ph.kk; omega), ha]
  · have hg2 : g.finishComm Try.prog #[scase p.Ch (p.ans i) (.tuple #[])] .send 0 undef false = wkSent p.Wg p.Ch p.cb pb ab i (p.ask i).1 (p.ask i).2 (p.ord i) := hK w
    have hops : ∀ op ∈ MemOp.ofEvents (p.kk i) g.frame.fn g.frame.place #[] ++ #[{ g := p.kk i, fn := g.frame.fn, pos := g.frame.place, act := .send p.Ch s }, { g := p.kk i, fn := g.frame.fn, pos := g.frame.place, act := .sendDone p.Ch s }], op.g = p.kk i ∧ (op.act = .send p.Ch s ∨ op.act = .sendDone p.Ch s) := by
      intro op hop
      have e0 : MemOp.ofEvents (p.kk i) g.frame.fn g.frame.place #[] = #[] := by simp [ofEvents_eq]
      rw [e0] at hop
      simp at hop
      rcases hop with rfl | rfl
      · exact ⟨rfl, .inl rfl⟩
      · exact ⟨rfl, .inr rfl⟩
    refine hcom.work ok hi (g' := _) (by simp) (Array.getElem?_setIfInBounds_self_of_lt hlt') (fun k hk hkn x hx _ => by rw [Array.getElem?_setIfInBounds_ne (fun e => hkn e.symm)]; exact hx) R (fun op hop => ⟨(hops op hop).1, fun x hx => ?_⟩) (fun op hop => ?_) (fun op hop => ?_) ?_ (fun h => by omega) ?_ (by rw [hX]) (.inl (by rw [hX])) ?_ (fun _ => rfl) (fun b hb hp => ?_)
    · rcases (hops op hop).2 with e | e <;> rw [e] at hx <;> cases hx
    · rcases (hops op hop).2 with e | e <;> rw [e] <;> simp
    · have : p.Ch < (w.setChan p.Ch p.n (buf.push (p.ans i)) false (s + 1) r tm).heap.size := Nat.lt_of_lt_of_le hsz.2 R.size
      rcases (hops op hop).2 with e | e <;> rw [e] <;> exact this
    · rw [Deaf_still t _ _ fun op hop => by rcases (hops op hop).2 with e | e <;> rw [e] <;> exact ⟨by simp, by simp⟩, hcom.deafW i hi, hD]
    · rw [hg2]
      refine .sent (wk_done0 _ ⟨hF.live, ?_⟩) (Nat.le_refl _)
      exact hF.ch
    · refine ⟨buf.push (p.ans i), s + 1, r, tm, ?_, ?_⟩
      · show (w.heap.setIfInBounds p.Ch _)[p.Ch]? = _
        rw [Array.getElem?_setIfInBounds_self_of_lt hsz.2]
      · rw [Array.toList_push]
        refine List.Perm.trans ?_ (hperm.map p.ans).symm
        rw [List.map_cons]
        exact (List.perm_append_comm).trans (List.Perm.cons _ hbuf)
    · by_cases e : b = p.Ch
      · subst e
        exact ⟨.chan p.n (buf.push (p.ans i)) false (s + 1) r tm, by show (w.heap.setIfInBounds p.Ch _)[p.Ch]? = _; rw [Array.getElem?_setIfInBounds_self_of_lt hsz.2], trivial⟩
      · exact (hp (by omega)).of_eq (by show (w.heap.setIfInBounds p.Ch _)[b]? = _; rw [Array.getElem?_setIfInBounds_ne (fun h => e h.symm)])

set_option maxHeartbeats 1600000 in
/-- EVERY STEP OF A WORKER's. -/
theorem stepW (ok : p.Ok) (ha : gs[0]? = some a) (hss : SS p tag j f0 d0 own0 a w) (hcom : Com p j gs w t D X q d0 own0) (hwg : WgAt wgl.tWg p.Wg w st sm) (hm : ConcN.Mode j D tag st sm) (hz : w.heap.size = p.N0 + 3 + 2 * j + eOf tag + nb j X)
    {i : Nat} (hi : i < j) {g : Goroutine} (hg : gs[p.kk i]? = some g) (hrun : g.status = .running) :
    ∃ m₁ u μ', runT Try.prog (crowd gs w sl) (p.kk i) = (.next m₁, u) ∧ Lt2 μ' (mu p j D q tag f0) ∧ Inv p μ' m₁ (t ++ u) := by
  obtain ⟨g₁, hg₁, hs⟩ := hcom.wk i hi
  obtain rfl : g = g₁ := by rw [hg] at hg₁; exact Option.some.inj hg₁
  have hb := hss.bound
  have hok := ok.hn
  have hsz := hcom.chlt ok
  obtain ⟨xL, xS, xO, xP⟩ := hcom.xs i hi
  generalize hX : X i = x at hs
  generalize hst : (D i).stage = s at hs
  generalize hfu : (D i).fuel = m at hs
  generalize hde : (D i).deaf = dd at hs
  have hDi : D i = ⟨s, m, dd⟩ := by rw [← hst, ← hfu, ← hde]
  cases hs with
  | birth h =>
    rename_i L m
    rw [hX] at xL xS xO xP
    rcases Goes.cases h with hstop | ⟨m', rfl, hstep⟩
    · obtain ⟨_, g', hgo, hn⟩ := hstop w (RK.refl w)
      refine wStep ok ha hss hcom hi (dd' := 0) (x' := ⟨L, some w.heap.size, false⟩) hg hgo (R0.alloc w _ hsz.1) (fun e he => by simp at he) (by rw [hde]; rfl) (fun h => by omega) (.boxed hn) (by rw [hX]) (.inr ⟨by rw [hX], rfl, by show _ < (w.heap.push _).size; simp⟩)
        ((hcom.chan.keep (alloc_at hsz.2)).same (by rw [hX])) (fun h => by cases h) (fun b hb hp => ?_) hz ?_ (hwg.of_block (alloc_at hsz.1)) (fun _ ht _ => ConcN.Mode.retag (by have := hm.same (i := i) (p.fuelB i + 42) 0; rwa [hst] at this) ht) (.inr ⟨hst.symm, by omega⟩)
      · by_cases e : b < w.heap.size
        · exact (hp e).of_eq (alloc_at e)
        · have hz2 : (w.alloc (p.askObj i)).heap.size = w.heap.size + 1 := by show (w.heap.push _).size = _; simp
          obtain rfl : b = w.heap.size := by omega
          exact ⟨_, alloc_new, rfl⟩
      · have h1 := sumTo_upd X (⟨L, some w.heap.size, false⟩ : WX) (fun x => if x.own.isSome then 1 else 0) hi
        simp only [hX] at h1
        have hz2 : (w.alloc (p.askObj i)).heap.size = w.heap.size + 1 := by show (w.heap.push _).size = _; simp
        unfold nb
        simp at h1 ⊢
        omega
    · obtain ⟨g', w', es, hgo, hD, hg'⟩ := hstep w (RK.refl w)
      have hR : R0 p.Wg p.Ch w w' := R0.of_same hD.same
      refine wStep ok ha hss hcom hi (dd' := 0) (x' := X i) hg hgo hR (evK ok hcom hi rfl (fun β hβ => by rw [hX] at hβ; cases hβ) (by rw [hX]; exact ⟨hD.same, fun e he => by obtain ⟨a, h1, h2, h3, h4, h5⟩ := hD.evs e he; exact ⟨a, h1, h2, h3, h4, h5.imp id False.elim⟩⟩) hR.size) (by rw [hde]; exact hD.deaf 0) (fun h => by omega) (by rw [hX]; exact .birth hg') rfl (.inl rfl)
        (by rw [upd_id]; exact hcom.chan.keep (by rw [hD.same.heap])) (hcom.xs i hi).2.2.2 (fun b hb hp => (hp (by rw [hD.same.heap] at hb; exact hb)).of_eq (by rw [hD.same.heap])) hz (by rw [upd_id, hD.same.heap]) (hwg.of_block (by rw [hD.same.heap])) (fun _ ht _ => ConcN.Mode.retag (by have := hm.same (i := i) (m' + p.fuelB i + 50) 0; rwa [hst] at this) ht) (.inr ⟨hst.symm, by omega⟩)
  | boxed h =>
    rename_i L β m
    obtain ⟨pb, ab, h⟩ := h
    rw [hX] at xL xS xO xP
    rcases Goes.cases h with hstop | ⟨m', rfl, hstep⟩
    · exact wSend ok ha hss hcom hwg hm hz hi hg hX hDi (hstop w (RK.refl w))
    · obtain ⟨g', w', es, hgo, hD, hg'⟩ := hstep w (RK.refl w)
      have hR : R0 p.Wg p.Ch w w' := R0.of_same hD.same
      refine wStep ok ha hss hcom hi (dd' := 0) (x' := X i) hg hgo hR (evK ok hcom hi rfl (fun β' hβ => by rw [hX] at hβ; exact (xO β' hβ).2) (by rw [hX]; exact ⟨hD.same, fun e he => by obtain ⟨a, h1, h2, h3, h4, h5⟩ := hD.evs e he; exact ⟨a, h1, h2, h3, h4, h5.imp id fun h => by rw [h]; rfl⟩⟩) hR.size) (by rw [hde]; exact hD.deaf 0) (fun h => by omega) (by rw [hX]; exact .boxed ⟨pb, ab, hg'⟩) rfl (.inl rfl)
        (by rw [upd_id]; exact hcom.chan.keep (by rw [hD.same.heap])) (hcom.xs i hi).2.2.2 (fun b hb hp => (hp (by rw [hD.same.heap] at hb; exact hb)).of_eq (by rw [hD.same.heap])) hz (by rw [upd_id, hD.same.heap]) (hwg.of_block (by rw [hD.same.heap])) (fun _ ht _ => ConcN.Mode.retag (by have := hm.same (i := i) (m' + 42) 0; rwa [hst] at this) ht) (.inr ⟨hst.symm, by omega⟩)
  | sent h hm40 =>
    rename_i L β
    rcases Goes.cases h with hstop | ⟨m', rfl, hstep⟩
    · obtain ⟨_, _, g', hgo, m₂, hk⟩ := hstop w (RW.refl w)
      refine wStep ok ha hss hcom hi (dd' := 0) (x' := X i) hg hgo (R0.refl w) (fun e he => ?_) (by rw [hde]; rfl) (fun _ => ⟨t.size, RelBy.new (by rw [hcom.deafW i hi, hde]) _ _⟩) (by rw [hX]; exact .kit (v := .chan (some p.Ch)) ok.cb.2 ok.pl.cb.1 ok.pl.cb.2 (by omega) (.k1 hk)) rfl (.inl rfl)
        (by rw [upd_id]; exact hcom.chan) (hcom.xs i hi).2.2.2 (fun b hb hp => hp hb) hz (by rw [upd_id]) hwg (fun _ ht _ => (hm.counted hi (by omega) (.inl rfl) _ _).retag ht) (.inl ⟨by omega, by simp [cnt, hst]⟩)
      simp at he
      subst he
      exact ⟨fun fn pos => ⟨rfl, fun x hx => by cases hx⟩, by simp [mk], hsz.1⟩
    · obtain ⟨g', w', es, hgo, ⟨rfl, rfl⟩, hg'⟩ := hstep w (RW.refl w)
      refine wStep ok ha hss hcom hi (dd' := 0) (x' := X i) hg hgo (R0.refl _) (fun e he => by simp at he) (by rw [hde]; rfl) (fun h => by omega) (by rw [hX]; exact .sent hg' (by omega)) rfl (.inl rfl)
        (by rw [upd_id]; exact hcom.chan) (hcom.xs i hi).2.2.2 (fun b hb hp => hp hb) hz (by rw [upd_id]) hwg (fun _ ht _ => ConcN.Mode.retag (by have := hm.same (i := i) m' 0; rwa [hst] at this) ht) (.inr ⟨hst.symm, by omega⟩)
  | kit hC1 hC2 hC3 h6 h =>
    rename_i L C n k v β
    have hsent : (X i).sent = true := by rw [hX]
    have hC := And.intro hC1 (And.intro hC2 hC3)
    have idle : ∀ {g' : Goroutine} {m' : Nat}, stepG Try.prog false g w = .go g' w #[] → WSit Try.prog wgl.tWg p.Wg C n (fun _ _ => False) (fun _ _ => False) 0 k v s m' dd g' w → m' + 1 = m →
        ∃ m₁ u μ', runT Try.prog (crowd gs w sl) (p.kk i) = (.next m₁, u) ∧ Lt2 μ' (mu p j D q tag f0) ∧ Inv p μ' m₁ (t ++ u) := by
      intro g' m' hgo hs' hmm
      exact wBook ok ha hss hcom hi (hz := hz) (n := n) (k := k) (v := v) hg hgo hC hsent (by omega) h6 (.inl rfl) hwg (by simp) (by simp) hs' (by rw [hde]; rfl) (fun _ ht _ => ConcN.Mode.retag (by have := hm.same (i := i) m' dd; rwa [hst] at this) ht) (.inr ⟨hst.symm, by omega⟩)
    cases h with
    | r0 h => omega
    | k1 h =>
      rcases Goes.cases h with hstop | ⟨m', rfl, hstep⟩
      · obtain ⟨_, g', hgo, m₂, hk⟩ := hstop w (RW.refl w)
        exact wBook ok ha hss hcom hi (hz := hz) (n := n) (k := k) (v := v) hg hgo hC hsent (by omega) (by omega) (.inl rfl) hwg (by intro e he; simp at he; subst he; exact .inl rfl) (by intro jx e he; exact .inl (by have := Array.mem_of_getElem? he; simp at this; subst this; rfl)) (.d1 hk) (by rw [hde]; rfl)
          (fun _ ht _ => (hm.counted hi (by omega) (.inr rfl) _ _).retag ht) (.inl ⟨by omega, by simp [cnt, hst]⟩)
      · obtain ⟨g', w', es, hgo, ⟨rfl, rfl⟩, hg'⟩ := hstep w (RW.refl w)
        exact idle hgo (.k1 hg') rfl
    | d1 h =>
      rcases Goes.cases h with hstop | ⟨m', rfl, hstep⟩
      · obtain ⟨_, hall⟩ := hstop w (RW.refl w)
        obtain ⟨v0, wt, hwt, hv, rfl, rfl, hl, hq⟩ := mode_minus hm hi hst (by omega)
        obtain ⟨g', hgo, h4, h1⟩ := hall v0 wt hwt hv hwg
        have bk2 : ∀ e ∈ #[rd (stA p.Wg), wr (stA p.Wg)], Bk p.Wg e := by intro e he; simp at he; rcases he with rfl | rfl <;> exact ConcN.bk_cell _ _ rfl
        have df2 : ∀ jx e, (#[rd (stA p.Wg), wr (stA p.Wg)] : Array Event)[jx]? = some e → (MemAct.ofEvent e).touch? = none ∨ 0 < deafBehind (D i).deaf ((#[rd (stA p.Wg), wr (stA p.Wg)] : Array Event).extract 0 jx) := by
          intro jx e he
          rw [hde]
          match jx, he with
          | 0, _ => exact .inr (by simp [deafBehind])
          | 1, _ => exact .inr (by simp [deafBehind, rd])
          | jx + 2, he => simp at he
        by_cases hc : v0 = 0 ∧ wt = 1
        · obtain ⟨m₂, hk⟩ := h4 hc
          exact wBook ok ha hss hcom hi (hz := hz) (n := n) (k := k) (v := v) hg hgo hC hsent (by omega) (by omega) (.inr ⟨_, _, rfl, rfl⟩) (hwg.setSt _) bk2 df2 (.d2 hk) (by rw [hde]; rfl) (fun _ ht _ => (hl hc _ _).retag ht) (.inl ⟨by omega, by simp [cnt]⟩)
        · obtain ⟨q', hk⟩ := h1 hc
          exact wBook ok ha hss hcom hi (hz := hz) (n := n) (k := k) (v := v) hg hgo hC hsent (by omega) (by omega) (.inr ⟨_, _, rfl, rfl⟩) (hwg.setSt _) bk2 df2 (.quit hk) (by rw [hde]; rfl) (fun _ ht _ => (hq hc _ _).retag ht) (.inl ⟨by omega, by simp [cnt]⟩)
      · obtain ⟨g', w', es, hgo, ⟨rfl, rfl⟩, hg'⟩ := hstep w (RW.refl w)
        exact idle hgo (.d1 hg') rfl
    | d2 h =>
      rcases Goes.cases h with hstop | ⟨m', rfl, hstep⟩
      · obtain ⟨_, hx⟩ := hstop w (RW.refl w)
        obtain ⟨rfl, rfl, hmo⟩ := mode_lastGo hm hi (s := 4) (s' := 3) hst (.inl ⟨rfl, rfl⟩)
        obtain ⟨g', hgo, m₂, hk⟩ := hx hwg
        exact wBook ok ha hss hcom hi (hz := hz) (n := n) (k := k) (v := v) hg hgo hC hsent (by omega) (by omega) (.inl rfl) hwg (by intro e he; simp at he; subst he; exact ConcN.bk_cell _ _ rfl) (by intro jx e he; rw [hde]; match jx, he with | 0, _ => exact .inr (by simp [deafBehind]) | jx + 1, he => simp at he) (.d3 hk) (by rw [hde]; rfl)
          (fun _ ht _ => (hmo _ _).retag ht) (.inl ⟨by omega, by simp [cnt]⟩)
      · obtain ⟨g', w', es, hgo, ⟨rfl, rfl⟩, hg'⟩ := hstep w (RW.refl w)
        exact idle hgo (.d2 hg') rfl
    | d3 h =>
      rcases Goes.cases h with hstop | ⟨m', rfl, hstep⟩
      · obtain ⟨_, hx⟩ := hstop w (RW.refl w)
        obtain ⟨rfl, rfl, hmo⟩ := mode_lastGo hm hi (s := 3) (s' := 2) hst (.inr ⟨rfl, rfl⟩)
        obtain ⟨g', hgo, m₂, hk⟩ := hx hwg
        exact wBook ok ha hss hcom hi (hz := hz) (n := n) (k := k) (v := v) hg hgo hC hsent (by omega) (by omega) (.inr ⟨_, _, rfl, rfl⟩) (hwg.setSt 0) (by intro e he; simp at he; subst he; exact ConcN.bk_cell _ _ rfl) (by intro jx e he; rw [hde]; match jx, he with | 0, _ => exact .inr (by simp [deafBehind]) | jx + 1, he => simp at he) (.d4 hk) (by rw [hde]; rfl)
          (fun _ ht _ => (hmo _ _).retag ht) (.inl ⟨by omega, by simp [cnt]⟩)
      · obtain ⟨g', w', es, hgo, ⟨rfl, rfl⟩, hg'⟩ := hstep w (RW.refl w)
        exact idle hgo (.d3 hg') rfl
    | d4 h =>
      rcases Goes.cases h with hstop | ⟨m', rfl, hstep⟩
      · obtain ⟨_, hmw, hx⟩ := hstop w (RW.refl w)
        obtain ⟨hW3, rfl, rfl, hmo⟩ := mode_raise hm hi hst
        obtain ⟨g', hgo, q', hk⟩ := hx hwg
        have hrun' : g'.status = .running := by
          cases q' with
          | zero => exact absurd hk.2 (by decide)
          | succ q => exact hk.elim (fun x => absurd x.2 (by decide)) (fun x => x.1)
        refine wBook ok ha hss hcom hi (hz := hz) (n := n) (k := k) (v := v) hg hgo hC hsent (by omega) (by omega) (.inr ⟨_, _, rfl, rfl⟩) (hwg.setSm 1) (es := semEvents (smA p.Wg)) ConcN.bk_sem ?_ (dd' := 1) (s' := 1) (.quit hk) (by rw [hde]; simp [deafBehind, semEvents]) ?_ (.inl ⟨by omega, by simp [cnt]⟩)
        · intro jx e he
          rw [hde]
          match jx, he with
          | 0, he => simp [semEvents] at he; subst he; exact .inl rfl
          | 1, _ => exact .inr (by simp [deafBehind, semEvents])
          | 2, _ => exact .inr (by simp [deafBehind, semEvents])
          | 3, he => simp [semEvents] at he; subst he; exact .inl rfl
          | jx + 4, he => simp [semEvents] at he
        · intro tag' ht hw
          have hnb := hw hmw hrun'
          have e3 : tag' = .w3 := by
            rcases ht with rfl | ⟨_, rfl⟩
            · cases tag' <;> first | rfl | exact hW3.elim | exact absurd rfl hnb
            · rfl
          subst e3
          exact hmo _ _
      · obtain ⟨g', w', es, hgo, ⟨rfl, rfl⟩, hg'⟩ := hstep w (RW.refl w)
        exact idle hgo (.d4 hg') rfl
    | quit h =>
      cases m with
      | zero => rw [h.1] at hrun; cases hrun
      | succ m =>
        rcases h with ⟨hf, _⟩ | ⟨_, g', es, hmute, hstep, hq⟩
        · rw [hf] at hrun; cases hrun
        · have hbk : ∀ e ∈ es, Bk p.Wg e := fun e he => bk_of_mute (hmute e he)
          refine wBook ok ha hss hcom hi (hz := hz) (n := n) (k := k) (v := v) hg (hstep w) hC hsent (by omega) (by omega) (.inl rfl) hwg hbk (fun jx e he => .inl (touch_mute (hmute e (Array.mem_of_getElem? he)))) (.quit hq) (by rw [hde]) (fun _ ht _ => ConcN.Mode.retag (by have := hm.same (i := i) m (deafBehind dd es); rwa [hst] at this) ht) (.inr ⟨hst.symm, by omega⟩)

/-- EVERY STEP OF AN OLD LEAVER's. -/
theorem stepL (ok : p.Ok) (ha : gs[0]? = some a) (hss : SS p tag j f0 d0 own0 a w) (hcom : Com p j gs w t D X q d0 own0) (hwg : WgAt wgl.tWg p.Wg w st sm) (hm : ConcN.Mode j D tag st sm) (hz : w.heap.size = p.N0 + 3 + 2 * j + eOf tag + nb j X)
    {k : Nat} (hk : 0 < k) (hkj : k ≤ p.j0) {g : Goroutine} (hg : gs[k]? = some g) (hrun : g.status = .running) :
    ∃ m₁ u μ', runT Try.prog (crowd gs w sl) k = (.next m₁, u) ∧ Lt2 μ' (mu p j D q tag f0) ∧ Inv p μ' m₁ (t ++ u) := by
  have hq := hcom.old k g hk hkj hg
  have hlt' : k < gs.size := (Array.getElem?_eq_some_iff.1 hg).1
  cases hqk : q k with
  | zero => rw [hqk] at hq; rw [hq.1] at hrun; cases hrun
  | succ m =>
    rw [hqk] at hq
    rcases hq with ⟨hf, _⟩ | ⟨_, g', es, hmute, hstep, hq'⟩
    · rw [hf] at hrun; cases hrun
    obtain ⟨tag', f', hss', hf', htag, hwk⟩ := hss.wokenBy (R0.refl w) g g'
    have hrunT := runT_crowd_go (P := Try.prog) (sl := sl) (i := k) hg (by rw [show (k == 0) = false by simp; omega]; exact hstep w)
    have hsum := sumTo_upd q m id (show k < p.j0 + 1 by omega)
    refine ⟨_, _, mu p j D (upd q k m) tag' f', hrunT, ?_, _, w, sl, j, D, X, upd q k m, tag', f', d0, own0, woken Try.prog g g' w a, st, sm, rfl, ?_, hss', ?_, hwg, hm.retag htag, by rw [eOf_retag htag]; exact hz, rfl⟩
    · unfold mu
      rw [phi_retag p.n _ htag]
      refine Prod.Lex.right _ ?_
      have e1 : (sumTo (p.j0 + 1) fun a => id (upd q k m a)) = sumTo (p.j0 + 1) (upd q k m) := rfl
      have e2 : (sumTo (p.j0 + 1) fun a => id (q a)) = sumTo (p.j0 + 1) q := rfl
      rw [e1, e2] at hsum
      simp only [id, hqk] at hsum
      omega
    · rw [get_map_set _ _ _ _ (by omega), ha]; rfl
    · refine hcom.leave ok hk hkj (g' := g') (by simp) (get_map_set_same _ _ _ hlt') (fun k' hk' hkn x hx hst => ?_) g_of_ofEvents (fun op hop => ?_) (fun op hop => ?_) (fun op hop => ?_) ?_
      · rw [get_map_set _ _ _ _ (fun e => hkn e.symm), hx, Option.map_some, woken_rf hst]
      · obtain ⟨e, he, rfl⟩ := Go.Conc.mem_ofEvents hop; exact touch_mute (hmute e he)
      · obtain ⟨e, he, rfl⟩ := Go.Conc.mem_ofEvents hop
        intro hx
        have h1 := hmute e he
        have h2 := loc_of_ofEvent hx
        obtain ⟨l, b1, b2⟩ := e
        subst h2
        simp [Event.mute] at h1
      · obtain ⟨e, he, rfl⟩ := Go.Conc.mem_ofEvents hop; exact low_mute (hmute e he) _
      · rw [Deaf_own]; exact hq'
end

end Go.Proofs.Ythoaldiadgeonaa.Cr

namespace Go.Proofs.Ythoaldiadgeonaa.Cr
open Go.Conc Go.ConcR Go.RowKit Go.Conc.Lib Go.ConcR.Gen
open Go.ConcN

/-- The starter has said 'acquire', hearing, behind every worker's release. -/
def AcqK (p : Ph) (t : Trace) : Prop :=
  ∃ q, t.act? q = some (.mark (.acquire (stA p.Wg))) ∧ t.g? q = some 0 ∧ t.heard q ∧ ∀ i, i < p.n → ∃ r, RelBy (stA p.Wg) t (p.kk i) r ∧ r < q

/-- All have done, and the starter knows it. -/
def Fini (p : Ph) (m : Machine) (t : Trace) : Prop :=
  ∃ (gs : Array Goroutine) (w : World) (sl : Option (Nat × Nat)) (D : Nat → WD) (X : Nat → WX) (q : Nat → Nat) (a : Goroutine) (T : Array Value) (f : Nat),
    m = crowd gs w sl ∧ gs[0]? = some a ∧ osT p.Wg p.cb p.A p.off p.n p.cap p.n T ∧ GS p (fun _ => False) (Be p T) f a w ∧ AllQuit p.n D ∧ Com p p.n gs w t D X q 0 (fun _ => False) ∧ WgAt wgl.tWg p.Wg w 0 0 ∧ w.heap.size = p.N0 + 3 + 2 * p.n + nb p.n X ∧ AcqK p t

section
variable {p : Ph} {j : Nat} {gs : Array Goroutine} {w w' : World} {sl : Option (Nat × Nat)} {t : Trace} {D : Nat → WD} {X : Nat → WX} {q : Nat → Nat} {d0 f0 : Nat} {own0 own0' : Nat → Prop} {tag tag' : CTag} {a a' : Goroutine} {st sm st' sm' : Int} {es : Array Event} {f' d0' : Nat}

/-- What the starter may list. -/
def Ev0K (p : Ph) (X : Nat → WX) (j B : Nat) (e : Event) : Prop :=
  (∀ fn pos, Ok0 p.Sh NoOwn (RdX p X) (p.j0 + j) { g := 0, fn, pos, act := .ofEvent e }) ∧ (∀ x, (MemAct.ofEvent e).touch? = some x → x.loc.isMemory = true) ∧ e.loc ≠ .mark (.release (stA p.Wg)) ∧ (MemAct.ofEvent e).low B

/-- WHATEVER STEP OF THE STARTER's THAT IS NO go STATEMENT. -/
theorem cStep (ok : p.Ok) (ha : gs[0]? = some a) (hcom : Com p j gs w t D X q d0 own0) (hgo : stepG Try.prog true a w = .go a' w' es)
    (hw : ∀ i, i < j → WR p (X i) w w') (hs : w.heap.size ≤ w'.heap.size) (hev : ∀ e ∈ es, Ev0K p X j w'.heap.size e) (hss : SS p tag' j f' d0' own0' a' w') (hd : deafBehind d0 es = d0')
    (hown : ∀ b, own0' b → b < w'.heap.size ∧ p.N0 + 3 ≤ b ∧ ∀ i, i < j → (X i).L ≤ b ∧ (X i).own ≠ some b) (hch : ChanAt p j X w') (hF : p.F w') (hLW : Low0 p w') (hpl : ∀ b, p.N0 ≤ b → b < w'.heap.size → PlainAt w' b) (hz : w.heap.size = p.N0 + 3 + 2 * j + eOf tag + nb j X) (hz' : w'.heap.size + eOf tag = w.heap.size + eOf tag') (hwg : WgAt wgl.tWg p.Wg w' st' sm') (hm : ConcN.Mode j D tag' st' sm')
    (hlt : phi p.n (Vc j D) tag' < phi p.n (Vc j D) tag ∨ (phi p.n (Vc j D) tag' = phi p.n (Vc j D) tag ∧ f' < f0)) :
    ∃ m₁ u μ', runT Try.prog (crowd gs w sl) 0 = (.next m₁, u) ∧ Lt2 μ' (mu p j D q tag f0) ∧ Inv p μ' m₁ (t ++ u) := by
  have hrun := runT_crowd_go (P := Try.prog) (sl := sl) (i := 0) ha (by simpa using hgo)
  have hlt' : 0 < gs.size := (Array.getElem?_eq_some_iff.1 ha).1
  refine ⟨_, _, mu p j D q tag' f', hrun, ?_, _, w', sl, j, D, X, q, tag', f', d0', own0', a', st', sm', rfl, get_map_set_same _ _ _ hlt', hss, ?_, hwg, hm, by omega, rfl⟩
  · unfold mu
    rcases hlt with h | ⟨h1, h2⟩
    · exact Prod.Lex.left _ _ (by omega)
    · rw [h1]; exact Prod.Lex.right _ (by omega)
  · refine hcom.start ok (by simp) (fun k hk x hx hst => ?_) hw hs (fun op hop => ?_) (fun op hop x hx => ?_) (fun op hop => ?_) (fun op hop => ?_) ?_ hown hch hF hLW hpl
    · rw [get_map_set _ _ _ _ (by omega), hx, Option.map_some, woken_rf hst]
    · obtain ⟨e, he, rfl⟩ := Go.Conc.mem_ofEvents hop; exact (hev e he).1 _ _
    · obtain ⟨e, he, rfl⟩ := Go.Conc.mem_ofEvents hop; exact (hev e he).2.1 x hx
    · obtain ⟨e, he, rfl⟩ := Go.Conc.mem_ofEvents hop; exact fun hx => (hev e he).2.2.1 (loc_of_ofEvent hx)
    · obtain ⟨e, he, rfl⟩ := Go.Conc.mem_ofEvents hop; exact (hev e he).2.2.2
    · rw [Deaf_own, hcom.deaf0]; exact hd

/-- What an idle step of the starter's lists. -/
theorem ev0_D0 (ok : p.Ok) (hcom : Com p j gs w t D X q d0 own0) (h : D0 p.Wg p.rds own0 w w' es) : ∀ e ∈ es, Ev0K p X j w'.heap.size e := by
  intro e he
  have hsz := hcom.chlt ok
  have hbase := hcom.base
  have hsA := ok.sA
  have hes := h.evs e he
  have hwsz := h.size
  rcases hes with rfl | rfl | ⟨b, wr, rfl, hb⟩
  · refine ⟨fun fn pos => ⟨rfl, fun x hx => ?_⟩, fun x hx => ?_, by simp, by show p.Wg < _; omega⟩ <;> (simp only [MemAct.ofEvent, MemAct.touch?, Option.some.injEq] at hx; subst hx)
    · exact .inl ⟨.inr ⟨_, rfl, rfl⟩, by simp⟩
    · rfl
  · refine ⟨fun fn pos => ⟨rfl, fun x hx => ?_⟩, fun x hx => ?_, by simp, by show p.Wg < _; omega⟩ <;> (simp only [MemAct.ofEvent, MemAct.touch?, Option.some.injEq] at hx; subst hx)
    · exact .inl ⟨.inr ⟨_, rfl, rfl⟩, by simp⟩
    · rfl
  · have hnS : ¬ p.Sh (.cell b) := by
      rintro (hS | ⟨c, hc, hcW⟩)
      · obtain ⟨c, hc, h1, h2⟩ := ok.shun _ hS
        cases hc
        rcases hb with hb | ⟨hb, _⟩
        · have := (hcom.own0 _ hb).2.1; omega
        · exact h2 hb
      · cases hc
        rcases hb with hb | ⟨hb, _⟩
        · have := (hcom.own0 _ hb).2.1; have := ok.wg; omega
        · have hb' : b.block = p.A := hb
          have := ok.wg; have := ok.pl.A.1; omega
    refine ⟨fun fn pos => ⟨rfl, fun x hx => ?_⟩, fun x hx => ?_, by simp, ?_⟩
    · simp only [MemAct.ofEvent, MemAct.touch?, Option.some.injEq] at hx
      subst hx
      refine .inr ⟨hnS, fun _ _ _ hO => hO, fun hwr k k1 kj hR => ?_⟩
      obtain ⟨i, rfl, c, hc, _, _, h3⟩ := hR
      cases hc
      rcases hb with hb | ⟨_, hb⟩
      · have := (hcom.own0 _ hb).2.2 i (by unfold Ph.kk at kj; omega)
        rcases h3 with h3 | h3
        · omega
        · exact this.2 h3
      · subst hb; cases hwr
    · simp only [MemAct.ofEvent, MemAct.touch?, Option.some.injEq] at hx
      subst hx; rfl
    · show b.block < _
      rcases hb with hb | ⟨hb, _⟩
      · have := (hcom.own0 _ hb).1; omega
      · have hb' : b.block = p.A := hb
        omega

theorem D0.deaf {Wg : Nat} {rds own : Nat → Prop} (h : D0 Wg rds own w w' es) (d : Nat) : deafBehind d es = d :=
  deafBehind_idle (fun e he => by rcases h.evs e he with rfl | rfl | ⟨a, b, rfl, _⟩ <;> exact ⟨by simp, by simp⟩) d

/-- AN IDLE STEP OF THE STARTER's. -/
theorem cIdle (ok : p.Ok) (ha : gs[0]? = some a) (hcom : Com p j gs w t D X q d0 own0) (hwg : WgAt wgl.tWg p.Wg w st sm) (hm : ConcN.Mode j D tag st sm) (hgo : stepG Try.prog true a w = .go a' w' es)
    (hD : D0 p.Wg p.rds own0 w w' es) (hss : SS p tag j f' d0 own0 a' w') (hf : f' < f0) (hz : w.heap.size = p.N0 + 3 + 2 * j + eOf tag + nb j X) :
    ∃ m₁ u μ', runT Try.prog (crowd gs w sl) 0 = (.next m₁, u) ∧ Lt2 μ' (mu p j D q tag f0) ∧ Inv p μ' m₁ (t ++ u) := by
  have h0 : ∀ b, b < p.N0 + 3 → ¬ own0 b := fun b hb h => by have := (hcom.own0 b h).2.1; omega
  have hwg3 := ok.wg
  have hch3 := ok.ch
  have hcb3 := ok.cb
  have hA3 := ok.sA
  refine cStep ok ha hcom hgo (fun i hi => wr_of_D0 ok hcom hi hD) (by rw [hD.size]; exact Nat.le_refl _) (ev0_D0 ok hcom hD) hss (hD.deaf d0) (fun b hb => by rw [hD.size]; exact hcom.own0 b hb) (hcom.chan.keep (hD.keep _ (h0 _ (by omega)))) ?_ ⟨hD.tape.trans hcom.lowW.tape, hD.os.trans hcom.lowW.os, hD.output.trans hcom.lowW.output, fun b hb => (hD.keep b (h0 b (by omega))).trans (hcom.lowW.low b hb)⟩ (fun b hb hlt => hD.plain b (hcom.plain b hb (by rw [hD.size] at hlt; exact hlt))) hz (by rw [hD.size]) (hwg.of_block (hD.keep _ (h0 _ (by omega)))) hm (.inr ⟨rfl, hf⟩)
  exact hcom.F.mine ⟨hD.tape, hD.os, hD.output, hD.size, hD.keep, hD.plain⟩ (h0 _ (by omega)) (h0 _ (by omega)) (h0 _ (by omega))

/-- The library's bookkeeping, by the starter. -/
theorem ev0_bk (h : ∀ e ∈ es, Bk p.Wg e) {B : Nat} (hB : p.Wg < B) : ∀ e ∈ es, Ev0K p X j B e := by
  intro e he
  refine ⟨fun fn pos => ⟨rfl, fun x hx => ?_⟩, fun x hx => ?_, norel_of_Bk h e he, ?_⟩
  · rcases h e he with h1 | h1 | ⟨a, wr, rfl, ha⟩
    · simp only [ofEvent_loc_mark h1] at hx; cases hx
    · simp only [ofEvent_loc_mark h1] at hx; cases hx
    · simp only [ofEvent_cell, MemAct.touch?, Option.some.injEq] at hx
      subst hx
      exact .inl ⟨.inr ⟨a, rfl, ha⟩, by simp⟩
  · rcases h e he with h1 | h1 | ⟨a, wr, rfl, ha⟩
    · simp only [ofEvent_loc_mark h1] at hx; cases hx
    · simp only [ofEvent_loc_mark h1] at hx; cases hx
    · simp only [ofEvent_cell, MemAct.touch?, Option.some.injEq] at hx
      subst hx; rfl
  · rcases h e he with h1 | h1 | ⟨a, wr, rfl, ha⟩
    · rw [ofEvent_loc_mark h1]; trivial
    · rw [ofEvent_loc_mark h1]; trivial
    · rw [ofEvent_cell]; show a.block < B; omega

/-- A STEP OF THE LIBRARY's BOOKKEEPING, by the starter: at most the group's block turns. -/
theorem cBook (ok : p.Ok) (ha : gs[0]? = some a) (hcom : Com p j gs w t D X q d0 own0) (hgo : stepG Try.prog true a w = .go a' w' es)
    (hAs : w' = w ∨ ∃ ad vl, ad.block = p.Wg ∧ w' = w.setCell ad vl) (hwg : WgAt wgl.tWg p.Wg w' st' sm') (hbk : ∀ e ∈ es, Bk p.Wg e) (hss : SS p tag' j f' d0' own0 a' w') (hd : deafBehind d0 es = d0') (hz : w.heap.size = p.N0 + 3 + 2 * j + eOf tag + nb j X) (he : eOf tag' = eOf tag) (hm : ConcN.Mode j D tag' st' sm')
    (hlt : phi p.n (Vc j D) tag' < phi p.n (Vc j D) tag ∨ (phi p.n (Vc j D) tag' = phi p.n (Vc j D) tag ∧ f' < f0)) :
    ∃ m₁ u μ', runT Try.prog (crowd gs w sl) 0 = (.next m₁, u) ∧ Lt2 μ' (mu p j D q tag f0) ∧ Inv p μ' m₁ (t ++ u) := by
  have r : R0 p.Wg p.Ch w w' := by
    rcases hAs with rfl | ⟨ad, vl, had, rfl⟩
    · exact R0.refl w'
    · exact R0.setWg w ad vl had ⟨_, _, hwg⟩
  have hch : w'.heap[p.Ch]? = w.heap[p.Ch]? := by
    rcases hAs with rfl | ⟨ad, vl, had, rfl⟩
    · rfl
    · exact (mine_setCell (· = p.Wg) w ad vl had).keep _ ok.chwg
  have hsz := hcom.chlt ok
  have hsz' : w'.heap.size = w.heap.size := by
    rcases hAs with rfl | ⟨ad, vl, had, rfl⟩
    · rfl
    · exact (mine_setCell (· = p.Wg) w ad vl had).size
  have hpl : ∀ b, p.N0 ≤ b → b < w'.heap.size → PlainAt w' b := fun b hb hlt => by
    rcases hAs with rfl | ⟨ad, vl, had, rfl⟩
    · exact hcom.plain b hb hlt
    · exact (hcom.plain b hb (by omega)).setCell ad vl
  exact cStep ok ha hcom hgo (fun i hi => wr_of_R0 ok hcom hi r) r.size (ev0_bk hbk (Nat.lt_of_lt_of_le hsz.1 r.size)) hss hd (fun b hb => ⟨Nat.lt_of_lt_of_le (hcom.own0 b hb).1 r.size, (hcom.own0 b hb).2⟩) (hcom.chan.keep hch) (hcom.F.rely ok.pl r) (hcom.lowW.of_R0 ok (by have := hcom.base; omega) r) hpl hz (by rw [hsz', he]) hwg hm hlt

/-- A NEW BLOCK, by the starter. -/
theorem cNew (ok : p.Ok) (ha : gs[0]? = some a) (hcom : Com p j gs w t D X q d0 own0) (hwg : WgAt wgl.tWg p.Wg w st sm) {o : Obj} (hgo : stepG Try.prog true a w = .go a' (w.alloc o) #[])
    (hss : SS p tag' j f' d0 own0' a' (w.alloc o)) (hown : ∀ b, own0' b → own0 b ∨ b = w.heap.size) (ho : PlainObj o) (hz : w.heap.size = p.N0 + 3 + 2 * j + eOf tag + nb j X) (he : eOf tag' = eOf tag + 1) (hm : ConcN.Mode j D tag' st sm) (hlt : phi p.n (Vc j D) tag' < phi p.n (Vc j D) tag) :
    ∃ m₁ u μ', runT Try.prog (crowd gs w sl) 0 = (.next m₁, u) ∧ Lt2 μ' (mu p j D q tag f0) ∧ Inv p μ' m₁ (t ++ u) := by
  have hsz := hcom.chlt ok
  have hbase := hcom.base
  have hz1 : (w.alloc o).heap.size = w.heap.size + 1 := by show (w.heap.push o).size = _; simp
  refine cStep ok ha hcom hgo (fun i hi => wr_of_R0 ok hcom hi (R0.alloc w o hsz.1)) (by omega) (fun e he => by simp at he) hss rfl (fun b hb => ?_) (hcom.chan.keep (alloc_at hsz.2)) hcom.F.alloc (hcom.lowW.of_R0 ok (by omega) (R0.alloc w o hsz.1)) (fun b hb hlt => ?_) hz (by omega) (hwg.of_block (alloc_at hsz.1)) hm (.inl hlt)
  rotate_left
  · by_cases e : b < w.heap.size
    · exact (hcom.plain b hb e).of_eq (alloc_at e)
    · obtain rfl : b = w.heap.size := by omega
      exact ⟨_, alloc_new, ho⟩
  rcases hown b hb with h | rfl
  · obtain ⟨h1, h2, h3⟩ := hcom.own0 b h
    exact ⟨by omega, h2, h3⟩
  · refine ⟨by omega, hbase, fun i hi => ?_⟩
    obtain ⟨x1, x2, x3, _⟩ := hcom.xs i hi
    exact ⟨x2, fun h => by have := (x3 _ h).2; omega⟩

/-- The worker that a go statement starts. -/
theorem birth_of (ok : p.Ok) (hcom : Com p j gs w t D X q 0 own0) {i pb ab : Nat} (hin : i < p.n) (hp : own0 pb) (ha : own0 ab) (hf : WkF p.Ch p.cb pb ab i (p.ask i).1 (p.ask i).2 w) :
    WBirth p i w.heap.size 46 (born Try.prog (wkCall p.Wg p.cb pb ab)) w := by
  have hb := hcom.base
  have w1 := ok.wg
  have w2 := ok.ch
  have w3 := ok.cb
  obtain ⟨p1, p2, _⟩ := hcom.own0 pb hp
  obtain ⟨a1, a2, _⟩ := hcom.own0 ab ha
  obtain ⟨o1, o2, o3, o4, o5, o6, o7⟩ := ok.ord i hin
  have hP : WkP p.Wg p.Ch p.cb pb ab p.cb p.N0 w.heap.size := ⟨by omega, by have := ok.pl.cb; omega, by omega, by omega, by have := ok.pl.cb; omega, by omega, by omega⟩
  have h := work_go (j := i) (i := 0) (val := .chan (some p.Ch)) hP o1 o2 o3 o4 o5 o6 o7 w ⟨hf, hcom.F.live, hcom.F.ch, Nat.le_refl _⟩
  refine Goes.imp (fun g w hs => ?_) h
  obtain ⟨h1, g', h2, h3⟩ := hs
  exact ⟨h1, g', h2, pb, ab, h3⟩

/-- THE LOAD IN Wait. -/
theorem cW1 (ok : p.Ok) {T : Array Value} (hT : osT p.Wg p.cb p.A p.off p.n p.cap p.n T) (ha : gs[0]? = some a) (hcom : Com p p.n gs w t D X q 1 (fun _ => False)) (hwg : WgAt wgl.tWg p.Wg w st sm) (hm : ConcN.Mode p.n D .w1 st sm) (hz : w.heap.size = p.N0 + 3 + 2 * p.n + eOf .w1 + nb p.n X)
    (h : GS p (fun _ => False) (StW1 Try.prog (R0 p.Wg p.Ch) (D0 p.Wg p.rds fun _ => False) wgl.tWg p.Wg (Be p T) (An p T)) f0 a w) :
    ∃ m₁ u μ', runT Try.prog (crowd gs w sl) 0 = (.next m₁, u) ∧ Lt2 μ' (mu p p.n D q .w1 f0) ∧ Inv p μ' m₁ (t ++ u) := by
  have hn := ok.hn
  rcases Goes.cases h with hstop | ⟨m', rfl, hstep⟩
  · obtain ⟨_, hall⟩ := hstop w (R0.refl w)
    obtain ⟨ho, rfl, rfl, _⟩ := hm.open_inv trivial
    have hV := Vc_le p.n D
    obtain ⟨a', hgo, h0, hne⟩ := hall (Vc p.n D) (by omega) (by simpa [pend] using hwg)
    by_cases hv : Vc p.n D = 0
    · obtain ⟨m₂, hk⟩ := h0 hv
      refine cBook ok ha hcom hgo (hz := hz) (he := rfl) (.inl rfl) hwg ConcN.bk_rd (tag' := .ke) (.ke hT hk) rfl ?_ (.inl (by simp only [phi]; omega))
      have e : ((Vc p.n D + pend .w1 : Nat) : Int) * KK = 0 := by rw [hv]; simp [pend]
      rw [e]
      exact .fin trivial (allQuit_of ho hv)
    · obtain ⟨m₂, hk⟩ := hne hv
      exact cBook ok ha hcom hgo (hz := hz) (he := rfl) (.inl rfl) hwg ConcN.bk_rd (tag' := .w2 (Vc p.n D)) (.w2 hT hk) rfl (hm.reopen trivial trivial rfl (fun vs e => by cases e; omega)) (.inl (by simp only [phi]; omega))
  · obtain ⟨a', w', es, hgo, hD, hg'⟩ := hstep w (R0.refl w)
    exact cIdle ok ha hcom hwg hm hgo hD (.w1 hT hg') (by omega) hz

set_option maxHeartbeats 1600000 in
/-- EVERY STEP OF THE STARTER's. -/
theorem stepS (ok : p.Ok) (ha : gs[0]? = some a) (hss : SS p tag j f0 d0 own0 a w) (hcom : Com p j gs w t D X q d0 own0) (hwg : WgAt wgl.tWg p.Wg w st sm) (hm : ConcN.Mode j D tag st sm) (hz : w.heap.size = p.N0 + 3 + 2 * j + eOf tag + nb j X) (hrun : a.status = .running) :
    (∃ m₁ u μ', runT Try.prog (crowd gs w sl) 0 = (.next m₁, u) ∧ Lt2 μ' (mu p j D q tag f0) ∧ Inv p μ' m₁ (t ++ u)) ∨ (∃ m₁ u, runT Try.prog (crowd gs w sl) 0 = (.next m₁, u) ∧ Fini p m₁ (t ++ u)) := by
  have hVj := Vc_le j D
  have hn := ok.hn
  cases hss with
  | new1 hr h =>
    rcases Goes.cases h with hstop | ⟨m', rfl, hstep⟩
    · obtain ⟨_, a', hgo, hk⟩ := hstop w (R0.refl w)
      exact .inl (cNew ok ha hcom hwg hgo (.new2 hr hk) (fun b hb => .inr hb) rfl hz rfl (hm.reopen trivial trivial rfl (by simp)) (by simp only [phi]; omega))
    · obtain ⟨a', w', es, hgo, hD, hg'⟩ := hstep w (R0.refl w)
      exact .inl (cIdle ok ha hcom hwg hm hgo hD (.new1 hr hg') (by omega) hz)
  | new2 hr h =>
    rcases Goes.cases h with hstop | ⟨m', rfl, hstep⟩
    · obtain ⟨_, a', hgo, hk⟩ := hstop w (R0.refl w)
      exact .inl (cNew ok ha hcom hwg hgo (.add hr hk) (fun b hb => hb) rfl hz rfl (hm.reopen trivial trivial rfl (by simp)) (by simp only [phi]; omega))
    · obtain ⟨a', w', es, hgo, hD, hg'⟩ := hstep w (R0.refl w)
      exact .inl (cIdle ok ha hcom hwg hm hgo hD (.new2 hr hg') (by omega) hz)
  | add hr h =>
    rcases Goes.cases h with hstop | ⟨m', rfl, hstep⟩
    · obtain ⟨_, a', hgo, m₂, hk⟩ := hstop w (R0.refl w)
      exact .inl (cBook ok ha hcom hgo (hz := hz) (he := rfl) (.inl rfl) hwg ConcN.bk_dis (.a1 hr hk) rfl (hm.reopen trivial trivial rfl (by simp)) (.inl (by simp only [phi]; omega)))
    · obtain ⟨a', w', es, hgo, hD, hg'⟩ := hstep w (R0.refl w)
      exact .inl (cIdle ok ha hcom hwg hm hgo hD (.add hr hg') (by omega) hz)
  | a1 hr h =>
    rename_i r pb ab
    rcases Goes.cases h with hstop | ⟨m', rfl, hstep⟩
    · obtain ⟨_, hall⟩ := hstop w (R0.refl w)
      obtain ⟨ho, rfl, rfl, _⟩ := hm.open_inv trivial
      obtain ⟨a', hgo, m₂, hk⟩ := hall (Vc (p.n - (r + 1)) D) (by omega) (by simpa [pend] using hwg)
      refine .inl (cBook ok ha hcom hgo (hz := hz) (he := rfl) (.inr ⟨_, _, rfl, rfl⟩) (hwg.setSt _) ConcN.bk_rw (.ke0 hr hk) rfl ?_ (.inl (by simp only [phi]; omega)))
      have e : (((Vc (p.n - (r + 1)) D : Nat) : Int) + 1) * KK = ((Vc (p.n - (r + 1)) D + pend (.sp r 3) : Nat) : Int) * KK := by simp [pend]
      rw [e]
      exact .opn trivial ho (by simp)
    · obtain ⟨a', w', es, hgo, hD, hg'⟩ := hstep w (R0.refl w)
      exact .inl (cIdle ok ha hcom hwg hm hgo hD (.a1 hr hg') (by omega) hz)
  | ke0 hr h =>
    rcases Goes.cases h with hstop | ⟨m', rfl, hstep⟩
    · obtain ⟨_, a', hgo, m₂, hk⟩ := hstop w (R0.refl w)
      exact .inl (cBook ok ha hcom hgo (hz := hz) (he := rfl) (.inl rfl) hwg ConcN.bk_en (.go hr hk) rfl (hm.reopen trivial trivial rfl (by simp)) (.inl (by simp only [phi]; omega)))
    · obtain ⟨a', w', es, hgo, hD, hg'⟩ := hstep w (R0.refl w)
      exact .inl (cIdle ok ha hcom hwg hm hgo hD (.ke0 hr hg') (by omega) hz)
  | go hr h =>
    rename_i r pb ab
    rcases Goes.cases h with hstop | ⟨m', rfl, hstep⟩
    · obtain ⟨_, hf, a', hsp, hnext⟩ := hstop w (R0.refl w)
      obtain ⟨ho, rfl, rfl, _⟩ := hm.open_inv trivial
      have hjn : p.n - (r + 1) < p.n := by omega
      have hrun' := runT_crowd_spawn (P := Try.prog) (sl := sl) (i := 0) ha (by simpa using hsp)
      have hsz := hcom.size
      have hkk : gs.size = p.kk (p.n - (r + 1)) := by rw [hsz]; unfold Ph.kk; omega
      rw [hkk] at hrun'
      have hbirth := birth_of ok hcom hjn (.inl rfl) (.inr rfl) hf
      have hcom' := hcom.spawn ok hjn (a' := a') (x := { g := 0, fn := a.frame.fn, pos := a.frame.place, act := .go (p.kk (p.n - (r + 1))) }) (y := { g := p.kk (p.n - (r + 1)), fn := (born Try.prog (wkCall p.Wg p.cb pb ab)).frame.fn, pos := a.frame.place, act := .start }) ⟨rfl, rfl⟩ ⟨rfl, rfl⟩ hbirth
      have eu : t ++ ((MemOp.ofEvents 0 a.frame.fn a.frame.place #[]).push { g := 0, fn := a.frame.fn, pos := a.frame.place, act := .go (p.kk (p.n - (r + 1))) } |>.push { g := p.kk (p.n - (r + 1)), fn := (born Try.prog (wkCall p.Wg p.cb pb ab)).frame.fn, pos := a.frame.place, act := .start }) = t ++ #[{ g := 0, fn := a.frame.fn, pos := a.frame.place, act := .go (p.kk (p.n - (r + 1))) }, { g := p.kk (p.n - (r + 1)), fn := (born Try.prog (wkCall p.Wg p.cb pb ab)).frame.fn, pos := a.frame.place, act := .start }] := rfl
      generalize hM : (46 + p.fuelB (p.n - (r + 1)) + 50) = M at hcom'
      have eV : Vc (p.n - (r + 1) + 1) (upd D (p.n - (r + 1)) ⟨7, M, 0⟩) = Vc (p.n - (r + 1)) D + 1 := by
        simp only [Vc, sumTo, upd_same]
        rw [sumTo_upd_out D _ cnt (Nat.le_refl _)]; rfl
      have eS : Ssum (p.n - (r + 1) + 1) (upd D (p.n - (r + 1)) ⟨7, M, 0⟩) = Ssum (p.n - (r + 1)) D + 7 := by
        simp only [Ssum, sumTo, upd_same]
        rw [sumTo_upd_out D _ WD.stage (Nat.le_refl _)]
      have ho' : OpenSt (p.n - (r + 1) + 1) (upd D (p.n - (r + 1)) ⟨7, M, 0⟩) := fun i hi => by
        by_cases e : i = p.n - (r + 1)
        · subst e; rw [upd_same]; simp
        · rw [upd_ne D _ e]; exact ho i (by omega)
      have ha' : ((gs.setIfInBounds 0 a').push (born Try.prog (wkCall p.Wg p.cb pb ab)))[0]? = some a' := by
        have : 0 < gs.size := by omega
        rw [Array.getElem?_push_lt (by simpa using this), ← Array.getElem?_eq_getElem]
        simp [this]
      have ej : p.n - (r + 1) + 1 = p.n - r := by omega
      rw [ej] at hcom' eV eS ho'
      have est : ∀ tag', pend tag' = 0 → ((Vc (p.n - (r + 1)) D + pend (.sp r 2) : Nat) : Int) * KK = ((Vc (p.n - r) (upd D (p.n - (r + 1)) ⟨7, M, 0⟩) + pend tag' : Nat) : Int) * KK := fun tag' hp => by rw [eV, hp]; simp [pend]
      refine .inl ?_
      have enb : nb (p.n - r) (upd X (p.n - (r + 1)) ⟨w.heap.size, none, false⟩) = nb (p.n - (r + 1)) X := by
        rw [← ej]
        unfold nb
        simp only [sumTo, upd_same]
        rw [sumTo_upd_out X _ (fun x => if x.own.isSome then 1 else 0) (Nat.le_refl _)]; rfl
      have ez : w.heap.size = p.N0 + 3 + 2 * (p.n - r) + 0 + nb (p.n - r) (upd X (p.n - (r + 1)) ⟨w.heap.size, none, false⟩) := by
        rw [enb]
        have e2 : eOf (.sp r 2) = 2 := rfl
        rw [e2] at hz
        omega
      cases r with
      | zero =>
        simp only [Nat.sub_zero] at hcom' eV eS ho' est ez
        refine ⟨_, _, mu p p.n (upd D (p.n - (0 + 1)) ⟨7, M, 0⟩) q .kd 50, hrun', Prod.Lex.left _ _ (by simp only [phi]; omega), _, w, sl, p.n, _, _, q, .kd, 50, 0, _, a', _, _, rfl, ha', .kd hnext, hcom', hwg, ?_, ez, rfl⟩
        rw [est .kd rfl]
        exact .opn trivial ho' (by simp)
      | succ r' =>
        refine ⟨_, _, mu p (p.n - (r' + 1)) (upd D (p.n - (r' + 1 + 1)) ⟨7, M, 0⟩) q (.sp r' 7) 50, hrun', Prod.Lex.left _ _ (by simp only [phi]; omega), _, w, sl, p.n - (r' + 1), _, _, q, .sp r' 7, 50, 0, _, a', _, _, rfl, ha', .new1 (by omega) hnext, hcom', hwg, ?_, ez, rfl⟩
        rw [est (.sp r' 7) rfl]
        exact .opn trivial ho' (by simp)
    · obtain ⟨a', w', es, hgo, hD, hg'⟩ := hstep w (R0.refl w)
      exact .inl (cIdle ok ha hcom hwg hm hgo hD (.go hr hg') (by omega) hz)
  | kd h =>
    rcases Goes.cases h with hstop | ⟨m', rfl, hstep⟩
    · obtain ⟨T, hT, _, a', hgo, m₂, hk⟩ := hstop w (R0.refl w)
      exact .inl (cBook ok ha hcom hgo (hz := hz) (he := rfl) (.inl rfl) hwg ConcN.bk_dis (.anch hT hk) rfl (hm.reopen trivial trivial rfl (by simp)) (.inl (by simp only [phi]; omega)))
    · obtain ⟨a', w', es, hgo, hD, hg'⟩ := hstep w (R0.refl w)
      exact .inl (cIdle ok ha hcom hwg hm hgo hD (.kd hg') (by omega) hz)
  | anch hT h =>
    rename_i T
    rcases Goes.cases h with hstop | ⟨m', rfl, hstep⟩
    · obtain ⟨m₂, hk⟩ := st_wait (rds := p.rds) ok.pl T p.cs a w (hstop w (R0.refl w))
      obtain ⟨m₁, u, μ', h1, h2, h3⟩ := cW1 (sl := sl) ok hT ha hcom hwg (hm.reopen trivial trivial rfl (by simp)) hz hk
      exact .inl ⟨m₁, u, μ', h1, ConcN.lt2_trans h2 (Prod.Lex.left _ _ (by simp only [phi]; omega)), h3⟩
    · obtain ⟨a', w', es, hgo, hD, hg'⟩ := hstep w (R0.refl w)
      exact .inl (cIdle ok ha hcom hwg hm hgo hD (.anch hT hg') (by omega) hz)
  | w1 hT h => exact .inl (cW1 ok hT ha hcom hwg hm hz h)
  | w2 hT h =>
    rename_i T vs
    rcases Goes.cases h with hstop | ⟨m', rfl, hstep⟩
    · obtain ⟨_, hall⟩ := hstop w (R0.refl w)
      obtain ⟨ho, rfl, rfl, hw2⟩ := hm.open_inv trivial
      obtain ⟨hle, h1⟩ := hw2 vs rfl
      obtain ⟨hhit, hmiss⟩ := hall (Vc p.n D) (by omega) (by simpa [pend] using hwg)
      by_cases e : Vc p.n D = vs
      · obtain ⟨a', hgo, m₂, hk⟩ := hhit e
        exact .inl (cBook ok ha hcom hgo (hz := hz) (he := rfl) (.inr ⟨_, _, rfl, rfl⟩) (hwg.setSt _) ConcN.bk_rw (.w3 hT hk) rfl (.reg trivial ho (by omega)) (.inl (by simp only [phi]; omega)))
      · obtain ⟨a', hgo, m₂, hk⟩ := hmiss e
        exact .inl (cBook ok ha hcom hgo (hz := hz) (he := rfl) (.inl rfl) hwg ConcN.bk_rd (.anch hT hk) rfl (hm.reopen trivial trivial rfl (by simp)) (.inl (by simp only [phi]; omega)))
    · obtain ⟨a', w', es, hgo, hD, hg'⟩ := hstep w (R0.refl w)
      exact .inl (cIdle ok ha hcom hwg hm hgo hD (.w2 hT hg') (by omega) hz)
  | w3 hT h =>
    rename_i T m
    rcases Goes.cases h with hstop | ⟨m', rfl, hstep⟩
    · obtain ⟨_, hoff, hblk, htake⟩ := hstop w (R0.refl w)
      cases hm with
      | opn h1 _ _ => exact h1.elim
      | reg h1 h2 h3 => exact .inl (cBook ok ha hcom (hblk ⟨_, hwg⟩) (hz := hz) (he := rfl) (.inl rfl) hwg (by simp) (.blk hT hstop) rfl (.reg trivial h2 h3) (.inr ⟨rfl, by omega⟩))
      | last L h1 h2 h3 h4 => exact .inl (cBook ok ha hcom (hblk ⟨_, hwg⟩) (hz := hz) (he := rfl) (.inl rfl) hwg (by simp) (.blk hT hstop) rfl (.last L trivial h2 h3 h4) (.inr ⟨rfl, by omega⟩))
      | sema h2 =>
        obtain ⟨a', hgo, m₂, hk⟩ := htake hwg
        exact .inl (cBook ok ha hcom hgo (hz := hz) (he := rfl) (.inr ⟨_, _, rfl, rfl⟩) (hwg.setSm 0) ConcN.bk_sem (.w4 hT hk) (by simp [deafBehind, semEvents]) (.fin trivial h2) (.inl (by simp only [phi]; omega)))
      | fin h1 _ => exact h1.elim
    · obtain ⟨a', w', es, hgo, hD, hg'⟩ := hstep w (R0.refl w)
      exact .inl (cIdle ok ha hcom hwg hm hgo hD (.w3 hT hg') (by omega) hz)
  | blk hT h => simp at hrun
  | w4 hT h =>
    rcases Goes.cases h with hstop | ⟨m', rfl, hstep⟩
    · obtain ⟨_, hx⟩ := hstop w (R0.refl w)
      obtain ⟨hq, rfl, rfl⟩ := hm.fin_inv trivial
      obtain ⟨a', hgo, m₂, hk⟩ := hx hwg
      exact .inl (cBook ok ha hcom hgo (hz := hz) (he := rfl) (.inl rfl) hwg ConcN.bk_rd (.ke hT hk) rfl (.fin trivial hq) (.inl (by simp only [phi]; omega)))
    · obtain ⟨a', w', es, hgo, hD, hg'⟩ := hstep w (R0.refl w)
      exact .inl (cIdle ok ha hcom hwg hm hgo hD (.w4 hT hg') (by omega) hz)
  | ke hT h =>
    rcases Goes.cases h with hstop | ⟨m', rfl, hstep⟩
    · obtain ⟨_, a', hgo, m₂, hk⟩ := hstop w (R0.refl w)
      obtain ⟨hq, rfl, rfl⟩ := hm.fin_inv trivial
      exact .inl (cBook ok ha hcom hgo (hz := hz) (he := rfl) (.inl rfl) hwg ConcN.bk_en (.acq hT hk) rfl (.fin trivial hq) (.inl (by simp only [phi]; omega)))
    · obtain ⟨a', w', es, hgo, hD, hg'⟩ := hstep w (R0.refl w)
      exact .inl (cIdle ok ha hcom hwg hm hgo hD (.ke hT hg') (by omega) hz)
  | acq hT h =>
    rename_i T
    rcases Goes.cases h with hstop | ⟨m', rfl, hstep⟩
    · obtain ⟨_, a', hgo, m₂, hk⟩ := hstop w (R0.refl w)
      obtain ⟨hq, rfl, rfl⟩ := hm.fin_inv trivial
      have hsz := hcom.chlt ok
      have hlt' : 0 < gs.size := (Array.getElem?_eq_some_iff.1 ha).1
      have hrun' := runT_crowd_go (P := Try.prog) (sl := sl) (i := 0) ha (by simpa using hgo)
      have e1 : MemOp.ofEvents 0 a.frame.fn a.frame.place #[mk (.acquire (stA p.Wg))] = #[{ g := 0, fn := a.frame.fn, pos := a.frame.place, act := .mark (.acquire (stA p.Wg)) }] := by rw [ofEvents_eq]; simp [ofEvent_mk]
      rw [e1] at hrun'
      have hops : ∀ op ∈ #[({ g := 0, fn := a.frame.fn, pos := a.frame.place, act := .mark (.acquire (stA p.Wg)) } : MemOp)], op = { g := 0, fn := a.frame.fn, pos := a.frame.place, act := .mark (.acquire (stA p.Wg)) } := fun op hop => by simpa using hop
      have hy : (t ++ #[({ g := 0, fn := a.frame.fn, pos := a.frame.place, act := .mark (.acquire (stA p.Wg)) } : MemOp)])[t.size]? = some { g := 0, fn := a.frame.fn, pos := a.frame.place, act := .mark (.acquire (stA p.Wg)) } := by simp
      refine .inr ⟨_, _, hrun', _, w, sl, D, X, q, a', T, m₂, rfl, get_map_set_same _ _ _ hlt', hT, hk, hq, ?_, hwg, hz, t.size, by rw [act?_of hy], by simp [Trace.g?], ⟨0, by simp [Trace.g?], by rw [deaf_old (Nat.le_refl _)]; exact hcom.deaf0⟩, fun i hi => ?_⟩
      · refine hcom.start ok (by simp) (fun k hk x hx hst => ?_) (fun i hi => wr_of_R0 ok hcom hi (R0.refl w)) (Nat.le_refl _) (fun op hop => ?_) (fun op hop x hx => ?_) (fun op hop => ?_) (fun op hop => ?_) ?_ hcom.own0 hcom.chan hcom.F hcom.lowW hcom.plain
        · rw [get_map_set _ _ _ _ (by omega), hx, Option.map_some, woken_rf hst]
        · rw [hops op hop]; exact ⟨rfl, fun x hx => by cases hx⟩
        · rw [hops op hop] at hx; cases hx
        · rw [hops op hop]; simp
        · rw [hops op hop]; exact hsz.1
        · rw [Deaf_still t 0 _ fun op hop => by rw [hops op hop]; exact ⟨by simp, by simp⟩]; exact hcom.deaf0
      · obtain ⟨r, hr⟩ := hcom.rel i hi (by rw [hq i hi]; omega)
        exact ⟨r, hr.appOther (g := 0) (fun op hop => by rw [hops op hop]) (by unfold Ph.kk; omega), lt_of_act? hr.act⟩
    · obtain ⟨a', w', es, hgo, hD, hg'⟩ := hstep w (R0.refl w)
      exact .inl (cIdle ok ha hcom hwg hm hgo hD (.acq hT hg') (by omega) hz)
end

end Go.Proofs.Ythoaldiadgeonaa.Cr

namespace Go.Proofs.Ythoaldiadgeonaa.Cr
open Go.Conc Go.ConcR Go.RowKit Go.Conc.Lib Go.ConcR.Gen
open Go.ConcN

section
variable {p : Ph} {j : Nat} {gs : Array Goroutine} {w w' : World} {sl : Option (Nat × Nat)} {t : Trace} {D : Nat → WD} {X : Nat → WX} {q : Nat → Nat} {d0 f0 : Nat} {own0 : Nat → Prop} {tag : CTag} {a : Goroutine} {st sm : Int}

theorem all_awake' (ha : gs[0]? = some a) (hss : SS p tag j f0 d0 own0 a w) (hcom : Com p j gs w t D X q d0 own0) : ∀ g ∈ gs, awake g := by
  intro g hg
  obtain ⟨k, hk⟩ := Array.mem_iff_getElem?.1 hg
  have hlt : k < gs.size := (Array.getElem?_eq_some_iff.1 hk).1
  intro tm
  rcases Nat.eq_zero_or_pos k with rfl | hpos
  · rw [ha] at hk; cases hk
    rcases hss.status with ⟨hs, _⟩ | ⟨hs, _⟩ <;> rw [hs] <;> simp
  · by_cases hkj : k ≤ p.j0
    · rcases (hcom.old k g hpos hkj hk).status with h | h <;> rw [h] <;> simp
    · obtain ⟨i', rfl⟩ : ∃ i', k = p.kk i' := ⟨k - (p.j0 + 1), by unfold Ph.kk; omega⟩
      obtain ⟨g', hg', hs⟩ := hcom.wk i' (by have := hcom.size; unfold Ph.kk at hlt; omega)
      rw [hk] at hg'; cases hg'
      rcases hs.status with h | h <;> rw [h] <;> simp

/-- NO DEADLOCK. -/
theorem someone_runs' (ha : gs[0]? = some a) (hss : SS p tag j f0 d0 own0 a w) (hcom : Com p j gs w t D X q d0 own0) (hm : ConcN.Mode j D tag st sm) : ∃ (i : Nat) (g : Goroutine), gs[i]? = some g ∧ g.status = .running := by
  rcases hss.status with ⟨hs, _⟩ | ⟨_, _, rfl⟩
  · exact ⟨0, a, ha, hs⟩
  · cases hm with
    | opn h1 _ _ => exact h1.elim
    | reg _ _ h3 =>
      obtain ⟨i, hi, h5⟩ := exists_counted h3
      obtain ⟨g, hg, hs⟩ := hcom.wk i hi
      exact ⟨p.kk i, g, hg, hs.running_of (by omega)⟩
    | last L _ h2 h3 _ =>
      obtain ⟨g, hg, hs⟩ := hcom.wk L h2
      exact ⟨p.kk L, g, hg, hs.running_of (by omega)⟩
    | fin h1 _ => exact h1.elim

theorem crowd_step' (ok : p.Ok) (μ : Nat × Nat) (m : Machine) (t : Trace) (h : Inv p μ m t) :
    (∃ m' u μ', stepT Try.prog m = (.next m', u) ∧ Lt2 μ' μ ∧ Inv p μ' m' (t ++ u)) ∨ (∃ m' u, stepT Try.prog m = (.next m', u) ∧ Fini p m' (t ++ u)) := by
  obtain ⟨gs, w, sl, j, D, X, q, tag, f0, d0, own0, a, st, sm, rfl, ha, hss, hcom, hwg, hm, hz, rfl⟩ := h
  obtain ⟨i, g, d, sl', hg, hrun, hstep⟩ := crowd_pick (P := Try.prog) (w := w) (sl := sl) (all_awake' ha hss hcom) (someone_runs' ha hss hcom hm)
  rw [hstep]
  have hss' := hss.rely (R0.at w d)
  have hcom' := hcom.at ok d
  have hwg' : WgAt wgl.tWg p.Wg (w.at d) st sm := hwg
  have hlt : i < gs.size := (Array.getElem?_eq_some_iff.1 hg).1
  rcases Nat.eq_zero_or_pos i with rfl | hpos
  · rw [ha] at hg; cases hg
    exact stepS (sl := sl') ok ha hss' hcom' hwg' hm hz hrun
  · by_cases hkj : i ≤ p.j0
    · exact .inl (stepL (sl := sl') ok ha hss' hcom' hwg' hm hz hpos hkj hg hrun)
    · obtain ⟨i', rfl⟩ : ∃ i', i = p.kk i' := ⟨i - (p.j0 + 1), by unfold Ph.kk; omega⟩
      exact .inl (stepW (sl := sl') ok ha hss' hcom' hwg' hm hz (by have := hcom.size; unfold Ph.kk at hlt; omega) hg hrun)

theorem crowd_run' (ok : p.Ok) : ∀ (μ : Nat × Nat) (m : Machine) (t : Trace), Inv p μ m t → ∃ N m' t', runNT Try.prog N m t = (.next m', t') ∧ Fini p m' t' := by
  intro μ
  induction μ using (Prod.lex Nat.lt_wfRel Nat.lt_wfRel).wf.induction with
  | _ μ ih =>
    intro m t h
    rcases crowd_step' ok μ m t h with ⟨m', u, μ', h1, h2, h3⟩ | ⟨m', u, h1, h2⟩
    · obtain ⟨N, m'', t'', h4, h5⟩ := ih μ' h2 m' (t ++ u) h3
      exact ⟨N + 1, m'', t'', by simp only [runNT, h1]; exact h4, h5⟩
    · exact ⟨1, m', t ++ u, by simp only [runNT, h1], h2⟩

/-- FROM THE FRAME, AT THE LOOP's HEAD. -/
theorem crowd_begin (ok : p.Ok) {T : Array Value} (hF : Fr Try.prog p.Sh gs w t q) (hsz : gs.size = p.j0 + 1) (h0 : gs[0]? = some (osHead T p.cs)) (hT : osT p.Wg p.cb p.A p.off p.n p.cap 0 T)
    (hwg : WgAt wgl.tWg p.Wg w 0 0) (hch : ∃ s r tm, w.heap[p.Ch]? = some (.chan p.n #[] false s r tm)) (hK : p.F w) (hN : w.heap.size = p.N0 + 3) (hLW : Low0 p w) (hpl : ∀ b, p.N0 ≤ b → b < w.heap.size → PlainAt w b) (hnr : NoRelease (stA p.Wg) t) : ∃ μ, Inv p μ (crowd gs w sl) t := by
  have hgo : GS p (fun _ => False) (Spn p.Wg p.Ch p.cb p.A p.off p.n p.cap p.ask p.rds p.cs p.n) 30 (osHead T p.cs) w := st_loop (rds := p.rds) ok.pl rfl ok.hn ok.base p.n (Nat.le_refl _) (by rw [Nat.sub_self]; exact hT) w hK
  have hcom : Com p 0 gs w t (fun _ => ⟨0, 0, 0⟩) (fun _ => ⟨0, none, false⟩) q 0 (fun _ => False) := by
    refine ⟨hsz, Nat.zero_le _, fun i g hi _ hg => hF.leav.old i g hi hg, fun i hi => by omega, ⟨hF.quiet, fun k _ _ l hl => hl.elim, fun k _ hk l hl => ?_, fun l hS _ i b hb e => ?_, fun l hS _ i b hb e _ => ?_, hF.past.clean, fun i op hi => ?_⟩,
      hF.mem, hnr, hF.past.hears, fun i hi => by omega, fun i hi => by omega, fun i op x hi _ hx => ?_, fun i op x hi hg => ?_, fun i g hg hne _ hc => hF.past.over i g hg hne hc, hF.past.seen, by omega, fun i hi => by omega, fun b hb => hb.elim, ?_, hK, hLW, hpl⟩
    · obtain ⟨i, rfl, _⟩ := hl
      unfold Ph.kk at hk; omega
    · obtain ⟨op, hop, hox⟩ := touch_of hb
      exact (hF.past.known i b hb (hF.mem op (Array.mem_of_getElem? hop) b hox)).elim id fun x => absurd (e ▸ x.1) hS
    · obtain ⟨op, hop, hox⟩ := touch_of hb
      exact (hF.past.known i b hb (hF.mem op (Array.mem_of_getElem? hop) b hox)).elim id fun x => absurd (e ▸ x.1) hS
    · have := hF.gsN op (Array.mem_of_getElem? hi); omega
    · exact hF.past.known i x (by rw [touchAt_of hi]; exact hx) (hF.mem op (Array.mem_of_getElem? hi) x hx)
    · have := hF.gsN op (Array.mem_of_getElem? hi); omega
    · obtain ⟨s, r, tm, h⟩ := hch
      exact ⟨#[], s, r, tm, h, by simp⟩
  have hmode : ∀ tag, isOpen tag → pend tag = 0 → (∀ vs, tag ≠ .w2 vs) → ConcN.Mode 0 (fun _ => (⟨0, 0, 0⟩ : WD)) tag 0 0 := fun tag h1 h2 h3 => by
    have := ConcN.Mode.opn (j := 0) (D := fun _ => (⟨0, 0, 0⟩ : WD)) h1 (fun i hi => by omega) (fun vs e => absurd e (h3 vs))
    simpa [Vc, sumTo, h2] using this
  cases hn : p.n with
  | zero =>
    rw [hn] at hgo
    have hs : SS p .kd p.n 30 0 (fun _ => False) (osHead T p.cs) w := .kd (by rw [hn]; exact hgo)
    rw [hn] at hs
    exact ⟨_, gs, w, sl, 0, _, _, q, .kd, 30, 0, _, _, 0, 0, rfl, h0, hs, hcom, hwg, hmode .kd trivial rfl (by simp), hN, rfl⟩
  | succ r =>
    rw [hn] at hgo
    have hs : SS p (.sp r 7) (p.n - (r + 1)) 30 0 (fun _ => False) (osHead T p.cs) w := .new1 (by omega) (by
      have e := spn_succ p r
      rw [hn] at e
      rw [← e]; exact hgo)
    rw [hn, Nat.sub_self] at hs
    exact ⟨_, gs, w, sl, 0, _, _, q, .sp r 7, 30, 0, _, _, 0, 0, rfl, h0, hs, hcom, hwg, hmode (.sp r 7) trivial rfl (by simp), hN, rfl⟩

/-- AND BACK INTO THE FRAME. -/
theorem crowd_end (_ : p.Ok) {m : Machine} (h : Fini p m t) : ∃ (gs : Array Goroutine) (w : World) (sl : Option (Nat × Nat)) (X : Nat → WX) (q : Nat → Nat) (a : Goroutine) (T : Array Value) (f : Nat),
    m = crowd gs w sl ∧ gs.size = p.j0 + 1 + p.n ∧ gs[0]? = some a ∧ osT p.Wg p.cb p.A p.off p.n p.cap p.n T ∧ GS p (fun _ => False) (Be p T) f a w ∧ Fr Try.prog p.Sh gs w t q ∧ p.F w ∧ w.heap.size = p.N0 + 3 + 3 * p.n ∧ Low0 p w ∧ (∀ b, p.N0 ≤ b → b < w.heap.size → PlainAt w b) ∧ (∀ i, i < p.n → (X i).sent = true) ∧ ChanAt p p.n X w := by
  obtain ⟨gs, w, sl, D, X, q, a, T, f, rfl, h0, hT, hgo, hq, hcom, hwg, hz, qa, a1, a2, a3, a4⟩ := h
  have wkq : ∀ k g, gs[k]? = some g → p.j0 < k → ∃ i, k = p.kk i ∧ i < p.n ∧ QuitsD Try.prog (D i).fuel (Deaf t k) g ∧ (X i).sent = true := by
    intro k g hg hk
    have hlt : k < gs.size := (Array.getElem?_eq_some_iff.1 hg).1
    obtain ⟨i, rfl⟩ : ∃ i, k = p.kk i := ⟨k - (p.j0 + 1), by unfold Ph.kk; omega⟩
    have hi : i < p.n := by have := hcom.size; unfold Ph.kk at hlt; omega
    obtain ⟨g', hg', hs⟩ := hcom.wk i hi
    rw [hg] at hg'; cases hg'
    exact ⟨i, rfl, hi, by rw [hcom.deafW i hi]; exact hs.quits (hq i hi), hs.sent_of (by rw [hq i hi]; omega)⟩
  have hedge : ∀ k, p.j0 < k → k ≤ p.j0 + p.n → ∃ r, RelBy (stA p.Wg) t k r ∧ r < qa ∧ HappensBefore t r qa := by
    intro k h1 h2
    obtain ⟨i, rfl⟩ : ∃ i, k = p.kk i := ⟨k - (p.j0 + 1), by unfold Ph.kk; omega⟩
    obtain ⟨r, hr, hrq⟩ := a4 i (by unfold Ph.kk at h2; omega)
    exact ⟨r, hr, hrq, .single (.inr ⟨.marked hrq (.inr hr.act) a1 (fun k _ _ => hcom.norel k), hr.heard, a3⟩)⟩
  have hover : ∀ i op, t[i]? = some op → p.j0 < op.g → t.counts i → HappensBefore t i qa := by
    intro i op hi hg hc
    obtain ⟨r, hr, hrq, edge⟩ := hedge op.g hg (hcom.ct.gs i op hi)
    have hgi : t.g? i = some op.g := by simp [Trace.g?, hi]
    have hle : i ≤ r := Nat.le_of_not_lt fun hlt => hr.after i hlt hgi hc
    rcases Nat.lt_or_ge i r with hlt | hge
    · exact .trans (.single (.inl ⟨hlt, op.g, hgi, hr.g⟩)) edge
    · obtain rfl : i = r := by omega
      exact edge
  refine ⟨gs, w, sl, X, fun k => if k ≤ p.j0 then q k else (D (k - (p.j0 + 1))).fuel, a, T, f, rfl, hcom.size, h0, hT, hgo, ⟨⟨fun k g hk hg => ?_, fun k hk => ?_⟩, ⟨hcom.ct.nr, fun i b hb hmem => ?_, fun i g hg hne hc => ?_, hcom.deaf0, hcom.seen⟩, hcom.ct.quiet, hcom.mem, fun op hop => ?_⟩, hcom.F, ?_, hcom.lowW, hcom.plain, fun i hi => ?_, hcom.chan⟩
  · by_cases hkj : k ≤ p.j0
    · simp only [hkj, if_true]; exact hcom.old k g hk hkj hg
    · obtain ⟨i, rfl, hi, hqq, _⟩ := wkq k g hg (by omega)
      have e : p.kk i - (p.j0 + 1) = i := by unfold Ph.kk; omega
      simp only [hkj, if_false, e]
      exact hqq
  · exact Deaf_absent fun i op hi e => by have := hcom.ct.gs i op hi; have := hcom.size; omega
  · obtain ⟨op, hop, hox⟩ := touch_of hb
    by_cases hle : op.g ≤ p.j0
    · exact hcom.knO i op b hop hle hox
    · by_cases hk : b.kind = .atomic
      · exact .inr ⟨hcom.knW i op b hop (by omega) hox hk, hk⟩
      · have hc : t.counts i := ⟨b, by rw [touchAt_of hop] at hb; simp only [Trace.act?, hop]; exact hb, hmem, .inl hk⟩
        have hz : ∃ z, t[qa]? = some z ∧ z.g = 0 := by
          unfold Trace.g? at a2
          obtain ⟨z, hz, hz0⟩ := Option.map_eq_some_iff.1 a2
          exact ⟨z, hz, hz0⟩
        obtain ⟨z, hz, hz0⟩ := hz
        exact .inl ⟨qa, z, hz, hz0, .inr (hover i op hop (by omega) hc)⟩
  · obtain ⟨op, hop, rfl⟩ : ∃ op, t[i]? = some op ∧ op.g = g := by
      unfold Trace.g? at hg
      obtain ⟨z, hz, hz0⟩ := Option.map_eq_some_iff.1 hg
      exact ⟨z, hz, hz0⟩
    by_cases hle : op.g ≤ p.j0
    · exact hcom.over i op.g hg hne hle hc
    · exact ⟨qa, a2, hover i op hop (by omega) hc⟩
  · obtain ⟨i, hi⟩ := Array.mem_iff_getElem?.1 hop
    have := hcom.ct.gs i op hi
    have := hcom.size
    omega
  · have e1 : nb p.n X = p.n := by
      have : ∀ k, k ≤ p.n → sumTo k (fun i => if (X i).own.isSome then 1 else 0) = k := by
        intro k
        induction k with
        | zero => intro _; rfl
        | succ k ih =>
          intro hk
          obtain ⟨g', hg', hs⟩ := hcom.wk k (by omega)
          have h1 := (hcom.xs k (by omega)).2.2.2 (hs.sent_of (by rw [hq k (by omega)]; omega))
          simp only [sumTo, ih (by omega), h1, if_true]
      exact this p.n (Nat.le_refl _)
    omega
  · have hlt : p.kk i < gs.size := by have := hcom.size; unfold Ph.kk; omega
    obtain ⟨i', e, _, _, hs⟩ := wkq (p.kk i) gs[p.kk i] (Array.getElem?_eq_getElem hlt) (by unfold Ph.kk; omega)
    obtain rfl : i' = i := by unfold Ph.kk at e; omega
    exact hs

/-- The starter's steps are tame. -/
theorem tame_D0 (ok : p.Ok) (h : p.N0 + 3 ≤ w.heap.size) {es : Array Event} (hd : D0 p.Wg p.rds (fun _ => False) w w' es) : w.heap.size ≤ w'.heap.size ∧ ∀ e ∈ es, Tame p.Sh w'.heap.size e := by
  have hs := hd.size
  have h1 := ok.wg
  have h2 := ok.sA
  refine ⟨by rw [hs]; exact Nat.le_refl _, fun e he => ?_⟩
  rcases hd.evs e he with rfl | rfl | ⟨b, wr, rfl, hb⟩
  · refine ⟨fun x hx => ?_, by show p.Wg < _; omega, by simp, by simp, by simp⟩
    simp only [MemAct.ofEvent, MemAct.touch?, Option.some.injEq] at hx
    subst hx
    exact ⟨rfl, fun _ => by simp⟩
  · refine ⟨fun x hx => ?_, by show p.Wg < _; omega, by simp, by simp, by simp⟩
    simp only [MemAct.ofEvent, MemAct.touch?, Option.some.injEq] at hx
    subst hx
    exact ⟨rfl, fun _ => by simp⟩
  · have hbA : b.block = p.A := hb.elim False.elim (·.1)
    refine ⟨fun x hx => ?_, by show b.block < _; omega, by simp, by simp, by simp⟩
    simp only [MemAct.ofEvent, MemAct.touch?, Option.some.injEq] at hx
    subst hx
    refine ⟨rfl, fun hS => ?_⟩
    rcases hS with hS | ⟨c, hc, hcW⟩
    · obtain ⟨c, hc, _, h4⟩ := ok.shun _ hS
      cases hc
      exact absurd hbA h4
    · cases hc; have := ok.pl.A.1; omega

/-- What holds of the world throughout, told with the steps. -/
theorem Goes.inv {P : Program} {main : Bool} {R : World → World → Prop} {D : World → World → Array Event → Prop} {Stop : Goroutine → World → Prop} {I : World → Prop} (hR : ∀ a b, I a → R a b → I b) (hD : ∀ a b es, I a → D a b es → I b) :
    ∀ {n : Nat} {g : Goroutine} {w : World}, I w → Goes P main R D Stop n g w → Goes P main R (fun a b es => I a ∧ D a b es) (fun g w => Stop g w ∧ I w) n g w
  | 0, _, _, hI, hg => fun w₁ r => ⟨hg w₁ r, hR _ _ hI r⟩
  | _ + 1, _, _, hI, hg => hg.imp (fun hs w₁ r => ⟨hs w₁ r, hR _ _ hI r⟩) fun ⟨hr, hst⟩ => ⟨hr, fun w₁ r => by
      obtain ⟨g', w', es, e, hd, hn⟩ := goes_elim (hst w₁ r)
      rw [e]
      exact ⟨⟨hR _ _ hI r, hd⟩, Goes.inv hR hD (hD _ _ _ (hR _ _ hI r) hd) hn⟩⟩

/-- ████ FROM THE LOOP's HEAD TO THE MOMENT BEHIND Wait. ████ -/
theorem crowd_through (ok : p.Ok) {T : Array Value} (hF : Fr Try.prog p.Sh gs w t q) (hsz : gs.size = p.j0 + 1) (h0 : gs[0]? = some (osHead T p.cs)) (hT : osT p.Wg p.cb p.A p.off p.n p.cap 0 T)
    (hwg : WgAt wgl.tWg p.Wg w 0 0) (hch : ∃ s r tm, w.heap[p.Ch]? = some (.chan p.n #[] false s r tm)) (hK : p.F w) (hN : w.heap.size = p.N0 + 3) (hLW : Low0 p w) (hpl : ∀ b, p.N0 ≤ b → b < w.heap.size → PlainAt w b) (hnr : NoRelease (stA p.Wg) t) :
    ∃ (N : Nat) (gs' : Array Goroutine) (w' : World) (sl' : Option (Nat × Nat)) (t' : Trace) (q' : Nat → Nat) (T' : Array Value) (X : Nat → WX),
      runNT Try.prog N (crowd gs w sl) t = (.next (crowd gs' w' sl'), t') ∧ gs'.size = p.j0 + 1 + p.n ∧ gs'[0]? = some (osBehind T' p.cs) ∧ osT p.Wg p.cb p.A p.off p.n p.cap p.n T' ∧ Fr Try.prog p.Sh gs' w' t' q' ∧ p.F w' ∧ w'.heap.size = p.N0 + 3 + 3 * p.n ∧ Low0 p w' ∧ (∀ b, p.N0 ≤ b → b < w'.heap.size → PlainAt w' b) ∧ (∀ i, i < p.n → (X i).sent = true) ∧ ChanAt p p.n X w' := by
  obtain ⟨μ, hI⟩ := crowd_begin (sl := sl) ok hF hsz h0 hT hwg hch hK hN hLW hpl hnr
  obtain ⟨N1, m1, t1, r1, hfin⟩ := crowd_run' ok μ _ _ hI
  obtain ⟨gs1, w1, sl1, X, q1, a1, T1, f1, rfl, e1, e2, e3, e4, e5, e6, e7, e8, e9, e10, e11⟩ := crowd_end ok hfin
  have hg : Goes Try.prog true AtRel (fun a b es => (a.heap.size = p.N0 + 3 + 3 * p.n ∧ Low0 p a ∧ (∀ b, p.N0 ≤ b → b < a.heap.size → PlainAt a b) ∧ ChanAt p p.n X a) ∧ D0 p.Wg p.rds (fun _ => False) a b es)
      (fun g w => Be p T1 g w ∧ (w.heap.size = p.N0 + 3 + 3 * p.n ∧ Low0 p w ∧ (∀ b, p.N0 ≤ b → b < w.heap.size → PlainAt w b) ∧ ChanAt p p.n X w)) f1 a1 w1 := by
    refine Goes.inv (I := fun w => w.heap.size = p.N0 + 3 + 3 * p.n ∧ Low0 p w ∧ (∀ b, p.N0 ≤ b → b < w.heap.size → PlainAt w b) ∧ ChanAt p p.n X w) (fun a b h r => ?_) (fun a b es h d => ?_) ⟨e7, e8, e9, e11⟩ (Goes.narrow (fun a b ⟨d, hd⟩ => by subst hd; exact R0.at a d) e4)
    · obtain ⟨d, rfl⟩ := r
      exact ⟨h.1, ⟨h.2.1.tape, h.2.1.os, h.2.1.output, h.2.1.low⟩, h.2.2.1, h.2.2.2⟩
    · exact ⟨by rw [d.size]; exact h.1, ⟨d.tape.trans h.2.1.tape, d.os.trans h.2.1.os, d.output.trans h.2.1.output, fun b hb => (d.keep b id).trans (h.2.1.low b hb)⟩, fun b hb hlt => d.plain b (h.2.2.1 b hb (by rw [d.size] at hlt; exact hlt)), h.2.2.2.keep (d.keep _ id)⟩
  obtain ⟨N2, gs2, a2, w2, sl2, t2, q2, r2, z2, h02, ⟨⟨rfl, hF2⟩, hN2, hL2, hP2, hC2⟩, F2, _⟩ := fr_walk (fun w w' es ⟨⟨h1, _⟩, h2⟩ => tame_D0 ok (by omega) h2) _ f1 gs1 a1 w1 sl1 t1 q1 (Nat.le_refl _) e2 e5 hg
  exact ⟨N1 + N2, gs2, w2, sl2, t2, q2, T1, X, by rw [runNT_add, r1]; exact r2, z2.trans e1, h02, e3, F2, hF2, hN2, hL2, hP2, e10, hC2⟩
end

end Go.Proofs.Ythoaldiadgeonaa.Cr
