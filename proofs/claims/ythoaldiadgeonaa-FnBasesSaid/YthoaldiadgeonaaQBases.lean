/-
  Bases by their order, the program's side over the changed body of orders.
-/
import Derived.Test.YthoaldiadgeonaaQFull
import Derived.Test.YthoaldiadgeonaaTq
namespace Go.Proofs.Ythoaldiadgeonaa
set_option maxRecDepth 100000
open Go.RowKit Go.Proofs.Ythoaldiadgeonaa.Tq

/-- An order, of the second part too. -/
theorem ord_of_rnd {x s m : Nat} (hs : s ≤ 1000) (h : IsRnd x s m) : Tq.Ord x s m := by
  rcases h with ⟨rfl, rfl⟩ | ⟨h2, h⟩
  · exact ⟨Nat.le_refl _, by omega, fun j h1 h2 => by omega, by rw [Nat.mod_one, Nat.mod_one]⟩
  · exact ord_of_len h2 hs h
theorem rnd_small {b s k : Nat} (hs : s ≤ 1000) (h : IsRnd b s k) : 1 ≤ k ∧ k ≤ 1000 := by
  rcases h with ⟨rfl, rfl⟩ | ⟨h2, h⟩
  · omega
  · have := h.pos
    have := h.le (show 1 < s by omega)
    omega

set_option maxHeartbeats 4000000 in
theorem imBases : ImBases := by
  constructor
  · intro n k h w
    by_cases h1 : 2 ≤ n ∧ n ≤ 1000
    · have j1 : decide (2 ≤ n ∧ n ≤ 1000) = true := by simpa using h1
      rcases Int.lt_or_le k 1 with hk | hk
      · have i1 : decide (k < 1) = true := by simpa using hk
        clear h h1
        go_enter Tryq.func18, Try.ntmps18
        go_wp2_with (first | (go_at_call 25; refine (bottomIn_any _ _).mono ?_; rintro e w' ⟨rfl, rfl⟩))
        go_ret2
        exact ⟨_, rfl, Slc.nil _ _, Below.refl _ _⟩
      · have i1 : decide (k < 1) = false := by simp; omega
        have i2 : decide (1000 < k) = true := by simp; omega
        have hk2 : 1000 < k := by omega
        clear h h1
        go_enter Tryq.func18, Try.ntmps18
        go_wp2_with (first | (go_at_call 25; refine (bottomIn_any _ _).mono ?_; rintro e w' ⟨rfl, rfl⟩))
        go_ret2
        exact ⟨_, rfl, Slc.nil _ _, Below.refl _ _⟩
    · have j1 : decide (2 ≤ n ∧ n ≤ 1000) = false := by simpa using h1
      clear h h1
      go_enter Tryq.func18, Try.ntmps18
      go_wp2_with (go_at_call 25; refine (bottomIn_any _ _).mono ?_; rintro e w' ⟨rfl, rfl⟩)
      go_ret2
      exact ⟨_, rfl, Slc.nil _ _, Below.refl _ _⟩
  · intro n k L hn hn2 hk1 hk2 hL w
    have j1 : decide (2 ≤ (n : Int) ∧ (n : Int) ≤ 1000) = true := by simp; omega
    have i1 : decide ((k : Int) < 1) = false := by simp; omega
    have i2 : decide (1000 < (k : Int)) = false := by simp; omega
    have hch : ∀ c, ∃ y : Nat × Nat × Nat, 2 ≤ c → IsSplit c n y.1 y.2.1 ∧ IsRnd c y.2.1 y.2.2 := fun c => by
      obtain ⟨f, s, h1⟩ := split_some (b := c) (n := n) (by omega)
      have hsp : 0 < s := Nat.pos_of_ne_zero fun e => by have := h1.eq; rw [e, Nat.mul_zero] at this; omega
      obtain ⟨m, hm⟩ := rnd_some hsp h1.cop
      exact ⟨(f, s, m), fun _ => ⟨h1, hm⟩⟩
    obtain ⟨y, hy⟩ : ∃ y : Nat → Nat × Nat × Nat, ∀ c, 2 ≤ c → IsSplit c n (y c).1 (y c).2.1 ∧ IsRnd c (y c).2.1 (y c).2.2 := ⟨fun c => Classical.choose (hch c), fun c => Classical.choose_spec (hch c)⟩
    have hsb : ∀ c, 2 ≤ c → 1 ≤ (y c).2.1 ∧ (y c).2.1 ≤ 1000 := fun c hc => by
      have h := (hy c hc).1.eq
      have h1 : 0 < (y c).1 := Nat.pos_of_ne_zero fun e => by rw [e, Nat.zero_mul] at h; omega
      have h2 : 0 < (y c).2.1 := Nat.pos_of_ne_zero fun e => by rw [e, Nat.mul_zero] at h; omega
      have h3 : (y c).2.1 ≤ n := by rw [← h]; exact Nat.le_mul_of_pos_left _ h1
      omega
    have HY := Lib.hid hy; have HS := Lib.hid hsb; have HL := Lib.hid hL
    clear hch hy hsb hL
    go_enter Tryq.func18, Try.ntmps18
    go_wp2_with (first | (go_at_call 25; refine (bottomIn_any _ _).mono ?_; rintro e w' ⟨rfl, rfl⟩))
    obtain ⟨i0, hi, hz0, hz1, hz2⟩ := info_parts infoAsk
    obtain ⟨i9, hi1, hy0, hy1, hy2⟩ := info_parts infoInt
    go_loopw [6, 7, 8, 9] (fun v x _ _ wr => ∃ q : Nat, q ≤ 15 ∧ x = .int .i64 ((q : Int) + 2) ∧ wr.ownsRow w.heap.size 43 2 v q (askL (fun j => (j + 2, (y (j + 2)).2.1)) q) ∧ Below w.heap.size w wr) (fun _ x _ _ _ => 17 - (intOf x).toNat)
    case atStart =>
      refine ⟨0, by omega, rfl, ?_, (Below.refl _ _).alloc (Nat.le_refl _) _⟩
      exact World.ownsRow_made (base := w.heap.size) (e := 43) (size := 2) w #[] 0 (Nat.le_refl _) (by simp) (by simp)
    case round =>
      obtain ⟨q, hq, rfl, hown, hbel⟩ := hrel
      have HW := Lib.hid hown
      have HB := Lib.hid hbel
      have hwsz := hbel.size
      clear hown hbel
      by_cases hlt : q < 15
      · have hi2 : decide ((q : Int) + 2 ≤ 16) = true := by simp; omega
        have HP : Hid (∀ wx, Calls Tryq.prog 40 #[.int .i64 ((q : Int) + 2), .int .i64 n] wx fun e w' => ∃ f : Nat, e = .returned (.tuple #[.int .i64 f, .int .i64 ((y (q + 2)).2.1 : Nat)]) ∧ wx = w') := fun wx => by
          have h := split_any (q + 2) n (by omega) (by omega) hn hn2 wx
          refine h.mono ?_
          rintro e w' ⟨f, s, h1, rfl, rfl⟩
          obtain ⟨rfl, rfl⟩ := h1.unique (by omega) (HY.out (q + 2) (by omega)).1
          exact ⟨_, rfl, rfl⟩
        go_wp2_with fail
        refine (HP.out _).mono ?_
        rintro e w1 ⟨f, rfl, rfl⟩
        clear HP
        go_wp2_with (at_builtin; refine wpList_append_own_at _ rfl _ _ 40 rfl w.heap.size 43 i0 (.agg #[.int .i64 0, .int .i64 0]) 2 16 Tryq.underlying40 hi hz0 hz1 hz2 rfl (by decide) _ _ _ rfl (HW.out.alloc _) ⟨wr.heap.size, 0, none⟩ 1 1 [.int .i64 ((q : Int) + 2), .int .i64 ((y (q + 2)).2.1 : Nat)] rfl rfl ?c1 ?c2 ?c3 ?c4 ?c5 ?_)
        case c1 => exact cell_two_new _ _ _ _
        case c2 => simp [Value.oneCell']
        case c3 => unfold maxLen; omega
        case c4 => omega
        case c5 => (try simp); omega
        intro v' w3 hown' hgrow _ _
        have hbel3 := (HB.out.alloc HB.out.size (.cells #[.int .i64 ((q : Int) + 2), .int .i64 ((y (q + 2)).2.1 : Nat)] 43)).grown hgrow (by simp; omega) (fun q e => by
          rcases HW.out.2 with ⟨rfl, _⟩ | ⟨g', cap', cur', rfl, hb, _⟩
          · cases e
          · cases e; exact hb)
        have hown3 : w3.ownsRow w.heap.size 43 2 v' (q + 1) (askL (fun j => (j + 2, (y (j + 2)).2.1)) (q + 1)) := hown'
        clear hown' HW hgrow
        have HW3 := Lib.hid hown3
        clear hown3
        go_wp2_with fail
        exact ⟨⟨q + 1, by omega, by simp; omega, HW3.out, hbel3⟩, by simp [intOf]; omega⟩
      · obtain rfl : q = 15 := by omega
        have hok : ∀ j, j < 15 → ((j + 2, (y (j + 2)).2.1) : Nat × Nat).1 ≤ 1000 ∧ 1 ≤ ((j + 2, (y (j + 2)).2.1) : Nat × Nat).2 ∧ ((j + 2, (y (j + 2)).2.1) : Nat × Nat).2 ≤ 15000 ∧ Tq.Ord ((j + 2, (y (j + 2)).2.1) : Nat × Nat).1 ((j + 2, (y (j + 2)).2.1) : Nat × Nat).2 (y (j + 2)).2.2 := fun j hj => by
          obtain ⟨h1, h2⟩ := HS.out (j + 2) (by omega)
          exact ⟨by show j + 2 ≤ 1000; omega, h1, by show (y (j + 2)).2.1 ≤ 15000; omega, ord_of_rnd h2 (HY.out (j + 2) (by omega)).2⟩
        have HK := Lib.hid hok
        clear hok
        go_wp2_with fail
        refine (orders_own (ord := fun j => (y (j + 2)).2.2) (by omega) (HW.out.alloc _) HK.out).mono ?_
        rintro e w2 ⟨g2, rfl, hsl2, hb2⟩
        have hlen2 : ((List.range 15).map fun j => (((y (j + 2)).2.2 : Nat) : Int)).length = 15 := by simp
        have hsz0 : (wr.alloc (.cells #[] 3)).heap.size = wr.heap.size + 1 := by simp
        have hbel2 : Below w.heap.size w w2 := (HB.out.alloc HB.out.size _).trans (hb2.mono (by omega))
        have hask2 := owns_later (HW.out.alloc (.cells #[] 3)) hb2
        have hfull2 := owns_later (World.ownsRow_made (base := w.heap.size) (e := 3) (size := 1) wr #[] 0 hwsz (by simp) (by simp)) hb2
        have hob2 : ∀ k, (Value.slice (some ⟨wr.heap.size, 0, none⟩) 0 0).ownBlock = some k → k ≠ g2 ∧ ∀ ga, u6.ownBlock = some ga → k ≠ ga := fun k e => by
          cases e
          refine ⟨fun (e : wr.heap.size = g2) => ?_, fun ga e (e2 : wr.heap.size = ga) => ?_⟩
          · have := hsl2.ownQ.1
            omega
          · have := (HW.out.lt ga e).2
            omega
        have HOB := Lib.hid hob2
        have hsl3 := hsl2.mono (show w.heap.size ≤ (wr.alloc (.cells #[] 3)).heap.size by omega)
        clear hsl2
        clear HW HB HK hb2 hsz0 hob2
        go_wp2_with fail
        go_loopw [10, 11, 12, 45] (fun v _ _ x wr => ∃ (q : Nat) (L0 : List Int), q ≤ 15 ∧ x = .int .i64 q ∧ Hid (Bas n k (q + 2) L0) ∧ wr.ownsRow w.heap.size 3 1 v L0.length (L0.map (Value.int .i64)) ∧ Hid (∀ k, v.ownBlock = some k → k ≠ g2 ∧ ∀ ga, u6.ownBlock = some ga → k ≠ ga) ∧ wr.ownsRow w.heap.size 43 2 u6 15 (askL (fun j => (j + 2, (y (j + 2)).2.1)) 15) ∧ Slc w.heap.size wr (.slice (some ⟨g2, 0, none⟩) 15 15) ((List.range 15).map fun j => (((y (j + 2)).2.2 : Nat) : Int)) ∧ Below w.heap.size w wr) (fun _ _ _ x _ => 15 - (intOf x).toNat)
        case atStart => exact ⟨0, [], by omega, rfl, ⟨[], ⟨[], rfl, .inl ⟨Nat.zero_lt_two, rfl⟩⟩, .inl ⟨Nat.one_lt_two, rfl⟩⟩, hfull2, HOB, hask2, hsl3, hbel2⟩
        case round =>
          clear hfull2 HOB hask2 hsl3 hbel2
          obtain ⟨q, L0, hq', rfl, hB, hown, hob, hask, hsl, hbel⟩ := hrel
          have hfl := hB.out.len
          by_cases hlt' : q < 15
          · have hi3 : decide ((q : Int) < 15) = true := by simp; omega
            have hc := hsl.cell hlen2 q hlt'
            rw [Nat.zero_add] at hc
            obtain ⟨h1, h2⟩ := HY.out (q + 2) (by omega)
            obtain ⟨j, hj⟩ := isPow_some (b := q + 2) h1.pow
            have hm := Lib.hid (len_split (by omega) hn h1 hj h2)
            obtain ⟨hkp, hkl⟩ := rnd_small (HS.out (q + 2) (by omega)).2 h2
            have hcv : ((List.range 15).map fun j => (((y (j + 2)).2.2 : Nat) : Int))[q]?.getD 0 = ((y (q + 2)).2.2 : Int) := by
              rw [List.getElem?_map, List.getElem?_range hlt']
              rfl
            rw [hcv] at hc
            obtain ⟨ga, ca, rfl⟩ : ∃ ga ca, u6 = .slice (some ⟨ga, 0, none⟩) 15 ca := by
              rcases hask.2 with ⟨_, h⟩ | ⟨ga, ca, _, h, _⟩
              · omega
              · exact ⟨ga, ca, h⟩
            have hc2 : wr.cell? ⟨ga, q * 2, none⟩ = some (.int .i64 ((q : Int) + 2)) := by
              have h1 := hask.cellAt (q * 2) (by omega)
              rw [h1, (askL_get (fun j => (j + 2, (y (j + 2)).2.1)) hlt').1]
              rfl
            have HW := Lib.hid hown; have HS' := Lib.hid hsl; have HK := Lib.hid hask; have HB := Lib.hid hbel
            have hwsz' := hbel.size
            clear hown hsl hask hbel hcv h1 h2 hj
            generalize hkk : (y (q + 2)).2.2 = m at hc hkp hkl hm
            clear hkk
            by_cases hmk : m = k
            · have HX : Hid (Bas n k (q + 1 + 2) (L0 ++ [(q : Int) + 2])) := ⟨L0, hB.out, .inr ⟨by omega, j, m, hm.out, .inl ⟨hmk, by simp⟩⟩⟩
              have hmp' : ((m : Int) == (k : Int)) = true := by simp; omega
              clear hmk
              go_wp2_with (at_builtin; refine wpList_append_own_at _ rfl _ _ 30 rfl w.heap.size 3 i9 (.int .i64 0) 1 8 Tryq.underlying30 hi1 hy0 hy1 hy2 rfl (by decide) _ _ _ rfl (HW.out.alloc _) ⟨wr.heap.size, 0, none⟩ 1 1 [.int .i64 ((q : Int) + 2)] rfl rfl ?c1 ?c2 ?c3 ?c4 ?c5 ?_)
              case c1 => exact cell_one_new _ _ _
              case c2 => simp [Value.oneCell']
              case c3 => unfold maxLen; omega
              case c4 => omega
              case c5 => (try simp); omega
              intro v' w3 hown' hgrow _ hob'
              have hbel3 := (HB.out.alloc HB.out.size (.cells #[.int .i64 ((q : Int) + 2)] 3)).grown hgrow (by simp; omega) (fun q e => by
                rcases HW.out.2 with ⟨rfl, _⟩ | ⟨g', cap', cur', rfl, hb, _⟩
                · cases e
                · cases e; exact hb)
              have hask3 := (HK.out.alloc (.cells #[.int .i64 ((q : Int) + 2)] 3)).kept hgrow (.inr fun e => (hob.out ga e.symm).2 ga rfl rfl)
              have hsl3 := (HS'.out.later ((Below.refl wr.heap.size wr).alloc (Nat.le_refl _) (.cells #[.int .i64 ((q : Int) + 2)] 3))).keptQ hgrow (fun g e e2 => by
                cases e
                exact (hob.out _ e2).1 rfl)
              have hob3 : ∀ k, v'.ownBlock = some k → k ≠ g2 ∧ ∀ ga', (Value.slice (some ⟨ga, 0, none⟩) 15 ca).ownBlock = some ga' → k ≠ ga' := fun k e => by
                rcases hob' with e2 | e2
                · exact hob.out k (e2 ▸ e)
                · rw [e2] at e
                  injection e with e
                  have h1 := HS'.out.ownQ.2
                  have h2 := (HK.out.lt ga rfl).2
                  have h3 : wr.heap.size < k := by rw [← e]; simp
                  refine ⟨by omega, fun ga' e3 => ?_⟩
                  have e3 : ga = ga' := by injection e3
                  omega
              have HOB3 := Lib.hid hob3
              have hown3 : w3.ownsRow w.heap.size 3 1 v' (L0 ++ [(q : Int) + 2]).length ((L0 ++ [(q : Int) + 2]).map (Value.int .i64)) := by
                rw [List.length_append, List.map_append]
                exact hown'
              clear hob' hown' HW HS' HK HB hgrow hob hob3 hB hm
              have HW3 := Lib.hid hown3
              clear hown3
              go_wp2_with fail
              exact ⟨⟨q + 1, _, by omega, by simp, HX, HW3.out, HOB3, hask3, hsl3, hbel3⟩, by simp [intOf]; omega⟩
            · have HX : Hid (Bas n k (q + 1 + 2) L0) := ⟨L0, hB.out, .inr ⟨by omega, j, m, hm.out, .inr ⟨hmk, rfl⟩⟩⟩
              have hmp' : ((m : Int) == (k : Int)) = false := by simp; omega
              clear hmk
              go_wp2_with fail
              exact ⟨⟨q + 1, _, by omega, by simp, HX, HW.out, hob, HK.out, HS'.out, HB.out⟩, by simp [intOf]; omega⟩
          · obtain rfl : q = 15 := by omega
            obtain rfl := hB.out.unique HL.out
            have HW := Lib.hid hown; have HB := Lib.hid hbel
            clear hown hob hask hsl hbel hlen2
            go_wp2_with fail
            go_ret2
            exact ⟨_, rfl, Slc.of_owns HW.out, HB.out⟩

end Go.Proofs.Ythoaldiadgeonaa
