/-
  The model's reader: a number drawn, in whatever case; the reader opened.
-/
import Derived.Test.YtmpbbflolbakhaaGreatDoorPickFar
namespace Go.Proofs.YtmpbbflolbakhaaGreatDoor
open Go.RowKit

/-- The model's reader lies at block g, at place p; what it reads lies below it. -/
def Rdr (w : World) (g p : Nat) : Prop :=
  ∃ a c xs, Box2 w g 92 (.slice a xs.length c) (.int .i64 p) ∧ xs.length ≤ 2000 ∧ SrcB w a xs ∧ ∀ b off, a = some ⟨b, off, none⟩ → 0 < xs.length → b < g

theorem SrcB.kept {W W' : World} {g : Nat} {a : Option Addr} {xs : List Int} (h : SrcB W a xs) (hg : W.grownBy W' (some g)) (hne : ∀ b off, a = some ⟨b, off, none⟩ → 0 < xs.length → b < g) : SrcB W' a xs := by
  intro h0
  obtain ⟨b, off, rfl, hb, hc, hd⟩ := h h0
  refine ⟨b, off, rfl, Nat.lt_of_lt_of_le hb hg.size, fun k hk => hg.cell (hc k hk) ?_, hd⟩
  have := hne b off rfl h0
  simp; omega

theorem SrcB.below {n : Nat} {W W' : World} {a : Option Addr} {xs : List Int} (h : SrcB W a xs) (hb : Below n W W') (hne : ∀ b off, a = some ⟨b, off, none⟩ → 0 < xs.length → b < n) : SrcB W' a xs := by
  intro h0
  obtain ⟨b, off, rfl, hbl, hc, hd⟩ := h h0
  exact ⟨b, off, rfl, Nat.lt_of_lt_of_le hbl hb.size, fun k hk => (hb.cell (p := ⟨b, off + k, none⟩) (hne b off rfl h0)).trans (hc k hk), hd⟩

theorem Rdr.lt {w : World} {g p : Nat} (h : Rdr w g p) : g < w.heap.size := by obtain ⟨_, _, _, h, _⟩ := h; exact h.lt

theorem Rdr.below {n : Nat} {W W' : World} {g p : Nat} (h : Rdr W g p) (hb : Below n W W') (hn : g < n) : Rdr W' g p := by
  obtain ⟨a, c, xs, h1, h2, h3, h4⟩ := h
  exact ⟨a, c, xs, h1.below hb hn, h2, h3.below hb (fun b off e h0 => by have := h4 b off e h0; omega), h4⟩
theorem Rdr.later {W W' : World} {g p : Nat} (h : Rdr W g p) (hb : Below W.heap.size W W') : Rdr W' g p := h.below hb h.lt
theorem Rdr.alloc {W : World} {g p : Nat} (h : Rdr W g p) (o : Obj) : Rdr (W.alloc o) g p := h.later ((Below.refl _ _).alloc (Nat.le_refl _) _)

theorem Rdr.cell1 {W : World} {g p : Nat} (h : Rdr W g p) : W.cell? ⟨g, 1, none⟩ = some (.int .i64 p) := by obtain ⟨_, _, _, h, _⟩ := h; exact h.cell1
theorem Rdr.frozen1 {W : World} {g p : Nat} (h : Rdr W g p) : W.frozen? ⟨g, 1, none⟩ = false := by obtain ⟨_, _, _, h, _⟩ := h; exact h.frozen1
theorem Rdr.setp {W : World} {g p : Nat} (h : Rdr W g p) (q : Nat) : Rdr (W.setCell ⟨g, 1, none⟩ (.int .i64 q)) g q := by
  obtain ⟨a, c, xs, h1, h2, h3, h4⟩ := h
  exact ⟨a, c, xs, h1.set1 _, h2, h3.kept (grown_set1 W g _) h4, h4⟩

theorem pick_any (g p : Nat) (n : Int) (w : World) (h : Rdr w g p) (hp : p ≤ 100000) (hn : 1 ≤ n) :
    Calls Tryz.prog 49 #[.pointer (some ⟨g, 0, none⟩), .int .i64 n] w fun e w' => ∃ r : Int, 0 ≤ r ∧ r < n ∧ e = .returned (.int .i64 r) ∧ Rdr w' g (p + 1) ∧ w.grownBy w' (some g) := by
  obtain ⟨a, c, xs, hbox, hlen, hsrc, hne⟩ := h
  have fin : ∀ e w', Picked w g (.slice a xs.length c) p n e w' → ∃ r : Int, 0 ≤ r ∧ r < n ∧ e = .returned (.int .i64 r) ∧ Rdr w' g (p + 1) ∧ w.grownBy w' (some g) := by
    rintro e w' ⟨r, h1, h2, h3, h4, h5⟩
    exact ⟨r, h1, h2, h3, ⟨a, c, xs, by simpa using h4, hlen, hsrc.kept h5 hne, hne⟩, h5⟩
  rcases Nat.eq_zero_or_pos xs.length with h0 | h0
  · rw [h0] at hbox fin
    exact (pick_none g a c p n w hbox (by omega) (by omega) hn).mono fin
  · have hne' : ∀ b off, a = some ⟨b, off, none⟩ → b ≠ g := fun b off e => by have := hne b off e h0; omega
    rcases Nat.lt_or_ge p xs.length with hlt | hge
    · exact (pick_in g a c p n xs w hsrc hbox hlt hlen hn hne').mono fin
    · exact (pick_far g a c p n xs w hsrc hbox h0 hge hp hlen hn hne').mono fin

/-- A block that is not the reader's stays. -/
theorem grown_block {W W' : World} {g B : Nat} (h : W.grownBy W' (some g)) (hB : B < W.heap.size) (hne : B ≠ g) : W'.heap[B]? = W.heap[B]? := h.block B hB (fun e => hne (by cases e; rfl))

/-- Bytes that came in, as a slice. -/
def Byt (w : World) (a : Option Addr) (len cap : Nat) : Prop := len ≤ cap ∧ cap ≤ maxLen ∧ ∃ xs, xs.length = len ∧ SrcB w a xs

theorem SrcB.lt {w : World} {a : Option Addr} {xs : List Int} (h : SrcB w a xs) : ∀ b off, a = some ⟨b, off, none⟩ → 0 < xs.length → b < w.heap.size := by
  intro b off e h0
  obtain ⟨b', off', rfl, hb, _⟩ := h h0
  cases e; exact hb
theorem Byt.later {w w' : World} {a : Option Addr} {len cap : Nat} (h : Byt w a len cap) (hb : Below w.heap.size w w') : Byt w' a len cap := by
  obtain ⟨h1, h2, xs, h3, h4⟩ := h
  exact ⟨h1, h2, xs, h3, h4.below hb h4.lt⟩

theorem SrcB.take {w : World} {a : Option Addr} {xs : List Int} (h : SrcB w a xs) (n : Nat) : SrcB w a (xs.take n) := by
  intro h0
  rw [List.length_take] at h0
  obtain ⟨g, off, rfl, hg, hc, hd⟩ := h (by omega)
  refine ⟨g, off, rfl, hg, fun k hk => ?_, fun k hk => ?_⟩ <;> (rw [List.length_take] at hk; rw [List.getElem?_take_of_lt (by omega)])
  · exact hc k (by omega)
  · exact hd k (by omega)

theorem byt_of_row {w : World} {a : Option Addr} {len cap : Nat} {zs : List Int} (h : IsRow .u8 w a len cap zs) : Byt w a len cap := by
  rcases h with ⟨rfl, rfl, rfl, rfl⟩ | ⟨x, rfl, h1, h2, h3, h4, h5⟩
  · exact ⟨Nat.le_refl _, by simp [maxLen], [], rfl, fun h => absurd h (by simp)⟩
  · have hl : (zs.take len).length = len := by rw [List.length_take]; omega
    refine ⟨h1, h2, zs.take len, hl, fun h0 => ?_⟩
    rw [hl] at h0 ⊢
    have hs : x.spot = none ∧ x.block < w.heap.size := by
      have := h4 0 (by omega)
      simp only [Addr.add, if_true] at this
      unfold World.cell? at this
      cases hb : w.heap[x.block]? with
      | none => rw [hb] at this; cases this
      | some o =>
        rw [hb] at this
        refine ⟨?_, (Array.getElem?_eq_some_iff.1 hb).1⟩
        cases o <;> simp at this
        cases hx : x.spot with
        | none => rfl
        | some s => simp [hx] at this
    obtain ⟨g, off, sp⟩ := x
    obtain ⟨rfl, hg⟩ := hs
    refine ⟨g, off, rfl, hg, fun k hk => ?_, fun k hk => ?_⟩
    · have := h4 k (by omega)
      have e : (⟨g, off, none⟩ : Addr).add k = ⟨g, off + k, none⟩ := by
        unfold Addr.add
        split
        · subst_vars; rfl
        · rfl
      rw [e] at this
      rw [this, List.getElem?_take_of_lt hk, List.getD_eq_getElem?_getD]
    · rw [List.getElem?_take_of_lt hk, List.getElem?_eq_getElem (by omega)]
      exact bounds_u8 (h5 _ (List.getElem_mem (show k < zs.length by omega)))

set_option maxHeartbeats 1000000 in
theorem l6Open_any (a : Option Addr) (len cap : Nat) (w : World) (h : Byt w a len cap) :
    Calls Tryz.prog 30 #[.slice a len cap] w fun e w' => ∃ g, e = .returned (.pointer (some ⟨g, 0, none⟩)) ∧ w.heap.size ≤ g ∧ Rdr w' g 0 ∧ Below w.heap.size w w' := by
  obtain ⟨h1, h2, xs, hl, hsrc⟩ := h
  have HS := Lib.hid hsrc
  have HL := Lib.hid hl
  clear hsrc hl
  by_cases h3 : len ≤ 2000
  · go_enter Tryz.func30, Tryz.ntmps30
    go_wp2
    go_ret
    have hb : Below w.heap.size w (w.alloc (.cells #[.slice a len cap, .int .i64 0] 92)) := (Below.refl _ _).alloc (Nat.le_refl _) _
    refine ⟨_, rfl, Nat.le_refl _, ⟨a, cap, xs, ?_, by rw [HL.out]; exact h3, HS.out.below hb HS.out.lt, HS.out.lt⟩, hb⟩
    rw [HL.out]; exact Box2.new _ _ _ _
  · have h4 : (2000 : Int) ≤ cap := by omega
    go_enter Tryz.func30, Tryz.ntmps30
    go_wp2
    go_ret
    have hb : Below w.heap.size w (w.alloc (.cells #[.slice a 2000 cap, .int .i64 0] 92)) := (Below.refl _ _).alloc (Nat.le_refl _) _
    have hle : (xs.take 2000).length = 2000 := by rw [List.length_take, HL.out]; omega
    have hs := HS.out.take 2000
    refine ⟨_, rfl, Nat.le_refl _, ⟨a, cap, xs.take 2000, ?_, by rw [hle]; exact Nat.le_refl _, hs.below hb hs.lt, hs.lt⟩, hb⟩
    rw [hle]; exact Box2.new _ _ _ _

end Go.Proofs.YtmpbbflolbakhaaGreatDoor
