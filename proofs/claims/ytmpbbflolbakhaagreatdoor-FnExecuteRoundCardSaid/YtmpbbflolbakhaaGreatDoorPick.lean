/-
  The model's reader of bytes: one number drawn, its bounds alone.
-/
import Derived.Test.YtmpbbflolbakhaaGreatDoorIn
import Derived.Test.YtmpbbflolbakhaaGreatDoorNext
import Derived.Test.YtmpbbflolbakhaaGreatDoorFrame
namespace Go.Proofs.YtmpbbflolbakhaaGreatDoor
open Go.RowKit

/-- Bytes that came in. -/
def SrcB (W : World) (a : Option Addr) (xs : List Int) : Prop :=
  0 < xs.length → ∃ g off, a = some ⟨g, off, none⟩ ∧ g < W.heap.size ∧ (∀ k, k < xs.length → W.cell? ⟨g, off + k, none⟩ = some (.int .u8 (xs[k]?.getD 0))) ∧ ∀ k, k < xs.length → 0 ≤ xs[k]?.getD 0 ∧ xs[k]?.getD 0 ≤ 255

theorem Box2.set1 {W : World} {B : Nat} {T : TypeId} {x y : Value} (h : Box2 W B T x y) (y' : Value) : Box2 (W.setCell ⟨B, 1, none⟩ y') B T x y' := by
  unfold Box2 at h
  simp [Box2, World.setCell, Array.getElem?_modify, h]

/-- A number drawn: its bounds, the reader one further, all but the reader as it was. -/
def Picked (w : World) (g : Nat) (s : Value) (p n : Int) (e : Ending) (w' : World) : Prop :=
  ∃ r, 0 ≤ r ∧ r < n ∧ e = .returned (.int .i64 r) ∧ Box2 w' g 92 s (.int .i64 (p + 1)) ∧ w.grownBy w' (some g)

theorem grown_set1 (w : World) (g : Nat) (v : Value) : w.grownBy (w.setCell ⟨g, 1, none⟩ v) (some g) :=
  ⟨rfl, rfl, rfl, by simp, fun k _ hk => Below.heap_setCell _ ⟨g, 1, none⟩ _ _ (fun e => hk (by rw [e]))⟩
theorem grown_set1_drew (w : World) (g : Nat) (v : Value) : w.grownBy (w.setCell ⟨g, 1, none⟩ v).drew (some g) :=
  ⟨(grown_set1 w g v).os, (grown_set1 w g v).tape, (grown_set1 w g v).output, (grown_set1 w g v).size, (grown_set1 w g v).block⟩

set_option maxHeartbeats 1000000 in
theorem pick_none (g : Nat) (a : Option Addr) (c : Nat) (p n : Int) (w : World) (hbox : Box2 w g 92 (.slice a 0 c) (.int .i64 p)) (hp0 : 0 ≤ p) (hp : p ≤ 100000) (hn : 1 ≤ n) :
    Calls Tryz.prog 49 #[.pointer (some ⟨g, 0, none⟩), .int .i64 n] w (Picked w g (.slice a 0 c) p n) := by
  have k0 := hbox.cell0
  have k1 := hbox.cell1
  have f0 := hbox.frozen0
  have f1 := hbox.frozen1
  have hn' : decide (n < 1) = false := by simpa using hn
  go_enter Tryz.func49, Tryz.ntmps49
  go_wp2
  go_ret
  exact ⟨0, Int.le_refl _, by omega, rfl, hbox.set1 _, grown_set1 _ _ _⟩

set_option maxHeartbeats 1000000 in
theorem pick_in (g : Nat) (a : Option Addr) (c : Nat) (p : Nat) (n : Int) (xs : List Int) (w : World) (hsrc : SrcB w a xs) (hbox : Box2 w g 92 (.slice a xs.length c) (.int .i64 p)) (hlt : p < xs.length) (hlen : xs.length ≤ 2000) (hn : 1 ≤ n) (hne : ∀ b off, a = some ⟨b, off, none⟩ → b ≠ g) :
    Calls Tryz.prog 49 #[.pointer (some ⟨g, 0, none⟩), .int .i64 n] w (Picked w g (.slice a xs.length c) p n) := by
  obtain ⟨b, off, rfl, hb, hc, hbd⟩ := hsrc (by omega)
  have hbg := hne b off rfl
  have kc : (w.setCell ⟨g, 1, none⟩ (.int .i64 (p + 1))).cell? ⟨b, off + p, none⟩ = some (.int .u8 (xs[p]?.getD 0)) := by
    rw [← hc p hlt]
    simp only [World.cell?, Below.heap_setCell _ ⟨g, 1, none⟩ _ b (fun e => hbg e)]
  have kc' := hc p hlt
  obtain ⟨x1, x2⟩ := hbd p hlt
  clear hc hbd hsrc
  have k0 := hbox.cell0
  have k1 := hbox.cell1
  have f0 := hbox.frozen0
  have f1 := hbox.frozen1
  have B1 := hbox.set1 (.int .i64 (p + 1))
  have k10 := B1.cell0
  have k11 := B1.cell1
  have hn' : decide (n < 1) = false := by simpa using hn
  have hn0 : (n == 0) = false := by simp; omega
  revert kc kc' x1 x2
  generalize xs[p]?.getD 0 = x
  intro kc kc' x1 x2
  have hr0 : 0 ≤ x % n := Int.emod_nonneg _ (by omega)
  have hr1 : x % n < n := Int.emod_lt_of_pos _ (by omega)
  have htm : Int.tmod x n = x % n := Int.tmod_eq_emod_of_nonneg x1
  revert hlt hlen hbox k0 k10 B1
  generalize xs.length = m
  intro hbox hlt hlen k0 B1 k10
  have hm0 : ((m : Int) == 0) = false := by simp; omega
  have hltd : decide ((p : Int) < (m : Int)) = true := by simp; omega
  go_enter Tryz.func49, Tryz.ntmps49
  go_wp2
  go_ret
  exact ⟨x % n, hr0, hr1, rfl, B1, grown_set1 _ _ _⟩

end Go.Proofs.YtmpbbflolbakhaaGreatDoor
