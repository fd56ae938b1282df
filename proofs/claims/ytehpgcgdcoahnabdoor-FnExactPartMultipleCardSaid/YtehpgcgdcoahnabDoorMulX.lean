/-
  Chapter 4, the program's side: the multiple of nines, where the variable that errors.As reads is laid as the program's text lays it.
-/
import Derived.Test.YtehpgcgdcoahnabDoorPartX
import Derived.Test.YtehpgcgdcoahnabDoorErrAs
namespace Go.Proofs.YtehpgcgdcoahnabDoor
open Go.RowKit

/-- The type of errors, as errors.As reads it. -/
def Laid (w : World) : Prop := w.cell? ⟨0, 0, none⟩ = some (.iface 73 (.agg #[.pointer (some ⟨1, 35, none⟩)]))

theorem Laid.pos {w : World} (h : Laid w) : 0 < w.heap.size := by
  have := cell_lt h
  simpa using this

theorem Laid.later {w w' : World} (h : Laid w) (hb : Below w.heap.size w w') : Laid w' := (hb.cell (p := ⟨0, 0, none⟩) h.pos).trans h

/-- A function answers a number and a bool where that variable is laid. -/
def GivesIL (f : FuncId) (args : Array Value) (x : Int) (p : Bool) : Prop :=
  ∀ w : World, Laid w → Calls Tryd.prog f args w fun e w' => e = .returned (.tuple #[.int .i64 x, .bool p]) ∧ Below w.heap.size w w'

theorem GivesI.laid {f : FuncId} {args : Array Value} {x : Int} {p : Bool} (h : GivesI f args x p) : GivesIL f args x p := fun w _ => h w

def ImPartMultipleL : Prop := (∀ b t n k : Int, NoPrt b t n k → GivesIL 6 #[.int .i64 b, .agg #[.int .i64 t, .int .i64 n], .int .i64 k] 0 false) ∧
  (∀ b T B k m : Nat, Prt b T B k m → ¬ B ∣ prS b T B k (m / k) → GivesIL 6 #[.int .i64 b, .agg #[.int .i64 T, .int .i64 B], .int .i64 k] 0 false) ∧
  ∀ b T B k m q : Nat, Prt b T B k m → prS b T B k (m / k) = B * q → GivesIL 6 #[.int .i64 b, .agg #[.int .i64 T, .int .i64 B], .int .i64 k] q true

set_option maxHeartbeats 1000000 in
theorem wholeMultiple_off (b T B k m : Nat) (w : World) (h : Prt b T B k m) (hq : ¬ B ∣ prS b T B k (m / k)) :
    Calls Tryd.prog 10 #[.int .i64 b, .agg #[.int .i64 T, .int .i64 B], .int .i64 k] w fun e w' => ∃ x : Int, e = .returned (.tuple #[.int .i64 0, .iface 39 (.agg #[.int .i64 x])]) ∧ Below w.heap.size w w' := by
  have hB0 : ¬ B = 0 := by have := h.div; omega
  have hkm : k ≤ 1000 := by have := h.div; omega
  have hk1 := h.k1
  have hBm := h.bot
  have hrl := h.rlt
  have hmod : ¬ (prS b T B k (m / k) : Int) % B = 0 := by
    have h1 : ¬ prS b T B k (m / k) % B = 0 := fun e => hq (Nat.dvd_of_mod_eq_zero e)
    omega
  have hbd : prS b T B k (m / k) ≤ k * 1000 := sumN_le k fun i _ => by have := hrl (i * (m / k)); omega
  have HP := Lib.hid h; have HR := Lib.hid hrl
  clear h hq hrl
  have hlen := prsL_len b T B k (m / k)
  go_enter Tryd.func10, Tryd.ntmps10
  go_wp2_with fail
  refine (partRests_any b T B k m _ HP.out).mono ?_
  rintro e w1 ⟨v, rfl, hv, hb1⟩
  have q1 := (Box2.newAt (W := w) (T := 26) (x := .int .i64 T) (y := .int .i64 B) rfl).later hb1
  have k0 := q1.cell0
  have k1 := q1.cell1
  have hb := bel1 hb1
  clear hb1
  obtain ⟨g, off, cap, rfl, _, _, hc1, hc2⟩ := slc_some hv (by omega)
  rw [hlen] at hv hc1 ⊢
  have hcell : CellsR w1 g off k (fun i => rst b T B (i * (m / k))) := fun i hi => by
    have := Slc.cell hlen hv i hi
    rw [prsL_get b T B k (m / k) i hi] at this
    exact this
  clear hv hlen
  go_wp2_with fail
  go_loop [8, 17] (fun s i => ∃ p : Nat, p ≤ k ∧ i = .int .i64 p ∧ s = .int .i64 (sumN (fun i => rst b T B (i * (m / k))) p : Nat)) (fun _ i => k - (intOf i).toNat)
  case atStart => exact ⟨0, Nat.zero_le _, rfl, rfl⟩
  case round =>
    obtain ⟨p, hp, rfl, rfl⟩ := hrel
    by_cases hlt : p < k
    · have hc : w1.cell? ⟨g, off + p, none⟩ = some (.int .i64 (rst b T B (p * (m / k)) : Nat)) := hcell p hlt
      have i1 : (p : Int) < k := by omega
      have hrr := HR.out (p * (m / k))
      have hsl : sumN (fun i => rst b T B (i * (m / k))) p ≤ p * 1000 := sumN_le p fun i _ => by have := HR.out (i * (m / k)); omega
      have HS1 : Hid (((sumN (fun i => rst b T B (i * (m / k))) (p + 1) : Nat) : Int) = (sumN (fun i => rst b T B (i * (m / k))) p : Nat) + (rst b T B (p * (m / k)) : Nat)) := by
        show ((sumN (fun i => rst b T B (i * (m / k))) p + rst b T B (p * (m / k)) : Nat) : Int) = _
        omega
      revert hc hrr hsl HS1
      generalize rst b T B (p * (m / k)) = r
      generalize sumN (fun i => rst b T B (i * (m / k))) p = s
      intro hc hrr hsl HS1
      go_wp2_with fail
      exact ⟨⟨p + 1, by omega, rfl, by rw [HS1.out]⟩, by simp [intOf]; omega⟩
    · obtain rfl : p = k := by omega
      have i1 : ¬ (p : Int) < p := by omega
      have e : sumN (fun i => rst b T B (i * (m / p))) p = prS b T B p (m / p) := rfl
      rw [e]
      clear e hcell
      revert hmod hbd
      generalize prS b T B p (m / p) = S
      intro hmod hbd
      have hmod' : ((S : Int) % B != 0) = true := by simpa using hmod
      go_wp2_with fail
      go_ret2
      exact ⟨⟨_, rfl⟩, hb⟩

set_option maxHeartbeats 1000000 in
theorem wholeMultiple_yes (b T B k m q : Nat) (w : World) (h : Prt b T B k m) (hq : prS b T B k (m / k) = B * q) :
    Calls Tryd.prog 10 #[.int .i64 b, .agg #[.int .i64 T, .int .i64 B], .int .i64 k] w fun e w' => e = .returned (.tuple #[.int .i64 q, .nilIface]) ∧ Below w.heap.size w w' := by
  have hB0 : ¬ B = 0 := by have := h.div; omega
  have hkm : k ≤ 1000 := by have := h.div; omega
  have hk1 := h.k1
  have hBm := h.bot
  have hrl := h.rlt
  have hqk := (h.mult hq).2
  have hmod : (prS b T B k (m / k) : Int) % B = 0 := by
    have h1 : prS b T B k (m / k) % B = 0 := by rw [hq]; exact Nat.mul_mod_right B q
    omega
  have hdiv : prS b T B k (m / k) / B = q := by rw [hq]; exact Nat.mul_div_cancel_left q (by omega)
  have hdiv' : (prS b T B k (m / k) : Int) / B = q := by rw [← hdiv]; rfl
  have hbd : prS b T B k (m / k) ≤ k * 1000 := sumN_le k fun i _ => by have := hrl (i * (m / k)); omega
  have HP := Lib.hid h; have HR := Lib.hid hrl
  clear h hq hrl hdiv
  have hlen := prsL_len b T B k (m / k)
  go_enter Tryd.func10, Tryd.ntmps10
  go_wp2_with fail
  refine (partRests_any b T B k m _ HP.out).mono ?_
  rintro e w1 ⟨v, rfl, hv, hb1⟩
  have q1 := (Box2.newAt (W := w) (T := 26) (x := .int .i64 T) (y := .int .i64 B) rfl).later hb1
  have k0 := q1.cell0
  have k1 := q1.cell1
  have hb := bel1 hb1
  clear hb1
  obtain ⟨g, off, cap, rfl, _, _, hc1, hc2⟩ := slc_some hv (by omega)
  rw [hlen] at hv hc1 ⊢
  have hcell : CellsR w1 g off k (fun i => rst b T B (i * (m / k))) := fun i hi => by
    have := Slc.cell hlen hv i hi
    rw [prsL_get b T B k (m / k) i hi] at this
    exact this
  clear hv hlen
  go_wp2_with fail
  go_loop [8, 17] (fun s i => ∃ p : Nat, p ≤ k ∧ i = .int .i64 p ∧ s = .int .i64 (sumN (fun i => rst b T B (i * (m / k))) p : Nat)) (fun _ i => k - (intOf i).toNat)
  case atStart => exact ⟨0, Nat.zero_le _, rfl, rfl⟩
  case round =>
    obtain ⟨p, hp, rfl, rfl⟩ := hrel
    by_cases hlt : p < k
    · have hc : w1.cell? ⟨g, off + p, none⟩ = some (.int .i64 (rst b T B (p * (m / k)) : Nat)) := hcell p hlt
      have i1 : (p : Int) < k := by omega
      have hrr := HR.out (p * (m / k))
      have hsl : sumN (fun i => rst b T B (i * (m / k))) p ≤ p * 1000 := sumN_le p fun i _ => by have := HR.out (i * (m / k)); omega
      have HS1 : Hid (((sumN (fun i => rst b T B (i * (m / k))) (p + 1) : Nat) : Int) = (sumN (fun i => rst b T B (i * (m / k))) p : Nat) + (rst b T B (p * (m / k)) : Nat)) := by
        show ((sumN (fun i => rst b T B (i * (m / k))) p + rst b T B (p * (m / k)) : Nat) : Int) = _
        omega
      revert hc hrr hsl HS1
      generalize rst b T B (p * (m / k)) = r
      generalize sumN (fun i => rst b T B (i * (m / k))) p = s
      intro hc hrr hsl HS1
      clear hmod hdiv' hbd
      go_wp2_with fail
      exact ⟨⟨p + 1, by omega, rfl, by rw [HS1.out]⟩, by simp [intOf]; omega⟩
    · obtain rfl : p = k := by omega
      have i1 : ¬ (p : Int) < p := by omega
      have e : sumN (fun i => rst b T B (i * (m / p))) p = prS b T B p (m / p) := rfl
      rw [e]
      clear e hcell
      revert hmod hbd hdiv'
      generalize prS b T B p (m / p) = S
      intro hmod hbd hdiv'
      have hmod' : ((S : Int) % B != 0) = false := by rw [hmod]; rfl
      go_wp2_with fail
      go_ret2
      exact ⟨rfl, hb⟩

set_option maxHeartbeats 1000000 in
theorem imPartMultipleL : ImPartMultipleL := by
  refine ⟨?_, ?_, ?_⟩
  · intro b t n k h w _
    go_enter Tryd.func6, Tryd.ntmps6
    go_wp2_with fail
    refine (partsTold_no b t n k _ h).mono ?_
    rintro e w1 ⟨rfl, hb1⟩
    have hb := bel1 hb1
    go_wp2_with fail
    go_ret2
    exact ⟨rfl, hb⟩
  · intro b T B k m h hq w hL
    have HP := Lib.hid h; have HQ := Lib.hid hq
    clear h hq
    go_enter Tryd.func6, Tryd.ntmps6
    go_wp2_with fail
    refine (partsTold_yes b T B k m _ HP.out).mono ?_
    rintro e w1 ⟨rfl, hb1⟩
    have q1 := (Box2.newAt (W := w) (T := 26) (x := .int .i64 T) (y := .int .i64 B) rfl).later hb1
    have k0 := q1.cell0
    have k1 := q1.cell1
    have hb := bel1 hb1
    clear hb1
    go_wp2_with fail
    refine (wholeMultiple_off b T B k m _ HP.out HQ.out).mono ?_
    rintro e w2 ⟨x, rfl, hb2⟩
    have hbb := hb.trans (hb2.mono hb.size)
    have hL2 := hL.later hbb
    clear hb hb2 k0 k1 q1
    have hs2 := hbb.size
    have hb3 : Below w.heap.size w (w2.alloc (.cells #[.int .i64 0] 39)) := hbb.alloc hs2 _
    have hL3 : Laid (w2.alloc (.cells #[.int .i64 0] 39)) := hL.later hb3
    have hc3 : (w2.alloc (.cells #[.int .i64 0] 39)).cell? ⟨w2.heap.size, 0, none⟩ = some (.int .i64 0) := by simp
    have hf3 : (w2.alloc (.cells #[.int .i64 0] 39)).frozen? ⟨w2.heap.size, 0, none⟩ = false := by simp
    go_wp2_with fail
    refine (as_some x ⟨w2.heap.size, 0, none⟩ (.int .i64 0) _ hL3 hc3 hf3).mono ?_
    rintro e w4 ⟨rfl, he⟩
    have hb4 : Below w.heap.size w w4 := by
      rw [he]
      refine Below.setCell ?_ hs2 _
      exact (((hb3.alloc hb3.size _).alloc (Nat.le_trans hb3.size (by simp)) _).alloc (Nat.le_trans hb3.size (by simp <;> omega)) _).alloc (Nat.le_trans hb3.size (by simp <;> omega)) _
    clear he hc3 hf3 hL3 hL2
    go_wp2_with fail
    go_ret2
    exact ⟨rfl, hb4⟩
  · intro b T B k m q h hq w _
    have HP := Lib.hid h; have HQ := Lib.hid hq
    clear h hq
    go_enter Tryd.func6, Tryd.ntmps6
    go_wp2_with fail
    refine (partsTold_yes b T B k m _ HP.out).mono ?_
    rintro e w1 ⟨rfl, hb1⟩
    have q1 := (Box2.newAt (W := w) (T := 26) (x := .int .i64 T) (y := .int .i64 B) rfl).later hb1
    have k0 := q1.cell0
    have k1 := q1.cell1
    have hb := bel1 hb1
    clear hb1
    go_wp2_with fail
    refine (wholeMultiple_yes b T B k m q _ HP.out HQ.out).mono ?_
    rintro e w2 ⟨rfl, hb2⟩
    have hbb := hb.trans (hb2.mono hb.size)
    have hs2 := hbb.size
    have hb3 : Below w.heap.size w (w2.alloc (.cells #[.int .i64 0] 39)) := hbb.alloc hs2 _
    clear hb hb2 k0 k1 q1
    go_wp2_with fail
    refine (as_none _ _).mono ?_
    rintro e w4 ⟨rfl, rfl⟩
    go_wp2_with fail
    go_ret2
    exact ⟨rfl, hb3⟩

theorem bothPartMultipleL (H : ImPartMultipleL) (b t n k : Int) : ∃ x p, GivesI 4 #[.int .i64 b, .agg #[.int .i64 t, .int .i64 n], .int .i64 k] x p ∧ GivesIL 6 #[.int .i64 b, .agg #[.int .i64 t, .int .i64 n], .int .i64 k] x p := by
  rcases prt_or b t n k with h | ⟨b, T, B, k, m, rfl, rfl, rfl, rfl, h⟩
  · exact ⟨0, false, specPartMultiple_no b t n k h, H.1 b t n k h⟩
  · by_cases hq : B ∣ prS b T B k (m / k)
    · obtain ⟨q, hq⟩ := hq
      exact ⟨q, true, specPartMultiple_yes b T B k m q h hq, H.2.2 b T B k m q h hq⟩
    · exact ⟨0, false, specPartMultiple_off b T B k m h hq, H.2.1 b T B k m h hq⟩



end Go.Proofs.YtehpgcgdcoahnabDoor
