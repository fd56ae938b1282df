/-
  The digit at a place: the program's and the model's; the law FnExactFracDigit's walk.
-/
import Derived.Test.YtomfofkhcjcijaaPower
import Derived.Test.YtomfofkhcjcijaaEnds
namespace Go.Proofs.Ytomfofkhcjcijaa
open Go.RowKit

theorem ret_ib {k : IntKind} {a b : Int} (h : a = b) : Ending.returned (.tuple #[.int k a, .bool true]) = .returned (.tuple #[.int k b, .bool true]) := by rw [h]

set_option maxHeartbeats 1000000 in
theorem implFracDigit_no (b t n k : Int) (w : World) (h : tldB b t n = false) :
    Calls Try.prog 19 #[.int .i64 b, .agg #[.int .i64 t, .int .i64 n], .int .i64 k] w fun e w' => e = .returned (.tuple #[.int .i64 0, .bool false]) ∧ Below w.heap.size w w' := by
  go_enter Try.func19, Try.ntmps19
  go_wp2_with (go_at_call 26; refine (fracTold_any _ _ _ _).mono ?_; rintro e w1 ⟨rfl, hb1⟩)
  go_ret2
  exact ⟨rfl, ((Below.refl w.heap.size w).alloc (Nat.le_refl _) _).trans (hb1.mono (by simp))⟩

set_option maxHeartbeats 1000000 in
theorem implFracDigit_off (b t n k : Int) (w : World) (h : tldB b t n = true) (hk : k < 0 ∨ 1000000 < k) :
    Calls Try.prog 19 #[.int .i64 b, .agg #[.int .i64 t, .int .i64 n], .int .i64 k] w fun e w' => e = .returned (.tuple #[.int .i64 0, .bool false]) ∧ Below w.heap.size w w' := by
  by_cases h1 : k < 0
  · clear hk
    go_enter Try.func19, Try.ntmps19
    go_wp2_with (go_at_call 26; refine (fracTold_any _ _ _ _).mono ?_; rintro e w1 ⟨rfl, hb1⟩)
    go_ret2
    exact ⟨rfl, ((Below.refl w.heap.size w).alloc (Nat.le_refl _) _).trans (hb1.mono (by simp))⟩
  · have h2 : 1000000 < k := by omega
    have h1' : decide (k < 0) = false := by simpa using h1
    clear hk
    go_enter Try.func19, Try.ntmps19
    go_wp2_with (go_at_call 26; refine (fracTold_any _ _ _ _).mono ?_; rintro e w1 ⟨rfl, hb1⟩)
    go_ret2
    exact ⟨rfl, ((Below.refl w.heap.size w).alloc (Nat.le_refl _) _).trans (hb1.mono (by simp))⟩

set_option maxHeartbeats 1000000 in
theorem implFracDigit_yes (b T B k : Nat) (w : World) (h : tldB b T B = true) (hT : T < B) (hg : Nat.gcd T B = 1) (hB : B ≤ 1000) (h3 : 2 ≤ b) (h4 : b ≤ 16) (hk : k ≤ 1000000) :
    Calls Try.prog 19 #[.int .i64 b, .agg #[.int .i64 T, .int .i64 B], .int .i64 k] w fun e w' => e = .returned (.tuple #[.int .i64 (dig b T B k), .bool true]) ∧ Below w.heap.size w w' := by
  have HG := Lib.hid hg; clear hg
  have h1' : decide ((k : Int) < 0) = false := by simp
  have h2' : decide (1000000 < (k : Int)) = false := by simp; omega
  go_enter Try.func19, Try.ntmps19
  go_wp2_with fail
  refine (fracTold_any _ _ _ _).mono ?_
  rintro e w1 ⟨rfl, hb1⟩
  have q1 := (Box2.newAt (W := w) (T := 24) (x := .int .i64 T) (y := .int .i64 B) rfl).later hb1
  have k0 := q1.cell0
  have k1 := q1.cell1
  have hs1 := hb1.size
  go_wp2_with fail
  refine (behind_any b T B k _ hT HG.out hB h4 hk).mono ?_
  rintro e w2 ⟨rfl, hb2⟩
  go_wp2_with fail
  refine (next_fr b T B k _ hT HG.out hB h3 h4).mono ?_
  rintro e w3 ⟨rfl, hb3⟩
  have hs2 := hb2.size
  go_wp2_with fail
  go_ret2
  refine ⟨rfl, ?_⟩
  simp at hs1
  have hbb := ((((Below.refl w.heap.size w).alloc (Nat.le_refl _) (.cells #[.int .i64 T, .int .i64 B] 24)).trans (hb1.mono (by simp))).trans (hb2.mono (by omega))).trans (hb3.mono (by omega))
  exact hbb.alloc (by have := hb3.size; omega) _

theorem digL_get (b T B K k : Nat) (hk : k < K) : (digL b T B K)[k]?.getD 0 = (dig b T B k : Int) := by
  unfold digL
  rw [List.getElem?_map, List.getElem?_range hk]
  rfl

set_option maxHeartbeats 1000000 in
theorem specFracDigit_no (b t n k : Int) (w : World) (h : tldB b t n = false) :
    Calls Try.prog 20 #[.int .i64 b, .agg #[.int .i64 t, .int .i64 n], .int .i64 k] w fun e w' => e = .returned (.tuple #[.int .i64 0, .bool false]) ∧ Below w.heap.size w w' := by
  go_enter Try.func20, Try.ntmps20
  go_wp2_with (go_at_call 31; refine (l1Given_any _ _ _ _).mono ?_; rintro e w1 ⟨rfl, hb1⟩)
  go_ret2
  exact ⟨rfl, ((Below.refl w.heap.size w).alloc (Nat.le_refl _) _).trans (hb1.mono (by simp))⟩

set_option maxHeartbeats 1000000 in
theorem specFracDigit_off (b t n k : Int) (w : World) (h : tldB b t n = true) (hk : decide (0 ≤ k ∧ k ≤ 1000000) = false) :
    Calls Try.prog 20 #[.int .i64 b, .agg #[.int .i64 t, .int .i64 n], .int .i64 k] w fun e w' => e = .returned (.tuple #[.int .i64 0, .bool false]) ∧ Below w.heap.size w w' := by
  go_enter Try.func20, Try.ntmps20
  go_wp2_with (first | (go_at_call 31; refine (l1Given_any _ _ _ _).mono ?_; rintro e w1 ⟨rfl, hb1⟩) | (go_at_call 24; refine (l6In_any _ _ _ _).mono ?_; rintro e w' ⟨rfl, rfl⟩))
  go_ret2
  exact ⟨rfl, ((Below.refl w.heap.size w).alloc (Nat.le_refl _) _).trans (hb1.mono (by simp))⟩

set_option maxHeartbeats 1000000 in
theorem specFracDigit_yes (b T B k : Nat) (w : World) (h : tldB b T B = true) (hT : T < B) (hB : B ≤ 1000) (h3 : 2 ≤ b) (h4 : b ≤ 16) (hk : k ≤ 1000000) :
    Calls Try.prog 20 #[.int .i64 b, .agg #[.int .i64 T, .int .i64 B], .int .i64 k] w fun e w' => e = .returned (.tuple #[.int .i64 (dig b T B k), .bool true]) ∧ Below w.heap.size w w' := by
  have hkb : decide ((k : Int) ≤ 1000000) = true := by simp; omega
  go_enter Try.func20, Try.ntmps20
  go_wp2_with fail
  refine (l1Given_any _ _ _ _).mono ?_
  rintro e w1 ⟨rfl, hb1⟩
  have q1 := (Box2.newAt (W := w) (T := 24) (x := .int .i64 T) (y := .int .i64 B) rfl).later hb1
  have k0 := q1.cell0
  have k1 := q1.cell1
  have hs1 := hb1.size
  simp at hs1
  go_wp2_with fail
  refine (l6In_any _ _ _ _).mono ?_
  rintro e w' ⟨rfl, rfl⟩
  go_wp2_with fail
  refine (l1Lengths_any b T B _ hT hB h3 h4).mono ?_
  rintro e w2 ⟨n, m, hnm, rfl, hb2⟩
  have q2 := q1.later hb2
  have k0' := q2.cell0
  have k1' := q2.cell1
  have hs2 := hb2.size
  have hle := hnm.le hT
  have hp := hnm.pos
  have hbb := (((Below.refl w.heap.size w).alloc (Nat.le_refl _) (.cells #[.int .i64 T, .int .i64 B] 24)).trans (hb1.mono (by simp))).trans (hb2.mono (by omega))
  have fin : ∀ (j : Nat) (W : World) (v : Value), j ≤ 1000000 → Slc W.heap.size W v (digL b T B (j + 1)) → True := fun _ _ _ _ _ => trivial
  clear fin
  by_cases hn : n ≤ k
  · have hm1 : (k - n) % m < m := Nat.mod_lt _ hp
    have e1 : ((k : Int) - n) % m = (((k - n) % m : Nat) : Int) := by rw [Int.natCast_emod, Int.natCast_sub hn]
    have m0 : 0 ≤ ((k : Int) - n) % m := by omega
    have m1 : ((k : Int) - n) % m < m := by omega
    have m2 : ¬ (m : Nat) = 0 := by omega
    have HE := Lib.hid e1; clear e1
    have hpl := hnm.place k hn
    have HP : Hid (dig b T B (n + (k - n) % m) = dig b T B k) := by unfold Hid dig; rw [hpl]
    clear hpl
    obtain ⟨j, hj⟩ : ∃ j, n + (k - n) % m = j := ⟨_, rfl⟩
    have ej : (n : Int) + ((k : Int) - n) % m = (j : Int) := by rw [HE.out]; omega
    rw [hj] at HP
    have EJ := Lib.hid ej
    have hjl : j ≤ 1000000 := by omega
    clear ej hj HE
    go_wp2_with fail
    rw [EJ.out]
    clear m0 m1
    have ec : (j : Int) + 1 = ((j + 1 : Nat) : Int) := by omega
    rw [ec]
    refine (l1Digits_any b T B (j + 1) _ hT hB h3 h4 (by omega)).mono ?_
    rintro e w3 ⟨v, rfl, hv, hb3⟩
    clear ec
    have hbc := hbb.trans (hb3.mono (by omega))
    have hl := digL_len b T B (j + 1)
    have hv0 := hv
    rcases hv with ⟨rfl, hz⟩ | ⟨g, off, cap, cur, rfl, r1, r2, r3, r4, r5, r6⟩
    · rw [hz] at hl; simp at hl
    rw [hl] at r3 r6 hv0 ⊢
    have kc := Slc.cell hl hv0 j (by omega)
    rw [digL_get _ _ _ _ _ (by omega)] at kc
    clear hv0 hl
    go_wp2_with fail
    go_ret2
    exact ⟨ret_ib (by rw [HP.out]), hbc⟩
  · have hn' : decide (n ≤ k) = false := by simpa using hn
    clear hn
    go_wp2_with fail
    have ec : (k : Int) + 1 = ((k + 1 : Nat) : Int) := by omega
    rw [ec]
    refine (l1Digits_any b T B (k + 1) _ hT hB h3 h4 (by omega)).mono ?_
    rintro e w3 ⟨v, rfl, hv, hb3⟩
    clear ec
    have hbc := hbb.trans (hb3.mono (by omega))
    have hl := digL_len b T B (k + 1)
    have hv0 := hv
    rcases hv with ⟨rfl, hz⟩ | ⟨g, off, cap, cur, rfl, r1, r2, r3, r4, r5, r6⟩
    · rw [hz] at hl; simp at hl
    rw [hl] at r3 r6 hv0 ⊢
    have kc := Slc.cell hl hv0 k (by omega)
    rw [digL_get _ _ _ _ _ (by omega)] at kc
    clear hv0 hl
    go_wp2_with fail
    go_ret2
    exact ⟨rfl, hbc⟩


end Go.Proofs.Ytomfofkhcjcijaa
