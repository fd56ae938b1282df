/-
  The model's lengths: the place of the first rest that comes again, found with a row of marks.
  The model's digits: a row that grows digit by digit.
  The digits of the round: the model's.
-/
import Derived.Test.YtmpbbflolbakhaaGreatDoorTold
import Derived.Test.YtmpbbflolbakhaaGreatDoorRow
import Derived.Test.YtmpbbflolbakhaaGreatDoorNext
import Derived.Deep.OwnRows
import Derived.RegionTactic
namespace Go.Proofs.YtmpbbflolbakhaaGreatDoor
open Go.RowKit

theorem ret_int2 {k : IntKind} {a b c d : Int} (h : a = b) (h' : c = d) : Ending.returned (.tuple #[.int k a, .int k c]) = .returned (.tuple #[.int k b, .int k d]) := by rw [h, h']

/-- The marks behind k rests. -/
structure Seen (b T B k : Nat) (zs : List Int) : Prop where
  len : zs.length = B
  hit : ∀ j, j < k → zs[rst b T B j]?.getD 0 = j + 1
  miss : ∀ x, x < B → (∀ j, j < k → rst b T B j ≠ x) → zs[x]?.getD 0 = 0
  ne : ∀ i j, i < j → j < k → rst b T B i ≠ rst b T B j

theorem Seen.zero (b T B : Nat) : Seen b T B 0 (List.replicate B 0) where
  len := by simp
  hit j hj := by omega
  miss x hx _ := by simp [hx]
  ne i j _ hj := by omega

theorem Seen.step {b T B k : Nat} {zs : List Int} (hT : T < B) (h : Seen b T B k zs) (hno : ∀ j, j < k → rst b T B j ≠ rst b T B k) : Seen b T B (k + 1) (zs.set (rst b T B k) (k + 1)) := by
  have hl := rst_lt (b := b) hT k
  refine ⟨by rw [List.length_set]; exact h.len, fun j hj => ?_, fun x hx hx2 => ?_, fun i j hij hj => ?_⟩
  · rcases Nat.lt_or_ge j k with hlt | hge
    · rw [List.getElem?_set_ne (fun e => hno j hlt e.symm)]; exact h.hit j hlt
    · obtain rfl : j = k := by omega
      rw [List.getElem?_set_self (by rw [h.len]; exact hl)]; rfl
  · rw [List.getElem?_set_ne (hx2 k (by omega))]
    exact h.miss x hx (fun j hj => hx2 j (by omega))
  · rcases Nat.lt_or_ge j k with hlt | hge
    · exact h.ne i j hij hlt
    · obtain rfl : j = k := by omega
      exact hno i hij

theorem Seen.le {b T B k : Nat} {zs : List Int} (hT : T < B) (h : Seen b T B k zs) : k ≤ B := php B k (rst b T B) (fun i _ => rst_lt hT i) h.ne

set_option maxHeartbeats 1000000 in
theorem l1Lengths_any (b T B : Nat) (w : World) (hT : T < B) (hB : B ≤ 1000) (h3 : 2 ≤ b) (h4 : b ≤ 16) :
    Calls Tryz.prog 39 #[.int .i64 b, .agg #[.int .i64 T, .int .i64 B]] w fun e w' =>
      ∃ n m : Nat, IsLen b T B n m ∧ e = .returned (.tuple #[.int .i64 n, .int .i64 m]) ∧ Below w.heap.size w w' := by
  have hmk := run_make_row' (P := Tryz.prog) 27 3 (.int .i64 0) 8 Tryz.underlying27 infoInt rfl .i64 .i64 B (by omega) (by omega)
  go_enter Tryz.func39, Tryz.ntmps39
  go_wp2
  go_loopw [7, 8] (fun r i wr => ∃ (k : Nat) (zs : List Int), i = .int .i64 ((k : Int) + 1) ∧ r = .int .i64 (rst b T B k) ∧ RowI wr (w.heap.size + 1) zs ∧ Seen b T B k zs ∧
      Box2 wr w.heap.size 24 (.int .i64 T) (.int .i64 B) ∧ Below w.heap.size w wr)
    (fun _ i _ => B + 2 - (intOf i).toNat)
  case atStart =>
    refine ⟨0, List.replicate B 0, rfl, rfl, RowI.made B (by simp), Seen.zero b T B, (Box2.newAt (by simp)).alloc _, ?_⟩
    repeat (first | exact Below.refl _ _ | refine Below.drew ?_ | refine Below.alloc ?_ (by simp) _)
  case round =>
    obtain ⟨k, zs, rfl, rfl, hz, hs, hx, hbel⟩ := hrel
    have hr := rst_lt (b := b) hT k
    have hk := hs.le hT
    have hcell := hz.cell (rst b T B k) (by rw [hs.len]; exact hr)
    have hfro := hz.frozen (rst b T B k)
    have c0 := hx.cell0
    have c1 := hx.cell1
    by_cases hex : ∃ j, j < k ∧ rst b T B j = rst b T B k
    · obtain ⟨j, hj, he⟩ := hex
      have hhit := hs.hit j hj
      rw [he] at hhit
      rw [hhit] at hcell
      have HE := Lib.hid he
      clear hhit he
      go_wp2
      go_region
      go_wp2
      go_ret2
      refine ⟨j, k - j, ⟨by omega, ?_, ?_⟩, ret_int2 (by omega) (by omega), hbel.drew⟩
      · rw [show j + (k - j) = k by omega]; exact HE.out.symm
      · intro i i' hi hi'; exact hs.ne i i' hi (by omega)
    · have hno : ∀ j, j < k → rst b T B j ≠ rst b T B k := fun j hj e => hex ⟨j, hj, e⟩
      have hmiss := hs.miss _ hr hno
      rw [hmiss] at hcell
      have HN := Lib.hid hno
      clear hex hmiss hno
      obtain ⟨m1, m2⟩ := mul_bd (rst b T B k) b B (by omega) (by omega) (by omega) (by omega) (by omega)
      have hst := hs.step hT HN.out
      go_wp2
      go_roundw
      case rel =>
        refine ⟨k + 1, _, by simp, ?_, hz.set _ _, hst, hx.other (by omega) _, hbel.setCell (p := ⟨w.heap.size + 1, rst b T B k, none⟩) (by simp) _⟩
        rw [show rst b T B (k + 1) = rst b T B k * b % B from rfl]; simp
      case measure => simp [intOf]; omega

end Go.Proofs.YtmpbbflolbakhaaGreatDoor

namespace Go.Proofs.YtmpbbflolbakhaaGreatDoor
open Go.RowKit

/-- A row under way: a counter, the digits so far. -/
def digL (b T B k : Nat) : List Int := (List.range k).map fun i => (dig b T B i : Int)

theorem digL_succ (b T B k : Nat) : digL b T B (k + 1) = digL b T B k ++ [(dig b T B k : Int)] := by
  unfold digL; rw [List.range_succ, List.map_append]; rfl
theorem digL_len (b T B k : Nat) : (digL b T B k).length = k := by simp [digL]
theorem digL_get (b T B K k : Nat) (hk : k < K) : (digL b T B K)[k]?.getD 0 = (dig b T B k : Int) := by
  unfold digL
  rw [List.getElem?_map, List.getElem?_range hk]
  rfl

set_option maxHeartbeats 1000000 in
theorem l1Digits_any (b T B K : Nat) (w : World) (hT : T < B) (hB : B ≤ 1000) (h3 : 2 ≤ b) (h4 : b ≤ 16) (hK : K ≤ 1000000000) :
    Calls Tryz.prog 40 #[.int .i64 b, .agg #[.int .i64 T, .int .i64 B], .int .i64 K] w fun e w' =>
      ∃ v, e = .returned v ∧ Slc w.heap.size w' v (digL b T B K) ∧ Below w.heap.size w w' := by
  obtain ⟨i0, hi, hz0, hz1, hz2⟩ := info_parts infoInt
  go_enter Tryz.func40, Tryz.ntmps40
  go_wp2
  go_loopw [7, 8, 9] (fun v r i wr => ∃ k : Nat, k ≤ K ∧ i = .int .i64 k ∧ r = .int .i64 (rst b T B k) ∧ wr.ownsRow (w.heap.size + 1) 3 1 v k ((digL b T B k).map (Value.int .i64)) ∧
      Box2 wr w.heap.size 24 (.int .i64 T) (.int .i64 B) ∧ Below w.heap.size w wr)
    (fun _ _ i _ => K - (intOf i).toNat)
  case atStart =>
    refine ⟨0, Nat.zero_le _, rfl, rfl, ?_, (Box2.newAt (by simp)).alloc _, ?_⟩
    · have := World.ownsRow_made (base := w.heap.size + 1) (e := 3) (size := 1) (w.alloc (.cells #[.int .i64 T, .int .i64 B] 24)) #[] 0 (by simp) (by simp) (by simp)
      simpa [digL] using this
    · repeat (first | exact Below.refl _ _ | refine Below.drew ?_ | refine Below.alloc ?_ (by simp) _)
  case round =>
    obtain ⟨k, hk, rfl, rfl, hown, hx, hbel⟩ := hrel
    have hr := rst_lt (b := b) hT k
    have c0 := hx.cell0
    have c1 := hx.cell1
    have hx2 := hx.lt
    by_cases hlt : k < K
    · obtain ⟨m1, m2⟩ := mul_bd (rst b T B k) b B (by omega) (by omega) (by omega) (by omega) (by omega)
      go_wp2_with (at_builtin; refine wpList_append_own _ rfl _ _ 27 rfl (w.heap.size + 1) 3 i0 (.int .i64 0) 1 8 Tryz.underlying27 hi hz0 hz1 hz2 rfl (by decide) _ _ _ rfl (hown.alloc _) ⟨wr.heap.size, 0, none⟩ 1 1 [.int .i64 (rst b T B k * b / B)] rfl rfl ?c1 ?c2 ?c3 ?c4 ?c5 ?_)
      case c1 => exact cell_one_new _ _ _
      case c2 => simp [Value.oneCell']
      case c3 => unfold maxLen; omega
      case c4 => omega
      case c5 => simp; omega
      intro v' w1 hown' hgrow _
      have hb1 : Below (w.heap.size + 1) wr w1 := ((Below.refl _ wr).alloc (by omega) _).grown hgrow (by simp; omega) (fun q e => (hown.lt q e).1)
      have hx1 := hx.below hb1 (by omega)
      have d0 := hx1.cell0
      have d1 := hx1.cell1
      go_wp2
      go_roundw
      case rel =>
        refine ⟨k + 1, by omega, by go_num, ?_, ?_, hx1, hbel.trans (hb1.mono (by omega))⟩
        · rw [show rst b T B (k + 1) = rst b T B k * b % B from rfl]; simp
        · rw [digL_succ, List.map_append]
          have : ((dig b T B k : Nat) : Int) = (rst b T B k : Int) * b / B := by unfold dig; simp
          simpa [this] using hown'
      case measure => simp [intOf]; omega
    · obtain rfl : k = K := by omega
      go_wp2
      go_ret
      have hs := Slc.of_owns (n₀ := w.heap.size + 1) (xs := digL b T B k) (by rw [digL_len]; exact hown)
      exact ⟨_, rfl, hs.mono (by omega), hbel⟩

end Go.Proofs.YtmpbbflolbakhaaGreatDoor

namespace Go.Proofs.YtmpbbflolbakhaaGreatDoor
open Go.RowKit

/-- The digits of the round. -/
def rndL (b T B n m : Nat) : List Int := (digL b T B (n + m)).drop n

theorem rndL_len (b T B n m : Nat) : (rndL b T B n m).length = m := by simp [rndL, digL_len]

theorem rndL_get (b T B n m k : Nat) (hk : k < m) : (rndL b T B n m)[k]?.getD 0 = (dig b T B (n + k) : Int) := by
  unfold rndL digL
  rw [List.getElem?_drop, List.getElem?_map, List.getElem?_range (by omega)]
  rfl

theorem digL_frT {b T B : Nat} (hT : T < B) (hg : Nat.gcd T B = 1) (n m : Nat) : digL b (frT b T B n).1 (frT b T B n).2 m = (digL b T B (n + m)).drop n := by
  apply List.ext_getElem?
  intro i
  unfold digL
  rw [List.getElem?_drop, List.getElem?_map, List.getElem?_map]
  by_cases hi : i < m
  · rw [List.getElem?_range hi, List.getElem?_range (by omega)]
    simp [dig_add hT hg]
  · rw [List.getElem?_eq_none (by simp; omega), List.getElem?_eq_none (by simp; omega)]
    rfl

set_option maxHeartbeats 1000000 in
theorem l1Round_any (b T B : Nat) (w : World) (hT : T < B) (hB : B ≤ 1000) (h3 : 2 ≤ b) (h4 : b ≤ 16) :
    Calls Tryz.prog 19 #[.int .i64 b, .agg #[.int .i64 T, .int .i64 B]] w fun e w' =>
      ∃ v n m, IsLen b T B n m ∧ e = .returned v ∧ Slc w.heap.size w' v (rndL b T B n m) ∧ Below w.heap.size w w' := by
  go_enter Tryz.func19, Tryz.ntmps19
  go_wp2_with fail
  refine (l1Lengths_any b T B _ hT hB h3 h4).mono ?_
  rintro e w1 ⟨n, m, hnm, rfl, hb1⟩
  have hle := hnm.le hT
  have hp := hnm.pos
  have q1 := (Box2.newAt (W := w) (T := 24) (x := .int .i64 T) (y := .int .i64 B) rfl).later hb1
  have k0 := q1.cell0
  have k1 := q1.cell1
  have hs1 := hb1.size
  go_wp2_with fail
  have ec : (n : Int) + m = ((n + m : Nat) : Int) := by omega
  rw [ec]
  refine (l1Digits_any b T B (n + m) _ hT hB h3 h4 (by omega)).mono ?_
  rintro e w2 ⟨v, rfl, hv, hb2⟩
  clear ec
  have hv0 := hv
  rcases hv with ⟨rfl, hz⟩ | ⟨g, off, cap, cur, rfl, r1, r2, r3, r4, r5, r6⟩
  · have := digL_len b T B (n + m); rw [hz] at this; simp at this; omega
  rw [digL_len] at r3 r6 ⊢
  have hnc : n < cap := by omega
  have hcap : cap ≤ 9223372036854775807 := by unfold maxLen at r4; exact r4
  go_wp2_with fail
  go_ret
  rw [digL_len] at hv0
  have hd := Slc.drop (n := n) (digL_len b T B (n + m)) hv0 (by omega)
  refine ⟨_, n, m, hnm, rfl, ?_, ?_⟩
  · have := hd.mono (n₁ := w.heap.size) (by simp at hs1; omega)
    rw [show n + m - n = m by omega] at this
    exact this
  · exact (((Below.refl w.heap.size w).alloc (Nat.le_refl _) _).trans (hb1.mono (by simp))).trans (hb2.mono (by simp at hs1; omega))

end Go.Proofs.YtmpbbflolbakhaaGreatDoor
