/-
  The model's lengths: the place of the first rest that comes again, found with a row of marks.
  The model's digits: a row that grows digit by digit.
  The digits of the round: the model's.
-/
import Derived.Test.YthoaldiadgeonaaTold
import Derived.Test.YthoaldiadgeonaaRow
import Derived.Test.YthoaldiadgeonaaNext
import Derived.Deep.OwnRows
import Derived.RegionTactic
import Derived.Test.YthoaldiadgeonaaTq
namespace Go.Proofs.Ythoaldiadgeonaa
set_option maxRecDepth 100000
open Go.RowKit

theorem ret_int2 {k : IntKind} {a b c d : Int} (h : a = b) (h' : c = d) : Ending.returned (.tuple #[.int k a, .int k c]) = .returned (.tuple #[.int k b, .int k d]) := by rw [h, h']

/-- The marks behind k rests. -/
structure Seen (b T B k : Nat) (zs : List Int) : Prop where
  len : zs.length = B
  hit : ∀ j, j < k → zs[rst b T B j]?.getD 0 = j + 1
  miss : ∀ x, x < B → (∀ j, j < k → rst b T B j ≠ x) → zs[x]?.getD 0 = 0
  ne : ∀ i j, i < j → j < k → rst b T B i ≠ rst b T B j

theorem Seen.zero (b T B : Nat) : Seen b T B 0 (List.replicate B 0) where
  len := by simp
  hit j hj := by omega
  miss x hx _ := by simp [hx]
  ne i j _ hj := by omega

theorem Seen.step {b T B k : Nat} {zs : List Int} (hT : T < B) (h : Seen b T B k zs) (hno : ∀ j, j < k → rst b T B j ≠ rst b T B k) : Seen b T B (k + 1) (zs.set (rst b T B k) (k + 1)) := by
  have hl := rst_lt (b := b) hT k
  refine ⟨by rw [List.length_set]; exact h.len, fun j hj => ?_, fun x hx hx2 => ?_, fun i j hij hj => ?_⟩
  · rcases Nat.lt_or_ge j k with hlt | hge
    · rw [List.getElem?_set_ne (fun e => hno j hlt e.symm)]; exact h.hit j hlt
    · obtain rfl : j = k := by omega
      rw [List.getElem?_set_self (by rw [h.len]; exact hl)]; rfl
  · rw [List.getElem?_set_ne (hx2 k (by omega))]
    exact h.miss x hx (fun j hj => hx2 j (by omega))
  · rcases Nat.lt_or_ge j k with hlt | hge
    · exact h.ne i j hij hlt
    · obtain rfl : j = k := by omega
      exact hno i hij

theorem Seen.le {b T B k : Nat} {zs : List Int} (hT : T < B) (h : Seen b T B k zs) : k ≤ B := php B k (rst b T B) (fun i _ => rst_lt hT i) h.ne

set_option maxHeartbeats 1000000 in
theorem l1Lengths_any (b T B : Nat) (w : World) (hT : T < B) (hB : B ≤ 1000) (h3 : 2 ≤ b) (h4 : b ≤ 16) :
    Calls Tryq.prog 41 #[.int .i64 b, .agg #[.int .i64 T, .int .i64 B]] w fun e w' =>
      ∃ n m : Nat, IsLen b T B n m ∧ e = .returned (.tuple #[.int .i64 n, .int .i64 m]) ∧ Below w.heap.size w w' := by
  have hmk := run_make_row' (P := Tryq.prog) 30 3 (.int .i64 0) 8 Tryq.underlying30 infoInt rfl .i64 .i64 B (by omega) (by omega)
  go_enter Tryq.func41, Try.ntmps41
  go_wp2
  go_loopw [7, 8] (fun r i wr => ∃ (k : Nat) (zs : List Int), i = .int .i64 ((k : Int) + 1) ∧ r = .int .i64 (rst b T B k) ∧ RowI wr (w.heap.size + 1) zs ∧ Seen b T B k zs ∧
      Box2 wr w.heap.size 38 (.int .i64 T) (.int .i64 B) ∧ Below w.heap.size w wr)
    (fun _ i _ => B + 2 - (intOf i).toNat)
  case atStart =>
    refine ⟨0, List.replicate B 0, rfl, rfl, RowI.made B (by simp), Seen.zero b T B, (Box2.newAt (by simp)).alloc _, ?_⟩
    repeat (first | exact Below.refl _ _ | refine Below.drew ?_ | refine Below.alloc ?_ (by simp) _)
  case round =>
    obtain ⟨k, zs, rfl, rfl, hz, hs, hx, hbel⟩ := hrel
    have hr := rst_lt (b := b) hT k
    have hk := hs.le hT
    have hcell := hz.cell (rst b T B k) (by rw [hs.len]; exact hr)
    have hfro := hz.frozen (rst b T B k)
    have c0 := hx.cell0
    have c1 := hx.cell1
    by_cases hex : ∃ j, j < k ∧ rst b T B j = rst b T B k
    · obtain ⟨j, hj, he⟩ := hex
      have hhit := hs.hit j hj
      rw [he] at hhit
      rw [hhit] at hcell
      have HE := Lib.hid he
      clear hhit he
      go_wp2
      go_region
      go_wp2
      go_ret2
      refine ⟨j, k - j, ⟨by omega, ?_, ?_⟩, ret_int2 (by omega) (by omega), hbel.drew⟩
      · rw [show j + (k - j) = k by omega]; exact HE.out.symm
      · intro i i' hi hi'; exact hs.ne i i' hi (by omega)
    · have hno : ∀ j, j < k → rst b T B j ≠ rst b T B k := fun j hj e => hex ⟨j, hj, e⟩
      have hmiss := hs.miss _ hr hno
      rw [hmiss] at hcell
      have HN := Lib.hid hno
      clear hex hmiss hno
      obtain ⟨m1, m2⟩ := mul_bd (rst b T B k) b B (by omega) (by omega) (by omega) (by omega) (by omega)
      have hst := hs.step hT HN.out
      go_wp2
      go_roundw
      case rel =>
        refine ⟨k + 1, _, by simp, ?_, hz.set _ _, hst, hx.other (by omega) _, hbel.setCell (p := ⟨w.heap.size + 1, rst b T B k, none⟩) (by simp) _⟩
        rw [show rst b T B (k + 1) = rst b T B k * b % B from rfl]; simp
      case measure => simp [intOf]; omega

end Go.Proofs.Ythoaldiadgeonaa

namespace Go.Proofs.Ythoaldiadgeonaa
set_option maxRecDepth 100000
open Go.RowKit

/-- A row under way: a counter, the digits so far. -/
def digL (b T B k : Nat) : List Int := (List.range k).map fun i => (dig b T B i : Int)

theorem digL_succ (b T B k : Nat) : digL b T B (k + 1) = digL b T B k ++ [(dig b T B k : Int)] := by
  unfold digL; rw [List.range_succ, List.map_append]; rfl
theorem digL_len (b T B k : Nat) : (digL b T B k).length = k := by simp [digL]
theorem digL_get (b T B K k : Nat) (hk : k < K) : (digL b T B K)[k]?.getD 0 = (dig b T B k : Int) := by
  unfold digL
  rw [List.getElem?_map, List.getElem?_range hk]
  rfl


end Go.Proofs.Ythoaldiadgeonaa

namespace Go.Proofs.Ythoaldiadgeonaa
set_option maxRecDepth 100000
open Go.RowKit

/-- The digits of the round. -/
def rndL (b T B n m : Nat) : List Int := (digL b T B (n + m)).drop n

theorem rndL_len (b T B n m : Nat) : (rndL b T B n m).length = m := by simp [rndL, digL_len]

theorem rndL_get (b T B n m k : Nat) (hk : k < m) : (rndL b T B n m)[k]?.getD 0 = (dig b T B (n + k) : Int) := by
  unfold rndL digL
  rw [List.getElem?_drop, List.getElem?_map, List.getElem?_range (by omega)]
  rfl

theorem digL_frT {b T B : Nat} (hT : T < B) (hg : Nat.gcd T B = 1) (n m : Nat) : digL b (frT b T B n).1 (frT b T B n).2 m = (digL b T B (n + m)).drop n := by
  apply List.ext_getElem?
  intro i
  unfold digL
  rw [List.getElem?_drop, List.getElem?_map, List.getElem?_map]
  by_cases hi : i < m
  · rw [List.getElem?_range hi, List.getElem?_range (by omega)]
    simp [dig_add hT hg]
  · rw [List.getElem?_eq_none (by simp; omega), List.getElem?_eq_none (by simp; omega)]
    rfl


end Go.Proofs.Ythoaldiadgeonaa
