/-
  The model's digits: a row that grows digit by digit.
-/
import Derived.Test.YtoepfemifmellaaLens
namespace Go.Proofs.Ytoepfemifmellaa
open Go.RowKit

/-- A row under way: a counter, the digits so far. -/
def digL (b T B k : Nat) : List Int := (List.range k).map fun i => (dig b T B i : Int)

theorem digL_succ (b T B k : Nat) : digL b T B (k + 1) = digL b T B k ++ [(dig b T B k : Int)] := by
  unfold digL; rw [List.range_succ, List.map_append]; rfl
theorem digL_len (b T B k : Nat) : (digL b T B k).length = k := by simp [digL]
theorem digL_get (b T B K k : Nat) (hk : k < K) : (digL b T B K)[k]?.getD 0 = (dig b T B k : Int) := by
  unfold digL
  rw [List.getElem?_map, List.getElem?_range hk]
  rfl

set_option maxHeartbeats 1000000 in
theorem l1Digits_any (b T B K : Nat) (w : World) (hT : T < B) (hB : B ≤ 1000) (h3 : 2 ≤ b) (h4 : b ≤ 16) (hK : K ≤ 1000000000) :
    Calls Try.prog 52 #[.int .i64 b, .agg #[.int .i64 T, .int .i64 B], .int .i64 K] w fun e w' =>
      ∃ v, e = .returned v ∧ Slc w.heap.size w' v (digL b T B K) ∧ Below w.heap.size w w' := by
  obtain ⟨i0, hi, hz0, hz1, hz2⟩ := info_parts infoInt
  go_enter Try.func52, Try.ntmps52
  go_wp2
  go_loopw [7, 8, 9] (fun v r i wr => ∃ k : Nat, k ≤ K ∧ i = .int .i64 k ∧ r = .int .i64 (rst b T B k) ∧ wr.ownsRow (w.heap.size + 1) 3 1 v k ((digL b T B k).map (Value.int .i64)) ∧
      Box2 wr w.heap.size 27 (.int .i64 T) (.int .i64 B) ∧ Below w.heap.size w wr)
    (fun _ _ i _ => K - (intOf i).toNat)
  case atStart =>
    refine ⟨0, Nat.zero_le _, rfl, rfl, ?_, (Box2.newAt (by simp)).alloc _, ?_⟩
    · have := World.ownsRow_made (base := w.heap.size + 1) (e := 3) (size := 1) (w.alloc (.cells #[.int .i64 T, .int .i64 B] 27)) #[] 0 (by simp) (by simp) (by simp)
      simpa [digL] using this
    · repeat (first | exact Below.refl _ _ | refine Below.drew ?_ | refine Below.alloc ?_ (by simp) _)
  case round =>
    obtain ⟨k, hk, rfl, rfl, hown, hx, hbel⟩ := hrel
    have hr := rst_lt (b := b) hT k
    have c0 := hx.cell0
    have c1 := hx.cell1
    have hx2 := hx.lt
    by_cases hlt : k < K
    · obtain ⟨m1, m2⟩ := mul_bd (rst b T B k) b B (by omega) (by omega) (by omega) (by omega) (by omega)
      go_wp2_with (at_builtin; refine wpList_append_own _ rfl _ _ 23 rfl (w.heap.size + 1) 3 i0 (.int .i64 0) 1 8 Try.underlying23 hi hz0 hz1 hz2 rfl (by decide) _ _ _ rfl (hown.alloc _) ⟨wr.heap.size, 0, none⟩ 1 1 [.int .i64 (rst b T B k * b / B)] rfl rfl ?c1 ?c2 ?c3 ?c4 ?c5 ?_)
      case c1 => exact cell_one_new _ _ _
      case c2 => simp [Value.oneCell']
      case c3 => unfold maxLen; omega
      case c4 => omega
      case c5 => simp; omega
      intro v' w1 hown' hgrow _
      have hb1 : Below (w.heap.size + 1) wr w1 := ((Below.refl _ wr).alloc (by omega) _).grown hgrow (by simp; omega) (fun q e => (hown.lt q e).1)
      have hx1 := hx.below hb1 (by omega)
      have d0 := hx1.cell0
      have d1 := hx1.cell1
      go_wp2
      go_roundw
      case rel =>
        refine ⟨k + 1, by omega, by go_num, ?_, ?_, hx1, hbel.trans (hb1.mono (by omega))⟩
        · rw [show rst b T B (k + 1) = rst b T B k * b % B from rfl]; simp
        · rw [digL_succ, List.map_append]
          have : ((dig b T B k : Nat) : Int) = (rst b T B k : Int) * b / B := by unfold dig; simp
          simpa [this] using hown'
      case measure => simp [intOf]; omega
    · obtain rfl : k = K := by omega
      go_wp2
      go_ret
      have hs := Slc.of_owns (n₀ := w.heap.size + 1) (xs := digL b T B k) (by rw [digL_len]; exact hown)
      exact ⟨_, rfl, hs.mono (by omega), hbel⟩

end Go.Proofs.Ytoepfemifmellaa
