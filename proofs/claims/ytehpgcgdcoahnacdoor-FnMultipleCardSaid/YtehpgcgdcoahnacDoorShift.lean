/-
  The shifted fraction: the program's and the model's; the model's list of rests.
-/
import Derived.Test.YtehpgcgdcoahnacDoorOther
import Derived.Test.YtehpgcgdcoahnacDoorGOrd
import Derived.Test.YtehpgcgdcoahnacDoorRed
import Derived.Test.YtehpgcgdcoahnacDoorPower
import Derived.Test.YtehpgcgdcoahnacDoorGRnd
import Derived.Deep.RegionHeld3
namespace Go.Proofs.YtehpgcgdcoahnacDoor
open Go.RowKit

set_option maxHeartbeats 1000000 in
theorem l2List_any (b T B K : Nat) (w : World) (hT : T < B) (hB : B ≤ 1000) (h3 : 2 ≤ b) (h4 : b ≤ 16) (hK : K ≤ 1000000000) :
    Calls Tryd.prog 67 #[.int .i64 b, .agg #[.int .i64 T, .int .i64 B], .int .i64 K] w fun e w' =>
      ∃ v, e = .returned v ∧ Slc w.heap.size w' v (rstL b T B K) ∧ Below w.heap.size w w' := by
  obtain ⟨i0, hi, hz0, hz1, hz2⟩ := info_parts infoInt
  go_enter Tryd.func67, Tryd.ntmps67
  go_wp2
  go_loopw [7, 8, 9] (fun v r i wr => ∃ k : Nat, k ≤ K ∧ i = .int .i64 k ∧ r = .int .i64 (rst b T B k) ∧ wr.ownsRow (w.heap.size + 1) 3 1 v k ((rstL b T B k).map (Value.int .i64)) ∧
      Box2 wr w.heap.size 30 (.int .i64 T) (.int .i64 B) ∧ Below w.heap.size w wr)
    (fun _ _ i _ => K - (intOf i).toNat)
  case atStart =>
    refine ⟨0, Nat.zero_le _, rfl, rfl, ?_, (Box2.newAt (by simp)).alloc _, ?_⟩
    · have := World.ownsRow_made (base := w.heap.size + 1) (e := 3) (size := 1) (w.alloc (.cells #[.int .i64 T, .int .i64 B] 30)) #[] 0 (by simp) (by simp) (by simp)
      simpa [rstL] using this
    · repeat (first | exact Below.refl _ _ | refine Below.drew ?_ | refine Below.alloc ?_ (by simp) _)
  case round =>
    obtain ⟨k, hk, rfl, rfl, hown, hx, hbel⟩ := hrel
    have hr := rst_lt (b := b) hT k
    have c0 := hx.cell0
    have c1 := hx.cell1
    have hx2 := hx.lt
    by_cases hlt : k < K
    · obtain ⟨m1, m2⟩ := mul_bd (rst b T B k) b B (by omega) (by omega) (by omega) (by omega) (by omega)
      go_wp2_with (at_builtin; refine wpList_append_own _ rfl _ _ 22 rfl (w.heap.size + 1) 3 i0 (.int .i64 0) 1 8 Tryd.underlying22 hi hz0 hz1 hz2 rfl (by decide) _ _ _ rfl (hown.alloc _) ⟨wr.heap.size, 0, none⟩ 1 1 [.int .i64 (rst b T B k)] rfl rfl ?c1 ?c2 ?c3 ?c4 ?c5 ?_)
      case c1 => exact cell_one_new _ _ _
      case c2 => simp [Value.oneCell']
      case c3 => unfold maxLen; omega
      case c4 => omega
      case c5 => simp; omega
      intro v' w1 hown' hgrow _
      have hb1 : Below (w.heap.size + 1) wr w1 := ((Below.refl _ wr).alloc (by omega) _).grown hgrow (by simp; omega) (fun q e => (hown.lt q e).1)
      have hx1 := hx.below hb1 (by omega)
      have d0 := hx1.cell0
      have d1 := hx1.cell1
      go_wp2
      go_roundw
      case rel =>
        refine ⟨k + 1, by omega, by go_num, ?_, ?_, hx1, hbel.trans (hb1.mono (by omega))⟩
        · rw [show rst b T B (k + 1) = rst b T B k * b % B from rfl]; simp
        · rw [rstL_succ, List.map_append]
          simpa using hown'
      case measure => simp [intOf]; omega
    · obtain rfl : k = K := by omega
      go_wp2
      go_ret
      have hs := Slc.of_owns (n₀ := w.heap.size + 1) (xs := rstL b T B k) (by rw [rstL_len]; exact hown)
      exact ⟨_, rfl, hs.mono (by omega), hbel⟩

theorem l2List_get (b T B k : Nat) (w : World) (hT : T < B) (hB : B ≤ 1000) (h3 : 2 ≤ b) (h4 : b ≤ 16) (hK : k ≤ 1000000) :
    Calls Tryd.prog 67 #[.int .i64 b, .agg #[.int .i64 T, .int .i64 B], .int .i64 ((k : Int) + 1)] w fun e w' =>
      ∃ g off cap, e = .returned (.slice (some ⟨g, off, none⟩) (k + 1) cap) ∧ w'.cell? ⟨g, off + k, none⟩ = some (.int .i64 (rst b T B k)) ∧ Below w.heap.size w w' := by
  have ec : (k : Int) + 1 = ((k + 1 : Nat) : Int) := by omega
  rw [ec]
  refine (l2List_any b T B (k + 1) _ hT hB h3 h4 (by omega)).mono ?_
  rintro e w3 ⟨v, rfl, hv, hb3⟩
  have hl := rstL_len b T B (k + 1)
  have hv0 := hv
  rcases hv with ⟨rfl, hz⟩ | ⟨g, off, cap, cur, rfl, r1, r2, r3, r4, r5, r6⟩
  · rw [hz] at hl; simp at hl
  rw [hl] at hv0
  have kc := Slc.cell hl hv0 k (by omega)
  rw [rstL_get _ _ _ _ _ (by omega)] at kc
  exact ⟨g, off, cap, by rw [hl], kc, hb3⟩

theorem l2Reduced_rst (b T B k : Nat) (w : World) (hT : T < B) (hg : Nat.gcd T B = 1) (hB : B ≤ 1000) :
    Calls Tryd.prog 47 #[.int .i64 (rst b T B k), .int .i64 B] w fun e w' =>
      e = .returned (.agg #[.int .i64 (frT b T B k).1, .int .i64 (frT b T B k).2]) ∧ Below w.heap.size w w' := by
  have hr := rst_lt (b := b) hT k
  have hl := low_rst (b := b) hT hg k
  have h := l2Reduced_int (rst b T B k) B w (by omega) (by omega) (by omega) (by omega)
  rw [gcdI_nat] at h
  rw [← hl.1, ← hl.2]
  simpa using h





end Go.Proofs.YtehpgcgdcoahnacDoor
