/-
  The fraction behind the beginning.
-/
import Derived.Test.YtoiofkijinlllacNext
namespace Go.Proofs.Ytoiofkijinlllac
open Go.RowKit

set_option maxHeartbeats 1000000 in
theorem behindBegin_any (b T B : Nat) (w : World) (hT : T < B) (hg : Nat.gcd T B = 1) (hB : B ≤ 1000) (h3 : 2 ≤ b) (h4 : b ≤ 16) :
    Calls Try.prog 47 #[.agg #[.int .i64 T, .int .i64 B], .int .i64 b] w fun e w' =>
      ∃ n, (trn b T B n ∧ ∀ i, i < n → ¬ trn b T B i) ∧ e = .returned (frV (frT b T B n)) ∧ Below w.heap.size w w' := by
  have HG := Lib.hid hg; clear hg
  go_enter Try.func47, Try.ntmps47
  go_wp2
  go_loopw [7] (fun _ wr => ∃ i : Nat, Box2 wr (w.heap.size + 1 + 1) 24 (.int .i64 (frT b T B i).1) (.int .i64 (frT b T B i).2) ∧ Box2 wr (w.heap.size + 1) 24 (.int .i64 0) (.int .i64 0) ∧ (∀ j, j < i → ¬ trn b T B j) ∧ Below w.heap.size w wr)
    (fun _ wr => cellN wr (w.heap.size + 1 + 1) 1)
  case atStart =>
    refine ⟨0, ?_, ?_, fun j hj => by omega, ?_⟩
    · exact Box2.newAt (by simp)
    · exact (Box2.newAt (by simp)).alloc _
    · repeat (first | exact Below.refl _ _ | refine Below.drew ?_ | refine Below.alloc ?_ (by simp; try omega) _ | refine Below.setCell ?_ (by simp; try omega) _)
  case round =>
    obtain ⟨i, hbx, hz, hnot, hbel⟩ := hrel
    obtain ⟨hl1, hl2, hl3⟩ := fr_lt (b := b) hT HG.out i
    have k0 := hbx.cell0
    have k1 := hbx.cell1
    by_cases ht : Nat.gcd b (frT b T B i).2 = 1
    · have hd : decide (Nat.gcd b (frT b T B i).2 = 1) = true := by simpa using ht
      have HT := Lib.hid ht; clear ht
      go_wp2_with fail
      refine (turns_any _ _ _ _ (by omega) (by omega)).mono ?_
      rintro e w1 ⟨rfl, hb1⟩
      have q1 := hbx.later hb1
      have k0' := q1.cell0
      have k1' := q1.cell1
      have z1 := hz.later hb1
      have y0 := z1.cell0
      have y1 := z1.cell1
      have f0 := z1.frozen0
      have f1 := z1.frozen1
      go_wp2_with fail
      have y0' := (z1.set (.int .i64 (frT b T B i).1) (.int .i64 (frT b T B i).2)).cell0
      have y1' := (z1.set (.int .i64 (frT b T B i).1) (.int .i64 (frT b T B i).2)).cell1
      refine bodyPost_ret (v := frV (frT b T B i)) (by simp [results, Try.results47, go_sem, y0', y1', frV]) rfl ⟨i, ⟨HT.out, hnot⟩, rfl, ?_⟩
      have hs := hbel.size
      exact ((hbel.trans (hb1.mono hs)).setCell (p := ⟨w.heap.size + 1, 0, none⟩) (by simp) _).setCell (p := ⟨w.heap.size + 1, 1, none⟩) (by simp) _
    · have hd : decide (Nat.gcd b (frT b T B i).2 = 1) = false := by simpa using ht
      have HT := Lib.hid ht; clear ht
      go_wp2_with fail
      refine (turns_any _ _ _ _ (by omega) (by omega)).mono ?_
      rintro e w1 ⟨rfl, hb1⟩
      have q1 := hbx.later hb1
      have k0' := q1.cell0
      have k1' := q1.cell1
      go_wp2_with fail
      refine (next_fr b T B i _ hT HG.out hB h3 h4).mono ?_
      rintro e w2 ⟨rfl, hb2⟩
      have q2 := q1.later hb2
      have z2 := (hz.later hb1).later hb2
      have j0 := q2.cell0
      have j1 := q2.cell1
      have f0 := q2.frozen0
      have f1 := q2.frozen1
      go_wp2_with fail
      go_roundw
      have hs := hbel.size
      have hs1 := hb1.size
      case rel =>
        refine ⟨i + 1, q2.set _ _, ((z2.other (by omega) _).other (by omega) _), ?_, ?_⟩
        · intro j hj
          rcases Nat.lt_or_ge j i with h | h
          · exact hnot j h
          · obtain rfl : j = i := by omega
            exact HT.out
        · exact ((hbel.trans ((hb1.mono hs).trans (hb2.mono (by omega)))).setCell (p := ⟨w.heap.size + 1 + 1, 0, none⟩) (by simp; omega) _).setCell (p := ⟨w.heap.size + 1 + 1, 1, none⟩) (by simp; omega) _
      case measure =>
        rw [cellN_of (q2.set _ _).cell1, cellN_of hbx.cell1]
        exact fr_small hT HG.out h3 HT.out

end Go.Proofs.Ytoiofkijinlllac
