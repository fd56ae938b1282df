/-
  The law FnExactTurnIs's walk, where the program answers what its sentence says.
-/
import Derived.Test.YtagkbpdfpeadbabTurnB
import Derived.Test.YtagkbpdfpeadbabToInt
import Derived.Test.YtagkbpdfpeadbabEq
import Derived.Test.YtagkbpdfpeadbabGRow
namespace Go.Proofs.Ytagkbpdfpeadbab
open Go.RowKit

set_option maxHeartbeats 4000000 in
theorem lawTurnIs_any (H : ImTurnIs) (b : Int) (a : Option Addr) (l c : Nat) (z : List Int) (k : Int) (w : World) (_wb : (Lit.int .i64 b).wf = true) (r : IsRow .i64 w a l c z) (_wk : (Lit.int .i64 k).wf = true) :
    Calls Try.prog 4 #[.int .i64 b, .slice a l c, .int .i64 k] w fun e w' => e = .returned (.bool true) ∧ Below w.heap.size w w' := by
  obtain ⟨hx, sx⟩ := row_src r
  clear r
  revert hx sx
  generalize z.take l = ds
  intro hx sx
  subst hx
  by_cases h1 : 1048576 < ds.length
  · have h1'' : (1048576 : Int) < (ds.length : Int) := by omega
    clear sx
    revert h1 h1''
    generalize ds.length = n
    intro h1 h1''
    go_enter Try.func4, Try.ntmps4
    go_wp2
    go_ret
    exact ⟨rfl, Below.refl _ _⟩
  have h1' : decide ((1048576 : Int) < (ds.length : Int)) = false := by simp; omega
  have hlx : ds.length ≤ 1048576 := by omega
  obtain ⟨p, hs, hi⟩ := bothTurnIs H b k ds hlx
  have TX : Hid (∀ wx, Below w.heap.size w wx → Calls Try.prog 8 #[.slice a ds.length c] wx fun e w' => ∃ v, e = .returned v ∧ Slc wx.heap.size w' v ds ∧ Below wx.heap.size wx w') := fun wx hb => toIntS_any a c ds wx (sx.later hb) hlx
  have ED : Hid (∀ n₀ n₁ v u wx, Slc n₀ wx v ds → Slc n₁ wx u ds → Calls Try.prog 10 #[v, u] wx fun e w' => e = .returned (.bool true) ∧ Below wx.heap.size wx w') := fun n₀ n₁ v u wx ha hb => by
    have := eqIntS_any n₀ n₁ v u ds ds wx ha hb hlx hlx
    simpa using this
  have HS := Lib.hid hs; have HI := Lib.hid hi; clear hs hi sx h1
  clear hlx
  revert h1' TX
  generalize ds.length = n
  intro h1' TX
  cases p
  all_goals (
    go_enter Try.func4, Try.ntmps4
    go_wp2_with fail
    refine (TX.out _ (Below.refl _ _)).mono ?_
    rintro e w1 ⟨v1, rfl, s1, B1⟩
    go_wp2_with fail
    refine (HS.out _ v1 w1 s1).mono ?_
    rintro e w2 ⟨rfl, b2⟩
    have B2 := B1.trans (b2.mono B1.size)
    go_wp2_with fail
    refine (TX.out w2 B2).mono ?_
    rintro e w3 ⟨v3, rfl, s3, b3⟩
    have B3 := B2.trans (b3.mono B2.size)
    go_wp2_with fail
    refine (HI.out _ v3 w3 s3).mono ?_
    rintro e w4 ⟨rfl, b4⟩
    have B4 := B3.trans (b4.mono B3.size)
    have s4 := s3.later b4
    go_wp2_with fail
    refine (TX.out w4 B4).mono ?_
    rintro e w5 ⟨v5, rfl, s5, b5⟩
    have B5 := B4.trans (b5.mono B4.size)
    have s5' := s4.later b5
    go_wp2_with fail
    refine (ED.out _ _ v3 v5 w5 s5' s5).mono ?_
    rintro e w6 ⟨rfl, b6⟩
    have B6 := B5.trans (b6.mono B5.size)
    go_wp2_with fail
    go_ret
    exact ⟨rfl, B6⟩)

end Go.Proofs.Ytagkbpdfpeadbab
