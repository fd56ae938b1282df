/-
  The draw of a base, a number and a digit.
-/
import Derived.Test.YtamcpoadpkgogadDrawT
namespace Go.Proofs.Ytamcpoadpkgogad
open Go.RowKit

set_option maxHeartbeats 2000000 in
theorem drawCountFull_any (a : Option Addr) (len cap : Nat) (w : World) (h : Byt w a len cap) :
    Calls Try.prog 4 #[.slice a len cap] w fun e w' => ∃ b p d : Int, e = .returned (.tuple #[.int .i64 b, .int .i64 p, .int .i64 d]) ∧ Below w.heap.size w w' := by
  go_enter Try.func4, Try.ntmps4
  go_wp2_with fail
  refine (drawTurnCyclic_str a len cap w h).mono ?_
  rintro e w1 ⟨b, p, d1, d2, rfl, B1⟩
  go_wp2_with fail
  refine (l6Open_any a len cap w1 (h.later B1)).mono ?_
  rintro e w2 ⟨g, rfl, hg, hR2, hb2⟩
  have B2 := B1.trans (hb2.mono B1.size)
  have hRp := hR2.setp 61
  have kc := hR2.cell1
  have kf := hR2.frozen1
  have hs1 := B1.size
  have B3 := B2.setCell (p := ⟨g, 1, none⟩) (show w.heap.size ≤ g by omega) (.int .i64 61)
  clear hR2 hb2 B1 B2
  go_wp2_with fail
  revert hRp B3
  clear kc kf
  generalize w2.setCell ⟨g, 1, none⟩ (.int .i64 61) = w3
  intro hRp B3
  refine (pick_any g 61 24 w3 hRp (by omega) (by omega)).mono ?_
  rintro e w4 ⟨r, h1, h2, rfl, hR4, hG4⟩
  have B4 := B3.grown hG4 B3.size (fun k e => by cases e; omega)
  obtain ⟨r, rfl⟩ := Int.eq_ofNat_of_zero_le h1
  have t1 : (r : Int).tdiv 23 = ((r / 23 : Nat) : Int) := by rw [Int.tdiv_eq_ediv_of_nonneg (by omega)]; simp
  have t0 : r / 23 ≤ 1 := by omega
  clear hRp B3 hG4 h1 h2
  revert t1 t0
  generalize r / 23 = q
  intro t1 t0
  have t2 : wrap64 (q : Int) = (q : Int) := IntWalk.wrap64_in _ (by omega)
  have t3 : IntKind.i64.wrap ((b : Int) + (q : Int)) = (b : Int) + (q : Int) := IntWalk.i64_in _ (by omega)
  go_wp2_with fail
  refine (pick_any g 62 ((b : Int) + (q : Int)) w4 hR4 (by omega) (by omega)).mono ?_
  rintro e w5 ⟨z, h1, h2, rfl, hR5, hG5⟩
  have B5 := B4.grown hG5 B4.size (fun k e => by cases e; omega)
  go_wp2_with fail
  refine bodyPost_ret (v := .tuple #[.int .i64 b, .int .i64 p, .int .i64 z]) (by simp [results, Try.results4, go_sem]) rfl ?_
  exact ⟨b, p, z, rfl, B5⟩

end Go.Proofs.Ytamcpoadpkgogad
