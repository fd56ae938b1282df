/-
  The law FnOf's walk.
-/
import Derived.Test.YtoepfemifmellaaDrawOf
import Derived.Test.YtoepfemifmellaaOfSame
import Derived.Test.YtoepfemifmellaaOfDig
import Derived.Test.YtoepfemifmellaaLists
import Derived.Test.YtoepfemifmellaaPMath
namespace Go.Proofs.Ytoepfemifmellaa
open Go.RowKit

set_option maxRecDepth 100000 in
set_option maxHeartbeats 4000000 in
theorem lawOf_any (a : Option Addr) (len cap : Nat) (zs : List Int) (w : World) (r : IsRow .u8 w a len cap zs) :
    Calls Try.prog 3 #[.slice a len cap] w fun e w' => e = .returned (.bool true) ∧ Below w.heap.size w w' := by
  have hB := byt_of_row r
  clear r
  by_cases hl : 1048576 < len
  · have hl' : (1048576 : Int) < (len : Int) := by omega
    go_enter Try.func3, Try.ntmps3
    go_wp2
    go_ret
    exact ⟨rfl, Below.refl _ _⟩
  have hl' : decide ((1048576 : Int) < (len : Int)) = false := by simp; omega
  go_enter Try.func3, Try.ntmps3
  go_wp2_with fail
  refine (drawFracOf_any a len cap _ hB (by omega)).mono ?_
  rintro e w1 ⟨b, v, u, xs, ys, rfl, x1, y1, lx, ly, hb1⟩
  clear hl hB
  obtain ⟨x, y, p, hs, hi, hf⟩ := fracOf_same b xs ys (by omega) (by omega)
  have HS := Lib.hid hs; have HI := Lib.hid hi; clear hs hi
  have HX := Lib.hid x1; have HY := Lib.hid y1
  clear x1 y1
  go_wp2_with fail
  refine (HI.out _ _ _ _ _ HX.out HY.out).mono ?_
  rintro e w2 ⟨rfl, hb2⟩
  have x2 := HX.out.later hb2
  have y2 := HY.out.later hb2
  have O2 := Box2.new w2 27 (.int .i64 x) (.int .i64 y)
  have A2 : Below w2.heap.size w2 (w2.alloc (.cells #[.int .i64 x, .int .i64 y] 27)) := (Below.refl _ _).alloc (Nat.le_refl _) _
  have B2 := (hb1.trans (hb2.mono hb1.size)).trans (A2.mono (hb1.trans (hb2.mono hb1.size)).size)
  have x3 := x2.later A2
  have y3 := y2.later A2
  clear HX HY x2 y2 hb1 hb2 A2
  go_wp2_with fail
  refine (HS.out _ _ _ _ _ x3 y3).mono ?_
  rintro e w3 ⟨rfl, hb3⟩
  have A3 : Below w3.heap.size w3 (w3.alloc (.cells #[.int .i64 x, .int .i64 y] 27)) := (Below.refl _ _).alloc (Nat.le_refl _) _
  have C3 := hb3.trans (A3.mono hb3.size)
  have x4 := x3.later C3
  have y4 := y3.later C3
  have O4 := O2.later C3
  have W4 := Box2.new w3 27 (.int .i64 x) (.int .i64 y)
  have B4 := B2.trans (C3.mono B2.size)
  clear x3 y3 O2 B2 hb3 A3 C3 HS HI
  have o0 := O4.cell0
  have o1 := O4.cell1
  have u0 := W4.cell0
  have u1 := W4.cell1
  cases p with
  | false =>
    go_wp2_with fail
    go_ret
    exact ⟨rfl, B4⟩
  | true =>
    obtain ⟨b, rfl, ok, hne, ex, ey, hy⟩ := hf rfl
    obtain ⟨T, B, rfl, rfl, hT, hg, hdig⟩ := of_digits ok hne ex ey
    have h3 := ok.b1; have h4 := ok.b2; have hm := ok.l1; have h5 := ok.l2
    clear hf ok hne ex ey
    have tl : tldB b T B = true := tld_mk h3 h4 hT (by omega) hg
    obtain ⟨n, hn⟩ : ∃ n, xs.length = n := ⟨_, rfl⟩
    obtain ⟨m, hm'⟩ : ∃ m, ys.length = m := ⟨_, rfl⟩
    have HD : ∀ wx : World, Calls Try.prog 10 #[.int .i64 b, .agg #[.int .i64 T, .int .i64 B], .int .i64 ((n : Int) + 2 * m)] wx fun e w' => ∃ v, e = .returned (.tuple #[v, .bool true]) ∧ Slc wx.heap.size w' v (digL b T B (n + 2 * m)) ∧ Below wx.heap.size wx w' := fun wx => by
      have e := implFracDigits_yesG b T B (n + 2 * m) tl hT hg (by omega) h3 h4 (by omega) wx
      rwa [show ((n + 2 * m : Nat) : Int) = (n : Int) + 2 * m by omega] at e
    obtain ⟨ax, cx, rfl⟩ := slc_form x4
    obtain ⟨ay, cy, rfl⟩ := slc_form y4
    rw [hn] at lx h5 x4 ⊢
    rw [hm'] at ly h5 hm y4 ⊢
    have HN := Lib.hid hn; have HM := Lib.hid hm'; clear hn hm'
    have HDD := Lib.hid HD; have HDG := Lib.hid hdig; have HG := Lib.hid hg; clear HD hdig hg
    go_wp2_with fail
    refine (HDD.out _).mono ?_
    rintro e w5 ⟨d, rfl, d5, hb5⟩
    have x5 := x4.later hb5
    have y5 := y4.later hb5
    have O5 := O4.later hb5
    have B5 := B4.trans (hb5.mono B4.size)
    have hdl := digL_len b T B (n + 2 * m)
    obtain ⟨gd, od, cd, rfl, _, _, _, _⟩ := slc_some d5 (by omega)
    rw [hdl] at d5 ⊢
    clear x4 y4 O4 W4 B4 hb5 o0 o1 u0 u1
    have o0 := O5.cell0
    have o1 := O5.cell1
    go_wp2_with fail
    go_loopw [14] (fun i wr => ∃ k : Nat, k ≤ n + 2 * m ∧ i = .int .i64 k ∧ wr = w5) (fun i _ => n + 2 * m - (intOf i).toNat)
    case atStart => exact ⟨0, Nat.zero_le _, rfl, rfl⟩
    case round =>
      obtain ⟨k, hk, rfl, rfl⟩ := hrel
      by_cases hlt : k < n + 2 * m
      · have hcd := d5.cell hdl k hlt
        rw [digL_get _ _ _ _ _ hlt, HDG.out k] at hcd
        have hj1 : (k : Int) < (n : Int) + 2 * m := by omega
        by_cases hkn : k < n
        · have hj2 : (k : Int) < n := by omega
          obtain ⟨gx, ox, cx', e1, _, _, _, _⟩ := slc_some x5 (by rw [HN.out]; omega)
          rw [HN.out] at e1
          cases e1
          have hcx := x5.cell HN.out k hkn
          have he : eDig xs ys k = xs[k]?.getD 0 := by unfold eDig; rw [HN.out, if_pos hkn]
          rw [he] at hcd
          go_wp2_with fail
          exact ⟨⟨k + 1, hlt, rfl, trivial⟩, by simp [intOf]; omega⟩
        · have hj2 : ¬ (k : Int) < n := by omega
          obtain ⟨gy, oy, cy', e1, _, _, _, _⟩ := slc_some y5 (by rw [HM.out]; omega)
          rw [HM.out] at e1
          cases e1
          have hjm : (k - n) % m < m := Nat.mod_lt _ hm
          have hcy := y5.cell HM.out ((k - n) % m) hjm
          have he : eDig xs ys k = ys[(k - n) % m]?.getD 0 := by unfold eDig; rw [HN.out, HM.out, if_neg hkn]
          rw [he] at hcd
          have hmm : ¬ m = 0 := by omega
          have hmod : ((k : Int) - n).tmod m = ((((k - n) % m : Nat)) : Int) := by
            rw [Int.tmod_eq_emod_of_nonneg (by omega), show (k : Int) - n = ((k - n : Nat) : Int) by omega]; rfl
          revert hmod hcy hcd hjm
          generalize (k - n) % m = j
          intro hmod hcy hcd hjm
          go_wp2_with fail
          exact ⟨⟨k + 1, hlt, rfl, trivial⟩, by simp [intOf]; omega⟩
      · obtain rfl : k = n + 2 * m := by omega
        have hfin : finB T B = true := by
          unfold tldB at tl
          rw [Bool.and_eq_true] at tl
          exact tl.2
        go_wp2_with fail
        refine (implFracIn_any _ _ _).mono ?_
        rintro e w6 ⟨rfl, hb6⟩
        rw [hfin]
        go_wp2_with fail
        go_ret
        exact ⟨rfl, B5.trans (hb6.mono B5.size)⟩

end Go.Proofs.Ytoepfemifmellaa
