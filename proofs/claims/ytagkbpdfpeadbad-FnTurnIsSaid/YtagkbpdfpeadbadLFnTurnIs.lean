/-
  The law FnTurnIs's walk.
-/
import Derived.Test.YtagkbpdfpeadbadDrawT
import Derived.Test.YtagkbpdfpeadbadTurnB
import Derived.Test.YtagkbpdfpeadbadGRow
import Derived.Test.YtagkbpdfpeadbadStepB
import Derived.Test.YtagkbpdfpeadbadPartC
namespace Go.Proofs.Ytagkbpdfpeadbad
open Go.RowKit

set_option maxRecDepth 100000 in
set_option maxHeartbeats 4000000 in
theorem lawTurnIs_any (H : ImTurnIs) (a : Option Addr) (len cap : Nat) (zs : List Int) (w : World) (r : IsRow .u8 w a len cap zs) :
    Calls Try.prog 3 #[.slice a len cap] w fun e w' => e = .returned (.bool true) ∧ Below w.heap.size w w' := by
  have hB := byt_of_row r
  clear r
  by_cases hl : 1048576 < len
  · have hl' : (1048576 : Int) < (len : Int) := by omega
    go_enter Try.func3, Try.ntmps3
    go_wp2
    go_ret
    exact ⟨rfl, Below.refl _ _⟩
  have hl' : decide ((1048576 : Int) < (len : Int)) = false := by simp; omega
  go_enter Try.func3, Try.ntmps3
  go_wp2_with fail
  refine (drawTurnIs_any a len cap _ hB).mono ?_
  rintro e w1 ⟨b, k, y, d, d1, d2, hd, hk5, rfl, ly1, B1⟩
  clear hl hB
  have hdl : d.length ≤ 1048576 := by omega
  cases h : rngB b d && decide (0 ≤ (k : Int) ∧ (k : Int) ≤ 100) with
  | false =>
    have HI := Lib.hid (H.1 b k d hdl h); have HS := Lib.hid (specTurnIs_no b k d hdl h)
    clear h
    go_wp2_with fail
    refine (HI.out _ y w1 ly1).mono ?_
    rintro e w2 ⟨rfl, hb2⟩
    have B2 := B1.trans (hb2.mono B1.size)
    have ly2 := ly1.later hb2
    clear B1 hb2 ly1
    go_wp2_with fail
    refine (HS.out _ y w2 ly2).mono ?_
    rintro e w3 ⟨rfl, hb3⟩
    have B3 := B2.trans (hb3.mono B2.size)
    clear B2 hb3
    go_wp2_with fail
    go_ret
    exact ⟨rfl, B3⟩
  | true =>
    obtain ⟨b', k', e1, e2, hr, hk⟩ := rng_and h
    obtain rfl : b = b' := by omega
    obtain rfl : k = k' := by omega
    clear e1 e2 h
    have HI := Lib.hid (H.2 b k d hr (by omega)); have HS := Lib.hid (specTurnIs_yes b k d hr (by omega))
    cases hb : isB b d k with
    | false =>
      rw [hb] at HI HS
      clear hr hb
      go_wp2_with fail
      refine (HI.out _ y w1 ly1).mono ?_
      rintro e w2 ⟨rfl, hb2⟩
      have B2 := B1.trans (hb2.mono B1.size)
      have ly2 := ly1.later hb2
      clear B1 hb2 ly1
      go_wp2_with fail
      refine (HS.out _ y w2 ly2).mono ?_
      rintro e w3 ⟨rfl, hb3⟩
      have B3 := B2.trans (hb3.mono B2.size)
      clear B2 hb3
      go_wp2_with fail
      go_ret
      exact ⟨rfl, B3⟩
    | true =>
      rw [hb] at HI HS
      have hr2 : Rng b (d ++ d) := ⟨hr.b2, hr.b16, by rw [List.length_append]; have := hr.l1; omega, by rw [List.length_append]; omega, fun x hx => by
        rcases List.mem_append.1 hx with h | h <;> exact hr.dg x h⟩
      have hb2 := hr.b2
      have his := of_decide_eq_true hb
      have hkd := (tim_iff (by omega) rotL_len hr.dg.rot).1 his
      have his2 : isB b (d ++ d) k = true := decide_eq_true ((tim_iff (by omega) rotL_len hr2.dg.rot).2 (twice_turns hr.l1 hkd))
      have HT := Lib.hid (H.2 b k (d ++ d) hr2 (by omega))
      rw [his2] at HT
      have hl1 := hr.l1
      obtain ⟨i0, hi, hz0, hz1, hz2⟩ := info_parts infoInt
      obtain ⟨n, hn⟩ : ∃ n, d.length = n := ⟨_, rfl⟩
      have HN := Lib.hid hn
      clear hr hb hr2 his hkd his2 hb2
      go_wp2_with fail
      refine (HI.out _ y w1 ly1).mono ?_
      rintro e w2 ⟨rfl, hb2⟩
      have B2 := B1.trans (hb2.mono B1.size)
      have ly2 := ly1.later hb2
      clear B1 hb2 ly1
      go_wp2_with fail
      refine (HS.out _ y w2 ly2).mono ?_
      rintro e w3 ⟨rfl, hb3⟩
      have B3 := B2.trans (hb3.mono B2.size)
      have ly3 := ly2.later hb3
      clear B2 hb3 ly2
      obtain ⟨gy, oy, cy, rfl, _, _, _, _⟩ := slc_some ly3 (by omega)
      rw [hn] at ly3 hd hl1 ⊢
      clear hn HI HS
      have j125 : decide ((125 : Int) < (n : Int)) = false := by simp; omega
      have hA : Below w3.heap.size w3 (w3.alloc (.cells #[] 3)) := (Below.refl _ _).alloc (Nat.le_refl _) _
      have hO : (w3.alloc (.cells #[] 3)).ownsRow w3.heap.size 3 1 (.slice (some ⟨w3.heap.size, 0, none⟩) 0 0) 0 [] := World.ownsRow_made (base := w3.heap.size) (e := 3) (size := 1) w3 #[] 0 (Nat.le_refl _) (by simp) (by simp)
      have HNW := Lib.hid (slc_news (d := 0) HN.out ly3 hA d (fun q v hv => by rw [Nat.zero_add]; exact hv))
      have BA := B3.alloc B3.size (.cells #[] 3)
      go_wp2_with (at_builtin; refine wpList_append_wanted _ _ _ 23 rfl (by simp [Region.wanted, yielded, go_sem]) w3.heap.size 3 i0 (.int .i64 0) 1 8 Try.underlying23 hi hz0 hz1 hz2 rfl (by decide) _ 0 [] rfl hO ⟨gy, oy, none⟩ n cy (d.map (Value.int .i64)) rfl (by simp [HN.out]) HNW.out (ints_one d) ?c3 ?c4 ?c5 ?_)
      case c3 => unfold maxLen; omega
      case c4 => omega
      case c5 => simp
      intro v4 w4 hown4 hgrow4
      have hown4' : w4.ownsRow w3.heap.size 3 1 v4 n (d.map (Value.int .i64)) := by simpa using hown4
      have b4 : Below w3.heap.size w3 w4 := hA.grown hgrow4 hA.size (fun q e => by cases e; exact Nat.le_refl _)
      have HNX := Lib.hid (slc_news (d := 0) HN.out ly3 b4 d (fun q v hv => by rw [Nat.zero_add]; exact hv))
      have B4 := B3.trans (b4.mono B3.size)
      clear hown4 hgrow4 HNW hO hA BA
      go_wp2_with (at_builtin; refine wpList_append_wanted _ _ _ 23 rfl (by simp [Region.wanted, yielded, go_sem]) w3.heap.size 3 i0 (.int .i64 0) 1 8 Try.underlying23 hi hz0 hz1 hz2 rfl (by decide) _ n (d.map (Value.int .i64)) rfl hown4' ⟨gy, oy, none⟩ n cy (d.map (Value.int .i64)) rfl (by simp [HN.out]) HNX.out (ints_one d) ?c3 ?c4 ?c5 ?_)
      case c3 => unfold maxLen; omega
      case c4 => omega
      case c5 => exact b4.size
      intro v5 w5 hown5 hgrow5
      have b5 : Below w3.heap.size w3 w5 := b4.grown hgrow5 b4.size (fun q e => (owns_ge hown4' e))
      have B5 := B3.trans (b5.mono B3.size)
      have hs := Slc.of_owns (n₀ := w3.heap.size) (W := w5) (v := v5) (xs := d ++ d) (by rw [List.length_append, HN.out, List.map_append]; exact hown5)
      have HT5 := Lib.hid (HT.out _ _ _ hs)
      clear hown4' hown5 hgrow5 HNX b4 B4 b5 HT hs ly3
      go_wp2_with fail
      refine HT5.out.mono ?_
      rintro e w6 ⟨rfl, hb6⟩
      have B6 := B5.trans (hb6.mono B5.size)
      clear B5 hb6 HT5
      go_wp2_with fail
      go_ret
      exact ⟨rfl, B6⟩

end Go.Proofs.Ytagkbpdfpeadbad
