/-
  The rounds of tops: the model's.
-/
import Derived.Test.YtfhhfnkgdanakaaRowsL
import Derived.Test.YtfhhfnkgdanakaaRndsM
import Derived.Test.YtfhhfnkgdanakaaAsk
import Derived.Maps.AppendAt
import Derived.Deep.OwnRows
namespace Go.Proofs.Ytfhhfnkgdanakaa
open Go.RowKit

theorem infoBool : (Try.prog.info? 4).map (fun i => (i.zero, i.size, i.bytes)) = some (some (.bool false), 1, 1) := by kernel_rfl
theorem infoRow : (Try.prog.info? 33).map (fun i => (i.zero, i.size, i.bytes)) = some (some (.slice none 0 0), 1, 24) := by kernel_rfl

theorem rowIs_bool {W : World} {q n : Nat} {f : Nat → Value} (h : W.rowIs q 4 n f) : ∃ c, W.heap[q]? = some (.cells c 4 (0, 0)) := by obtain ⟨c, h, _⟩ := h; exact ⟨c, h⟩
theorem rowIs_kept {W W' : World} {q n : Nat} {T : TypeId} {f : Nat → Value} {row : Option Nat} (h : W.rowIs q T n f) (hg : W.grownBy W' row) (hne : row ≠ some q) : W'.rowIs q T n f := h.of_block (hg.block q h.lt (fun e => hne e.symm))
def lenOf : Value → Nat
  | .slice _ n _ => n
  | _ => 0

set_option maxHeartbeats 1000000 in
theorem l2Rounds_any (b n : Nat) (w : World) (hbn : Nat.gcd b n = 1) (h3 : 2 ≤ b) (h4 : b ≤ 16) (hn : 2 ≤ n) (hn2 : n ≤ 1000) :
    Calls Try.prog 18 #[.int .i64 b, .int .i64 n] w fun e w' => ∃ v L, Rnds b n n L ∧ e = .returned v ∧ RowSS w.heap.size w' v L ∧ Below w.heap.size w w' := by
  have hmk := run_make_row' (P := Try.prog) 32 4 (.bool false) 1 Try.underlying32 infoBool rfl .i64 .i64 n (by omega) (by omega)
  go_enter Try.func18, Try.ntmps18
  go_wp2_with fail
  clear hmk
  obtain ⟨i0, hi, hz0, hz1, hz2⟩ := info_parts infoInt
  obtain ⟨j0, hj, hy0, hy1, hy2⟩ := info_parts infoRow
  go_loopw [5, 7] (fun v i wr => ∃ (t : Nat) (L : List (List Int)), 1 ≤ t ∧ t ≤ n ∧ i = .int .i64 t ∧ Rnds b n t L ∧ RowSS w.heap.size wr v L ∧ wr.rowIs (w.heap.size + 1) 4 n (fun x => .bool (Told b n t x)) ∧ Below w.heap.size w wr) (fun _ i _ => n - (intOf i).toNat)
  case atStart =>
    refine ⟨1, [], Nat.le_refl _, by omega, rfl, .inl ⟨.inr (by rw [Nat.gcd_zero_left]; omega), rfl⟩, ?_, ?_, ?_⟩
    · exact (RowSS.zero _ _ (Nat.le_refl _)).later ((Below.refl _ _).alloc (Nat.le_refl _) _)
    · have := World.rowIs_made (w.alloc (.cells #[] 33)) (.bool false) n 4
      rw [show (w.alloc (.cells #[] 33)).heap.size = w.heap.size + 1 by simp] at this
      refine this.congr fun x _ => ?_
      have : Told b n 1 x = false := by
        rw [told_false hbn (by omega)]
        rintro ⟨s, j, h1, h2, _⟩
        obtain rfl : s = 0 := by omega
        rw [Nat.gcd_zero_left] at h2
        omega
      rw [this]
    · exact ((Below.refl _ _).alloc (Nat.le_refl _) _).alloc (by simp) _
  case round =>
    obtain ⟨t, L, ht1, htn, rfl, hR, hL, hS, hbel⟩ := hrel
    by_cases hlt : t < n
    · have hc := hS.cell hlt
      have i1 : (t : Int) < n := by omega
      cases hT : Told b n t t with
      | true =>
        rw [hT] at hc
        go_wp2_with fail
        exact ⟨⟨t + 1, L, by omega, hlt, rfl, hR.skip (.inl hT), hL, hS.congr (fun x _ => by rw [told_skip hbn hlt (.inl hT)]), hbel⟩, by simp [intOf]; omega⟩
      | false =>
        rw [hT] at hc
        go_wp2_with fail
        refine (l1Gcd_any _ _ _ (by omega) (by omega) (by omega) (by omega)).mono ?_
        rintro e w1 ⟨rfl, rfl⟩
        rw [gcdI_nat]
        have hgp : 0 < Nat.gcd t n := Nat.gcd_pos_of_pos_left _ (by omega)
        by_cases hg : Nat.gcd t n = 1
        case neg =>
          have hg1 : (1 : Int) < (Nat.gcd t n : Nat) := by omega
          go_wp2_with fail
          exact ⟨⟨t + 1, L, by omega, hlt, rfl, hR.skip (.inr hg), hL, hS.congr (fun x _ => by rw [told_skip hbn hlt (.inr hg)]), hbel⟩, by simp [intOf]; omega⟩
        case pos =>
          obtain ⟨m, hm⟩ := len_zero hbn hlt hg
          have hmp := hm.pos
          have hml := hm.le hlt
          have hrst := fun k => rst_lt (b := b) hlt k
          have HM := Lib.hid hm; have HT := Lib.hid hT; have HG := Lib.hid hg
          rw [hg]
          clear hc hm hT hg hgp
          obtain ⟨vs, hvl, hV, hA⟩ := hL
          have hfar := hV.far
          have hVA : RowVs w.heap.size (wr.alloc (.cells #[] 3)) u5 L vs := hV.later ((Below.refl _ _).alloc (Nat.le_refl _) _)
          have hR0 : (wr.alloc (.cells #[] 3)).ownsRow wr.heap.size 3 1 (.slice (some ⟨wr.heap.size, 0, .none⟩) 0 0) 0 [] :=
            World.ownsRow_made (base := wr.heap.size) (e := 3) (size := 1) wr #[] 0 (Nat.le_refl _) (by simp) (by simp)
          have hSA : (wr.alloc (.cells #[] 3)).rowIs (w.heap.size + 1) 4 n (fun x => .bool (TolK b n t 0 x)) := (hS.alloc _).congr fun x _ => by rw [tolK_zero]
          have hBA := hbel.alloc hbel.size (.cells #[] 3)
          have hNA : wr.heap.size ≤ (wr.alloc (.cells #[] 3)).heap.size := by simp
          have hN0 := hbel.size
          go_wp2_with fail
          revert hfar hVA hR0 hSA hBA hNA hN0
          clear hV hS hbel
          generalize wr.heap.size = N0
          generalize wr.alloc (.cells #[] 3) = w0
          intro hfar hVA hR0 hSA hBA hNA hN0
          have HF := Lib.hid hfar; have HA := Lib.hid hA; have HVL := Lib.hid hvl
          clear hfar hA hvl
          go_loopw [8, 9] (fun u r wk => ∃ k : Nat, k ≤ m ∧ r = .int .i64 (rst b t n k) ∧ wk.ownsRow N0 3 1 u k ((rstL b t n k).map (Value.int .i64)) ∧ RowVs w.heap.size wk u5 L vs ∧
            wk.rowIs (w.heap.size + 1) 4 n (fun x => .bool (TolK b n t k x)) ∧ N0 ≤ wk.heap.size ∧ Below w.heap.size w wk) (fun u _ _ => m - lenOf u)
          case atStart => exact ⟨0, Nat.zero_le _, rfl, hR0, hVA, hSA, hNA, hBA⟩
          case round =>
            clear hVA hR0 hSA hBA hNA
            obtain ⟨k, hk, rfl, hu, hVk, hSk, hsk, hbk⟩ := hrel
            have hck := hSk.cell (hrst k)
            have hrk := hrst k
            have r1 : (rst b t n k : Int) < n := by omega
            have hfz := hSk.frozen (rst b t n k)
            obtain ⟨au, cu, rfl⟩ := owns_form hu
            by_cases hkm : k < m
            · rw [tolK_way hbn hlt HG.out HT.out HM.out hkm] at hck
              obtain ⟨m1, m2⟩ := mul_bd (rst b t n k) b n (by omega) (by omega) (by omega) (by omega) (by omega)
              have hg1 := grown_setc wr ⟨w.heap.size + 1, rst b t n k, .none⟩ (.bool true)
              have hu1 := hu.kept hg1 (.inr (bool_not hu (by decide) (rowIs_bool hSk)))
              have hV1 := hVk.off hg1 (rowIs_bool hSk)
              have hS1 := (hSk.set (rst b t n k) (.bool true)).congr (g := fun x => .bool (TolK b n t (k + 1) x)) (fun x _ => by
                show (if x = rst b t n k then Value.bool true else _) = _
                rw [tolK_succ]
                split <;> rfl)
              have hb1 := hbk.grown hg1 hbk.size (fun q e => by cases e; exact Nat.le_succ _)
              have hs1 : (wr.setCell ⟨w.heap.size + 1, rst b t n k, .none⟩ (.bool true)).heap.size = wr.heap.size := by simp
              have HU := Lib.hid hu1; have HV1 := Lib.hid hV1; have HS1 := Lib.hid hS1; have HB1 := Lib.hid hb1; have HS := Lib.hid hs1
              clear hu1 hV1 hS1 hb1 hs1 hg1 hu hVk hSk
              go_wp2_with (at_builtin; refine wpList_append_own_at _ rfl _ _ 33 rfl N0 3 i0 (.int .i64 0) 1 8 Try.underlying33 hi hz0 hz1 hz2 rfl (by decide) _ _ _ rfl (HU.out.alloc _) ⟨wr.heap.size, 0, .none⟩ 1 1 [.int .i64 (rst b t n k)] rfl rfl ?c1 ?c2 ?c3 ?c4 ?c5 ?_)
              case c1 => first | exact cell_one_new _ _ _ | (rw [← HS.out]; exact cell_one_new _ _ _)
              case c2 => simp [Value.oneCell']
              case c3 => unfold maxLen; omega
              case c4 => omega
              case c5 => have := HS.out; simp; omega
              intro v' w2 hown' hgrow _ _
              have hb2 : Below N0 (wr.setCell ⟨w.heap.size + 1, rst b t n k, .none⟩ (.bool true)) w2 := ((Below.refl _ _).alloc (by rw [HS.out]; exact hsk) _).grown hgrow (by have := HS.out; simp; omega) (fun q e => (row_ge3 HU.out e).1)
              have hV2 := HV1.out.beside HU.out HF.out hgrow
              have hS2 := rowIs_kept (HS1.out.alloc _) hgrow (bool_not HU.out (by decide) (rowIs_bool HS1.out))
              have hB2 := HB1.out.trans (hb2.mono hN0)
              have hs2 := hb2.size
              rw [HS.out] at hs2
              clear HU HV1 HS1 HB1 HS hgrow
              obtain ⟨a', c', rfl⟩ := owns_form hown'
              have hn0 : ¬ n = 0 := by omega
              go_wp2_with fail
              refine ⟨⟨k + 1, by omega, ?_, ?_, hV2, hS2, by omega, hB2⟩, by simp [lenOf]; omega⟩
              · rw [show rst b t n (k + 1) = rst b t n k * b % n from rfl]; simp
              · rw [rstL_succ, List.map_append]
                simpa using hown'
            · obtain rfl : k = m := by omega
              rw [tolK_end HM.out] at hck
              have hbd := (hR.bound htn).1
              go_wp2_with (at_builtin; refine wpList_append_own_at _ rfl _ _ 25 rfl w.heap.size 33 j0 (.slice .none 0 0) 1 24 Try.underlying25 hj hy0 hy1 hy2 rfl (by decide) _ _ _ rfl (hVk.1.alloc _) ⟨wr.heap.size, 0, .none⟩ 1 1 [.slice au k cu] rfl rfl ?c1 ?c2 ?c3 ?c4 ?c5 ?_)
              case c1 => exact cell_one_new _ _ _
              case c2 => simp [Value.oneCell']
              case c3 => unfold maxLen; omega
              case c4 => omega
              case c5 => simp; omega
              intro v' w2 hown' hgrow _ _
              have hu' : Slc N0 wr (.slice au k cu) (rstL b t n k) := Slc.of_owns (by rw [rstL_len]; exact hu)
              have hL2 := RowSS.append HVL.out hVk HA.out hu' hN0 HF.out hgrow hown'
              have hS2 := rowIs_kept (hSk.alloc _) hgrow (bool_not hVk.1 (by decide) (rowIs_bool hSk))
              have hB2 := (hbk.alloc hbk.size _).grown hgrow (by have := hbk.size; simp; omega) (fun q e => (row_ge3 hVk.1 e).1)
              clear hu hVk hSk hbk hgrow hown' hu'
              go_wp2_with fail
              exact ⟨⟨t + 1, _, by omega, hlt, rfl, hR.add HT.out HG.out HM.out, hL2, hS2.congr (fun x _ => by rw [tolK_all hbn hlt HG.out HM.out]), hB2⟩, by simp [intOf]; omega⟩
    · obtain rfl : t = n := by omega
      go_wp2_with fail
      go_ret
      exact ⟨_, L, hR, rfl, hL, hbel⟩

end Go.Proofs.Ytfhhfnkgdanakaa
