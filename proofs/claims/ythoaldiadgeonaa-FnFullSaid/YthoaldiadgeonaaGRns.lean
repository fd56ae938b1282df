/-
  The lists of rests: the program's and the model's functions answer alike.
  The rounds of tops: the model's.
  The rounds of tops: the program's.
  RestRounds and RestMany: both sides.
-/
import Derived.Test.YthoaldiadgeonaaGRes
import Derived.Test.YthoaldiadgeonaaEq
import Derived.Test.YthoaldiadgeonaaGRow
import Derived.Test.YthoaldiadgeonaaGOrd
import Derived.Maps.AppendAt
import Derived.Deep.OwnRows
import Derived.Test.YthoaldiadgeonaaPrm
import Derived.Test.YthoaldiadgeonaaTq
namespace Go.Proofs.Ythoaldiadgeonaa
set_option maxRecDepth 100000
open Go.RowKit Go.Maps

def rrnL (b T B n m : Nat) : List Int := (rstL b T B (n + m)).drop n
theorem rrnL_len (b T B n m : Nat) : (rrnL b T B n m).length = m := by simp [rrnL, rstL_len]


theorem askRound_any (b T B : Nat) (Bm nD : Nat) (D : DataW Unit) (w : World) (hT : T < B) (hB : B ≤ 1000) (h3 : 2 ≤ b) (h4 : b ≤ 16) (hg : Nat.gcd T B = 1) (hown : MapI w Bm nD D) :
    Calls Tryq.prog 53 #[.map (some Bm), .int .i64 b, .agg #[.int .i64 T, .int .i64 B]] w fun e w' =>
      ∃ g off cap n m c D', IsLen b T B n m ∧ e = .returned (.tuple #[.slice (some ⟨g, off, none⟩) (n + m) cap, .int .i64 n]) ∧ n + m ≤ cap ∧ cap ≤ maxLen ∧ Slc w.heap.size w' (.slice (some ⟨g, off, none⟩) (n + m) cap) (rstL b T B (n + m)) ∧ MapI w' Bm c D' ∧ w.grownBy w' (some Bm) := by
  refine (ask_any b T B Bm nD D w hT hB h3 h4 hg hown).mono ?_
  rintro e w' ⟨v, n, m, c, D', hnm, rfl, hv, hm, hgr⟩
  have hl := rstL_len b T B (n + m)
  have hp := hnm.pos
  obtain ⟨g, off, cap, rfl, _, _, h1, h2⟩ := slc_some hv (by omega)
  rw [hl] at hv h1 ⊢
  exact ⟨g, off, cap, n, m, c, D', hnm, rfl, h1, h2, hv, hm, hgr⟩







end Go.Proofs.Ythoaldiadgeonaa

namespace Go.Proofs.Ythoaldiadgeonaa
set_option maxRecDepth 100000
open Go.RowKit

theorem infoBool : (Tryq.prog.info? 4).map (fun i => (i.zero, i.size, i.bytes)) = some (some (.bool false), 1, 1) := by kernel_rfl
theorem infoRow : (Tryq.prog.info? 30).map (fun i => (i.zero, i.size, i.bytes)) = some (some (.slice none 0 0), 1, 24) := by kernel_rfl

theorem rowIs_bool {W : World} {q n : Nat} {f : Nat → Value} (h : W.rowIs q 4 n f) : ∃ c, W.heap[q]? = some (.cells c 4 (0, 0)) := by obtain ⟨c, h, _⟩ := h; exact ⟨c, h⟩
theorem rowIs_kept {W W' : World} {q n : Nat} {T : TypeId} {f : Nat → Value} {row : Option Nat} (h : W.rowIs q T n f) (hg : W.grownBy W' row) (hne : row ≠ some q) : W'.rowIs q T n f := h.of_block (hg.block q h.lt (fun e => hne e.symm))
def lenOf : Value → Nat
  | .slice _ n _ => n
  | _ => 0


end Go.Proofs.Ythoaldiadgeonaa

namespace Go.Proofs.Ythoaldiadgeonaa
set_option maxRecDepth 100000
open Go.RowKit

set_option maxHeartbeats 1000000 in
theorem restRounds_any (b n : Nat) (w : World) (hbn : Nat.gcd b n = 1) (h3 : 2 ≤ b) (h4 : b ≤ 16) (hn : 2 ≤ n) (hn2 : n ≤ 1000) :
    Calls Tryq.prog 39 #[.int .i64 b, .int .i64 n] w fun e w' => ∃ v L, Rnds b n n L ∧ e = .returned v ∧ RowSS w.heap.size w' v L ∧ Below w.heap.size w w' := by
  have hmk := run_make_row' (P := Tryq.prog) 76 4 (.bool false) 1 Tryq.underlying76 infoBool rfl .i64 .i64 n (by omega) (by omega)
  have hmm := @run_makeMap Tryq.prog
  go_enter Tryq.func39, Try.ntmps39
  go_wp2_with fail
  clear hmk hmm
  obtain ⟨j0, hj, hy0, hy1, hy2⟩ := info_parts infoRow
  go_loopw [7, 19] (fun v i wr => ∃ (t : Nat) (L : List (List Int)) (nD : Nat) (D : DataW Unit), t ≤ n ∧ i = .int .i64 t ∧ Rnds b n t L ∧ RowSS (w.heap.size + 2) wr v L ∧ wr.rowIs (w.heap.size + 1) 4 n (fun x => .bool (Told b n t x)) ∧
    MapI wr w.heap.size nD D ∧ Below w.heap.size w wr ∧ w.heap.size + 2 ≤ wr.heap.size) (fun _ i _ => n - (intOf i).toNat)
  case atStart =>
    refine ⟨0, [], 0, .map [], Nat.zero_le _, rfl, rfl, ?_, ?_, ?_, ?_, by simp⟩
    · have := RowSS.zero (w.heap.size + 2) ((w.alloc (.map #[] 0)).alloc (.cells (madeCells #[.bool false] n) 4)) (by simp)
      simpa using this
    · have := World.rowIs_made (w.alloc (.map #[] 0)) (.bool false) n 4
      rw [show (w.alloc (.map #[] 0)).heap.size = w.heap.size + 1 by simp] at this
      refine (this.alloc _).congr fun x _ => ?_
      have : Told b n 0 x = false := by
        rw [told_false hbn (by omega)]
        rintro ⟨s, j, h1, h2, _⟩
        omega
      rw [this]
    · have h0 : MapI (w.alloc (.map #[] 0)) w.heap.size 0 (.map []) := World.ownsMap_made _ _ _ _
      have h1 := World.ownsMap.kept h0 (World.grownBy_alloc _ (.cells (madeCells #[.bool false] n) 4) .none) (by simp)
      exact World.ownsMap.kept h1 (World.grownBy_alloc _ (.cells #[] 30) .none) (by simp)
    · exact (((Below.refl _ _).alloc (Nat.le_refl _) _).alloc (by simp) _).alloc (by simp; omega) _
  case round =>
    obtain ⟨t, L, nD, D, htn, rfl, hR, hL, hS, hM, hbel, hsz⟩ := hrel
    by_cases hlt : t < n
    · have i1 : (t : Int) < n := by omega
      have f0 := Box2.new wr 38 (.int .i64 t) (.int .i64 n)
      have hSA := hS.alloc (.cells #[.int .i64 t, .int .i64 n] 38)
      have hMA : MapI (wr.alloc (.cells #[.int .i64 t, .int .i64 n] 38)) w.heap.size nD D := World.ownsMap.kept hM (World.grownBy_alloc _ _ .none) (by simp)
      have hLA := hL.later ((Below.refl _ _).alloc (Nat.le_refl _) (.cells #[.int .i64 t, .int .i64 n] 38))
      have hBA := hbel.alloc hbel.size (.cells #[.int .i64 t, .int .i64 n] 38)
      have c0 := f0.cell0
      have c1 := f0.cell1
      have hc := hSA.cell hlt
      have hc' := hS.cell hlt
      cases hT : Told b n t t with
      | true =>
        rw [hT] at hc hc'
        go_wp2_with fail
        exact ⟨⟨t + 1, L, nD, D, hlt, rfl, hR.skip (.inl hT), hLA, hSA.congr (fun x _ => by rw [told_skip hbn hlt (.inl hT)]), hMA, hBA, by simp; omega⟩, by simp [intOf]; omega⟩
      | false =>
        rw [hT] at hc hc'
        clear hc' hS hM hL hbel
        have hszA : w.heap.size + 2 ≤ (wr.alloc (.cells #[.int .i64 t, .int .i64 n] 38)).heap.size := by simp; omega
        go_wp2_with fail
        clear c0 c1
        refine (implFracIn_any _ _ _).mono ?_
        rintro e w1 ⟨rfl, hb1⟩
        have f1 := f0.later hb1
        have hS1 := hSA.of_block (hb1.block _ hSA.lt)
        have hM1 : MapI w1 w.heap.size nD D := World.ownsMap.kept hMA (grown_below (row := .none) hb1) (by simp)
        have hL1 := hLA.later hb1
        have hB1 := hBA.trans (hb1.mono hBA.size)
        have hsz1 : w.heap.size + 2 ≤ w1.heap.size := by have := hb1.size; omega
        clear f0 hSA hMA hLA hBA hb1 hc hszA
        have c0 := f1.cell0
        have c1 := f1.cell1
        cases hf : finB t n with
        | false =>
          have hg : Nat.gcd t n ≠ 1 := fun hg => by
            have := (finB_iff t n).2 ⟨by omega, by omega, by omega, by omega, by rw [gcdI_nat, hg]; rfl⟩
            rw [hf] at this; cases this
          go_wp2_with fail
          exact ⟨⟨t + 1, L, nD, D, hlt, rfl, hR.skip (.inr hg), hL1, hS1.congr (fun x _ => by rw [told_skip hbn hlt (.inr hg)]), hM1, hB1, hsz1⟩, by simp [intOf]; omega⟩
        | true =>
          obtain ⟨_, _, _, _, hgI⟩ := (finB_iff t n).1 hf
          rw [gcdI_nat] at hgI
          have hg : Nat.gcd t n = 1 := by omega
          go_wp2_with fail
          refine (ask_any b t n w.heap.size nD D w1 hlt hn2 h3 h4 hg hM1).mono ?_
          rintro e w2 ⟨x, n', m, c, D', hm', rfl, hx2, hM2, hG2⟩
          obtain ⟨m'', hm⟩ := len_zero hbn hlt hg
          obtain ⟨rfl, rfl⟩ := hm'.unique hm
          rw [Nat.zero_add] at hx2
          have hmp := hm.pos
          have hml := hm.le hlt
          obtain ⟨vs, hvl, hV, hA⟩ := hL1
          have hfar := hV.far
          have hV2 := hV.grown hG2 (fun q e => by cases e; exact .inl (by omega))
          have hS2 := rowIs_kept hS1 hG2 (by intro e; injection e with e; omega)
          have hB2 := hB1.grown hG2 hB1.size (fun q e => by cases e; exact Nat.le_refl _)
          have hs2 := hG2.size
          have hl := rstL_len b t n m
          obtain ⟨gx, ox, cx, rfl, hx3, _, hx4, _⟩ := slc_some hx2 (by omega)
          rw [hl] at hx2 hx4 ⊢
          have hrst := fun k => rst_lt (b := b) hlt k
          have HM := Lib.hid hm; have HT := Lib.hid hT; have HG := Lib.hid hg; have HF := Lib.hid hfar; have HA := Lib.hid hA; have HVL := Lib.hid hvl; have HL := Lib.hid hl
          clear hm hm' hT hg hfar hA hvl hl hV hS1 hM1 hB1 hG2 f1 c0 c1 hgI hf
          go_wp2_with fail
          generalize hN1 : w1.heap.size = N1 at *
          go_loopw [43] (fun i wk => ∃ k : Nat, k ≤ m ∧ i = .int .i64 k ∧ RowVs (w.heap.size + 2) wk u7 L vs ∧ wk.rowIs (w.heap.size + 1) 4 n (fun x => .bool (TolK b n t k x)) ∧
            Slc N1 wk (.slice (some ⟨gx, ox, .none⟩) m cx) (rstL b t n m) ∧ MapI wk w.heap.size c D' ∧ Below w.heap.size w wk ∧ N1 ≤ wk.heap.size) (fun i _ => m - (intOf i).toNat)
          case atStart => exact ⟨0, Nat.zero_le _, rfl, hV2, hS2.congr (fun x _ => by rw [tolK_zero]), hx2, hM2, hB2, hs2⟩
          case round =>
            clear hV2 hS2 hx2 hM2 hB2 hs2
            obtain ⟨k, hk, rfl, hVk, hSk, hxk, hMk, hbk, hsk⟩ := hrel
            by_cases hkm : k < m
            · have hck := hxk.cell HL.out k hkm
              rw [rstL_get _ _ _ _ _ hkm] at hck
              have hfz := hSk.frozen (rst b t n k)
              have hcs := hSk.cell (hrst k)
              have hrk := hrst k
              have r1 : (rst b t n k : Int) < n := by omega
              have i2 : (k : Int) < m := by omega
              have hg1 := grown_setc wr ⟨w.heap.size + 1, rst b t n k, .none⟩ (.bool true)
              have hV1 := hVk.off hg1 (rowIs_bool hSk)
              have hS1 := (hSk.set (rst b t n k) (.bool true)).congr (g := fun x => .bool (TolK b n t (k + 1) x)) (fun x _ => by
                show (if x = rst b t n k then Value.bool true else _) = _
                rw [tolK_succ]
                split <;> rfl)
              have hx1 := hxk.kept hg1 (fun g e e' => by have h1 := (hxk.own g e).1; injection e' with e'; simp at e'; omega)
              have hM1 : MapI _ w.heap.size c D' := World.ownsMap.kept hMk hg1 (by intro e; injection e with e; simp at e)
              have hb1 := hbk.grown hg1 hbk.size (fun q e => by cases e; exact Nat.le_succ _)
              have hs1 : N1 ≤ (wr.setCell ⟨w.heap.size + 1, rst b t n k, .none⟩ (.bool true)).heap.size := by simp; exact hsk
              go_wp2_with fail
              exact ⟨⟨k + 1, by omega, rfl, hV1, hS1, hx1, hM1, hb1, hs1⟩, by simp [intOf]; omega⟩
            · obtain rfl : k = m := by omega
              have hbd := (hR.bound htn).1
              have i3 : ¬ (k : Int) < k := by omega
              go_wp2_with (at_builtin; refine wpList_append_own_at _ rfl _ _ 52 rfl (w.heap.size + 2) 30 j0 (.slice .none 0 0) 1 24 Tryq.underlying52 hj hy0 hy1 hy2 rfl (by decide) _ _ _ rfl (hVk.1.alloc _) ⟨wr.heap.size, 0, .none⟩ 1 1 [.slice (some ⟨gx, ox, .none⟩) k cx] rfl rfl ?c1 ?c2 ?c3 ?c4 ?c5 ?_)
              case c2 => simp [Value.oneCell']
              case c3 => unfold maxLen; omega
              case c4 => omega
              case c5 => (try simp); omega
              intro v' w3 hown' hgrow _ _
              have hL3 := RowSS.append HVL.out hVk HA.out hxk hsz1 HF.out hgrow hown'
              have hS3 := rowIs_kept (hSk.alloc _) hgrow (bool_not hVk.1 (by decide) (rowIs_bool hSk))
              have hge := fun q e => (row_ge3 hVk.1 (g := q) e).1
              have hB3 := (hbk.alloc hbk.size _).grown hgrow (by have := hbk.size; simp; omega) (fun q e => by have := hge q e; omega)
              have hM3 : MapI w3 w.heap.size c D' := World.ownsMap.kept (World.ownsMap.kept hMk (World.grownBy_alloc _ _ .none) (by simp)) hgrow (by intro e; have := hge _ e.symm; omega)
              have hs3 := hgrow.size
              simp at hs3
              clear hVk hSk hxk hMk hbk hgrow hown' hge
              go_wp2_with fail
              exact ⟨⟨t + 1, _, c, D', hlt, rfl, hR.add HT.out HG.out HM.out, hL3, hS3.congr (fun x _ => by rw [tolK_all hbn hlt HG.out HM.out]), hM3, hB3, by omega⟩, by simp [intOf]; omega⟩
    · obtain rfl : t = n := by omega
      go_wp2_with fail
      go_ret
      exact ⟨_, L, hR, rfl, hL.mono (by omega), hbel⟩

end Go.Proofs.Ythoaldiadgeonaa

namespace Go.Proofs.Ythoaldiadgeonaa
set_option maxRecDepth 100000
open Go.RowKit

/-- A function answers a new list of new lists and a bool. -/
def GivesSS (f : FuncId) (args : Array Value) (L : List (List Int)) (p : Bool) : Prop :=
  ∀ w : World, Calls Tryq.prog f args w fun e w' => ∃ v, e = .returned (.tuple #[v, .bool p]) ∧ RowSS w.heap.size w' v L ∧ Below w.heap.size w w'



set_option maxHeartbeats 1000000 in
theorem implMany_no (b n : Int) (h : prmB b n = false) : GivesII 16 #[.int .i64 b, .int .i64 n] 0 0 false := by
  intro w
  go_enter Tryq.func16, Try.ntmps16
  go_wp2_with fail
  refine (roundsTold_any _ _ _).mono ?_
  rintro e w1 ⟨rfl, rfl⟩
  rw [h]
  go_wp2_with fail
  refine bodyPost_ret (v := .tuple #[.int .i64 0, .int .i64 0, .bool false]) (by simp [results, Try.results16, go_sem]) rfl ⟨rfl, Below.refl _ _⟩

set_option maxHeartbeats 1000000 in
theorem implMany_at (b n l m : Nat) (L : List (List Int)) (h : prmB b n = true) (h3 : 2 ≤ b) (h4 : b ≤ 16) (hn : 2 ≤ n) (hn2 : n ≤ 1000) (hbn : Nat.gcd b n = 1) (hL : Rnds b n n L) (hl0 : L.length = l) (hm0 : (L[0]?.getD []).length = m) :
    GivesII 16 #[.int .i64 b, .int .i64 n] l m true := by
  have hpos := hL.some hn hn
  have HL := Lib.hid hL; have HB := Lib.hid hbn
  have HL0 := Lib.hid hl0; have HM0 := Lib.hid hm0
  clear hL hbn hl0 hm0
  intro w
  go_enter Tryq.func16, Try.ntmps16
  go_wp2_with fail
  refine (roundsTold_any _ _ _).mono ?_
  rintro e w1 ⟨rfl, rfl⟩
  rw [h]
  go_wp2_with fail
  refine (restRounds_any b n w HB.out h3 h4 hn hn2).mono ?_
  rintro e w1 ⟨v, L', hL', rfl, ⟨vs, hl, hV, _⟩, hb⟩
  obtain rfl := HL.out.unique hL'
  obtain ⟨g, c, u, rfl, hc, _, hu⟩ := hV.cell hl 0 hpos
  obtain ⟨au, cu, rfl⟩ := slc_form hu
  clear HL HB hu hV hl hL'
  rw [HM0.out] at hc
  rw [HL0.out] at hpos ⊢
  have hcD : w1.drew.cell? ⟨g, 0, none⟩ = some (.slice au m cu) := hc
  have i1 : (0 : Int) < (l : Int) := by omega
  go_wp2_with fail
  go_region
  all_goals (
    go_wp2
    refine bodyPost_ret (v := .tuple #[.int .i64 l, .int .i64 m, .bool true]) (by simp [results, Try.results16, go_sem]) rfl ⟨rfl, ?_⟩
    exact hb.drew)


end Go.Proofs.Ythoaldiadgeonaa
