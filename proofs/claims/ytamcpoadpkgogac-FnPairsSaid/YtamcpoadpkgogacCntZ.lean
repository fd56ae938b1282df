/-
  Chapter 7, the program's side: CountDigits, CountSum, CountMost.
-/
import Derived.Test.YtamcpoadpkgogacCntY
import Derived.Test.YtamcpoadpkgogacTold
import Derived.Test.YtamcpoadpkgogacPMath
import Derived.BigQuiet
namespace Go.Proofs.Ytamcpoadpkgogac
open Go.RowKit

theorem RowZ.nums {W : World} {g : Nat} {T : TypeId} {zs ys : List Int} (h : RowZ W g T zs) (e : ys = zs.take ys.length) : NumsAt W g 0 ys := fun j hj => by
  have hj2 : j < zs.length := by
    have : ys.length ≤ zs.length := by rw [e, List.length_take]; omega
    omega
  have hc := h.cell j hj2
  rw [Nat.zero_add, hc]
  congr 2
  conv => rhs; rw [e]
  rw [List.getElem?_take_of_lt hj]

set_option maxRecDepth 100000 in
set_option maxHeartbeats 2000000 in
theorem imCountDigits : ImCountDigits := by
  constructor
  · intro b t n h w
    go_enter Try.func13, Try.ntmps13
    go_wp2_with fail
    refine (fracTold_any b t n _).mono ?_
    rintro e w1 ⟨rfl, hb1⟩
    have hb := bel1 hb1
    rw [h]
    go_wp2_with fail
    go_ret2
    exact ⟨_, rfl, Slc.nil _ _, hb⟩
  · intro b T B n m hf w
    have h3 := hf.b2; have h4 := hf.b16
    have HF := Lib.hid hf
    obtain ⟨hz0, hz1⟩ := zero_of_info infoCnt
    obtain ⟨Z, hZ⟩ : ∃ Z : Array Value, ((List.replicate 256 (0 : Int)).map (Value.int .i64)).toArray = Z := ⟨_, rfl⟩
    have hz2 : ∀ wx, (zeroValue 39).run Try.prog wx = .ok (.agg Z) wx := fun wx => by rw [hz0, cntV, hZ]
    have HZ1 := Lib.hid hz1; have HZZ := Lib.hid hZ
    have told := hf.told
    clear hf hz0 hz1 hZ
    go_enter Try.func13, Try.ntmps13
    go_wp2_with fail
    refine (fracTold_any b T B _).mono ?_
    rintro e w1 ⟨rfl, hb1⟩
    have q1 := (Box2.newAt (W := w) (T := 24) (x := .int .i64 T) (y := .int .i64 B) rfl).later hb1
    have k0 := q1.cell0
    have k1 := q1.cell1
    have hb := bel1 hb1
    rw [told]
    clear hb1
    go_wp2_with fail
    refine (roundCounts_any b T B n m _ HF.out).mono ?_
    rintro e w2 ⟨rfl, hb2⟩
    have hbb := hb.trans (hb2.mono hb.size)
    have hR0 : RowZ (w2.alloc (.cells Z 39)) w2.heap.size 39 (List.replicate 256 0) := by
      rw [← HZZ.out]; exact RowZ.new rfl
    have hbA : Below w.heap.size w (w2.alloc (.cells Z 39)) := hbb.alloc hbb.size _
    have hRR := hR0.put (cntL 256 (rdg b T B n) m)
    have hbR := below_put hbA hbb.size (((cntL 256 (rdg b T B n) m).map (Value.int .i64)).toArray)
    have hlt := hRR.lt
    have HSZ := Lib.hid hbR.size
    clear hb2 hb k0 k1 q1 hbA hbb
    have j1 : (b : Int) ≤ 256 := by omega
    have j2 : (0 : Int) ≤ (b : Int) := by omega
    go_wp2_with (refine wpList_store_rowZ rfl 39 _ _ rfl w2.heap.size rfl (cntL 256 (rdg b T B n) m) rfl (List.replicate 256 0) hR0 (by rw [cntL_len, List.length_replicate]) (by rw [cntL_len]; exact HZ1.out) ?_)
    revert hRR hbR hlt HSZ
    generalize (w2.alloc (.cells Z 39)).setRow w2.heap.size (((cntL 256 (rdg b T B n) m).map (Value.int .i64)).toArray) = w3
    intro hRR hbR hlt HSZ
    refine (cloneI_any w2.heap.size 0 256 b (cntL b (rdg b T B n) m) w3 (cntL_len _ _ _) (by omega) (hRR.nums (by rw [cntL_len, cntL_take (by omega)])) hlt).mono ?_
    rintro e w4 ⟨u, rfl, hu, hb4⟩
    have hb5 := hbR.trans (hb4.mono HSZ.out)
    go_wp2_with fail
    go_ret2
    exact ⟨_, rfl, hu.mono HSZ.out, hb5⟩


theorem mxL_le (xs : List Int) : ∀ k j, j ≤ k → xs[j]?.getD 0 ≤ mxL xs k
  | 0, j, h => by obtain rfl : j = 0 := by omega
                  exact Int.le_refl _
  | k + 1, j, h => by
    show _ ≤ if mxL xs k < xs[k + 1]?.getD 0 then xs[k + 1]?.getD 0 else mxL xs k
    by_cases e : j = k + 1
    · subst e; split <;> omega
    · have := mxL_le xs k j (by omega); split <;> omega
theorem mxL_at (xs : List Int) : ∀ k, ∃ j, j ≤ k ∧ mxL xs k = xs[j]?.getD 0
  | 0 => ⟨0, Nat.le_refl _, rfl⟩
  | k + 1 => by
    obtain ⟨j, hj, e⟩ := mxL_at xs k
    by_cases h : mxL xs k < xs[k + 1]?.getD 0
    · exact ⟨k + 1, Nat.le_refl _, if_pos h⟩
    · exact ⟨j, by omega, (if_neg h).trans e⟩
theorem mnL_le (xs : List Int) : ∀ k j, j ≤ k → mnL xs k ≤ xs[j]?.getD 0
  | 0, j, h => by obtain rfl : j = 0 := by omega
                  exact Int.le_refl _
  | k + 1, j, h => by
    show (if xs[k + 1]?.getD 0 < mnL xs k then xs[k + 1]?.getD 0 else mnL xs k) ≤ _
    by_cases e : j = k + 1
    · subst e; split <;> omega
    · have := mnL_le xs k j (by omega); split <;> omega
theorem mnL_at (xs : List Int) : ∀ k, ∃ j, j ≤ k ∧ mnL xs k = xs[j]?.getD 0
  | 0 => ⟨0, Nat.le_refl _, rfl⟩
  | k + 1 => by
    obtain ⟨j, hj, e⟩ := mnL_at xs k
    by_cases h : xs[k + 1]?.getD 0 < mnL xs k
    · exact ⟨k + 1, Nat.le_refl _, if_pos h⟩
    · exact ⟨j, by omega, (if_neg h).trans e⟩

theorem most_list {b c M m : Nat} {D : Nat → Nat} (hc : b + 1 = c) (h : IsMost (fun v => dgC D v m) c M) : mxL (cntL c D m) b - mnL (cntL c D m) b = M := by
  subst hc
  obtain ⟨i, hi, e1⟩ := mxL_at (cntL (b + 1) D m) b
  obtain ⟨k, hk, e2⟩ := mnL_at (cntL (b + 1) D m) b
  obtain ⟨x, y, hx, hy, e3⟩ := h.at_
  have h1 := mxL_le (cntL (b + 1) D m) b x (by omega)
  have h2 := mnL_le (cntL (b + 1) D m) b y (by omega)
  have h3 : dgC D i m ≤ dgC D k m + M := h.le i k (by omega) (by omega)
  have e4 : dgC D x m = dgC D y m + M := e3
  rw [cntL_get (by omega)] at h1 h2 e1 e2
  rw [e1] at h1 ⊢
  rw [e2] at h2 ⊢
  omega

set_option maxRecDepth 100000 in
set_option maxHeartbeats 2000000 in
theorem imCountMost : ImCountMost := by
  constructor
  · intro b t n h w
    go_enter Try.func8, Try.ntmps8
    go_wp2_with fail
    refine (fracTold_any b t n _).mono ?_
    rintro e w1 ⟨rfl, hb1⟩
    have hb := bel1 hb1
    rw [h]
    go_wp2_with fail
    go_ret2
    exact ⟨rfl, hb⟩
  · intro b T B n m M hf hM w
    have h3 := hf.b2; have h4 := hf.b16
    have HF := Lib.hid hf
    obtain ⟨hz0, hz1⟩ := zero_of_info infoCnt
    obtain ⟨Z, hZ⟩ : ∃ Z : Array Value, ((List.replicate 256 (0 : Int)).map (Value.int .i64)).toArray = Z := ⟨_, rfl⟩
    have hz2 : ∀ wx, (zeroValue 39).run Try.prog wx = .ok (.agg Z) wx := fun wx => by rw [hz0, cntV, hZ]
    have HZ1 := Lib.hid hz1; have HZZ := Lib.hid hZ
    have told := hf.told
    obtain ⟨b', hbb'⟩ : ∃ b', b' + 1 = b := ⟨b - 1, by omega⟩
    have hML := most_list hbb' hM
    have HBB := Lib.hid hbb'
    have hMb := hM.bound (m := m) fun v => dgC_le _ v m
    have hm2 := hf.le
    have HML := Lib.hid hML
    clear hf hz0 hz1 hZ hM hML hbb'
    go_enter Try.func8, Try.ntmps8
    go_wp2_with fail
    refine (fracTold_any _ T B _).mono ?_
    rintro e w1 ⟨rfl, hb1⟩
    have q1 := (Box2.newAt (W := w) (T := 24) (x := .int .i64 T) (y := .int .i64 B) rfl).later hb1
    have k0 := q1.cell0
    have k1 := q1.cell1
    have hb := bel1 hb1
    rw [told]
    clear hb1
    go_wp2_with fail
    refine (roundCounts_any b T B n m _ HF.out).mono ?_
    rintro e w2 ⟨rfl, hb2⟩
    have hbb := hb.trans (hb2.mono hb.size)
    have hR0 : RowZ (w2.alloc (.cells Z 39)) w2.heap.size 39 (List.replicate 256 0) := by
      rw [← HZZ.out]; exact RowZ.new rfl
    have hbA : Below w.heap.size w (w2.alloc (.cells Z 39)) := hbb.alloc hbb.size _
    have hRR := hR0.put (cntL 256 (rdg b T B n) m)
    have hbR := below_put hbA hbb.size (((cntL 256 (rdg b T B n) m).map (Value.int .i64)).toArray)
    have hnum := hRR.nums (ys := cntL b (rdg b T B n) m) (by rw [cntL_len, cntL_take (by omega)])
    clear hb2 hb k0 k1 q1 hbA hbb hRR
    have j1 : (b : Int) ≤ 256 := by omega
    have j2 : (0 : Int) ≤ (b : Int) := by omega
    go_wp2_with (refine wpList_store_rowZ rfl 39 _ _ rfl w2.heap.size rfl (cntL 256 (rdg b T B n) m) rfl (List.replicate 256 0) hR0 (by rw [cntL_len, List.length_replicate]) (by rw [cntL_len]; exact HZ1.out) ?_)
    clear hR0
    revert hnum hbR
    generalize (w2.alloc (.cells Z 39)).setRow w2.heap.size (((cntL 256 (rdg b T B n) m).map (Value.int .i64)).toArray) = w3
    intro hbR hnum
    have MX := Lib.hid (fun k => (maxI_any w2.heap.size 0 256 b' b _ (w3.drewN k) HBB.out (by rw [cntL_len, HBB.out]) (by have := HBB.out; omega) (fun j hj => hnum j hj)).mono fun _ _ h => And.intro h.1 h.2.symm)
    have MN := Lib.hid (fun k => (minI_any w2.heap.size 0 256 b' b _ (w3.drewN k) HBB.out (by rw [cntL_len, HBB.out]) (by have := HBB.out; omega) (fun j hj => hnum j hj)).mono fun _ _ h => And.intro h.1 h.2.symm)
    clear hnum
    revert MX MN HML
    generalize mxL (cntL b (rdg b T B n) m) b' = x
    generalize mnL (cntL b (rdg b T B n) m) b' = y
    intro HML MX MN
    have w1' : IntKind.i64.wrap (x - y) = (M : Int) := by rw [HML.out]; exact IntWalk.i64_in _ (by omega)
    go_quiet (first | exact Calls.quiet_of_same (MX.out _) | exact Calls.quiet_of_same (MN.out _))
    go_wp2_with fail
    go_ret2
    exact ⟨rfl, below_drewN hbR _⟩

end Go.Proofs.Ytamcpoadpkgogac
