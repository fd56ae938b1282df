/-
  Chapter 7, the program's side: CountDigits, CountSum, CountMost.
-/
import Derived.Test.YtamcpoadpkgogadCntY
import Derived.Test.YtamcpoadpkgogadTold
import Derived.Test.YtamcpoadpkgogadPMath
import Derived.BigQuiet
namespace Go.Proofs.Ytamcpoadpkgogad
open Go.RowKit

theorem RowZ.nums {W : World} {g : Nat} {T : TypeId} {zs ys : List Int} (h : RowZ W g T zs) (e : ys = zs.take ys.length) : NumsAt W g 0 ys := fun j hj => by
  have hj2 : j < zs.length := by
    have : ys.length ≤ zs.length := by rw [e, List.length_take]; omega
    omega
  have hc := h.cell j hj2
  rw [Nat.zero_add, hc]
  congr 2
  conv => rhs; rw [e]
  rw [List.getElem?_take_of_lt hj]

set_option maxRecDepth 100000 in
set_option maxHeartbeats 2000000 in
theorem imCountDigits : ImCountDigits := by
  constructor
  · intro b t n h w
    go_enter Try.func7, Try.ntmps7
    go_wp2_with fail
    refine (fracTold_any b t n _).mono ?_
    rintro e w1 ⟨rfl, hb1⟩
    have hb := bel1 hb1
    rw [h]
    go_wp2_with fail
    go_ret2
    exact ⟨_, rfl, Slc.nil _ _, hb⟩
  · intro b T B n m hf w
    have h3 := hf.b2; have h4 := hf.b16
    have HF := Lib.hid hf
    obtain ⟨hz0, hz1⟩ := zero_of_info infoCnt
    obtain ⟨Z, hZ⟩ : ∃ Z : Array Value, ((List.replicate 256 (0 : Int)).map (Value.int .i64)).toArray = Z := ⟨_, rfl⟩
    have hz2 : ∀ wx, (zeroValue 42).run Try.prog wx = .ok (.agg Z) wx := fun wx => by rw [hz0, cntV, hZ]
    have HZ1 := Lib.hid hz1; have HZZ := Lib.hid hZ
    have told := hf.told
    clear hf hz0 hz1 hZ
    go_enter Try.func7, Try.ntmps7
    go_wp2_with fail
    refine (fracTold_any b T B _).mono ?_
    rintro e w1 ⟨rfl, hb1⟩
    have q1 := (Box2.newAt (W := w) (T := 31) (x := .int .i64 T) (y := .int .i64 B) rfl).later hb1
    have k0 := q1.cell0
    have k1 := q1.cell1
    have hb := bel1 hb1
    rw [told]
    clear hb1
    go_wp2_with fail
    refine (roundCounts_any b T B n m _ HF.out).mono ?_
    rintro e w2 ⟨rfl, hb2⟩
    have hbb := hb.trans (hb2.mono hb.size)
    have hR0 : RowZ (w2.alloc (.cells Z 42)) w2.heap.size 42 (List.replicate 256 0) := by
      rw [← HZZ.out]; exact RowZ.new rfl
    have hbA : Below w.heap.size w (w2.alloc (.cells Z 42)) := hbb.alloc hbb.size _
    have hRR := hR0.put (cntL 256 (rdg b T B n) m)
    have hbR := below_put hbA hbb.size (((cntL 256 (rdg b T B n) m).map (Value.int .i64)).toArray)
    have hlt := hRR.lt
    have HSZ := Lib.hid hbR.size
    clear hb2 hb k0 k1 q1 hbA hbb
    have j1 : (b : Int) ≤ 256 := by omega
    have j2 : (0 : Int) ≤ (b : Int) := by omega
    go_wp2_with (refine wpList_store_rowZ rfl 42 _ _ rfl w2.heap.size rfl (cntL 256 (rdg b T B n) m) rfl (List.replicate 256 0) hR0 (by rw [cntL_len, List.length_replicate]) (by rw [cntL_len]; exact HZ1.out) ?_)
    revert hRR hbR hlt HSZ
    generalize (w2.alloc (.cells Z 42)).setRow w2.heap.size (((cntL 256 (rdg b T B n) m).map (Value.int .i64)).toArray) = w3
    intro hRR hbR hlt HSZ
    refine (cloneI_any w2.heap.size 0 256 b (cntL b (rdg b T B n) m) w3 (cntL_len _ _ _) (by omega) (hRR.nums (by rw [cntL_len, cntL_take (by omega)])) hlt).mono ?_
    rintro e w4 ⟨u, rfl, hu, hb4⟩
    have hb5 := hbR.trans (hb4.mono HSZ.out)
    go_wp2_with fail
    go_ret2
    exact ⟨_, rfl, hu.mono HSZ.out, hb5⟩



end Go.Proofs.Ytamcpoadpkgogad
