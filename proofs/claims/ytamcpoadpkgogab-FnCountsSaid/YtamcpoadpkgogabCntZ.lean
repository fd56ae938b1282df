/-
  Chapter 7, the program's side: CountDigits, CountSum, CountMost.
-/
import Derived.Test.YtamcpoadpkgogabCntY
import Derived.Test.YtamcpoadpkgogabTold
import Derived.Test.YtamcpoadpkgogabPMath
import Derived.BigQuiet
namespace Go.Proofs.Ytamcpoadpkgogab
open Go.RowKit

theorem RowZ.nums {W : World} {g : Nat} {T : TypeId} {zs ys : List Int} (h : RowZ W g T zs) (e : ys = zs.take ys.length) : NumsAt W g 0 ys := fun j hj => by
  have hj2 : j < zs.length := by
    have : ys.length ≤ zs.length := by rw [e, List.length_take]; omega
    omega
  have hc := h.cell j hj2
  rw [Nat.zero_add, hc]
  congr 2
  conv => rhs; rw [e]
  rw [List.getElem?_take_of_lt hj]

set_option maxRecDepth 100000 in
set_option maxHeartbeats 2000000 in
theorem imCountDigits : ImCountDigits := by
  constructor
  · intro b t n h w
    go_enter Try.func13, Try.ntmps13
    go_wp2_with fail
    refine (fracTold_any b t n _).mono ?_
    rintro e w1 ⟨rfl, hb1⟩
    have hb := bel1 hb1
    rw [h]
    go_wp2_with fail
    go_ret2
    exact ⟨_, rfl, Slc.nil _ _, hb⟩
  · intro b T B n m hf w
    have h3 := hf.b2; have h4 := hf.b16
    have HF := Lib.hid hf
    obtain ⟨hz0, hz1⟩ := zero_of_info infoCnt
    obtain ⟨Z, hZ⟩ : ∃ Z : Array Value, ((List.replicate 256 (0 : Int)).map (Value.int .i64)).toArray = Z := ⟨_, rfl⟩
    have hz2 : ∀ wx, (zeroValue 47).run Try.prog wx = .ok (.agg Z) wx := fun wx => by rw [hz0, cntV, hZ]
    have HZ1 := Lib.hid hz1; have HZZ := Lib.hid hZ
    have told := hf.told
    clear hf hz0 hz1 hZ
    go_enter Try.func13, Try.ntmps13
    go_wp2_with fail
    refine (fracTold_any b T B _).mono ?_
    rintro e w1 ⟨rfl, hb1⟩
    have q1 := (Box2.newAt (W := w) (T := 26) (x := .int .i64 T) (y := .int .i64 B) rfl).later hb1
    have k0 := q1.cell0
    have k1 := q1.cell1
    have hb := bel1 hb1
    rw [told]
    clear hb1
    go_wp2_with fail
    refine (roundCounts_any b T B n m _ HF.out).mono ?_
    rintro e w2 ⟨rfl, hb2⟩
    have hbb := hb.trans (hb2.mono hb.size)
    have hR0 : RowZ (w2.alloc (.cells Z 47)) w2.heap.size 47 (List.replicate 256 0) := by
      rw [← HZZ.out]; exact RowZ.new rfl
    have hbA : Below w.heap.size w (w2.alloc (.cells Z 47)) := hbb.alloc hbb.size _
    have hRR := hR0.put (cntL 256 (rdg b T B n) m)
    have hbR := below_put hbA hbb.size (((cntL 256 (rdg b T B n) m).map (Value.int .i64)).toArray)
    have hlt := hRR.lt
    have HSZ := Lib.hid hbR.size
    clear hb2 hb k0 k1 q1 hbA hbb
    have j1 : (b : Int) ≤ 256 := by omega
    have j2 : (0 : Int) ≤ (b : Int) := by omega
    go_wp2_with (refine wpList_store_rowZ rfl 47 _ _ rfl w2.heap.size rfl (cntL 256 (rdg b T B n) m) rfl (List.replicate 256 0) hR0 (by rw [cntL_len, List.length_replicate]) (by rw [cntL_len]; exact HZ1.out) ?_)
    revert hRR hbR hlt HSZ
    generalize (w2.alloc (.cells Z 47)).setRow w2.heap.size (((cntL 256 (rdg b T B n) m).map (Value.int .i64)).toArray) = w3
    intro hRR hbR hlt HSZ
    refine (cloneI_any w2.heap.size 0 256 b (cntL b (rdg b T B n) m) w3 (cntL_len _ _ _) (by omega) (hRR.nums (by rw [cntL_len, cntL_take (by omega)])) hlt).mono ?_
    rintro e w4 ⟨u, rfl, hu, hb4⟩
    have hb5 := hbR.trans (hb4.mono HSZ.out)
    go_wp2_with fail
    go_ret2
    exact ⟨_, rfl, hu.mono HSZ.out, hb5⟩

theorem smC_mono (f : Nat → Nat) {k n : Nat} (h : k ≤ n) : smC f k ≤ smC f n := by
  obtain ⟨d, rfl⟩ := Nat.exists_eq_add_of_le h
  rw [smC_split]; omega

set_option maxRecDepth 100000 in
set_option maxHeartbeats 2000000 in
theorem imCountSum : ImCountSum := by
  constructor
  · intro b t n h w
    go_enter Try.func17, Try.ntmps17
    go_wp2_with fail
    refine (fracTold_any b t n _).mono ?_
    rintro e w1 ⟨rfl, hb1⟩
    have hb := bel1 hb1
    rw [h]
    go_wp2_with fail
    go_ret2
    exact ⟨rfl, hb⟩
  · intro b T B n m hf w
    have h3 := hf.b2; have h4 := hf.b16
    have HF := Lib.hid hf
    have told := hf.told
    have hDb : ∀ i, i < m → rdg b T B n i < 256 := fun i _ => by have := hf.dig i; omega
    have hsum := sum_vcnt hDb
    have hmax : smC (rdg b T B n) m ≤ 16000 := by
      have h5 := smC_le (f := rdg b T B n) (g := fun _ => 16 * 1) (n := m) fun i _ => by have := hf.dig i; omega
      rw [smC_mul, smC_one] at h5
      have := hf.le; omega
    have HST : Hid (∀ k, k ≤ 256 → smC (fun v => v * dgC (rdg b T B n) v m) k ≤ 16000) := fun k hk => by
      have := smC_mono (fun v => v * dgC (rdg b T B n) v m) hk
      rw [hsum] at this; omega
    have HCL := Lib.hid (fun v => dgC_le (rdg b T B n) v m)
    have hm2 := hf.le
    have HSUM := Lib.hid hsum
    have HIX : ∀ (k : Nat) wx, k < 256 → (Instr.index 47 (cntV (cntL 256 (rdg b T B n) m)) (.int .i64 k)).run Try.prog wx = .ok (.int .i64 (dgC (rdg b T B n) k m)) wx := fun k wx hk => by
      rw [run_index_cnt _ k hk (cntL_len _ _ _), cntL_get hk]
    have HIXX := Lib.hid HIX
    clear hf hsum hDb hmax HIX
    go_enter Try.func17, Try.ntmps17
    go_wp2_with fail
    refine (fracTold_any b T B _).mono ?_
    rintro e w1 ⟨rfl, hb1⟩
    have q1 := (Box2.newAt (W := w) (T := 26) (x := .int .i64 T) (y := .int .i64 B) rfl).later hb1
    have k0 := q1.cell0
    have k1 := q1.cell1
    have hb := bel1 hb1
    rw [told]
    clear hb1
    go_wp2_with fail
    refine (roundCounts_any b T B n m _ HF.out).mono ?_
    rintro e w2 ⟨rfl, hb2⟩
    have hbb := hb.trans (hb2.mono hb.size)
    clear hb2 hb k0 k1 q1
    generalize cntV (cntL 256 (rdg b T B n) m) = V at HIXX
    go_wp2_with fail
    go_loop [6, 16] (fun s k' => ∃ k : Nat, k ≤ 256 ∧ s = .int .i64 ((smC (fun v => v * dgC (rdg b T B n) v m) k : Nat) : Int) ∧ k' = .int .i64 k) (fun _ k' => 256 - (intOf k').toNat)
    case atStart => exact ⟨0, by omega, rfl, rfl⟩
    case round =>
      obtain ⟨k, hk, rfl, rfl⟩ := hrel
      by_cases hlt : k < 256
      · have j1 : (k : Int) < 256 := by omega
        have hix := fun wx => HIXX.out k wx hlt
        have h6 := HST.out (k + 1) hlt
        have h7 := HCL.out k
        have HE : Hid (smC (fun v => v * dgC (rdg b T B n) v m) (k + 1) = smC (fun v => v * dgC (rdg b T B n) v m) k + k * dgC (rdg b T B n) k m) := rfl
        rw [HE.out] at h6
        revert hix h6 h7 HE
        generalize dgC (rdg b T B n) k m = c
        generalize smC (fun v => v * dgC (rdg b T B n) v m) k = s
        intro hix h6 h7 HE
        obtain ⟨p, hp⟩ : ∃ p, k * c = p := ⟨_, rfl⟩
        have hc : ((k : Int) * (c : Int)) = (p : Int) := by rw [← hp, Int.natCast_mul]
        rw [hp] at h6 HE
        clear hp
        have w1 : IntKind.i64.wrap ((k : Int) * (c : Int)) = (p : Int) := by rw [hc]; exact IntWalk.i64_in _ (by omega)
        have m0 : 0 ≤ (k : Int) * (c : Int) := by omega
        have m1 : (k : Int) * (c : Int) ≤ 16000 := by omega
        have HC := Lib.hid hc
        clear hc
        go_wp2_with fail
        go_round
        case rel => exact ⟨k + 1, hlt, by rw [HE.out]; rfl, by go_num⟩
        case measure => simp [intOf]; omega
      · obtain rfl : k = 256 := by omega
        rw [HSUM.out]
        go_wp2_with fail
        go_ret2
        exact ⟨rfl, hbb⟩


end Go.Proofs.Ytamcpoadpkgogab
