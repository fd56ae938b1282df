/-
  Chapter 7, the program's side: CountRuns, CountPairs, CountFull.
-/
import Derived.Test.YtamcpoadpkgogadCntY
import Derived.Test.YtamcpoadpkgogadCntX
import Derived.Test.YtamcpoadpkgogadCntW
import Derived.Test.YtamcpoadpkgogadTold
import Derived.Test.YtamcpoadpkgogadPMath
import Derived.Test.YtamcpoadpkgogadGWlk
import Derived.Test.YtamcpoadpkgogadGRnd
import Derived.BigQuiet
import Derived.Deep.MidRow
import Derived.Deep.RegionHeld3
namespace Go.Proofs.Ytamcpoadpkgogad
open Go.RowKit



theorem RowZ.range {W : World} {g : Nat} {T : TypeId} {zs : List Int} (h : RowZ W g T zs) : W.rangeAt g 0 (zs.map (Value.int .i64)) := fun j v hv => by
  rw [Nat.zero_add, cell_of_row W g j _ T (0, 0) h.whole]
  simpa using hv
theorem run_neq_cnt (X Y : List Int) (hx : X.length = 256) (hy : Y.length = 256) (wx : World) :
    (binOp .neq 42 (cntV X) (cntV Y)).run Try.prog wx = .ok (.bool (!(X == Y))) wx := by
  unfold cntV
  rw [run_neq_struct, run_equalIn_ints wx 9998 42 3 256 Try.underlying42 Try.underlying3 (fun wx => Try.sizeOf3 wx) X Y hx hy]
  rfl
theorem guard_neq_cnt (X Y : List Int) (x y : Operand) (wx : World) : (eqGuard .neq 42 x y (cntV X) (cntV Y)).run Try.prog wx = .ok () wx :=
  run_eqGuard_agg (w := wx) .neq 42 x y _ _ (by kernel_rfl)

theorem ret_i64F {a b : Int} (h : a = b) : Ending.returned (.int .i64 a) = .returned (.int .i64 b) := by rw [h]

/-- The closure that tells the digits of all fractions of a bottom. -/
theorem fullAt_any (B C b p i : Nat) (w : World) (hc : w.cell? ⟨B, 0, none⟩ = some (.int .i64 b)) (hcp : w.cell? ⟨C, 0, none⟩ = some (.int .i64 p)) (hi : i < p - 1) (hb : b ≤ 16) (hp : p ≤ 1000) (hp2 : 2 ≤ p) :
    Calls Try.prog 13 #[.int .i64 i, .pointer (some ⟨B, 0, none⟩), .pointer (some ⟨C, 0, none⟩)] w fun e w' => e = .returned (.int .i64 (((i + 1) * b / p : Nat) : Int)) ∧ Below w.heap.size w w' := by
  obtain ⟨z, hz⟩ : ∃ z, (i + 1) * b = z := ⟨_, rfl⟩
  have hz2 : ((i : Int) + 1) * (b : Int) = (z : Int) := by rw [← hz, Int.natCast_mul]; rfl
  have hz3 : z ≤ 16000 := by
    have : (i + 1) * b ≤ 1000 * 16 := Nat.mul_le_mul (by omega) hb
    omega
  rw [hz]
  clear hz
  have hdv : (z : Int).tdiv (p : Int) = ((z / p : Nat) : Int) := by rw [Int.tdiv_eq_ediv_of_nonneg (by omega)]; simp
  have hdv2 : (z : Int) / (p : Int) = ((z / p : Nat) : Int) := by simp
  have hq : z / p ≤ 16000 := Nat.le_trans (Nat.div_le_self _ _) hz3
  have HDV := Lib.hid hdv2
  have w1' : IntKind.i64.wrap (((i : Int) + 1) * (b : Int)) = (z : Int) := by rw [hz2]; exact IntWalk.i64_in _ (by omega)
  have m0 : 0 ≤ ((i : Int) + 1) * (b : Int) := by omega
  have m1 : ((i : Int) + 1) * (b : Int) ≤ 16000 := by omega
  have i5 : ¬ (p : Int) = 0 := by omega
  have i6 : ¬ p = 0 := by omega
  have i7 : ((p : Int) == 0) = false := by simp; omega
  clear hz2 hdv2
  generalize z / p = q at hdv hq HDV ⊢
  have w2' : IntKind.i64.wrap (q : Int) = (q : Int) := IntWalk.i64_in _ (by omega)
  go_enter Try.func13, Try.ntmps13
  go_wp2_with fail
  go_ret
  exact ⟨rfl, Below.refl _ _⟩

set_option maxRecDepth 100000 in
set_option maxHeartbeats 4000000 in
theorem countFull_core (b p d m : Nat) (q : Bool) (w : World) (hpr : prmB b p = true) (hm : IsLen b 1 p 0 m) (hd : d < b) (hq : (!(cntL 256 (fun i => (i + 1) * b / p) (p - 1) == cntL 256 (rdg b 1 p 0) m)) = q) :
    Calls Try.prog 5 #[.int .i64 b, .int .i64 p, .int .i64 d] w fun e w' => e = .returned (.tuple #[.int .i64 (if q = true then 0 else (dgC (fun i => (i + 1) * b / p) d (p - 1) : Nat) : Int), .bool (!q)]) ∧ Below w.heap.size w w' := by
  obtain ⟨b', p', e1, e2, h3, h4, hn, hn2, hbn⟩ := prm_nat hpr
  obtain rfl : b = b' := by omega
  obtain rfl : p = p' := by omega
  clear e1 e2
  have hf : Frd b 1 p 0 m := ⟨h3, h4, by omega, hn2, Nat.gcd_one_left p, hm⟩
  obtain ⟨F, hF⟩ : ∃ F : Nat → Nat, (fun i => (i + 1) * b / p) = F := ⟨_, rfl⟩
  have hF2 : ∀ i, F i = (i + 1) * b / p := fun i => by rw [← hF]
  rw [hF] at hq ⊢
  have hFD : ∀ i, i < p - 1 → F i < 256 := fun i hi => by
    rw [hF2, Nat.div_lt_iff_lt_mul (by omega)]
    have h1 : (i + 1) * b ≤ (i + 1) * 16 := Nat.mul_le_mul_left _ h4
    omega
  have HF2 := Lib.hid hF2; have HFD := Lib.hid hFD; have HQ := Lib.hid hq; have HFR := Lib.hid hf
  obtain ⟨hz0, hz1⟩ := zero_of_info infoCnt
  obtain ⟨Z, hZ⟩ : ∃ Z : Array Value, ((List.replicate 256 (0 : Int)).map (Value.int .i64)).toArray = Z := ⟨_, rfl⟩
  have hz2 : ∀ wx, (zeroValue 42).run Try.prog wx = .ok (.agg Z) wx := fun wx => by rw [hz0, cntV, hZ]
  have HZ1 := Lib.hid hz1; have HZZ := Lib.hid hZ
  have hp1 : Hid ((p : Int) - 1 = ((p - 1 : Nat) : Int)) := by unfold Hid; omega
  clear hF hF2 hFD hq hf hm hz0 hz1 hZ hbn
  have kB0 : Boxed ((w.alloc (.cells #[.int .i64 b] 3)).alloc (.cells #[.int .i64 p] 3)) w.heap.size 3 (.int .i64 b) := (Boxed.new w _ _).alloc _
  have kC0 : Boxed ((w.alloc (.cells #[.int .i64 b] 3)).alloc (.cells #[.int .i64 p] 3)) (w.heap.size + 1) 3 (.int .i64 p) := by
    have := Boxed.new (w.alloc (.cells #[.int .i64 b] 3)) 3 (.int .i64 p)
    simpa using this
  have hb0 : Below w.heap.size w ((w.alloc (.cells #[.int .i64 b] 3)).alloc (.cells #[.int .i64 p] 3)) := ((Below.refl _ _).alloc (Nat.le_refl _) _).alloc (by simp) _
  have j1 : ¬ (d : Int) < 0 := by omega
  have j2 : ¬ (d : Int) ≥ (b : Int) := by omega
  have j3 : (d : Int) < (b : Int) := by omega
  have j4 : (0 : Int) ≤ (d : Int) := by omega
  go_enter Try.func5, Try.ntmps5
  go_wp2_with fail
  refine (roundsTold_any b p _).mono ?_
  rintro e w1 ⟨rfl, rfl⟩
  rw [hpr]
  go_wp2_with fail
  rw [hp1.out]
  revert kB0 kC0 hb0
  generalize (w.alloc (.cells #[.int .i64 b] 3)).alloc (.cells #[.int .i64 p] 3) = w1
  intro kB0 kC0 hb0
  refine (countedF_any (p - 1) w.heap.size (w.heap.size + 1) F w1 (by omega) HFD.out (fun i W hi hbW => ?call)).mono ?_
  case call =>
    have := fullAt_any w.heap.size (w.heap.size + 1) b p i W (cell_later hbW kB0.cell) (cell_later hbW kC0.cell) hi h4 hn2 hn
    rw [← HF2.out] at this
    exact this
  rintro e w2 ⟨rfl, hb2⟩
  have hbb := hb0.trans (hb2.mono hb0.size)
  have kB2 : Boxed w2 w.heap.size 3 (.int .i64 b) := (hb2.block _ kB0.lt).trans kB0
  have kC2 : Boxed w2 (w.heap.size + 1) 3 (.int .i64 p) := (hb2.block _ kC0.lt).trans kC0
  have hR0 : RowZ (w2.alloc (.cells Z 42)) w2.heap.size 42 (List.replicate 256 0) := by
    rw [← HZZ.out]; exact RowZ.new rfl
  have hbA : Below w.heap.size w (w2.alloc (.cells Z 42)) := hbb.alloc hbb.size _
  have hRR := hR0.put (cntL 256 F (p - 1))
  have hbR := below_put hbA hbb.size (((cntL 256 F (p - 1)).map (Value.int .i64)).toArray)
  have kB3 : Boxed ((w2.alloc (.cells Z 42)).setRow w2.heap.size (((cntL 256 F (p - 1)).map (Value.int .i64)).toArray)) w.heap.size 3 (.int .i64 b) :=
    (setRow_other _ _ _ _ (by have := kB2.lt; omega)).trans (kB2.alloc _)
  have kC3 : Boxed ((w2.alloc (.cells Z 42)).setRow w2.heap.size (((cntL 256 F (p - 1)).map (Value.int .i64)).toArray)) (w.heap.size + 1) 3 (.int .i64 p) :=
    (setRow_other _ _ _ _ (by have := kC2.lt; omega)).trans (kC2.alloc _)
  have hgt : w.heap.size + 1 < w2.heap.size := kC2.lt
  clear hb2 kB0 kC0 hb0 kB2 kC2 hbb hbA
  go_wp2_with (refine wpList_store_rowZ rfl 42 _ _ rfl w2.heap.size rfl (cntL 256 F (p - 1)) rfl (List.replicate 256 0) hR0 (by rw [cntL_len, List.length_replicate]) (by rw [cntL_len]; exact HZ1.out) ?_)
  clear hR0 hz2
  revert hRR hbR kB3 kC3
  generalize (w2.alloc (.cells Z 42)).setRow w2.heap.size (((cntL 256 F (p - 1)).map (Value.int .i64)).toArray) = w3
  intro hRR hbR kB3 kC3
  have hun : Try.prog.underlying 42 = some (.array 256 3) := Try.underlying42
  have hin : (Try.prog.info? 42).map (·.size) = some ((cntL 256 F (p - 1)).map (Value.int .i64)).length := by rw [List.length_map, cntL_len]; exact HZ1.out
  have hcmp := run_neq_cnt (cntL 256 F (p - 1)) (cntL 256 (rdg b 1 p 0) m) (cntL_len _ _ _) (cntL_len _ _ _)
  have hgd := guard_neq_cnt (cntL 256 F (p - 1)) (cntL 256 (rdg b 1 p 0) m)
  rw [HQ.out] at hcmp
  unfold cntV at hcmp hgd
  have RC : Hid (∀ W, Calls Try.prog 14 #[.int .i64 b, .agg #[.int .i64 1, .int .i64 p]] W fun e w' => e = .returned (.agg ((cntL 256 (rdg b 1 p 0) m).map (Value.int .i64)).toArray) ∧ Below W.heap.size W w') := fun W => roundCounts_any b 1 p 0 m W HFR.out
  have c1 := kB3.cell
  have c2 := kC3.cell
  have r1 : RowZ w3.drew w2.heap.size 42 (cntL 256 F (p - 1)) := hRR
  have r2 : w3.drew.rangeAt w2.heap.size 0 ((cntL 256 F (p - 1)).map (Value.int .i64)) := r1.range
  have b1 : w3.drew.cell? ⟨w.heap.size, 0, none⟩ = some (.int .i64 b) := c1
  have b2 : w3.drew.cell? ⟨w.heap.size + 1, 0, none⟩ = some (.int .i64 p) := c2
  go_region_held3 (fun w' => (w'.rangeAt w2.heap.size 0 ((cntL 256 F (p - 1)).map (Value.int .i64)) ∧ w'.cell? ⟨w.heap.size, 0, none⟩ = some (.int .i64 b)) ∧ w'.cell? ⟨w.heap.size + 1, 0, none⟩ = some (.int .i64 p)) (exact ⟨⟨by assumption, by assumption⟩, by assumption⟩)
    (first | (go_at_call 14; (with_reducible refine Calls.mono (RC.out _) ?_); rintro e w4 ⟨rfl, hb4⟩; have x1 : w4.rangeAt w2.heap.size 0 ((cntL 256 F (p - 1)).map (Value.int .i64)) := (r1.later hb4).range; have x2 : w4.cell? ⟨w.heap.size, 0, none⟩ = some (.int .i64 b) := cell_later hb4 b1; have x3 : w4.cell? ⟨w.heap.size + 1, 0, none⟩ = some (.int .i64 p) := cell_later hb4 b2))
  have hbf : Below w.heap.size w w4 := hbR.drew.trans (hb4.mono hbR.drew.size)
  have k9 := (r1.later hb4).cell d (by rw [cntL_len]; omega)
  rw [cntL_get (by omega)] at k9
  have j5 : (d : Int) < 256 := by omega
  have j6 : (0 : Int) ≤ (d : Int) := by omega
  have HSEQ : Hid (dgC F d (p - 1) = dgC F d (p - 1)) := rfl
  clear hcmp hgd x1 x2 x3 r1 r2 b1 b2 c1 c2 hRR hbR kB3 kC3 hun hin hb4
  cases q with
  | true =>
    go_wp2_with fail
    go_ret2
    exact ⟨rfl, hbf⟩
  | false =>
    go_wp2_with fail
    go_ret2
    exact ⟨rfl, hbf⟩

theorem imCountFull : ImCountFull := by
  constructor
  · intro b p d h w
    cases hpr : prmB b p with
    | false =>
      clear h
      go_enter Try.func5, Try.ntmps5
      go_wp2_with fail
      refine (roundsTold_any b p _).mono ?_
      rintro e w1 ⟨rfl, rfl⟩
      rw [hpr]
      go_wp2_with fail
      go_ret2
      exact ⟨rfl, ((Below.refl _ _).alloc (Nat.le_refl _) _).alloc (by simp) _⟩
    | true =>
      obtain ⟨b, p, rfl, rfl, h3, h4, hn, hn2, hbn⟩ := prm_nat hpr
      by_cases h1 : d < 0
      · clear h
        go_enter Try.func5, Try.ntmps5
        go_wp2_with fail
        refine (roundsTold_any b p _).mono ?_
        rintro e w1 ⟨rfl, rfl⟩
        rw [hpr]
        go_wp2_with fail
        go_ret2
        exact ⟨rfl, ((Below.refl _ _).alloc (Nat.le_refl _) _).alloc (by simp) _⟩
      · by_cases h2 : d ≥ (b : Int)
        · clear h
          go_enter Try.func5, Try.ntmps5
          go_wp2_with fail
          refine (roundsTold_any b p _).mono ?_
          rintro e w1 ⟨rfl, rfl⟩
          rw [hpr]
          go_wp2_with fail
          go_ret2
          exact ⟨rfl, ((Below.refl _ _).alloc (Nat.le_refl _) _).alloc (by simp) _⟩
        · obtain ⟨d, rfl⟩ := Int.eq_ofNat_of_zero_le (show 0 ≤ d by omega)
          obtain ⟨m, hm⟩ := ord_some hbn hn
          have hne : ¬ cntL 256 (fun i => (i + 1) * b / p) (p - 1) = cntL 256 (rdg b 1 p 0) m := fun e => by
            obtain ⟨e1, e2⟩ := (full_same h4 hbn hn hm).1 e
            subst e2
            exact h b p d rfl rfl rfl e1 hpr hm (by omega)
          have := countFull_core b p d m true w hpr hm (by omega) (by simpa using hne)
          simpa using this
  · intro b p d hp hpr hm hd w
    obtain ⟨b', p', e1, e2, h3, h4, hn, hn2, hbn⟩ := prm_nat hpr
    obtain rfl : b = b' := by omega
    obtain rfl : p = p' := by omega
    have := countFull_core b p d (p - 1) false w hpr hm hd (by simpa using (full_same h4 hbn hn hm).2 ⟨hp, rfl⟩)
    rw [ful_dg b p d (by omega)] at this
    simpa using this

end Go.Proofs.Ytamcpoadpkgogad
