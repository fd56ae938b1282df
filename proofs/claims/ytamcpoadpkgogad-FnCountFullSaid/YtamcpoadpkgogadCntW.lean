/-
  Chapter 7, the program's side: mathematics of its counts; arrays of numbers compared.
-/
import Derived.Test.YtamcpoadpkgogadCntI
import Derived.Test.YtamcpoadpkgogadGOrd
import Derived.Laws.StructEq
namespace Go.Proofs.Ytamcpoadpkgogad
open Go.RowKit

theorem cntL_take {b c m : Nat} {D : Nat → Nat} (h : b ≤ c) : (cntL c D m).take b = cntL b D m := by
  unfold cntL
  rw [← List.map_take, List.take_range, Nat.min_eq_left h]

theorem cntL_congr {b m : Nat} {D E : Nat → Nat} (h : ∀ i, i < m → D i = E i) : cntL b D m = cntL b E m := by
  unfold cntL
  refine List.map_congr_left fun v _ => ?_
  unfold dgC
  rw [smC_congr fun i hi => by rw [h i hi]]

theorem cntL_eq {c m n : Nat} {D E : Nat → Nat} (h : cntL c D m = cntL c E n) {v : Nat} (hv : v < c) : dgC D v m = dgC E v n := by
  have h1 := cntL_get (D := D) (m := m) hv
  rw [h, cntL_get hv] at h1
  omega

/-- Counts that are the same are of as many. -/
theorem cntL_many {c m n : Nat} {D E : Nat → Nat} (hD : ∀ i, i < m → D i < c) (hE : ∀ i, i < n → E i < c) (h : cntL c D m = cntL c E n) : m = n := by
  rw [← sum_cnt hD, ← sum_cnt hE]
  exact smC_congr fun v hv => cntL_eq h hv

theorem cntL_ext {c m n : Nat} {D E : Nat → Nat} (h : ∀ v, v < c → dgC D v m = dgC E v n) : cntL c D m = cntL c E n := by
  unfold cntL
  refine List.map_congr_left fun v hv => ?_
  rw [h v (List.mem_range.1 hv)]

/-- The numbers with a digit, counted from 0 on. -/
theorem ful_dg (b p d : Nat) (hp : 1 ≤ p) : dgC (fun i => (i + 1) * b / p) d (p - 1) = fulC b p d p := by
  obtain ⟨q, rfl⟩ : ∃ q, p = q + 1 := ⟨p - 1, by omega⟩
  rw [Nat.add_sub_cancel]
  unfold fulC dgC
  rw [Nat.add_comm q 1, smC_split]
  show _ = 0 + one (1 ≤ 0 ∧ _) + _
  rw [one_no (p := 1 ≤ 0 ∧ _) (fun h => by omega), Nat.zero_add]
  refine smC_congr fun r _ => ?_
  show one ((r + 1) * b / (1 + q) = d) = one (1 ≤ 1 + r ∧ (1 + r) * b / (1 + q) = d)
  rw [Nat.add_comm 1 r]
  by_cases e : (r + 1) * b / (1 + q) = d
  · rw [one_yes e, one_yes ⟨by omega, e⟩]
  · rw [one_no e, one_no fun h => e h.2]

/-- A round of 1 over n that has n - 1 digits tells a prime. -/
theorem full_prime {b n : Nat} (hbn : Nat.gcd b n = 1) (hn : 2 ≤ n) (hm : IsLen b 1 n 0 (n - 1)) : primeB n = true := by
  refine (units_prime hn).1 ?_
  have h1 := ord_dvd hbn hn hm
  have h2 := unC_pos hn
  have h3 := Nat.le_of_dvd h2 h1
  have h4 : unC n n ≤ n - 1 := by rw [unC_last hn]; exact unC_le n (n - 1)
  omega

/-- The counts that CountFull compares. -/
theorem full_same {b p m : Nat} (hb16 : b ≤ 16) (hbp : Nat.gcd b p = 1) (hp : 2 ≤ p) (hm : IsLen b 1 p 0 m) :
    (cntL 256 (fun i => (i + 1) * b / p) (p - 1) = cntL 256 (rdg b 1 p 0) m) ↔ (primeB p = true ∧ m = p - 1) := by
  have hd1 : ∀ i, i < p - 1 → (fun i => (i + 1) * b / p) i < 256 := fun i hi => by
    show (i + 1) * b / p < 256
    rw [Nat.div_lt_iff_lt_mul (by omega)]
    have h1 : (i + 1) * b ≤ (i + 1) * 16 := Nat.mul_le_mul_left _ hb16
    omega
  have hd2 : ∀ i, i < m → rdg b 1 p 0 i < 256 := fun i hi => by
    unfold rdg Go.Proofs.Ytamcpoadpkgogad.dig
    rw [Nat.div_lt_iff_lt_mul (by omega)]
    have h1 := rst_lt (b := b) (show 1 < p by omega) (0 + i)
    have h2 : rst b 1 p (0 + i) * b ≤ rst b 1 p (0 + i) * 16 := Nat.mul_le_mul_left _ hb16
    omega
  constructor
  · intro h
    have h1 := cntL_many hd1 hd2 h
    refine ⟨full_prime hbp hp (by rw [h1]; exact hm), h1.symm⟩
  · rintro ⟨_, rfl⟩
    refine cntL_ext fun v _ => ?_
    rw [ful_dg b p v (by omega)]
    exact (full_cnt hp hm).symm

/-! Arrays of numbers compared. -/
theorem allI_range : ∀ (xs ys : List Int), xs.length = ys.length → ((List.range xs.length).all fun i => xs.getD i 0 == ys.getD i 0) = (xs == ys)
  | [], [], _ => rfl
  | x :: xs, y :: ys, h => by
    have ih := allI_range xs ys (by simpa using h)
    rw [List.length_cons, List.range_succ_eq_map, List.all_cons, List.all_map]
    simp only [List.getD_cons_zero, Function.comp_def, List.getD_cons_succ, ih]
    simp [List.cons_beq_cons]
  | [], _ :: _, h => by simp at h
  | _ :: _, [], h => by simp at h

theorem run_equalIn_ints {P : Program} (w : World) (d : Nat) (t e : TypeId) (n : Nat) (ht : P.underlying t = some (.array n e)) (he : P.underlying e = some (.int .i64)) (hsz : ∀ w, (sizeOf e).run P w = .ok 1 w)
    (xs ys : List Int) (hx : xs.length = n) (hy : ys.length = n) :
    (Op.equalIn (d + 2) t (.agg (xs.map (Value.int .i64)).toArray) (.agg (ys.map (Value.int .i64)).toArray)).run P w = .ok (xs == ys) w := by
  rw [← allI_range xs ys (hx.trans hy.symm), hx, List.range_eq_range', Op.equalIn]
  simp only [Sem.run_bind, run_underlying ht, Result.andThen_ok, hsz, Std.Legacy.Range.forIn_eq_forIn_range', Std.Legacy.Range.size, Nat.sub_zero, Nat.add_sub_cancel, Nat.div_one]
  have hl : ∀ i ∈ List.range' 0 n 1, i < n := fun i hi => by simpa using (List.mem_range'_1.1 hi).2
  generalize List.range' 0 n 1 = l at hl ⊢
  induction l with
  | nil => simp
  | cons i l ih =>
    have hi : i < n := hl i (by simp)
    have px : (part e (xs.map (Value.int .i64)).toArray (i * 1)).run P w = .ok (.int .i64 (xs.getD i 0)) w := by
      simp [part, isAgg, run_underlying he, List.getD, List.getElem?_eq_getElem (show i < xs.length by omega)]
    have py : (part e (ys.map (Value.int .i64)).toArray (i * 1)).run P w = .ok (.int .i64 (ys.getD i 0)) w := by
      simp [part, isAgg, run_underlying he, List.getD, List.getElem?_eq_getElem (show i < ys.length by omega)]
    have pe : (Op.equalIn (d + 1) e (.int .i64 (xs.getD i 0)) (.int .i64 (ys.getD i 0))).run P w = .ok (xs.getD i 0 == ys.getD i 0) w := by
      rw [run_equalIn_int w d e .i64 .i64 _ _ he]
    simp only [List.forIn_cons, Sem.run_bind, px, py, pe, Result.andThen_ok, List.all_cons]
    cases hb : (xs.getD i 0 == ys.getD i 0)
    · simp
    · simp only [Bool.not_true, Bool.false_eq_true, if_false, Sem.run_pure, Result.andThen_ok, Bool.true_and]
      exact ih fun j hj => hl j (by simp [hj])

end Go.Proofs.Ytamcpoadpkgogad
