/-
  RestRounds and RestMany: both sides.
-/
import Derived.Test.YteanlblcppcgbaaRndsI
import Derived.Test.YteanlblcppcgbaaTold
namespace Go.Proofs.Yteanlblcppcgbaa
open Go.RowKit

/-- A base and a bottom have rounds of tops. -/
def prmB (b n : Int) : Bool := decide (2 ≤ b ∧ b ≤ 16) && (decide (2 ≤ n ∧ n ≤ 1000) && decide (gcdI b n = 1))

theorem prm_nat {b n : Int} (h : prmB b n = true) : ∃ b' n' : Nat, b = b' ∧ n = n' ∧ 2 ≤ b' ∧ b' ≤ 16 ∧ 2 ≤ n' ∧ n' ≤ 1000 ∧ Nat.gcd b' n' = 1 := by
  unfold prmB at h
  rw [Bool.and_eq_true, Bool.and_eq_true, decide_eq_true_eq, decide_eq_true_eq, decide_eq_true_eq] at h
  obtain ⟨⟨h1, h2⟩, ⟨h3, h4⟩, h5⟩ := h
  obtain ⟨b', rfl⟩ := Int.eq_ofNat_of_zero_le (show 0 ≤ b by omega)
  obtain ⟨n', rfl⟩ := Int.eq_ofNat_of_zero_le (show 0 ≤ n by omega)
  rw [gcdI_nat] at h5
  exact ⟨b', n', rfl, rfl, by omega, by omega, by omega, by omega, by omega⟩

set_option maxHeartbeats 400000 in
theorem l2Prime_any (b n : Int) (w : World) :
    Calls Try.prog 22 #[.int .i64 b, .int .i64 n] w fun e w' => e = .returned (.bool (prmB b n)) ∧ w = w' := by
  by_cases h1 : 2 ≤ b ∧ b ≤ 16
  · have h1' : decide (2 ≤ b ∧ b ≤ 16) = true := by simpa using h1
    by_cases h2 : 2 ≤ n ∧ n ≤ 1000
    · have h2' : decide (2 ≤ n ∧ n ≤ 1000) = true := by simpa using h2
      have HF : Hid (prmB b n = (gcdI b n == 1)) := by unfold Hid prmB; rw [h1', h2', Bool.true_and, Bool.true_and]; rfl
      obtain ⟨a1, a2⟩ := h1
      obtain ⟨a3, a4⟩ := h2
      go_enter Try.func22, Try.ntmps22
      go_wp2_with (first | (go_at_call 29; refine (l6In_any _ _ _ _).mono ?_; rintro e w' ⟨rfl, rfl⟩) | (go_at_call 37; refine (l1Gcd_any _ _ _ (by omega) (by omega) (by omega) (by omega)).mono ?_; rintro e w' ⟨rfl, rfl⟩))
      go_ret
      exact ⟨ret_bool (by rw [HF.out]), rfl⟩
    · have h2' : decide (2 ≤ n ∧ n ≤ 1000) = false := by simpa using h2
      have HF : Hid (prmB b n = false) := by unfold Hid prmB; rw [h1', h2']; rfl
      clear h1 h2
      go_enter Try.func22, Try.ntmps22
      go_wp2_with (go_at_call 29; refine (l6In_any _ _ _ _).mono ?_; rintro e w' ⟨rfl, rfl⟩)
      go_ret
      exact ⟨ret_bool (by rw [HF.out]), rfl⟩
  · have h1' : decide (2 ≤ b ∧ b ≤ 16) = false := by simpa using h1
    have HF : Hid (prmB b n = false) := by unfold Hid prmB; rw [h1']; rfl
    clear h1
    go_enter Try.func22, Try.ntmps22
    go_wp2_with (go_at_call 29; refine (l6In_any _ _ _ _).mono ?_; rintro e w' ⟨rfl, rfl⟩)
    go_ret
    exact ⟨ret_bool (by rw [HF.out]), rfl⟩

set_option maxHeartbeats 400000 in
theorem roundsTold_any (b n : Int) (w : World) :
    Calls Try.prog 24 #[.int .i64 b, .int .i64 n] w fun e w' => e = .returned (.bool (prmB b n)) ∧ w = w' := by
  by_cases h1 : 2 ≤ b ∧ b ≤ 16
  · have h1' : decide (2 ≤ b ∧ b ≤ 16) = true := by simpa using h1
    by_cases h2 : 2 ≤ n
    · by_cases h3 : n ≤ 1000
      · have h2' : decide (2 ≤ n ∧ n ≤ 1000) = true := by simp; omega
        have HF : Hid (prmB b n = (gcdI b n == 1)) := by unfold Hid prmB; rw [h1', h2', Bool.true_and, Bool.true_and]; rfl
        obtain ⟨a1, a2⟩ := h1
        go_enter Try.func24, Try.ntmps24
        go_wp2_with (first | (go_at_call 33; refine (baseIn_any _ _).mono ?_; rintro e w' ⟨rfl, rfl⟩) | (go_at_call 36; refine (commonDivisor_any _ _ _ (by omega) (by omega) (by omega) (by omega)).mono ?_; rintro e w' ⟨rfl, rfl⟩))
        go_ret
        exact ⟨ret_bool (by rw [HF.out]), rfl⟩
      · have h2' : decide (2 ≤ n ∧ n ≤ 1000) = false := by simp; omega
        have HF : Hid (prmB b n = false) := by unfold Hid prmB; rw [h1', h2']; rfl
        have h3' : decide (n ≤ 1000) = false := by simpa using h3
        clear h1 h3
        go_enter Try.func24, Try.ntmps24
        go_wp2_with (go_at_call 33; refine (baseIn_any _ _).mono ?_; rintro e w' ⟨rfl, rfl⟩)
        go_ret
        exact ⟨ret_bool (by rw [HF.out]), rfl⟩
    · have h2' : decide (2 ≤ n ∧ n ≤ 1000) = false := by simp; omega
      have HF : Hid (prmB b n = false) := by unfold Hid prmB; rw [h1', h2']; rfl
      have h3' : decide (2 ≤ n) = false := by simpa using h2
      clear h1 h2
      go_enter Try.func24, Try.ntmps24
      go_wp2_with (go_at_call 33; refine (baseIn_any _ _).mono ?_; rintro e w' ⟨rfl, rfl⟩)
      go_ret
      exact ⟨ret_bool (by rw [HF.out]), rfl⟩
  · have h1' : decide (2 ≤ b ∧ b ≤ 16) = false := by simpa using h1
    have HF : Hid (prmB b n = false) := by unfold Hid prmB; rw [h1']; rfl
    clear h1
    go_enter Try.func24, Try.ntmps24
    go_wp2_with (go_at_call 33; refine (baseIn_any _ _).mono ?_; rintro e w' ⟨rfl, rfl⟩)
    go_ret
    exact ⟨ret_bool (by rw [HF.out]), rfl⟩

/-- A function answers a new list of new lists and a bool. -/
def GivesSS (f : FuncId) (args : Array Value) (L : List (List Int)) (p : Bool) : Prop :=
  ∀ w : World, Calls Try.prog f args w fun e w' => ∃ v, e = .returned (.tuple #[v, .bool p]) ∧ RowSS w.heap.size w' v L ∧ Below w.heap.size w w'

set_option maxHeartbeats 1000000 in
theorem both_rounds (b n : Int) : ∃ L p, (L.length ≤ 1000 ∧ ∀ xs ∈ L, xs.length ≤ 1000) ∧ GivesSS 9 #[.int .i64 b, .int .i64 n] L p ∧ GivesSS 10 #[.int .i64 b, .int .i64 n] L p := by
  cases h : prmB b n with
  | false =>
    refine ⟨[], false, by simp, fun w => ?_, fun w => ?_⟩
    · go_enter Try.func9, Try.ntmps9
      go_wp2_with fail
      refine (l2Prime_any _ _ _).mono ?_
      rintro e w1 ⟨rfl, rfl⟩
      rw [h]
      go_wp2_with fail
      go_ret2
      exact ⟨_, rfl, RowSS.zero _ _ (Nat.le_refl _), (Below.refl _ _).alloc (Nat.le_refl _) _⟩
    · go_enter Try.func10, Try.ntmps10
      go_wp2_with fail
      refine (roundsTold_any _ _ _).mono ?_
      rintro e w1 ⟨rfl, rfl⟩
      rw [h]
      go_wp2_with fail
      go_ret2
      exact ⟨_, rfl, RowSS.nil _ _ _ ⟨rfl, .inl ⟨rfl, rfl⟩⟩, Below.refl _ _⟩
  | true =>
    obtain ⟨b, n, rfl, rfl, h3, h4, hn, hn2, hbn⟩ := prm_nat h
    obtain ⟨L, hL⟩ : ∃ L, Rnds b n n L := rnds_some hbn n (Nat.le_refl _)
    have hbd := hL.bound (Nat.le_refl _)
    have HL := Lib.hid hL; have HB := Lib.hid hbn
    clear hL hbn
    refine ⟨L, true, ⟨by omega, fun xs hx => by have := (hbd.2 xs hx).2; omega⟩, fun w => ?_, fun w => ?_⟩
    · go_enter Try.func9, Try.ntmps9
      go_wp2_with fail
      refine (l2Prime_any _ _ _).mono ?_
      rintro e w1 ⟨rfl, rfl⟩
      rw [h]
      go_wp2_with fail
      refine (l2Rounds_any b n w HB.out h3 h4 hn hn2).mono ?_
      rintro e w1 ⟨v, L', hL', rfl, hv, hb⟩
      obtain rfl := HL.out.unique hL'
      go_wp2_with fail
      go_ret2
      exact ⟨_, rfl, hv, hb⟩
    · go_enter Try.func10, Try.ntmps10
      go_wp2_with fail
      refine (roundsTold_any _ _ _).mono ?_
      rintro e w1 ⟨rfl, rfl⟩
      rw [h]
      go_wp2_with fail
      refine (restRounds_any b n w HB.out h3 h4 hn hn2).mono ?_
      rintro e w1 ⟨v, L', hL', rfl, hv, hb⟩
      obtain rfl := HL.out.unique hL'
      go_wp2_with fail
      go_ret2
      exact ⟨_, rfl, hv, hb⟩

/-- A function answers two numbers and a bool. -/
theorem both_many (b n : Int) : ∃ x y p, GivesII 14 #[.int .i64 b, .int .i64 n] x y p ∧ GivesII 15 #[.int .i64 b, .int .i64 n] x y p := by
  cases h : prmB b n with
  | false =>
    refine ⟨0, 0, false, fun w => ?_, fun w => ?_⟩
    · go_enter Try.func14, Try.ntmps14
      go_wp2_with fail
      refine (l2Prime_any _ _ _).mono ?_
      rintro e w1 ⟨rfl, rfl⟩
      rw [h]
      go_wp2_with fail
      refine bodyPost_ret (v := .tuple #[.int .i64 0, .int .i64 0, .bool false]) (by simp [results, Try.results14, go_sem]) rfl ⟨rfl, Below.refl _ _⟩
    · go_enter Try.func15, Try.ntmps15
      go_wp2_with fail
      refine (roundsTold_any _ _ _).mono ?_
      rintro e w1 ⟨rfl, rfl⟩
      rw [h]
      go_wp2_with fail
      refine bodyPost_ret (v := .tuple #[.int .i64 0, .int .i64 0, .bool false]) (by simp [results, Try.results15, go_sem]) rfl ⟨rfl, Below.refl _ _⟩
  | true =>
    obtain ⟨b, n, rfl, rfl, h3, h4, hn, hn2, hbn⟩ := prm_nat h
    obtain ⟨L, hL⟩ : ∃ L, Rnds b n n L := rnds_some hbn n (Nat.le_refl _)
    have hbd := hL.bound (Nat.le_refl _)
    have hpos := hL.some hn hn
    have HL := Lib.hid hL; have HB := Lib.hid hbn
    clear hL hbn
    obtain ⟨l, hl0⟩ : ∃ l, L.length = l := ⟨_, rfl⟩
    obtain ⟨m, hm0⟩ : ∃ m, (L[0]?.getD []).length = m := ⟨_, rfl⟩
    have HL0 := Lib.hid hl0; have HM0 := Lib.hid hm0; clear hl0 hm0
    refine ⟨l, m, true, fun w => ?_, fun w => ?_⟩
    · go_enter Try.func14, Try.ntmps14
      go_wp2_with fail
      refine (l2Prime_any _ _ _).mono ?_
      rintro e w1 ⟨rfl, rfl⟩
      rw [h]
      go_wp2_with fail
      refine (l2Rounds_any b n w HB.out h3 h4 hn hn2).mono ?_
      rintro e w1 ⟨v, L', hL', rfl, ⟨vs, hl, hV, _⟩, hb⟩
      obtain rfl := HL.out.unique hL'
      obtain ⟨g, c, u, rfl, hc, _, hu⟩ := hV.cell hl 0 hpos
      obtain ⟨au, cu, rfl⟩ := slc_form hu
      clear hbd HL HB hu hV hl hL'
      rw [HM0.out] at hc
      rw [HL0.out] at hpos ⊢
      have hcD : w1.drew.cell? ⟨g, 0, none⟩ = some (.slice au m cu) := hc
      have i1 : (0 : Int) < (l : Int) := by omega
      go_wp2_with fail
      go_region
      all_goals (
        go_wp2
        refine bodyPost_ret (v := .tuple #[.int .i64 l, .int .i64 m, .bool true]) (by simp [results, Try.results14, go_sem]) rfl ⟨rfl, ?_⟩
        exact hb.drew)
    · go_enter Try.func15, Try.ntmps15
      go_wp2_with fail
      refine (roundsTold_any _ _ _).mono ?_
      rintro e w1 ⟨rfl, rfl⟩
      rw [h]
      go_wp2_with fail
      refine (restRounds_any b n w HB.out h3 h4 hn hn2).mono ?_
      rintro e w1 ⟨v, L', hL', rfl, ⟨vs, hl, hV, _⟩, hb⟩
      obtain rfl := HL.out.unique hL'
      obtain ⟨g, c, u, rfl, hc, _, hu⟩ := hV.cell hl 0 hpos
      obtain ⟨au, cu, rfl⟩ := slc_form hu
      clear hbd HL HB hu hV hl hL'
      rw [HM0.out] at hc
      rw [HL0.out] at hpos ⊢
      have hcD : w1.drew.cell? ⟨g, 0, none⟩ = some (.slice au m cu) := hc
      have i1 : (0 : Int) < (l : Int) := by omega
      go_wp2_with fail
      go_region
      all_goals (
        go_wp2
        refine bodyPost_ret (v := .tuple #[.int .i64 l, .int .i64 m, .bool true]) (by simp [results, Try.results15, go_sem]) rfl ⟨rfl, ?_⟩
        exact hb.drew)

end Go.Proofs.Yteanlblcppcgbaa
