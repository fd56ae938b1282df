/-
  The law FnExactFracOf's walk.
-/
import Derived.Test.YtppdhnndklpdmaaOfSp
import Derived.Test.YtppdhnndklpdmaaToInt
namespace Go.Proofs.Ytppdhnndklpdmaa
open Go.RowKit

theorem fin_of {T N : Int} (h0 : 0 ≤ T) (h1 : T < N) : finB (T / gcdI T N) (N / gcdI T N) = decide (N / gcdI T N ≤ 1000) := by
  obtain ⟨t, rfl⟩ := Int.eq_ofNat_of_zero_le h0
  obtain ⟨n, rfl⟩ := Int.eq_ofNat_of_zero_le (show 0 ≤ N by omega)
  have hn : 0 < n := by omega
  have hg : 0 < Nat.gcd t n := Nat.gcd_pos_of_pos_right _ hn
  have e1 : (t : Int) / gcdI t n = ((t / Nat.gcd t n : Nat) : Int) := by rw [gcdI_nat]; rfl
  have e2 : (n : Int) / gcdI t n = ((n / Nat.gcd t n : Nat) : Int) := by rw [gcdI_nat]; rfl
  have hq : 0 < n / Nat.gcd t n := Nat.div_pos (Nat.le_of_dvd hn (Nat.gcd_dvd_right _ _)) hg
  have hlt : t / Nat.gcd t n < n / Nat.gcd t n := Nat.div_lt_div_of_lt_of_dvd (Nat.gcd_dvd_right _ _) (by omega)
  have hgc : Nat.gcd (t / Nat.gcd t n) (n / Nat.gcd t n) = 1 := by
    rw [Nat.gcd_div (Nat.gcd_dvd_left _ _) (Nat.gcd_dvd_right _ _), Nat.div_self hg]
  rw [e1, e2]
  revert hq hlt hgc
  generalize n / Nat.gcd t n = q
  generalize t / Nat.gcd t n = r
  intro hq hlt hgc
  by_cases h : q ≤ 1000
  · have : (q : Int) ≤ 1000 := by omega
    rw [finB_eq_of (by omega) (by omega) (by omega) (by omega), gcdI_nat, hgc, decide_eq_true this]
    rfl
  · have : ¬ (q : Int) ≤ 1000 := by omega
    rw [finB_false_of (by omega), decide_eq_false this]

set_option maxHeartbeats 1000000 in
/-- Both answer the same. -/
theorem fracOf_same (b : Int) (xs ys : List Int) (hlx : xs.length ≤ 1048576) (hly : ys.length ≤ 1048576) :
    ∃ x y p, (∀ n₀ n₁ v u w, Slc n₀ w v xs → Slc n₁ w u ys → Calls Try.prog 10 #[.int .i64 b, v, u] w (AnsF w x y p)) ∧
      (∀ n₀ n₁ v u w, Slc n₀ w v xs → Slc n₁ w u ys → Calls Try.prog 12 #[.int .i64 b, v, u] w (AnsF w x y p)) := by
  cases hb : decide (2 ≤ b ∧ b ≤ 16) with
  | false => exact ⟨0, 0, false, fun n₀ n₁ v u w h1 h2 => specFracOf_base n₀ n₁ b v u xs ys w h1 h2 hb, fun n₀ n₁ v u w h1 h2 => implFracOf_base n₀ n₁ b v u xs ys w h1 h2 hb⟩
  | true =>
    by_cases hl : ys.length = 0 ∨ 5 < xs.length + ys.length
    · exact ⟨0, 0, false, fun n₀ n₁ v u w h1 h2 => specFracOf_len n₀ n₁ b v u xs ys w h1 h2 hb hlx hly hl, fun n₀ n₁ v u w h1 h2 => implFracOf_len n₀ n₁ b v u xs ys w h1 h2 hb hlx hly hl⟩
    · have hm0 : 0 < ys.length := by omega
      have hl5 : xs.length + ys.length ≤ 5 := by omega
      by_cases hd : digB b xs = false ∨ digB b ys = false
      · exact ⟨0, 0, false, fun n₀ n₁ v u w h1 h2 => specFracOf_dig n₀ n₁ b v u xs ys w h1 h2 hb hm0 hl5 hd, fun n₀ n₁ v u w h1 h2 => implFracOf_dig n₀ n₁ b v u xs ys w h1 h2 hb hm0 hl5 hd⟩
      · have hd1 : digB b xs = true := by cases h : digB b xs <;> simp_all
        have hd2 : digB b ys = true := by cases h : digB b ys <;> simp_all
        have hbb : 2 ≤ b ∧ b ≤ 16 := by simpa using hb
        obtain ⟨b', rfl⟩ := Int.eq_ofNat_of_zero_le (show 0 ≤ b by omega)
        have ok : OfOk b' xs ys := ⟨by omega, by omega, hm0, hl5, hd1, hd2⟩
        have hb16 : b' ≤ 16 := by omega
        have hn := ok.nums
        have I1 : ∀ n₀ v w, Slc n₀ w v xs → Hid (∀ wx, Below w.heap.size w wx → Calls Try.prog 26 #[.int .i64 b', v] wx fun e w' => e = .returned (.bool true) ∧ wx = w') :=
          fun n₀ v w h wx hb => by have := digitsIn_any n₀ b' v xs wx (h.later hb) hlx; rwa [hd1] at this
        have I2 : ∀ n₀ v w, Slc n₀ w v ys → Hid (∀ wx, Below w.heap.size w wx → Calls Try.prog 26 #[.int .i64 b', v] wx fun e w' => e = .returned (.bool true) ∧ wx = w') :=
          fun n₀ v w h wx hb => by have := digitsIn_any n₀ b' v ys wx (h.later hb) hly; rwa [hd2] at this
        have I3 : ∀ n₀ v w, Slc n₀ w v xs → Hid (∀ wx, Below w.heap.size w wx → Calls Try.prog 28 #[.int .i64 b', v] wx fun e w' => e = .returned (.int .i64 (numI b' xs)) ∧ wx = w') :=
          fun n₀ v w h wx hb => numberOf_any n₀ b' v xs wx (h.later hb) hb16 (by omega) hd1
        have I4 : ∀ n₀ v w, Slc n₀ w v ys → Hid (∀ wx, Below w.heap.size w wx → Calls Try.prog 28 #[.int .i64 b', v] wx fun e w' => e = .returned (.int .i64 (numI b' ys)) ∧ wx = w') :=
          fun n₀ v w h wx hb => numberOf_any n₀ b' v ys wx (h.later hb) hb16 (by omega) hd2
        have I5 : ∀ k : Nat, k ≤ 5 → Hid (∀ wx, Calls Try.prog 27 #[.int .i64 b', .int .i64 k] wx fun e w' => e = .returned (.int .i64 (pw b' k)) ∧ wx = w') := fun k hk wx => power_any b' k wx hb16 hk
        have S1 : ∀ n₀ v w, Slc n₀ w v xs → Hid (∀ wx, Below w.heap.size w wx → Calls Try.prog 22 #[.int .i64 b', v] wx fun e w' => e = .returned (.bool true) ∧ wx = w') :=
          fun n₀ v w h wx hb => by have := l1DigitsIn_any n₀ b' v xs wx (h.later hb) hlx hbb.1 hbb.2; rwa [hd1] at this
        have S2 : ∀ n₀ v w, Slc n₀ w v ys → Hid (∀ wx, Below w.heap.size w wx → Calls Try.prog 22 #[.int .i64 b', v] wx fun e w' => e = .returned (.bool true) ∧ wx = w') :=
          fun n₀ v w h wx hb => by have := l1DigitsIn_any n₀ b' v ys wx (h.later hb) hly hbb.1 hbb.2; rwa [hd2] at this
        have S3 : ∀ n₀ v w, Slc n₀ w v xs → Hid (∀ wx, Below w.heap.size w wx → Calls Try.prog 24 #[.int .i64 b', v] wx fun e w' => e = .returned (.int .i64 (numI b' xs)) ∧ wx = w') :=
          fun n₀ v w h wx hb => l1Number_any n₀ b' v xs wx (h.later hb) hb16 (by omega) hd1
        have S4 : ∀ n₀ v w, Slc n₀ w v ys → Hid (∀ wx, Below w.heap.size w wx → Calls Try.prog 24 #[.int .i64 b', v] wx fun e w' => e = .returned (.int .i64 (numI b' ys)) ∧ wx = w') :=
          fun n₀ v w h wx hb => l1Number_any n₀ b' v ys wx (h.later hb) hb16 (by omega) hd2
        have S5 : ∀ k : Nat, k ≤ 5 → Hid (∀ wx, Calls Try.prog 23 #[.int .i64 b', .int .i64 k] wx fun e w' => e = .returned (.int .i64 (pw b' k)) ∧ wx = w') := fun k hk wx => l1Power_any b' k wx hb16 hk
        by_cases hD : numI b' ys = (pw b' ys.length : Int) - 1
        · refine ⟨0, 0, false, fun n₀ n₁ v u w h1 h2 => ?_, fun n₀ n₁ v u w h1 h2 => ?_⟩
          · have s1 := S1 _ _ _ h1; have s2 := S2 _ _ _ h2; have s3 := S3 _ _ _ h1; have s4 := S4 _ _ _ h2
            obtain ⟨a1, c1, rfl⟩ := slc_form h1
            obtain ⟨a2, c2, rfl⟩ := slc_form h2
            exact specFracOf_gen b' _ _ a1 a2 c1 c2 w _ _ _ _ hb hm0 hl5 hn s1 s2 s3 s4 (S5 _ (by omega)) (S5 _ (by omega)) hD
          · have s1 := I1 _ _ _ h1; have s2 := I2 _ _ _ h2; have s3 := I3 _ _ _ h1; have s4 := I4 _ _ _ h2
            obtain ⟨a1, c1, rfl⟩ := slc_form h1
            obtain ⟨a2, c2, rfl⟩ := slc_form h2
            exact implFracOf_gen b' _ _ a1 a2 c1 c2 w _ _ _ _ hb hm0 hl5 hn s1 s2 s3 s4 (I5 _ (by omega)) (I5 _ (by omega)) hD
        · obtain ⟨k1, k2, k3, k4⟩ := hn.mul
          obtain ⟨T, hT⟩ : ∃ T, numI b' xs * ((pw b' ys.length : Int) - 1) + numI b' ys = T := ⟨_, rfl⟩
          obtain ⟨N, hN⟩ : ∃ N, (pw b' xs.length : Int) * ((pw b' ys.length : Int) - 1) = N := ⟨_, rfl⟩
          have hf := fin_of (T := T) (N := N) (by have := hn.d0; omega) (by have := hn.d1; omega)
          refine ⟨if decide (N / gcdI T N ≤ 1000) then T / gcdI T N else 0, if decide (N / gcdI T N ≤ 1000) then N / gcdI T N else 0, decide (N / gcdI T N ≤ 1000), fun n₀ n₁ v u w h1 h2 => ?_, fun n₀ n₁ v u w h1 h2 => ?_⟩
          · have s1 := S1 _ _ _ h1; have s2 := S2 _ _ _ h2; have s3 := S3 _ _ _ h1; have s4 := S4 _ _ _ h2
            obtain ⟨a1, c1, rfl⟩ := slc_form h1
            obtain ⟨a2, c2, rfl⟩ := slc_form h2
            exact specFracOf_far b' _ _ a1 a2 c1 c2 w _ _ _ _ hb hm0 hl5 hn s1 s2 s3 s4 (S5 _ (by omega)) (S5 _ (by omega)) T N hT hN hD _ hf
          · have s1 := I1 _ _ _ h1; have s2 := I2 _ _ _ h2; have s3 := I3 _ _ _ h1; have s4 := I4 _ _ _ h2
            obtain ⟨a1, c1, rfl⟩ := slc_form h1
            obtain ⟨a2, c2, rfl⟩ := slc_form h2
            refine implFracOf_far b' _ _ a1 a2 c1 c2 w _ _ _ _ hb hm0 hl5 hn s1 s2 s3 s4 (I5 _ (by omega)) (I5 _ (by omega)) T N hT hN hD _ ?_
            rw [← decide_not]
            exact decide_eq_decide.2 (by omega)

set_option maxHeartbeats 1000000 in
theorem lawFracOf_any (b : Int) (a1 : Option Addr) (l1 c1 : Nat) (z1 : List Int) (a2 : Option Addr) (l2 c2 : Nat) (z2 : List Int) (w : World) (_hb : (Lit.int .i64 b).wf = true) (r1 : IsRow .i64 w a1 l1 c1 z1) (r2 : IsRow .i64 w a2 l2 c2 z2) :
    Calls Try.prog 4 #[.int .i64 b, .slice a1 l1 c1, .slice a2 l2 c2] w fun e w' => e = .returned (.bool true) ∧ Below w.heap.size w w' := by
  obtain ⟨hx, sx⟩ := row_src r1
  obtain ⟨hy, sy⟩ := row_src r2
  clear r1 r2
  revert hx sx hy sy
  generalize z1.take l1 = xs
  generalize z2.take l2 = ys
  intro hx sx hy sy
  subst hx hy
  by_cases h1 : 1048576 < xs.length
  · have h1' : decide ((1048576 : Int) < (xs.length : Int)) = true := by simp; omega
    have h1'' : (1048576 : Int) < (xs.length : Int) := by omega
    clear sx sy
    revert h1 h1' h1''
    generalize xs.length = n
    intro h1 h1' h1''
    go_enter Try.func4, Try.ntmps4
    go_wp2
    go_ret
    exact ⟨rfl, Below.refl _ _⟩
  by_cases h2 : 1048576 < ys.length
  · have h1' : decide ((1048576 : Int) < (xs.length : Int)) = false := by simp; omega
    have h2' : decide ((1048576 : Int) < (ys.length : Int)) = true := by simp; omega
    have h2'' : (1048576 : Int) < (ys.length : Int) := by omega
    clear sx sy
    revert h1 h1' h2 h2' h2''
    generalize xs.length = n
    generalize ys.length = m
    intro h1 h1' h2 h2' h2''
    go_enter Try.func4, Try.ntmps4
    go_wp2
    go_ret
    exact ⟨rfl, Below.refl _ _⟩
  have h1' : decide ((1048576 : Int) < (xs.length : Int)) = false := by simp; omega
  have h2' : decide ((1048576 : Int) < (ys.length : Int)) = false := by simp; omega
  have hlx : xs.length ≤ 1048576 := by omega
  have hly : ys.length ≤ 1048576 := by omega
  obtain ⟨x, y, p, hs, hi⟩ := fracOf_same b xs ys hlx hly
  have TX : Hid (∀ wx, Below w.heap.size w wx → Calls Try.prog 11 #[.slice a1 xs.length c1] wx fun e w' => ∃ v, e = .returned v ∧ Slc wx.heap.size w' v xs ∧ Below wx.heap.size wx w') := fun wx hb => toIntS_any a1 c1 xs wx (sx.later hb) hlx
  have TY : Hid (∀ wx, Below w.heap.size w wx → Calls Try.prog 11 #[.slice a2 ys.length c2] wx fun e w' => ∃ v, e = .returned v ∧ Slc wx.heap.size w' v ys ∧ Below wx.heap.size wx w') := fun wx hb => toIntS_any a2 c2 ys wx (sy.later hb) hly
  have EX : Hid (∀ n₀ n₁ v u wx, Slc n₀ wx v xs → Slc n₁ wx u xs → Calls Try.prog 14 #[v, u] wx fun e w' => e = .returned (.bool true) ∧ Below wx.heap.size wx w') := fun n₀ n₁ v u wx ha hb => by
    have := eqIntS_any n₀ n₁ v u xs xs wx ha hb hlx hlx
    simpa using this
  have EY : Hid (∀ n₀ n₁ v u wx, Slc n₀ wx v ys → Slc n₁ wx u ys → Calls Try.prog 14 #[v, u] wx fun e w' => e = .returned (.bool true) ∧ Below wx.heap.size wx w') := fun n₀ n₁ v u wx ha hb => by
    have := eqIntS_any n₀ n₁ v u ys ys wx ha hb hly hly
    simpa using this
  have HS := Lib.hid hs; have HI := Lib.hid hi; clear hs hi sx sy h1 h2 hlx hly
  revert h1' h2' TX TY
  generalize xs.length = n
  generalize ys.length = m
  intro h1' h2' TX TY
  have hpp : (p == p) = true := by simp
  cases p
  all_goals (
    go_enter Try.func4, Try.ntmps4
    go_wp2_with fail
    refine (TX.out _ (Below.refl _ _)).mono ?_
    rintro e w1 ⟨v1, rfl, s1, b1⟩
    have B1 := b1
    go_wp2_with fail
    refine (TY.out _ B1).mono ?_
    rintro e w2 ⟨v2, rfl, s2, b2⟩
    have B2 := B1.trans (b2.mono B1.size)
    go_wp2_with fail
    refine (HS.out _ _ _ _ _ (s1.later b2) s2).mono ?_
    rintro e w3 ⟨rfl, b3⟩
    have B3 := (B2.trans (b3.mono B2.size)).alloc (B2.trans (b3.mono B2.size)).size (.cells #[.int .i64 x, .int .i64 y] 25)
    have Q3 := Box2.new w3 25 (.int .i64 x) (.int .i64 y)
    clear s1 s2 b1 b2 b3
    go_wp2_with fail
    refine (TX.out _ B3).mono ?_
    rintro e w4 ⟨v4, rfl, s4, b4⟩
    have B4 := B3.trans (b4.mono B3.size)
    go_wp2_with fail
    refine (TY.out _ B4).mono ?_
    rintro e w5 ⟨v5, rfl, s5, b5⟩
    have B5 := B4.trans (b5.mono B4.size)
    have s45 := s4.later b5
    go_wp2_with fail
    refine (HI.out _ _ _ _ _ s45 s5).mono ?_
    rintro e w6 ⟨rfl, b6⟩
    have B6 := (B5.trans (b6.mono B5.size)).alloc (B5.trans (b6.mono B5.size)).size (.cells #[.int .i64 x, .int .i64 y] 25)
    have s46 := s45.later (b6.alloc b6.size (.cells #[.int .i64 x, .int .i64 y] 25))
    have s56 := s5.later (b6.alloc b6.size (.cells #[.int .i64 x, .int .i64 y] 25))
    clear s45 s5 s4
    have Q6 := (((Q3.later b4).later b5).later b6).alloc (.cells #[.int .i64 x, .int .i64 y] 25)
    have G6 := Box2.new w6 25 (.int .i64 x) (.int .i64 y)
    have kq0 := Q6.cell0
    have kq1 := Q6.cell1
    have kg0 := G6.cell0
    have kg1 := G6.cell1
    go_wp2_with fail
    refine (eqFrac_any _ _ _).mono ?_
    rintro e w7 ⟨rfl, b7⟩
    have B7 := B6.trans (b7.mono B6.size)
    have s47 := s46.later b7
    have s57 := s56.later b7
    go_wp2_with fail
    refine (TX.out _ B7).mono ?_
    rintro e w8 ⟨v8, rfl, s8, b8⟩
    have B8 := B7.trans (b8.mono B7.size)
    have s48 := s47.later b8
    have s58 := s57.later b8
    go_wp2_with fail
    refine (EX.out _ _ _ _ _ s48 s8).mono ?_
    rintro e w9 ⟨rfl, b9⟩
    have B9 := B8.trans (b9.mono B8.size)
    have s59 := s58.later b9
    go_wp2_with fail
    refine (TY.out _ B9).mono ?_
    rintro e w10 ⟨v10, rfl, s10, b10⟩
    have B10 := B9.trans (b10.mono B9.size)
    have s510 := s59.later b10
    go_wp2_with fail
    refine (EY.out _ _ _ _ _ s510 s10).mono ?_
    rintro e w11 ⟨rfl, b11⟩
    have B11 := B10.trans (b11.mono B10.size)
    go_wp2_with fail
    go_ret
    exact ⟨rfl, B11⟩)

end Go.Proofs.Ytppdhnndklpdmaa
