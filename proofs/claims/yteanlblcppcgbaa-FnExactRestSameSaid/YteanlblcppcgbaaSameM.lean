/-
  Turning the one round into the other, and the fractions behind the places: the same question.
-/
import Derived.Test.YteanlblcppcgbaaNumB
import Derived.Test.YteanlblcppcgbaaSameI
import Derived.Test.YteanlblcppcgbaaSameS
namespace Go.Proofs.Yteanlblcppcgbaa
open Go.RowKit

theorem IsLen.dig {b T B n m : Nat} (h : IsLen b T B n m) (i : Nat) (hi : n ≤ i) : dig b T B (i + m) = dig b T B i := by
  show rst b T B (i + m) * b / B = rst b T B i * b / B
  rw [h.per i hi]

theorem IsLen.least {b T B n m i j : Nat} (h : IsLen b T B n m) (hi2 : i < n + m) (hj : 0 < j) (hlt : j < m) : rst b T B (i + j) ≠ rst b T B i := by
  rcases Nat.lt_or_ge (i + j) (n + m) with h1 | h1
  · exact fun e => h.ne i (i + j) (by omega) h1 e.symm
  · have := h.per (i + j - m) (by omega)
    rw [show i + j - m + m = i + j by omega] at this
    rw [this]
    exact fun e => h.ne (i + j - m) i (by omega) hi2 e

/-- Places with one fraction behind them have rounds of one length. -/
theorem len_of_fr {b T B n m T' B' n' m' i : Nat} (hT : T < B) (hg : Nat.gcd T B = 1) (hT' : T' < B') (hg' : Nat.gcd T' B' = 1) (h : IsLen b T B n m) (h' : IsLen b T' B' n' m') (hi : i < m)
    (e : frT b T B (n + i) = frT b T' B' n') : m = m' := by
  have e1 : ∀ k, frT b T B (n + i + k) = frT b T' B' (n' + k) := fun k => by rw [← frT_add b T B (n + i) k, ← frT_add b T' B' n' k, e]
  have e2 : frT b T B (n + i + m) = frT b T B (n + i) := (fr_again hT hg).2 (h.per _ (by omega))
  rw [e1, e] at e2
  have e3 := (fr_again hT' hg').1 e2
  have f2 : frT b T' B' (n' + m') = frT b T' B' n' := (fr_again hT' hg').2 (h'.per _ (by omega))
  rw [← e1, ← e] at f2
  have f3 := (fr_again hT hg).1 f2
  have hp := h.pos
  have hp' := h'.pos
  rcases Nat.lt_trichotomy m m' with hlt | he | hgt
  · exact absurd e3 (h'.least (by omega) hp hlt)
  · exact he
  · exact absurd f3 (h.least (by omega) hp' hgt)

/-- And the other way round. -/
theorem sam_symm {b T B n m T' B' n' m' i : Nat} (hT : T < B) (hg : Nat.gcd T B = 1) (hT' : T' < B') (hg' : Nat.gcd T' B' = 1) (h : IsLen b T B n m) (h' : IsLen b T' B' n' m') (hi : i < m)
    (e : frT b T B (n + i) = frT b T' B' n') : samB b T' B' n' m' T B n = true := by
  obtain rfl := len_of_fr hT hg hT' hg' h h' hi e
  unfold samB
  rw [decide_eq_true_eq]
  rcases Nat.eq_zero_or_pos i with rfl | h0
  · exact ⟨0, hi, e.symm⟩
  · refine ⟨m - i, by omega, ?_⟩
    rw [← frT_add b T' B' n' (m - i), ← e, frT_add b T B (n + i) (m - i), show n + i + (m - i) = n + m by omega]
    exact (fr_again hT hg).2 h.eq

theorem turL_len {b T B n m i : Nat} (hi : i < m) : (turL (rndL b T B n m) i).length = m := by
  unfold turL
  rw [List.length_append, List.length_drop, List.length_take, rndL_len]; omega

theorem turL_get {b T B n m i : Nat} (h : IsLen b T B n m) (hi : i < m) (k : Nat) (hk : k < m) : (turL (rndL b T B n m) i)[k]?.getD 0 = (dig b T B (n + i + k) : Int) := by
  unfold turL
  rcases Nat.lt_or_ge k (m - i) with h1 | h1
  · rw [List.getElem?_append_left (by rw [List.length_drop, rndL_len]; exact h1), List.getElem?_drop, rndL_get _ _ _ _ _ _ (by omega), Nat.add_assoc]
  · rw [List.getElem?_append_right (by rw [List.length_drop, rndL_len]; exact h1), List.length_drop, rndL_len, List.getElem?_take_of_lt (by omega), rndL_get _ _ _ _ _ _ (by omega)]
    have := h.dig (n + (k - (m - i))) (by omega)
    rw [show n + (k - (m - i)) + m = n + i + k by omega] at this
    rw [this]

theorem ext_getD {xs ys : List Int} (hl : xs.length = ys.length) (h : ∀ k, k < xs.length → xs[k]?.getD 0 = ys[k]?.getD 0) : xs = ys := by
  refine List.ext_getElem hl fun k h1 h2 => ?_
  have := h k h1
  rw [List.getElem?_eq_getElem h1, List.getElem?_eq_getElem h2] at this
  exact this

theorem sam_tur {b T B n m T' B' n' m' : Nat} (hb : 2 ≤ b) (hT : T < B) (hg : Nat.gcd T B = 1) (h : IsLen b T B n m) (hT' : T' < B') (hg' : Nat.gcd T' B' = 1) (h' : IsLen b T' B' n' m') :
    samB b T B n m T' B' n' = turK (rndL b T B n m) (rndL b T' B' n' m') m := by
  unfold samB turK
  rw [decide_eq_decide]
  constructor
  · rintro ⟨i, hi, e⟩
    obtain rfl := len_of_fr hT hg hT' hg' h h' hi e
    refine ⟨i, hi, ext_getD (by rw [turL_len hi, rndL_len]) fun k hk => ?_⟩
    rw [turL_len hi] at hk
    rw [turL_get h hi k hk, rndL_get _ _ _ _ _ _ hk, ← dig_add hT hg, ← dig_add hT' hg', e]
  · rintro ⟨i, hi, e⟩
    have hl := congrArg List.length e
    rw [turL_len hi, rndL_len] at hl
    subst hl
    have hd : ∀ k, k < m → dig b T B (n + i + k) = dig b T' B' (n' + k) := fun k hk => by
      have h1 := turL_get h hi k hk
      rw [e, rndL_get _ _ _ _ _ _ hk] at h1
      exact_mod_cast h1.symm
    refine ⟨i, hi, ?_⟩
    have f1 := fr_ok (b := b) hT hg (n + i)
    have f2 := fr_ok (b := b) hT' hg' n'
    have r1 : frT b T B (n + i + m) = frT b T B (n + i) := (fr_again hT hg).2 (h.per _ (by omega))
    have r2 : frT b T' B' (n' + m) = frT b T' B' n' := (fr_again hT' hg').2 (h'.per _ (by omega))
    rw [← frT_add] at r1 r2
    have d1 : digL b (frT b T B (n + i)).1 (frT b T B (n + i)).2 m = digL b (frT b T' B' n').1 (frT b T' B' n').2 m := by
      refine ext_getD (by rw [digL_len, digL_len]) fun k hk => ?_
      rw [digL_len] at hk
      rw [digL_get _ _ _ _ _ hk, digL_get _ _ _ _ _ hk, dig_add hT hg, dig_add hT' hg', hd k hk]
    have n1 := num_digL (b := b) f1.lt m
    have n2 := num_digL (b := b) f2.lt m
    have s1 : rst b (frT b T B (n + i)).1 (frT b T B (n + i)).2 m = (frT b T B (n + i)).1 := (fr_again (b := b) (i := m) (j := 0) f1.lt f1.cop).1 r1
    have s2 : rst b (frT b T' B' n').1 (frT b T' B' n').2 m = (frT b T' B' n').1 := (fr_again (b := b) (i := m) (j := 0) f2.lt f2.cop).1 r2
    rw [s1, d1] at n1
    rw [s2] at n2
    have p1 := f1.pos
    have p2 := f2.pos
    have c1 := f1.cop
    have c2 := f2.cop
    refine Prod.ext ?_ ?_ <;> (
    revert n1 n2 p1 p2 c1 c2
    generalize (frT b T B (n + i)).1 = t
    generalize (frT b T B (n + i)).2 = u
    generalize numI (b : Int) (digL b (frT b T' B' n').1 (frT b T' B' n').2 m) = N
    generalize (frT b T' B' n').1 = t'
    generalize (frT b T' B' n').2 = u'
    intro n1 n2 p1 p2 c1 c2
    have hQ : 2 ≤ b ^ m := Nat.le_trans hb (by have := Nat.pow_le_pow_right (show 0 < b by omega) (show 1 ≤ m from h.pos); simpa using this)
    have hx : (t : Int) * u' = t' * u := by
      generalize (b ^ m : Nat) = Q at n1 n2 hQ
      have k1 : N * u * u' = (t * Q - t) * u' := by rw [n1]
      have k2 : N * u' * u = (t' * Q - t') * u := by rw [n2]
      have k3 : N * (u : Int) * u' = N * u' * u := Int.mul_right_comm _ _ _
      have k4 : ((Q : Int) - 1) * ((t : Int) * u' - t' * u) = 0 := by
        have z1 : ((t : Int) * Q - t) * u' = (Q - 1) * (t * u') := by rw [Int.sub_mul, Int.sub_mul, Int.one_mul, Int.mul_comm (t : Int) (Q : Int), Int.mul_assoc]
        have z2 : ((t' : Int) * Q - t') * u = (Q - 1) * (t' * u) := by rw [Int.sub_mul, Int.sub_mul, Int.one_mul, Int.mul_comm (t' : Int) (Q : Int), Int.mul_assoc]
        rw [Int.mul_sub, ← z1, ← z2, ← k1, ← k2, k3, Int.sub_self]
      rcases Int.mul_eq_zero.1 k4 with h1 | h1 <;> omega
    have hx' : t * u' = t' * u := by exact_mod_cast hx
    have hlo := low_of (T := t') (B := u') (X := t) (Y := u) c2 p1 p2 hx'
    rw [c1, Nat.div_one, Nat.div_one] at hlo
    first | exact hlo.1 | exact hlo.2)

theorem both_same (b t n t2 n2 : Int) : ∃ p, GivesB 6 #[.int .i64 b, .agg #[.int .i64 t, .int .i64 n], .agg #[.int .i64 t2, .int .i64 n2]] p ∧
    GivesB 8 #[.int .i64 b, .agg #[.int .i64 t, .int .i64 n], .agg #[.int .i64 t2, .int .i64 n2]] p := by
  cases h : tldB b t n with
  | false => exact ⟨false, specRestSame_no1 _ _ _ _ _ h, implRestSame_no1 _ _ _ _ _ h⟩
  | true =>
    cases h' : tldB b t2 n2 with
    | false => exact ⟨false, specRestSame_no2 _ _ _ _ _ h h', implRestSame_no2 _ _ _ _ _ h h'⟩
    | true =>
      obtain ⟨b, T, B, rfl, rfl, rfl, h3, h4, hT, hB, hg⟩ := tld_nat h
      obtain ⟨b', T', B', eb, rfl, rfl, _, _, hT', hB', hg'⟩ := tld_nat h'
      obtain rfl : b = b' := by omega
      obtain ⟨n, m, hnm⟩ := len_some (b := b) hT hg
      obtain ⟨n', m', hnm'⟩ := len_some (b := b) hT' hg'
      refine ⟨_, specRestSame_yes b T B n m T' B' n' m' _ _ rfl rfl h h' hT hB hT' hB' h3 h4 hnm hnm', ?_⟩
      rw [← sam_tur h3 hT hg hnm hT' hg' hnm']
      exact implRestSame_yes b T B n m T' B' n' m' h h' hT hg hB hT' hg' hB' h3 h4 hnm hnm'

end Go.Proofs.Yteanlblcppcgbaa
