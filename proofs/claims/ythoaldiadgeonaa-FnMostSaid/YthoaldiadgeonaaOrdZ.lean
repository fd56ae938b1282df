/-
  For primes the common multiple of the orders is all units: a polynomial has no more roots than its degree. Mathematics alone.
-/
import Derived.Test.YthoaldiadgeonaaGOrd
namespace Go.Proofs.Ythoaldiadgeonaa

/-- A polynomial's value, by Horner: the leading coefficient first. -/
def hor (x : Int) (cs : List Int) : Int := cs.foldl (fun a c => a * x + c) 0

/-- The quotient by X - a (the values of the beginnings). -/
def quo (a : Int) : Int → List Int → List Int
  | _, [] => []
  | v, c :: cs => v :: quo a (v * a + c) cs

theorem hor_acc (x v : Int) (cs : List Int) : cs.foldl (fun a c => a * x + c) v = v * x ^ cs.length + hor x cs := by
  induction cs generalizing v with
  | nil => simp [hor]
  | cons c cs ih =>
    have e : hor x (c :: cs) = (0 * x + c) * x ^ cs.length + hor x cs := ih (0 * x + c)
    rw [List.foldl_cons, ih, e, List.length_cons]
    grind

theorem quo_len (a v : Int) (cs : List Int) : (quo a v cs).length = cs.length := by
  induction cs generalizing v with
  | nil => rfl
  | cons c cs ih => simp [quo, ih]

/-- P(x) - P(a) = (x - a) Q(x). -/
theorem hor_quo (a x v : Int) (cs : List Int) : cs.foldl (fun a c => a * x + c) v - cs.foldl (fun b c => b * a + c) v = (x - a) * hor x (quo a v cs) := by
  induction cs generalizing v with
  | nil => simp [quo, hor]
  | cons c cs ih =>
    have e1 := ih (v * a + c)
    have e2 : hor x (quo a v (c :: cs)) = (0 * x + v) * x ^ (quo a (v * a + c) cs).length + hor x (quo a (v * a + c) cs) := hor_acc x (0 * x + v) (quo a (v * a + c) cs)
    rw [quo_len] at e2
    have e3 := hor_acc x (v * x + c) cs
    have e4 := hor_acc x (v * a + c) cs
    rw [List.foldl_cons, List.foldl_cons, e2, e3]
    rw [e4] at e1
    grind

/-- A prime divides a product only through one of its factors. -/
theorem prime_mul {p : Nat} (hp : primeB p = true) {x y : Int} (h : (p : Int) ∣ x * y) : (p : Int) ∣ x ∨ (p : Int) ∣ y := by
  rw [Int.ofNat_dvd_left, Int.natAbs_mul] at h
  by_cases hx : x.natAbs % p = 0
  · exact .inl (Int.ofNat_dvd_left.2 (Nat.dvd_of_mod_eq_zero hx))
  · have hg := (prime_base hp).2 hx
    exact .inr (Int.ofNat_dvd_left.2 ((show Nat.Coprime p x.natAbs by unfold Nat.Coprime; rw [Nat.gcd_comm]; exact hg).dvd_of_dvd_mul_left h))

/-- A polynomial of degree d with leading coefficient 1 has at most d roots. -/
theorem roots {p : Nat} (hp : primeB p = true) : ∀ (d : Nat) (cs : List Int) (rs : List Int), cs.length = d → (∀ r ∈ rs, (p : Int) ∣ r ^ d + hor r cs) → rs.Pairwise (fun r s => ¬ (p : Int) ∣ r - s) → rs.length ≤ d := by
  intro d
  induction d with
  | zero =>
    intro cs rs hl hr _
    cases rs with
    | nil => simp
    | cons r rs =>
      have h1 := hr r (by simp)
      rw [List.length_eq_zero_iff.1 hl] at h1
      simp [hor] at h1
      obtain ⟨h2, _⟩ := of_decide_eq_true hp
      have h3 := Int.le_of_dvd (by omega) h1
      omega
  | succ d ih =>
    intro cs rs hl hr hd
    cases rs with
    | nil => simp
    | cons a rs =>
      rw [List.pairwise_cons] at hd
      have ha := hr a (by simp)
      cases cs with
      | nil => simp at hl
      | cons c cs =>
        simp only [List.length_cons, Nat.add_right_cancel_iff] at hl
        have hq : (quo a (1 * a + c) cs).length = d := by rw [quo_len]; exact hl
        have hP : ∀ x : Int, x ^ (d + 1) + hor x (c :: cs) = cs.foldl (fun b e => b * x + e) (1 * x + c) := by
          intro x
          rw [hor_acc]
          have e : hor x (c :: cs) = (0 * x + c) * x ^ cs.length + hor x cs := hor_acc x (0 * x + c) cs
          rw [e, hl]
          grind
        have hfac : ∀ x : Int, (x ^ (d + 1) + hor x (c :: cs)) - (a ^ (d + 1) + hor a (c :: cs)) = (x - a) * (x ^ d + hor x (quo a (1 * a + c) cs)) := by
          intro x
          have e1 := hor_quo a x (1 * a + c) cs
          have e2 := hor_acc x (1 * a + c) cs
          have e3 := hor_acc x (1 * x + c) cs
          rw [hP, hP, e3]
          rw [e2] at e1
          rw [hl] at e1 ⊢
          grind
        have hrs : ∀ r ∈ rs, (p : Int) ∣ r ^ d + hor r (quo a (1 * a + c) cs) := by
          intro r hrm
          have h1 : (p : Int) ∣ (r - a) * (r ^ d + hor r (quo a (1 * a + c) cs)) := by
            rw [← hfac r]
            exact Int.dvd_sub (hr r (by simp [hrm])) ha
          rcases prime_mul hp h1 with h2 | h2
          · exfalso
            refine hd.1 r hrm ?_
            have := Int.dvd_neg.2 h2
            rwa [Int.neg_sub] at this
          · exact h2
        have := ih _ rs hq hrs hd.2
        simp only [List.length_cons]
        omega

/-- For primes the orders' common multiple is p - 1. -/
theorem most_prime {p m : Nat} (hp : primeB p = true) (hm : Mst p p m) : m = unC p p := by
  obtain ⟨h2, _⟩ := of_decide_eq_true hp
  have hu := (units_prime h2).2 hp
  obtain ⟨hd, ho⟩ := hm.facts h2
  have hle := Nat.le_of_dvd (by omega) hd
  have hmp : 0 < m := Nat.pos_of_ne_zero fun e => by rw [e, Nat.zero_dvd] at hd; omega
  -- all of 1 .. p - 1 are roots of X^m - 1
  have hroot : ∀ x : Nat, 0 < x → x < p → (p : Int) ∣ (x : Int) ^ m - 1 := by
    intro x h0 hx
    obtain ⟨k, hk⟩ := ord_some (prime_cop hp h0 hx) h2
    have h1 := (ord_iff h2 hk m).2 (ho x k hx (prime_cop hp h0 hx) hk)
    have h3 := Nat.sub_mod_eq_zero_of_mod_eq (show x ^ m % p = 1 % p by rw [h1, Nat.mod_eq_of_lt (by omega)])
    have h4 : p ∣ x ^ m - 1 := Nat.dvd_of_mod_eq_zero h3
    have h5 : 1 ≤ x ^ m := Nat.pow_pos h0
    have h6 : ((x ^ m - 1 : Nat) : Int) = (x : Int) ^ m - 1 := by rw [Int.natCast_sub h5]; simp
    rw [← h6]
    exact Int.natCast_dvd_natCast.2 h4
  have hh : ∀ r : Int, hor r (List.replicate (m - 1) 0 ++ [-1]) = -1 := by
    intro r
    unfold hor
    rw [List.foldl_append]
    have : (List.replicate (m - 1) (0 : Int)).foldl (fun a c => a * r + c) 0 = 0 := by
      generalize m - 1 = q
      induction q with
      | zero => rfl
      | succ q ih => rw [List.replicate_succ, List.foldl_cons]; simpa using ih
    rw [this]
    simp
  have key := roots hp m (List.replicate (m - 1) 0 ++ [-1]) ((List.range (p - 1)).map fun i => ((i + 1 : Nat) : Int)) (by simp; omega)
    (by
      intro r hr
      obtain ⟨i, hi, rfl⟩ := List.mem_map.1 hr
      rw [List.mem_range] at hi
      rw [hh]
      exact hroot (i + 1) (by omega) (by omega))
    (by
      rw [List.pairwise_map]
      refine List.Pairwise.imp_of_mem ?_ (List.pairwise_lt_range)
      intro i j hi hj hij h
      rw [List.mem_range] at hi hj
      have h7 := Int.dvd_neg.2 h
      rw [Int.neg_sub] at h7
      have := Int.le_of_dvd (by omega) h7
      omega)
  simp at key
  omega

end Go.Proofs.Ythoaldiadgeonaa
