/-
  Full primes, the program's side over the changed body of orders.
-/
import Derived.Test.YthoaldiadgeonaaQMost
import Derived.Test.YthoaldiadgeonaaTq
namespace Go.Proofs.Ythoaldiadgeonaa
set_option maxRecDepth 100000
open Go.RowKit Go.Proofs.Ythoaldiadgeonaa.Tq

set_option maxHeartbeats 1000000 in
theorem implPrimeQ_any (n : Nat) (w : World) (hn : 2 ≤ n) (hn2 : n ≤ 1000) :
    Calls Tryq.prog 36 #[.int .i64 n] w fun e w' => e = .returned (.bool (primeB n)) ∧ w = w' := by
  go_enter Tryq.func36, Try.ntmps36
  go_wp2_with fail
  go_loop [3] (fun x => ∃ k : Nat, 2 ≤ k ∧ k ≤ 33 ∧ x = .int .i64 k ∧ ∀ j, j < k → 2 ≤ j → n % j ≠ 0) (fun x => 40 - (intOf x).toNat)
  case atStart => exact ⟨2, by omega, by omega, rfl, fun j h1 h2 => by omega⟩
  case round =>
    obtain ⟨k, hk2, hk3, rfl, hno⟩ := hrel
    have m0 : k * k ≤ 33 * 33 := Nat.mul_le_mul hk3 hk3
    have m1 : (k : Int) * k ≤ 1089 := by have : ((k * k : Nat) : Int) ≤ 1089 := by omega
                                         simpa using this
    have m2 : 0 ≤ (k : Int) * k := Int.mul_nonneg (by omega) (by omega)
    have hk0 : ¬ k = 0 := by omega
    by_cases hle : k * k ≤ n
    · have hle' : (k : Int) * k ≤ n := by exact_mod_cast hle
      have hkn : k < n := by have : 2 * k ≤ k * k := Nat.mul_le_mul_right k hk2
                             omega
      have hk32 : k ≤ 32 := by
        rcases Nat.lt_or_ge 32 k with h | h
        · have : 33 * 33 ≤ k * k := Nat.mul_le_mul h h
          omega
        · exact h
      by_cases hm : n % k = 0
      · have HP := Lib.hid (not_prime hk2 hkn hm)
        have hm' : (n : Int) % k = 0 := by omega
        clear hno
        go_wp2_with fail
        go_ret
        exact ⟨ret_bool HP.out.symm, rfl⟩
      · have hm' : ¬ (n : Int) % k = 0 := by omega
        have HN := Lib.hid hno
        clear hno
        go_wp2_with fail
        refine ⟨⟨k + 1, by omega, by omega, rfl, fun j h1 h2 => ?_⟩, by simp [intOf]; omega⟩
        rcases Nat.lt_or_ge j k with h | h
        · exact HN.out j h h2
        · obtain rfl : j = k := by omega
          exact hm
    · have hle' : ¬ (k : Int) * k ≤ n := by intro h; exact hle (by exact_mod_cast h)
      have HP : Hid (primeB n = true) := prime_root hn hno (by omega)
      clear hno
      go_wp2_with fail
      go_ret
      exact ⟨ret_bool HP.out.symm, rfl⟩

/-- The primes below q that have no common divisor with b. -/
def aL (b : Nat) : Nat → List Nat
  | 0 => []
  | q + 1 => if primeB q = true ∧ Nat.gcd b q = 1 then aL b q ++ [q] else aL b q
theorem aL_mem {b q x : Nat} (h : x ∈ aL b q) : primeB x = true ∧ Nat.gcd b x = 1 ∧ 2 ≤ x ∧ x < q := by
  induction q with
  | zero => cases h
  | succ q ih =>
    have h : x ∈ (if primeB q = true ∧ Nat.gcd b q = 1 then aL b q ++ [q] else aL b q) := h
    split at h
    · rename_i hg
      rcases List.mem_append.1 h with h | h
      · have := ih h; exact ⟨this.1, this.2.1, this.2.2.1, by omega⟩
      · obtain rfl := List.mem_singleton.1 h
        exact ⟨hg.1, hg.2, (of_decide_eq_true hg.1).1, by omega⟩
    · have := ih h; exact ⟨this.1, this.2.1, this.2.2.1, by omega⟩
theorem aL_len (b q : Nat) : (aL b q).length ≤ q := by
  induction q with
  | zero => exact Nat.le_refl _
  | succ q ih => unfold aL; split <;> (try simp) <;> omega
theorem aL_two (b : Nat) : aL b 2 = [] := by
  have h0 : primeB 0 = false := by unfold primeB; exact decide_eq_false (by omega)
  have h1 : primeB 1 = false := by unfold primeB; exact decide_eq_false (by omega)
  simp [aL, h0, h1]
def fF (o : Nat → Nat) (l : List Nat) : List Nat := l.filter fun p => decide (o p = p - 1)
theorem fF_snoc (o : Nat → Nat) (l : List Nat) (u : Nat) : fF o (l ++ [u]) = if o u = u - 1 then fF o l ++ [u] else fF o l := by
  unfold fF
  rw [List.filter_append]
  by_cases h : o u = u - 1
  · rw [if_pos h]; simp [h]
  · rw [if_neg h]; simp [h]
theorem owns_later {w w' : World} {base : Nat} {e : TypeId} {size : Nat} {v : Value} {n : Nat} {xs : List Value} (h : w.ownsRow base e size v n xs) (hb : Below w.heap.size w w') : w'.ownsRow base e size v n xs := by
  refine ⟨h.1, h.2.imp id ?_⟩
  rintro ⟨g', cap', cur', e1, e2, e3, e4⟩
  exact ⟨g', cap', cur', e1, e2, (hb.block g' (Array.getElem?_eq_some_iff.1 e3).1).trans e3, e4⟩
theorem Slc.ownQ {n₀ : Nat} {W : World} {g off l c : Nat} {xs : List Int} (h : Slc n₀ W (.slice (some ⟨g, off, none⟩) l c) xs) : n₀ ≤ g ∧ g < W.heap.size := by
  rcases h with ⟨h, _⟩ | ⟨g', off', cap, cur, e, h1, h2, r⟩
  · cases h
  · cases e; exact ⟨h1, (Array.getElem?_eq_some_iff.1 h2).1⟩
theorem Slc.keptQ {n₀ : Nat} {W W' : World} {v : Value} {xs : List Int} {row : Option Nat} (h : Slc n₀ W v xs) (hg : W.grownBy W' row) (hne : ∀ g, v.ownBlock = some g → row ≠ some g) : Slc n₀ W' v xs := by
  rcases h with h | ⟨g, off, cap, cur, rfl, h1, h2, r⟩
  · exact .inl h
  · exact .inr ⟨g, off, cap, cur, rfl, h1, (hg.block g (Array.getElem?_eq_some_iff.1 h2).1 (fun e => hne g rfl e.symm)).trans h2, r⟩
theorem fulL_aL {b : Nat} {o : Nat → Nat} (q : Nat) (ho : ∀ p, p < q → 2 ≤ p → Nat.gcd b p = 1 → IsLen b 1 p 0 (o p)) : fulL b q = (fF o (aL b q)).map (fun x : Nat => (x : Int)) := by
  induction q with
  | zero => rfl
  | succ q ih =>
    have ih := ih fun p hp => ho p (by omega)
    have e : aL b (q + 1) = if primeB q = true ∧ Nat.gcd b q = 1 then aL b q ++ [q] else aL b q := rfl
    have e2 : fulL b (q + 1) = if fullB b q = true then fulL b q ++ [(q : Int)] else fulL b q := rfl
    rw [e, e2]
    by_cases hp : primeB q = true
    · by_cases hg : Nat.gcd b q = 1
      · have ef := fullB_ord hp ((prime_base hp).1 hg) (ho q (by omega) (of_decide_eq_true hp).1 hg)
        rw [if_pos (show primeB q = true ∧ Nat.gcd b q = 1 from ⟨hp, hg⟩), ef]
        unfold fF at ih ⊢
        rw [List.filter_append]
        by_cases hk : o q = q - 1
        · rw [if_pos (decide_eq_true hk), ih]
          simp [hk]
        · rw [if_neg (by simp [hk]), ih]
          simp [hk]
      · have hb : ¬ b % q ≠ 0 := fun h => hg ((prime_base hp).2 h)
        have hf : fullB b q = false := by unfold fullB; rw [hp, Bool.true_and, decide_eq_false hb, Bool.false_and]
        rw [hf, if_neg (by simp), if_neg (fun h => hg h.2)]
        exact ih
    · have hp' : primeB q = false := by simpa using hp
      have hf : fullB b q = false := by unfold fullB; rw [hp', Bool.false_and]
      rw [hf, if_neg (by simp), if_neg (fun h => hp h.1)]
      exact ih

set_option maxHeartbeats 4000000 in
theorem imFull : ImFull := by
  constructor
  · intro b n h w
    by_cases h1 : 2 ≤ b ∧ b ≤ 16
    · have j1 : decide (2 ≤ b ∧ b ≤ 16) = true := by simpa using h1
      have j2 : decide (2 ≤ n ∧ n ≤ 1000) = false := by simp; omega
      clear h h1
      go_enter Tryq.func13, Try.ntmps13
      go_wp2_with (first | (go_at_call 35; refine (baseIn_any _ _).mono ?_; rintro e w' ⟨rfl, rfl⟩) | (go_at_call 25; refine (bottomIn_any _ _).mono ?_; rintro e w' ⟨rfl, rfl⟩))
      go_ret2
      exact ⟨_, rfl, Slc.nil _ _, Below.refl _ _⟩
    · have j1 : decide (2 ≤ b ∧ b ≤ 16) = false := by simpa using h1
      clear h h1
      go_enter Tryq.func13, Try.ntmps13
      go_wp2_with (go_at_call 35; refine (baseIn_any _ _).mono ?_; rintro e w' ⟨rfl, rfl⟩)
      go_ret2
      exact ⟨_, rfl, Slc.nil _ _, Below.refl _ _⟩
  · intro b n h3 h4 hn hn2 w
    have j1 : decide (2 ≤ (b : Int) ∧ (b : Int) ≤ 16) = true := by simp; omega
    have j2 : decide (2 ≤ (n : Int) ∧ (n : Int) ≤ 1000) = true := by simp; omega
    have hch : ∀ p, ∃ k, (2 ≤ p → Nat.gcd b p = 1 → IsLen b 1 p 0 k) := fun p => by
      by_cases hg : 2 ≤ p ∧ Nat.gcd b p = 1
      · obtain ⟨k, hk⟩ := ord_some hg.2 hg.1
        exact ⟨k, fun _ _ => hk⟩
      · exact ⟨0, fun h1 h2 => absurd ⟨h1, h2⟩ hg⟩
    obtain ⟨o, ho⟩ : ∃ o : Nat → Nat, ∀ p, 2 ≤ p → Nat.gcd b p = 1 → IsLen b 1 p 0 (o p) := ⟨fun p => Classical.choose (hch p), fun p => Classical.choose_spec (hch p)⟩
    have HO := Lib.hid ho
    have HF := Lib.hid (fulL_aL (b := b) (o := o) (n + 1) fun p _ => ho p)
    clear hch ho
    go_enter Tryq.func13, Try.ntmps13
    go_wp2_with (first | (go_at_call 35; refine (baseIn_any _ _).mono ?_; rintro e w' ⟨rfl, rfl⟩) | (go_at_call 25; refine (bottomIn_any _ _).mono ?_; rintro e w' ⟨rfl, rfl⟩))
    obtain ⟨i0, hi, hz0, hz1, hz2⟩ := info_parts infoAsk
    obtain ⟨i1, hi1, hy0, hy1, hy2⟩ := info_parts infoInt
    go_loopw [6, 7] (fun v x wr => ∃ q : Nat, 2 ≤ q ∧ q ≤ n + 1 ∧ x = .int .i64 q ∧ wr.ownsRow w.heap.size 43 2 v (aL b q).length (askL (fun j => (b, (aL b q)[j]?.getD 0)) (aL b q).length) ∧ Below w.heap.size w wr) (fun _ x _ => n + 1 - (intOf x).toNat)
    case atStart =>
      refine ⟨2, by omega, by omega, rfl, ?_, (Below.refl _ _).alloc (Nat.le_refl _) _⟩
      rw [aL_two]
      exact World.ownsRow_made (base := w.heap.size) (e := 43) (size := 2) w #[] 0 (Nat.le_refl _) (by simp) (by simp)
    case round =>
      obtain ⟨q, hq2, hq, rfl, hown, hbel⟩ := hrel
      have HW := Lib.hid hown
      have HB := Lib.hid hbel
      have hwsz := hbel.size
      have hal := aL_len b q
      clear hown hbel
      by_cases hlt : q ≤ n
      · have hi2 : decide ((q : Int) ≤ (n : Int)) = true := by simp; omega
        have ea : aL b (q + 1) = if primeB q = true ∧ Nat.gcd b q = 1 then aL b q ++ [q] else aL b q := rfl
        have HP : Hid (∀ wx, Calls Tryq.prog 36 #[.int .i64 q] wx fun e w' => e = .returned (.bool (primeB q)) ∧ wx = w') := fun wx => implPrimeQ_any q wx hq2 (by omega)
        have HG : Hid (∀ wx, Calls Tryq.prog 28 #[.int .i64 b, .int .i64 q] wx fun e w' => e = .returned (.int .i64 (Nat.gcd b q : Nat)) ∧ wx = w') := fun wx => by
          have := commonDivisor_any (b : Int) q wx (by omega) (by omega) (by omega) (by omega)
          rw [gcdI_nat] at this
          exact this
        by_cases hp : primeB q = true
        · by_cases hg : Nat.gcd b q = 1
          · rw [if_pos (show primeB q = true ∧ Nat.gcd b q = 1 from ⟨hp, hg⟩)] at ea
            rw [hp] at HP
            rw [hg] at HG
            have HA := Lib.hid ea
            clear ea hp hg
            go_wp2_with fail
            refine (HP.out _).mono ?_
            rintro e w1 ⟨rfl, rfl⟩
            go_wp2_with fail
            refine (HG.out _).mono ?_
            rintro e w1 ⟨rfl, rfl⟩
            clear HP HG
            go_wp2_with (at_builtin; refine wpList_append_own_at _ rfl _ _ 40 rfl w.heap.size 43 i0 (.agg #[.int .i64 0, .int .i64 0]) 2 16 Tryq.underlying40 hi hz0 hz1 hz2 rfl (by decide) _ _ _ rfl (HW.out.alloc _) ⟨wr.heap.size, 0, none⟩ 1 1 [.int .i64 (b : Int), .int .i64 (q : Int)] rfl rfl ?c1 ?c2 ?c3 ?c4 ?c5 ?_)
            case c1 => exact cell_two_new _ _ _ _
            case c2 => simp [Value.oneCell']
            case c3 => unfold maxLen; omega
            case c4 => omega
            case c5 => (try simp); omega
            intro v' w3 hown' hgrow _ _
            have hbel3 := (HB.out.alloc HB.out.size (.cells #[.int .i64 (b : Int), .int .i64 (q : Int)] 43)).grown hgrow (by simp; omega) (fun q e => by
              rcases HW.out.2 with ⟨rfl, _⟩ | ⟨g', cap', cur', rfl, hb, _⟩
              · cases e
              · cases e; exact hb)
            have hown3 : w3.ownsRow w.heap.size 43 2 v' (aL b (q + 1)).length (askL (fun j => (b, (aL b (q + 1))[j]?.getD 0)) (aL b (q + 1)).length) := by
              rw [HA.out]
              have e1 : (aL b q ++ [q]).length = (aL b q).length + 1 := by simp
              rw [e1]
              show w3.ownsRow w.heap.size 43 2 v' ((aL b q).length + 1) (askL _ (aL b q).length ++ [.int .i64 (b : Int), .int .i64 ((((aL b q ++ [q])[(aL b q).length]?.getD 0 : Nat)) : Int)])
              rw [askL_congr (ask' := fun j => (b, (aL b q)[j]?.getD 0)) (fun j hj => by show (b, _) = (b, _); rw [List.getElem?_append_left hj]), List.getElem?_append_right (Nat.le_refl _)]
              simpa using hown'
            clear hown' HW hgrow HA
            have HW3 := Lib.hid hown3
            clear hown3
            go_wp2_with fail
            exact ⟨⟨q + 1, by omega, by omega, rfl, HW3.out, hbel3⟩, by simp [intOf]; omega⟩
          · rw [if_neg (fun h => hg h.2)] at ea
            rw [hp] at HP
            have HA := Lib.hid ea
            clear ea hp
            generalize Nat.gcd b q = G at hg HG
            have hg2 : ((G : Int) == 1) = false := by simp; omega
            go_wp2_with fail
            refine (HP.out _).mono ?_
            rintro e w1 ⟨rfl, rfl⟩
            go_wp2_with fail
            refine (HG.out _).mono ?_
            rintro e w1 ⟨rfl, rfl⟩
            clear HP HG
            go_wp2_with fail
            exact ⟨⟨q + 1, by omega, by omega, rfl, by rw [HA.out]; exact HW.out, HB.out⟩, by simp [intOf]; omega⟩
        · rw [if_neg (fun h => hp h.1)] at ea
          have hp' : primeB q = false := by simpa using hp
          rw [hp'] at HP
          have HA := Lib.hid ea
          clear ea hp hp' HG
          go_wp2_with fail
          refine (HP.out _).mono ?_
          rintro e w1 ⟨rfl, rfl⟩
          clear HP
          go_wp2_with fail
          exact ⟨⟨q + 1, by omega, by omega, rfl, by rw [HA.out]; exact HW.out, HB.out⟩, by simp [intOf]; omega⟩
      · obtain rfl : q = n + 1 := by omega
        have hi2 : decide ((n : Int) + 1 ≤ (n : Int)) = false := by simp; omega
        generalize hA : aL b (n + 1) = A at hal HW HF
        have HA := Lib.hid hA
        clear hA
        have hok : ∀ j, j < A.length → (b, A[j]?.getD 0).1 ≤ 1000 ∧ 1 ≤ (b, A[j]?.getD 0).2 ∧ (b, A[j]?.getD 0).2 ≤ 15000 ∧ Tq.Ord (b, A[j]?.getD 0).1 (b, A[j]?.getD 0).2 (o (A[j]?.getD 0)) := fun j hj => by
          have e : A[j]? = some (A[j]'hj) := List.getElem?_eq_getElem hj
          rw [e]
          have hm : A[j]'hj ∈ A := List.getElem_mem hj
          generalize A[j]'hj = x at hm ⊢
          rw [← HA.out] at hm
          obtain ⟨_, h2, h3, h4⟩ := aL_mem hm
          exact ⟨by show b ≤ 1000; omega, by show 1 ≤ x; omega, by show x ≤ 15000; omega, ord_of_len h3 (show x ≤ 1000 by omega) (HO.out _ h3 h2)⟩
        have HK := Lib.hid hok
        clear hok
        go_wp2_with fail
        refine (orders_own (ord := fun j => o (A[j]?.getD 0)) (by omega) (HW.out.alloc _) HK.out).mono ?_
        rintro e w2 ⟨g2, rfl, hsl2, hb2⟩
        have hlen2 : ((List.range A.length).map fun j => ((o (A[j]?.getD 0) : Nat) : Int)).length = A.length := by simp
        have hsz0 : (wr.alloc (.cells #[] 3)).heap.size = wr.heap.size + 1 := by simp
        have hbel2 : Below w.heap.size w w2 := (HB.out.alloc HB.out.size _).trans (hb2.mono (by omega))
        have hask2 := owns_later (HW.out.alloc (.cells #[] 3)) hb2
        have hfull2 := owns_later (World.ownsRow_made (base := w.heap.size) (e := 3) (size := 1) wr #[] 0 hwsz (by simp) (by simp)) hb2
        have hob2 : ∀ k, (Value.slice (some ⟨wr.heap.size, 0, none⟩) 0 0).ownBlock = some k → k ≠ g2 ∧ ∀ ga, u6.ownBlock = some ga → k ≠ ga := fun k e => by
          cases e
          refine ⟨fun (e : wr.heap.size = g2) => ?_, fun ga e (e2 : wr.heap.size = ga) => ?_⟩
          · have := hsl2.ownQ.1
            omega
          · have := (HW.out.lt ga e).2
            omega
        have HOB := Lib.hid hob2
        have hsl3 := hsl2.mono (show w.heap.size ≤ (wr.alloc (.cells #[] 3)).heap.size by omega)
        clear hsl2
        clear HW HB HK hb2 hsz0 hob2
        go_wp2_with fail
        go_loopw [8, 9, 10, 11, 44] (fun v _ _ _ x wr => ∃ q : Nat, q ≤ A.length ∧ x = .int .i64 q ∧ wr.ownsRow w.heap.size 3 1 v (fF o (A.take q)).length ((fF o (A.take q)).map (fun x : Nat => Value.int .i64 x)) ∧ Hid (∀ k, v.ownBlock = some k → k ≠ g2 ∧ ∀ ga, u6.ownBlock = some ga → k ≠ ga) ∧ wr.ownsRow w.heap.size 43 2 u6 A.length (askL (fun j => (b, A[j]?.getD 0)) A.length) ∧ Slc w.heap.size wr (.slice (some ⟨g2, 0, none⟩) A.length A.length) ((List.range A.length).map fun j => ((o (A[j]?.getD 0) : Nat) : Int)) ∧ Below w.heap.size w wr) (fun _ _ _ _ x _ => A.length - (intOf x).toNat)
        case atStart => exact ⟨0, by omega, rfl, hfull2, HOB, hask2, hsl3, hbel2⟩
        case round =>
          clear hfull2 HOB hask2 hsl3 hbel2
          obtain ⟨q, hq', rfl, hown, hob, hask, hsl, hbel⟩ := hrel
          have hfl : (fF o (A.take q)).length ≤ q := by
            have h1 := List.length_filter_le (fun p => decide (o p = p - 1)) (A.take q)
            have h2 := List.length_take_le q A
            unfold fF
            omega
          by_cases hlt' : q < A.length
          · have hi3 : decide ((q : Int) < (A.length : Int)) = true := by simp; omega
            have hc := hsl.cell hlen2 q hlt'
            rw [Nat.zero_add] at hc
            obtain ⟨u, hu⟩ : ∃ u, A[q]? = some u := ⟨A[q]'hlt', List.getElem?_eq_getElem hlt'⟩
            have hum := List.mem_of_getElem? hu
            rw [← HA.out] at hum
            obtain ⟨_, hu2, hu3, hu4⟩ := aL_mem hum
            have hk := HO.out u hu3 hu2
            have hkp := hk.pos
            have hkl := hk.le (show 1 < u by omega)
            have hcv : ((List.range A.length).map fun j => ((o (A[j]?.getD 0) : Nat) : Int))[q]?.getD 0 = (o u : Int) := by
              rw [List.getElem?_map, List.getElem?_range hlt']
              show ((o (A[q]?.getD 0) : Nat) : Int) = _
              rw [hu]; rfl
            rw [hcv] at hc
            obtain ⟨ga, ca, rfl⟩ : ∃ ga ca, u6 = .slice (some ⟨ga, 0, none⟩) A.length ca := by
              rcases hask.2 with ⟨_, h⟩ | ⟨ga, ca, _, h, _⟩
              · omega
              · exact ⟨ga, ca, h⟩
            have hc2 : wr.cell? ⟨ga, q * 2 + 1, none⟩ = some (.int .i64 u) := by
              have h1 := hask.cellAt (q * 2 + 1) (by omega)
              rw [h1, (askL_get (fun j => (b, A[j]?.getD 0)) hlt').2]
              show some (Value.int .i64 ((A[q]?.getD 0 : Nat) : Int)) = _
              rw [hu]; rfl
            have hfs := fF_snoc o (A.take q) u
            have htk : A.take (q + 1) = A.take q ++ [u] := by rw [List.take_add_one, hu]; rfl
            rw [← htk] at hfs
            have HW := Lib.hid hown; have HS := Lib.hid hsl; have HK := Lib.hid hask; have HB := Lib.hid hbel
            have hwsz' := hbel.size
            clear hown hsl hask hbel hum hk hcv htk
            generalize hkk : o u = k at hc hkp hkl hfs
            clear hkk
            by_cases hkp' : k = u - 1
            · rw [if_pos hkp'] at hfs
              have HF2 := Lib.hid hfs
              have hmp' : ((k : Int) == (u : Int) - 1) = true := by simp; omega
              clear hkp' hfs
              go_wp2_with (at_builtin; refine wpList_append_own_at _ rfl _ _ 30 rfl w.heap.size 3 i1 (.int .i64 0) 1 8 Tryq.underlying30 hi1 hy0 hy1 hy2 rfl (by decide) _ _ _ rfl (HW.out.alloc _) ⟨wr.heap.size, 0, none⟩ 1 1 [.int .i64 (u : Int)] rfl rfl ?c1 ?c2 ?c3 ?c4 ?c5 ?_)
              case c1 => exact cell_one_new _ _ _
              case c2 => simp [Value.oneCell']
              case c3 => unfold maxLen; omega
              case c4 => omega
              case c5 => (try simp); omega
              intro v' w3 hown' hgrow _ hob'
              have hbel3 := (HB.out.alloc HB.out.size (.cells #[.int .i64 (u : Int)] 3)).grown hgrow (by simp; omega) (fun q e => by
                rcases HW.out.2 with ⟨rfl, _⟩ | ⟨g', cap', cur', rfl, hb, _⟩
                · cases e
                · cases e; exact hb)
              have hask3 := (HK.out.alloc (.cells #[.int .i64 (u : Int)] 3)).kept hgrow (.inr fun e => (hob.out ga e.symm).2 ga rfl rfl)
              have hsl3 := (HS.out.later ((Below.refl wr.heap.size wr).alloc (Nat.le_refl _) (.cells #[.int .i64 (u : Int)] 3))).keptQ hgrow (fun g e e2 => by
                cases e
                exact (hob.out _ e2).1 rfl)
              have hob3 : ∀ k, v'.ownBlock = some k → k ≠ g2 ∧ ∀ ga', (Value.slice (some ⟨ga, 0, none⟩) A.length ca).ownBlock = some ga' → k ≠ ga' := fun k e => by
                rcases hob' with e2 | e2
                · exact hob.out k (e2 ▸ e)
                · rw [e2] at e
                  injection e with e
                  have h1 := HS.out.ownQ.2
                  have h2 := (HK.out.lt ga rfl).2
                  have h3 : wr.heap.size < k := by rw [← e]; simp
                  refine ⟨by omega, fun ga' e3 => ?_⟩
                  have e3 : ga = ga' := by injection e3
                  omega
              have HOB3 := Lib.hid hob3
              have hown3 : w3.ownsRow w.heap.size 3 1 v' (fF o (A.take (q + 1))).length ((fF o (A.take (q + 1))).map (fun x : Nat => Value.int .i64 x)) := by
                rw [HF2.out, List.length_append, List.map_append]
                exact hown'
              clear hob' hown' HW HS HK HB hgrow hob hob3 HF2
              have HW3 := Lib.hid hown3
              clear hown3
              go_wp2_with fail
              exact ⟨⟨q + 1, by omega, by simp, HW3.out, HOB3, hask3, hsl3, hbel3⟩, by simp [intOf]; omega⟩
            · rw [if_neg hkp'] at hfs
              have HF2 := Lib.hid hfs
              have hmp' : ((k : Int) == (u : Int) - 1) = false := by simp; omega
              clear hkp' hfs
              go_wp2_with fail
              exact ⟨⟨q + 1, by omega, by simp, by rw [HF2.out]; exact HW.out, hob, HK.out, HS.out, HB.out⟩, by simp [intOf]; omega⟩
          · obtain rfl : q = A.length := by omega
            have hi3 : decide ((A.length : Int) < (A.length : Int)) = false := by simp
            rw [List.take_of_length_le (Nat.le_refl _)] at hown hfl
            have HW := Lib.hid hown; have HB := Lib.hid hbel
            clear hown hob hask hsl hbel hlen2
            go_wp2_with fail
            go_ret2
            refine ⟨_, rfl, ?_, HB.out⟩
            rw [HF.out]
            refine Slc.of_owns ?_
            rw [List.length_map, List.map_map]
            exact HW.out

end Go.Proofs.Ythoaldiadgeonaa
