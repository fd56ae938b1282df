/-
  The law FnFull's walk.
-/
import Derived.Test.YthoaldiadgeonaaDrawO
import Derived.Test.YthoaldiadgeonaaGOrx
import Derived.Test.YthoaldiadgeonaaGRns
import Derived.Test.YthoaldiadgeonaaGOrd
import Derived.Test.YthoaldiadgeonaaGRow
import Derived.Test.YthoaldiadgeonaaTq
namespace Go.Proofs.Ythoaldiadgeonaa
set_option maxRecDepth 100000
open Go.RowKit

set_option maxRecDepth 100000 in
set_option maxHeartbeats 4000000 in
theorem lawFull_any (HF : ImFull) (a : Option Addr) (len cap : Nat) (zs : List Int) (w : World) (r : IsRow .u8 w a len cap zs) :
    Calls Tryq.prog 4 #[.slice a len cap] w fun e w' => e = .returned (.bool true) ∧ Below w.heap.size w w' := by
  have hB := byt_of_row r
  clear r
  by_cases hl : 1048576 < len
  · have hl' : (1048576 : Int) < (len : Int) := by omega
    go_enter Tryq.func4, Try.ntmps4
    go_wp2
    go_ret
    exact ⟨rfl, Below.refl _ _⟩
  have hl' : decide ((1048576 : Int) < (len : Int)) = false := by simp; omega
  go_enter Tryq.func4, Try.ntmps4
  go_wp2_with fail
  refine (drawOrderFull_any a len cap _ hB).mono ?_
  rintro e w1 ⟨b, n, hn80, rfl, B1⟩
  clear hl hB
  by_cases h : (2 ≤ b ∧ b ≤ 16) ∧ (2 ≤ n ∧ n ≤ 1000)
  case neg =>
    go_wp2_with fail
    refine (HF.1 b n h _).mono ?_
    rintro e w2 ⟨v, rfl, hv2, hb2⟩
    have B2 := B1.trans (hb2.mono B1.size)
    go_wp2_with fail
    refine (specOrderFull_no b n h _).mono ?_
    rintro e w3 ⟨u, rfl, hu3, hb3⟩
    have B3 := B2.trans (hb3.mono B2.size)
    have hv3 := hv2.later hb3
    have SM : ∀ (w4 : World) (n₀ n₁ : Nat), Slc n₀ w4 v [] → Slc n₁ w4 u [] → Calls Tryq.prog 15 #[v, u] w4 fun e w' => e = .returned (.bool true) ∧ Below w4.heap.size w4 w' := fun w4 n₀ n₁ h1 h2 => by
      have := sameInts_any n₀ n₁ v u [] [] w4 h1 h2 (by simp) (by simp)
      simpa using this
    clear hb2 hb3 B1 B2 hv2
    go_wp2_with fail
    refine (SM _ _ _ hv3 hu3).mono ?_
    rintro e w4 ⟨rfl, hb4⟩
    have B4 := B3.trans (hb4.mono B3.size)
    have hv4 := hv3.later hb4
    have hu4 := hu3.later hb4
    clear hb4 B3 hv3 hu3
    go_wp2_with fail
    refine (SM _ _ _ hv4 hu4).mono ?_
    rintro e w5 ⟨rfl, hb5⟩
    have B5 := B4.trans (hb5.mono B4.size)
    go_wp2_with fail
    go_ret
    exact ⟨rfl, B5⟩
  case pos =>
    obtain ⟨b, rfl⟩ := Int.eq_ofNat_of_zero_le (show 0 ≤ b by omega)
    obtain ⟨n, rfl⟩ := Int.eq_ofNat_of_zero_le (show 0 ≤ n by omega)
    have h3 : 2 ≤ b := by omega
    have h4 : b ≤ 16 := by omega
    have hn : 2 ≤ n := by omega
    have hn2 : n ≤ 1000 := by omega
    have I := HF.2 b n h3 h4 hn hn2
    have S := specOrderFull_yes b n h3 h4 hn hn2
    have hLl := fulL_len b (n + 1)
    have hget : ∀ p, p < n + 1 → fullB b p = true → (fulL b p).length < (fulL b (n + 1)).length ∧ (fulL b (n + 1))[(fulL b p).length]?.getD 0 = (p : Int) := fun p hp h => fulL_get hp h
    have h0 : (fulL b 2).length = 0 := rfl
    obtain ⟨L, hL⟩ : ∃ L, fulL b (n + 1) = L := ⟨_, rfl⟩
    rw [hL] at I S hLl hget
    have HGT := Lib.hid hget; have HLE := Lib.hid hL
    clear hget hL
    go_wp2_with fail
    refine (I _).mono ?_
    rintro e w2 ⟨v, rfl, hv2, hb2⟩
    have B2 := B1.trans (hb2.mono B1.size)
    go_wp2_with fail
    refine (S _).mono ?_
    rintro e w3 ⟨u, rfl, hu3, hb3⟩
    have B3 := B2.trans (hb3.mono B2.size)
    have hv3 := hv2.later hb3
    have SM : ∀ (w4 : World) (n₀ n₁ : Nat), Slc n₀ w4 v L → Slc n₁ w4 u L → Calls Tryq.prog 15 #[v, u] w4 fun e w' => e = .returned (.bool true) ∧ Below w4.heap.size w4 w' := fun w4 n₀ n₁ h1 h2 => by
      have := sameInts_any n₀ n₁ v u L L w4 h1 h2 (by omega) (by omega)
      simpa using this
    clear hb2 hb3 B1 B2 hv2
    go_wp2_with fail
    refine (SM _ _ _ hv3 hu3).mono ?_
    rintro e w4 ⟨rfl, hb4⟩
    have B4 := B3.trans (hb4.mono B3.size)
    have hv4 := hv3.later hb4
    have hu4 := hu3.later hb4
    clear hb4 B3 hv3 hu3
    obtain ⟨l, hl⟩ : ∃ l, L.length = l := ⟨_, rfl⟩
    obtain ⟨av, cv, rfl⟩ := slc_form hv4
    rw [hl] at hLl hv4 ⊢
    have HL := Lib.hid hl
    clear hl hu4 SM I S
    go_wp2_with fail
    go_loopw [9, 10] (fun k p wr => ∃ q : Nat, 2 ≤ q ∧ q ≤ n + 1 ∧ p = .int .i64 q ∧ k = .int .i64 ((fulL b q).length : Nat) ∧ Slc w1.heap.size wr (.slice av l cv) L ∧ Below w.heap.size w wr) (fun _ p _ => n + 1 - (intOf p).toNat)
    case atStart => exact ⟨2, Nat.le_refl _, by omega, rfl, by rw [h0]; rfl, hv4, B4⟩
    case round =>
      clear hv4 B4
      obtain ⟨q, hq2, hqn, rfl, rfl, hv, hb⟩ := hrel
      have hql := fulL_len b q
      by_cases hlt : q ≤ n
      · have i1 : (q : Int) ≤ n := by omega
        have hfs : fulL b (q + 1) = if fullB b q = true then fulL b q ++ [(q : Int)] else fulL b q := rfl
        have hsame : fullB b q = false → (fulL b (q + 1)).length = (fulL b q).length := fun e => by rw [hfs, e, if_neg (by simp)]
        have hmore : fullB b q = true → (fulL b (q + 1)).length = (fulL b q).length + 1 := fun e => by rw [hfs, if_pos e]; simp
        have HSM := Lib.hid hsame; have HMO := Lib.hid hmore
        clear hfs hsame hmore
        obtain ⟨c, hc⟩ : ∃ c, (fulL b q).length = c := ⟨_, rfl⟩
        rw [hc] at hql ⊢
        have HC := Lib.hid hc
        clear hc
        go_wp2_with fail
        refine (prime_any q _ (by omega)).mono ?_
        rintro e w5 ⟨rfl, rfl⟩
        cases hp : primeB q with
        | false =>
          have hf : fullB b q = false := by unfold fullB; rw [hp, Bool.false_and]
          have hnx := HSM.out hf
          rw [HC.out] at hnx
          clear hf hp
          go_wp2_with fail
          exact ⟨⟨q + 1, by omega, by omega, rfl, by rw [hnx], hv, hb⟩, by simp [intOf]; omega⟩
        | true =>
          by_cases hbp : b % q = 0
          · have hf : fullB b q = false := by unfold fullB; rw [hp, Bool.true_and, decide_eq_false (by simpa using hbp), Bool.false_and]
            have hnx := HSM.out hf
            rw [HC.out] at hnx
            have hpr : prmB b q = false := by
              cases hh : prmB b q with
              | false => rfl
              | true =>
                obtain ⟨b', q', e1, e2, _, _, _, _, hg'⟩ := prm_nat hh
                obtain rfl : b = b' := by omega
                obtain rfl : q = q' := by omega
                exact absurd ((prime_base hp).1 hg') (by omega)
            have M := implMany_no b q hpr
            clear hf hp hbp hpr
            go_wp2_with fail
            refine (M _).mono ?_
            rintro e w6 ⟨rfl, hb6⟩
            have hv6 := hv.later hb6
            have B6 := hb.trans (hb6.mono hb.size)
            clear hv hb hb6
            go_wp2_with fail
            exact ⟨⟨q + 1, by omega, by omega, rfl, by rw [hnx], hv6, B6⟩, by simp [intOf]; omega⟩
          · have hg := (prime_base hp).2 hbp
            obtain ⟨m, hm⟩ := ord_some hg hq2
            obtain ⟨L', hL'⟩ := rnds_some hg q (Nat.le_refl _)
            have hun := rnds_units hg hq2 hm hL'
            have hlp := hL'.some hq2 hq2
            have hm0 : (L'[0]?.getD []).length = m := by
              rw [List.getElem?_eq_getElem hlp]
              exact hun.2 _ (List.getElem_mem hlp)
            obtain ⟨l', hl'⟩ : ∃ l', L'.length = l' := ⟨_, rfl⟩
            have M := implMany_at b q l' m L' (prm_mk h3 h4 hq2 (by omega) hg) h3 h4 hq2 (by omega) hg hL' hl' hm0
            have hu1 := hun.1
            rw [hl', (units_prime hq2).2 hp] at hu1
            have hf := fullB_ord hp hbp hm
            have hlb := (hL'.bound (Nat.le_refl _)).1
            rw [hl'] at hlb
            have hmp := hm.pos
            clear hun hL' hl' hm0 hlp hm
            go_wp2_with fail
            refine (M _).mono ?_
            rintro e w6 ⟨rfl, hb6⟩
            have hv6 := hv.later hb6
            have B6 := hb.trans (hb6.mono hb.size)
            clear hv hb hb6 M
            by_cases hl1 : l' = 1
            · have hfull : fullB b q = true := by rw [hf]; exact decide_eq_true (by rw [hl1, Nat.one_mul] at hu1; exact hu1)
              have hnx := HMO.out hfull
              obtain ⟨hk1, hk2⟩ := HGT.out q (by omega) hfull
              rw [HC.out] at hnx hk1 hk2
              rw [HL.out] at hk1
              obtain ⟨gv, ov, cv', e1, _, _, _, _⟩ := slc_some hv6 (by rw [HL.out]; omega)
              rw [HL.out] at e1
              cases e1
              have hcell := hv6.cell HL.out c hk1
              rw [hk2] at hcell
              have hk1' : ¬ (l : Int) ≤ c := by omega
              subst hl1
              clear hf hfull hu1 hp hbp hk2
              go_wp2_with fail
              exact ⟨⟨q + 1, by omega, by omega, rfl, by rw [hnx]; simp, hv6, B6⟩, by simp [intOf]; omega⟩
            · have hnf : fullB b q = false := by
                rw [hf, decide_eq_false_iff_not]
                intro e
                rw [← e] at hu1
                have : l' * m = 1 * m := by rw [Nat.one_mul]; exact hu1
                exact hl1 (Nat.eq_of_mul_eq_mul_right hmp this)
              have hnx := HSM.out hnf
              rw [HC.out] at hnx
              have hl1' : ((l' : Int) == 1) = false := by simp; omega
              clear hf hnf hu1 hp hbp hl1
              go_wp2_with fail
              exact ⟨⟨q + 1, by omega, by omega, rfl, by rw [hnx], hv6, B6⟩, by simp [intOf]; omega⟩
      · obtain rfl : q = n + 1 := by omega
        have i1 : ¬ (((n + 1 : Nat) : Int) ≤ n) := by omega
        have hcl : (fulL b (n + 1)).length = l := by rw [HLE.out]; exact HL.out
        rw [hcl]
        clear hcl
        go_wp2_with fail
        go_ret
        exact ⟨rfl, hb⟩

end Go.Proofs.Ythoaldiadgeonaa
