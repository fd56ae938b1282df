/-
  The law FnCyclic's walk.
-/
import Derived.Test.YtagkbpdfpeadbacDrawT
import Derived.Test.YtagkbpdfpeadbacTurnB
import Derived.Test.YtagkbpdfpeadbacGRow
namespace Go.Proofs.Ytagkbpdfpeadbac
open Go.RowKit

/-- A number stands among the first ones of a list. -/
def hasI (L : List Int) (k : Int) (i : Nat) : Bool := decide (∃ j, j < i ∧ L[j]?.getD 0 = k)
theorem hasI_zero (L : List Int) (k : Int) : hasI L k 0 = false := decide_eq_false fun ⟨j, h, _⟩ => by omega
theorem hasI_succ (L : List Int) (k : Int) (i : Nat) : hasI L k (i + 1) = (hasI L k i || (L[i]?.getD 0 == k)) := by
  by_cases h1 : hasI L k i = true
  · rw [h1, Bool.true_or]
    obtain ⟨j, hj, e⟩ := of_decide_eq_true h1
    exact decide_eq_true ⟨j, by omega, e⟩
  · rw [Bool.not_eq_true] at h1
    rw [h1, Bool.false_or]
    by_cases h2 : L[i]?.getD 0 = k
    · rw [beq_iff_eq.2 h2]; exact decide_eq_true ⟨i, by omega, h2⟩
    · rw [beq_eq_false_iff_ne.2 h2]
      refine decide_eq_false fun ⟨j, hj, e⟩ => ?_
      by_cases hji : j = i
      · subst hji; exact h2 e
      · exact of_decide_eq_false h1 ⟨j, by omega, e⟩
theorem hasI_mem {L : List Int} {k : Int} (h : k ∈ L) : hasI L k L.length = true := by
  obtain ⟨j, hj, e⟩ := List.getElem_of_mem h
  exact decide_eq_true ⟨j, hj, by rw [List.getElem?_eq_getElem hj, e]; rfl⟩

theorem cyc_or (b p : Int) : NoCyc b p ∨ ∃ b' p' : Nat, b = b' ∧ p = p' ∧ p' ≤ 200 ∧ primeB p' = true ∧ prmB b' p' = true ∧ IsLen b' 1 p' 0 (p' - 1) := by
  by_cases h : ∃ b' p' : Nat, b = b' ∧ p = p' ∧ p' ≤ 200 ∧ primeB p' = true ∧ prmB b' p' = true ∧ IsLen b' 1 p' 0 (p' - 1)
  · exact .inr h
  · exact .inl fun b' p' e1 e2 h1 h2 h3 h4 => h ⟨b', p', e1, e2, h1, h2, h3, h4⟩

set_option maxRecDepth 100000 in
set_option maxHeartbeats 4000000 in
theorem lawCyclic_any (H : ImTurnCyclic) (HA : ImTurnAll) (HT : ImTurnTimes) (a : Option Addr) (len cap : Nat) (zs : List Int) (w : World) (r : IsRow .u8 w a len cap zs) :
    Calls Try.prog 5 #[.slice a len cap] w fun e w' => e = .returned (.bool true) ∧ Below w.heap.size w w' := by
  have hB := byt_of_row r
  clear r
  by_cases hl : 1048576 < len
  · have hl' : (1048576 : Int) < (len : Int) := by omega
    go_enter Try.func5, Try.ntmps5
    go_wp2
    go_ret
    exact ⟨rfl, Below.refl _ _⟩
  have hl' : decide ((1048576 : Int) < (len : Int)) = false := by simp; omega
  go_enter Try.func5, Try.ntmps5
  go_wp2_with fail
  refine (drawTurnCyclic_any a len cap _ hB).mono ?_
  rintro e w1 ⟨b, p, rfl, B1⟩
  clear hl hB
  rcases cyc_or b p with h | ⟨b, p, rfl, rfl, hp200, hprime, hprm, hlen⟩
  · have HI := Lib.hid (H.1 b p h); have HS := Lib.hid (specTurnCyclic_no b p h)
    clear h
    go_wp2_with fail
    refine (HI.out _).mono ?_
    rintro e w2 ⟨v, rfl, lv2, hb2⟩
    have B2 := B1.trans (hb2.mono B1.size)
    clear B1 hb2
    go_wp2_with fail
    refine (HS.out _).mono ?_
    rintro e w3 ⟨u, rfl, lu3, hb3⟩
    have B3 := B2.trans (hb3.mono B2.size)
    have lv3 := lv2.later hb3
    clear B2 hb3 lv2
    go_wp2_with fail
    refine (sameInts_any _ _ _ _ ([] : List Int) ([] : List Int) _ lv3 lu3 (by simp) (by simp)).mono ?_
    rintro e w4 ⟨rfl, hb4⟩
    have B4 := B3.trans (hb4.mono B3.size)
    have lv4 := lv3.later hb4
    have lu4 := lu3.later hb4
    clear B3 hb4 lv3 lu3
    have hxx : decide (([] : List Int) = ([] : List Int)) = true := by simp
    rw [hxx]
    clear hxx
    go_wp2_with fail
    refine (sameInts_any _ _ _ _ ([] : List Int) ([] : List Int) _ lv4 lu4 (by simp) (by simp)).mono ?_
    rintro e w5 ⟨rfl, hb5⟩
    have B5 := B4.trans (hb5.mono B4.size)
    clear B4 hb5
    have hxx : decide (([] : List Int) = ([] : List Int)) = true := by simp
    rw [hxx]
    clear hxx
    go_wp2_with fail
    go_ret
    exact ⟨rfl, B5⟩
  · have HI := Lib.hid (H.2 b p hp200 hprime hprm hlen); have HS := Lib.hid (specTurnCyclic_yes b p hp200 hprime hprm hlen)
    obtain ⟨b', p', e1, e2, h3, h4, hn, hn2, hbp⟩ := prm_nat hprm
    obtain rfl : b = b' := by omega
    obtain rfl : p = p' := by omega
    clear e1 e2
    have hdl := digL_len b 1 p (p - 1)
    have hr : Rng b (digL b 1 p (p - 1)) := ⟨h3, h4, by rw [hdl]; omega, by rw [hdl]; omega, digL_dgt (by omega) (by omega) _⟩
    have HAA := Lib.hid (HA.2 b _ hr)
    have hmem : Hid (∀ k, 1 ≤ k → k < p → p ≤ 100 → (k : Int) ∈ turA b (digL b 1 p (p - 1)) 101) := fun k h1 h2 h5 => turA_mem (c := 101) (by omega) (full_turns h3 hn hlen hbp h1 h2)
    have hTT : Hid (∃ (xs : List Int) (q : Bool), GivesD 19 (fun v => #[.int .i64 b, v, .int .i64 (min p 100 : Nat)]) (digL b 1 p (p - 1)) xs q ∧ (p ≤ 100 → q = true ∧ xs = List.replicate (p - 1) ((b : Int) - 1))) := by
      have hm100 : min p 100 ≤ 100 := Nat.min_le_right _ _
      by_cases h0 : (tim b (min p 100 : Nat) (digL b 1 p (p - 1))).1 = 0
      · refine ⟨_, true, HT.2.2 b (min p 100) _ hr hm100 h0, fun h5 => ⟨rfl, ?_⟩⟩
        rw [Nat.min_eq_left h5]
        exact (full_nines h3 hn hlen).2
      · refine ⟨_, false, HT.2.1 b (min p 100) _ hr hm100 h0, fun h5 => absurd ?_ h0⟩
        rw [Nat.min_eq_left h5]
        exact (full_nines h3 hn hlen).1
    obtain ⟨xs, q, hT1, hT2⟩ := hTT.out
    have HTX := Lib.hid hT1; have HTQ := Lib.hid hT2
    have hle : (digL b 1 p (p - 1)).length ≤ 1048576 := by omega
    have hla := turA_len b (digL b 1 p (p - 1)) 101
    have hmi : min (p : Int) 100 = ((min p 100 : Nat) : Int) := by omega
    obtain ⟨n, hpn⟩ : ∃ n, p = n + 1 := ⟨p - 1, by omega⟩
    have HN := Lib.hid (show (digL b 1 p (p - 1)).length = n by omega)
    have HPI := Lib.hid (show (p : Int) - 1 = (n : Int) by omega); have HPN := Lib.hid hpn; have HMI := Lib.hid hmi
    clear hpn hmi
    clear hr hprime hprm hlen hbp hdl hT1 hT2 hTT
    generalize digL b 1 p (p - 1) = L at *
    go_wp2_with fail
    refine (HI.out _).mono ?_
    rintro e w2 ⟨v, rfl, lv2, hb2⟩
    have B2 := B1.trans (hb2.mono B1.size)
    clear B1 hb2
    go_wp2_with fail
    refine (HS.out _).mono ?_
    rintro e w3 ⟨u, rfl, lu3, hb3⟩
    have B3 := B2.trans (hb3.mono B2.size)
    have lv3 := lv2.later hb3
    clear B2 hb3 lv2
    go_wp2_with fail
    refine (sameInts_any _ _ _ _ L L _ lv3 lu3 hle hle).mono ?_
    rintro e w4 ⟨rfl, hb4⟩
    have B4 := B3.trans (hb4.mono B3.size)
    have lv4 := lv3.later hb4
    clear B3 hb4 lv3
    have hxx : decide (L = L) = true := by simp
    rw [hxx]
    clear hxx
    clear HI HS lu3 hle
    go_wp2_with fail
    refine (HAA.out _ v w4 lv4).mono ?_
    rintro e w5 ⟨z, rfl, lz5, hb5⟩
    have B5 := B4.trans (hb5.mono B4.size)
    have lv5 := lv4.later hb5
    clear B4 hb5 lv4
    have HT5 := Lib.hid (HTX.out _ v w5 lv5)
    clear HAA HTX
    by_cases hp : p ≤ 100
    case neg =>
      have i1 : ¬ (p : Int) ≤ 100 := by omega
      have i2 : (100 : Int) < (p : Int) := by omega
      rw [Nat.min_eq_right (by omega), show ((100 : Nat) : Int) = 100 from rfl] at HT5
      clear HMI
      go_wp2_with fail
      refine HT5.out.mono ?_
      rintro e w6 ⟨x, rfl, lx6, hb6⟩
      have B6 := B5.trans (hb6.mono B5.size)
      obtain ⟨av, cv, rfl⟩ := slc_form lv5
      rw [HN.out]
      have i3 := HPI.out
      go_wp2_with fail
      go_ret
      exact ⟨rfl, B6⟩
    case pos =>
      have i1 : (p : Int) ≤ 100 := by omega
      have i2 : ¬ (100 : Int) < (p : Int) := by omega
      have hq := (HTQ.out hp).1
      have hx := (HTQ.out hp).2
      subst hq hx
      rw [Nat.min_eq_left hp] at HT5
      clear HMI HTQ
      go_wp2_with fail
      refine HT5.out.mono ?_
      rintro e w6 ⟨x, rfl, lx6, hb6⟩
      have B6 := B5.trans (hb6.mono B5.size)
      have lz6 := lz5.later hb6
      obtain ⟨av, cv, rfl⟩ := slc_form lv5
      obtain ⟨l, hl⟩ : ∃ l, (turA b L 101).length = l := ⟨_, rfl⟩
      have hl0 : 0 < l := by rw [← hl]; exact List.length_pos_of_mem (hmem.out 1 (by omega) (by omega) hp)
      obtain ⟨gz, oz, cz, rfl, _, _, _, _⟩ := slc_some lz6 (by rw [hl]; exact hl0)
      have hrl : (List.replicate (p - 1) ((b : Int) - 1)).length = n := by rw [List.length_replicate]; have := HPN.out; omega
      have hn0 : 0 < n := by have := HPN.out; omega
      have hn199 : n ≤ 199 := by have := HPN.out; omega
      obtain ⟨gx, ox, cx, rfl, _, _, _, _⟩ := slc_some lx6 (by rw [hrl]; exact hn0)
      have HHI : Hid (∀ k : Nat, 1 ≤ k → k < p → hasI (turA b L 101) k l = true) := fun k h1 h2 => by rw [← hl]; exact hasI_mem (hmem.out k h1 h2 hp)
      have HRX : Hid (∀ i, i < n → w6.cell? ⟨gx, ox + i, none⟩ = some (.int .i64 ((b : Int) - 1))) := fun i hi => by
        have := Slc.cell hrl (by rw [hrl] at lx6; exact lx6) i hi
        rw [List.getElem?_replicate, if_pos (by have := HPN.out; omega)] at this
        exact this
      have HLL := Lib.hid hl
      rw [hl] at lz6 hla
      rw [hl, hrl, HN.out]
      clear hl hrl lv5 lz5 hb6 B5 HT5 lx6
      go_wp2_with fail
      go_loop [13] (fun k' => ∃ k : Nat, 1 ≤ k ∧ k ≤ p ∧ k' = .int .i64 k) (fun k' => p - (intOf k').toNat)
      case atStart => exact ⟨1, Nat.le_refl _, by omega, rfl⟩
      case round =>
        obtain ⟨k, hk1, hkp, rfl⟩ := hrel
        by_cases hlt : k < p
        · have j1 : (k : Int) < (p : Int) := by omega
          go_wp2_with fail
          go_loop [14, 15] (fun f i' => ∃ i : Nat, i ≤ l ∧ i' = .int .i64 i ∧ f = .bool (hasI (turA b L 101) k i)) (fun _ i' => l - (intOf i').toNat)
          case atStart => exact ⟨0, Nat.zero_le _, rfl, by rw [hasI_zero]⟩
          case round =>
            obtain ⟨i, hil, rfl, rfl⟩ := hrel
            have hsu := hasI_succ (turA b L 101) k i
            by_cases hit : i < l
            · have j2 : (i : Int) < (l : Int) := by omega
              have kc := Slc.cell HLL.out lz6 i hit
              cases hh : hasI (turA b L 101) k i with
              | true =>
                rw [hh, Bool.true_or] at hsu
                have HSU := Lib.hid hsu
                clear hsu hh
                go_wp2_with fail
                exact ⟨⟨i + 1, hit, rfl, by rw [HSU.out]⟩, by simp [intOf]; omega⟩
              | false =>
                rw [hh, Bool.false_or] at hsu
                have HSU := Lib.hid hsu
                clear hsu hh
                revert kc HSU
                generalize (turA b L 101)[i]?.getD 0 = xv
                intro kc HSU
                go_wp2_with fail
                exact ⟨⟨i + 1, hit, rfl, by rw [HSU.out]⟩, by simp [intOf]; omega⟩
            · obtain rfl : i = l := by omega
              have j2 : ¬ (i : Int) < (i : Int) := by omega
              rw [HHI.out k hk1 hlt]
              clear hsu
              go_wp2_with fail
              exact ⟨⟨k + 1, by omega, hlt, rfl⟩, by simp [intOf]; omega⟩
        · obtain rfl : k = p := by omega
          have j1 : ¬ (k : Int) < (k : Int) := by omega
          go_wp2_with fail
          go_loop [16] (fun i' => ∃ i : Nat, i ≤ n ∧ i' = .int .i64 i) (fun i' => n - (intOf i').toNat)
          case atStart => exact ⟨0, Nat.zero_le _, rfl⟩
          case round =>
            obtain ⟨i, hin, rfl⟩ := hrel
            by_cases hit : i < n
            · have j2 : (i : Int) < (n : Int) := by omega
              have kc := HRX.out i hit
              go_wp2_with fail
              exact ⟨⟨i + 1, hit, rfl⟩, by simp [intOf]; omega⟩
            · obtain rfl : i = n := by omega
              have j2 : ¬ (i : Int) < (i : Int) := by omega
              have i3 := HPI.out
              go_wp2_with fail
              go_ret
              exact ⟨rfl, B6⟩

end Go.Proofs.Ytagkbpdfpeadbac
