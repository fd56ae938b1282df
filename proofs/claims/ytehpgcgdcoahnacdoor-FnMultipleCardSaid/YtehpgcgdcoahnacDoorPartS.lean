/-
  Parts of rounds: the model's side.
-/
import Derived.Test.YtehpgcgdcoahnacDoorPartI
import Derived.Test.YtehpgcgdcoahnacDoorGRnd
import Derived.Test.YtehpgcgdcoahnacDoorShift
import Derived.Maps.AppendAt
import Derived.Test.YtehpgcgdcoahnacDoorPMath
import Derived.Deep.QuietTactic
import Derived.BigQuiet
namespace Go.Proofs.YtehpgcgdcoahnacDoor
open Go.RowKit

set_option maxHeartbeats 1000000 in
theorem l4Given_no (b t n k : Int) (w : World) (h : NoPrt b t n k) :
    Calls Tryd.prog 36 #[.int .i64 b, .agg #[.int .i64 t, .int .i64 n], .int .i64 k] w fun e w' => e = .returned (.int .i64 0) ∧ Below w.heap.size w w' := by
  have HN := Lib.hid h; clear h
  cases ht : tldB b t n with
  | false =>
    go_enter Tryd.func36, Tryd.ntmps36
    go_wp2_with fail
    refine (l1Given_any _ _ _ _).mono ?_
    rintro e w1 ⟨rfl, hb1⟩
    rw [ht]
    have hb := bel1 hb1
    go_wp2_with fail
    go_ret
    exact ⟨rfl, hb⟩
  | true =>
    have HT := Lib.hid ht
    have hnat := tld_nat ht
    go_enter Tryd.func36, Tryd.ntmps36
    go_wp2_with fail
    refine (l1Given_any _ _ _ _).mono ?_
    rintro e w1 ⟨rfl, hb1⟩
    rw [ht]
    have q1 := (Box2.newAt (W := w) (T := 30) (x := .int .i64 t) (y := .int .i64 n) rfl).later hb1
    have k0 := q1.cell0
    have k1 := q1.cell1
    have hb := bel1 hb1
    obtain ⟨b, T, B, rfl, rfl, rfl, h3, h4, hT, hB, hgT⟩ := hnat
    clear ht hb1
    go_wp2_with fail
    refine (l1Gcd_any _ _ _ (by omega) (by omega) (by omega) (by omega)).mono ?_
    rintro e w2 ⟨rfl, rfl⟩
    rw [gcdI_nat]
    by_cases hg : Nat.gcd b B = 1
    case neg =>
      have hg' : ¬ ((Nat.gcd b B : Nat) : Int) = 1 := by omega
      go_wp2_with fail
      go_ret
      exact ⟨rfl, hb⟩
    case pos =>
      rw [hg]
      by_cases hT0 : T = 0
      · subst hT0
        go_wp2_with fail
        go_ret
        exact ⟨rfl, hb⟩
      · have hT0' : ((T : Int) == 0) = false := by simp; omega
        by_cases hk : 1 ≤ k
        case neg =>
          have hk' : k < 1 := by omega
          go_wp2_with fail
          go_ret
          exact ⟨rfl, hb⟩
        case pos =>
          obtain ⟨k, rfl⟩ := Int.eq_ofNat_of_zero_le (show 0 ≤ k by omega)
          have hk' : decide ((k : Int) < 1) = false := by simp; omega
          go_wp2_with fail
          refine (l1Lengths_any b T B _ hT hB h3 h4).mono ?_
          rintro e w2 ⟨n', m, hm, rfl, hb2⟩
          obtain ⟨m0, hm0⟩ := len_zero hg hT hgT
          obtain ⟨rfl, rfl⟩ := hm.unique hm0
          have hmk : ¬ m % k = 0 := fun e => HN.out b T B k m rfl rfl rfl rfl ⟨h3, h4, hT, hB, hgT, hg, by omega, by omega, hm, e⟩
          have hmk' : ¬ (m : Int) % k = 0 := by omega
          have hml := hm.le hT
          have hk0 : ¬ k = 0 := by omega
          have hbb := hb.trans (hb2.mono hb.size)
          clear hm hm0 HN
          go_wp2_with fail
          go_ret
          exact ⟨rfl, hbb⟩

set_option maxHeartbeats 1000000 in
theorem l4Given_yes (b T B k m : Nat) (w : World) (h : Prt b T B k m) :
    Calls Tryd.prog 36 #[.int .i64 b, .agg #[.int .i64 T, .int .i64 B], .int .i64 k] w fun e w' => e = .returned (.int .i64 m) ∧ Below w.heap.size w w' := by
  have HP := Lib.hid h
  have ht := h.told
  have h3 := h.b2; have h4 := h.b16; have hT := h.lt; have hB := h.bot; have hT0 := h.top; have hk := h.k1
  have hT0' : ((T : Int) == 0) = false := by simp; omega
  have hk' : decide ((k : Int) < 1) = false := by simp; omega
  have hmk : (m : Int) % k = 0 := by have := h.dvd; omega
  have hml := h.div.2.2.2.1
  have hk0 : ¬ k = 0 := by omega
  clear h
  go_enter Tryd.func36, Tryd.ntmps36
  go_wp2_with fail
  refine (l1Given_any _ _ _ _).mono ?_
  rintro e w1 ⟨rfl, hb1⟩
  rw [ht]
  have q1 := (Box2.newAt (W := w) (T := 30) (x := .int .i64 T) (y := .int .i64 B) rfl).later hb1
  have k0 := q1.cell0
  have k1 := q1.cell1
  have hb := bel1 hb1
  clear ht hb1
  go_wp2_with fail
  refine (l1Gcd_any _ _ _ (by omega) (by omega) (by omega) (by omega)).mono ?_
  rintro e w2 ⟨rfl, rfl⟩
  rw [gcdI_nat, HP.out.gb]
  go_wp2_with fail
  refine (l1Lengths_any b T B _ hT hB h3 h4).mono ?_
  rintro e w2 ⟨n', m', hm, rfl, hb2⟩
  obtain ⟨rfl, rfl⟩ := HP.out.len.unique hm
  have hbb := hb.trans (hb2.mono hb.size)
  clear hm
  go_wp2_with fail
  go_ret
  exact ⟨rfl, hbb⟩

theorem owns_later {n₀ k : Nat} {W W' : World} {T : TypeId} {v : Value} {xs : List Value} (h : W.ownsRow n₀ T 1 v k xs) (hb : Below W.heap.size W W') : W'.ownsRow n₀ T 1 v k xs := by
  refine h.kept (row := none) (grown_below hb) ?_
  cases v.ownBlock <;> simp

theorem Prt.place {b T B k m i : Nat} (h : Prt b T B k m) : ((i : Int) * m) / k = ((i * (m / k) : Nat) : Int) := by
  have h1 := h.div.1
  have h2 : i * m / k = i * (m / k) := by rw [Nat.mul_div_assoc i (Nat.dvd_of_mod_eq_zero h.dvd)]
  rw [← h2]; rfl

theorem Prt.place_lt {b T B k m i : Nat} (h : Prt b T B k m) (hi : i < k) : i * (m / k) < m ∧ (i + 1) * (m / k) ≤ m := by
  have h1 := h.div.1
  have h2 := h.div.2.1
  have h3 : (i + 1) * (m / k) ≤ k * (m / k) := Nat.mul_le_mul_right _ hi
  rw [Nat.succ_mul] at h3 ⊢
  omega

set_option maxHeartbeats 1000000 in
theorem l4Rests_any (b T B k m : Nat) (w : World) (h : Prt b T B k m) :
    Calls Tryd.prog 56 #[.int .i64 b, .agg #[.int .i64 T, .int .i64 B], .int .i64 k, .int .i64 m] w fun e w' => ∃ v, e = .returned v ∧ Slc w.heap.size w' v (prsL b T B k (m / k)) ∧ Below w.heap.size w w' := by
  have HP := Lib.hid h
  have h3 := h.b2; have h4 := h.b16; have hT := h.lt; have hB := h.bot
  obtain ⟨hd1, hd2, hd3, hd4, hd5⟩ := h.div
  have hk0 : ¬ k = 0 := by have := h.k1; omega
  have hl2 := l2List_any b T B m
  clear h
  obtain ⟨i0, hi, hz0, hz1, hz2⟩ := info_parts infoInt
  go_enter Tryd.func56, Tryd.ntmps56
  go_wp2_with fail
  refine (hl2 _ hT hB h3 h4 (by omega)).mono ?_
  rintro e w1 ⟨v, rfl, hv, hb1⟩
  clear hl2
  have hl := rstL_len b T B m
  obtain ⟨g, off, cap, rfl, _, hg, hc1, hc2⟩ := slc_some hv (by rw [hl]; omega)
  rw [hl] at hv hc1 ⊢
  have hb := bel1 hb1
  have HL := Lib.hid hl
  have hws := hb.size
  clear hl hb1
  go_wp2_with fail
  go_loopw [10, 11] (fun u i wr => ∃ p : Nat, p ≤ k ∧ i = .int .i64 p ∧ wr.ownsRow w1.heap.size 3 1 u p ((prsL b T B p (m / k)).map (Value.int .i64)) ∧ Slc w.heap.size wr (.slice (some ⟨g, off, none⟩) m cap) (rstL b T B m) ∧ w1.heap.size ≤ wr.heap.size ∧ Below w.heap.size w wr) (fun _ i _ => k - (intOf i).toNat)
  case atStart =>
    refine ⟨0, Nat.zero_le _, rfl, ?_, (hv.mono (by simp)).later ((Below.refl _ _).alloc (Nat.le_refl _) _), by simp, hb.alloc hb.size _⟩
    exact World.ownsRow_made (base := w1.heap.size) (e := 3) (size := 1) w1 #[] 0 (Nat.le_refl _) (by simp) (by simp)
  case round =>
    clear hv hb
    obtain ⟨p, hp, rfl, hown, hv, hsz, hb⟩ := hrel
    by_cases hlt : p < k
    · have i1 : (p : Int) < k := by omega
      have hpl := HP.out.place_lt hlt
      have hplc := HP.out.place (i := p)
      have hc := Slc.cell HL.out hv (p * (m / k)) hpl.1
      rw [rstL_get b T B m _ hpl.1] at hc
      have hidx : ((p * (m / k) : Nat) : Int) < m := by omega
      have hrr := HP.out.rlt (p * (m / k))
      have hps := prsL_succ b T B p (m / k)
      have hpm0 : 0 ≤ (p : Int) * m := Int.mul_nonneg (by omega) (by omega)
      have hpm1 : (p : Int) * m ≤ 1000 * 1000 := Int.mul_le_mul (by omega) (by omega) (by omega) (by omega)
      have hgw : g < w1.heap.size := hg
      revert hplc hc hidx hps hrr
      generalize hqq : p * (m / k) = q
      intro hplc hc hidx hrr hps
      have HS := Lib.hid hps
      have hW := Lib.hid hown; have hV := Lib.hid hv
      clear hps hqq hown hv hpl
      generalize rst b T B q = r at hc hrr HS
      go_wp2_with (at_builtin; refine wpList_append_own_at _ rfl _ _ 22 rfl w1.heap.size 3 i0 (.int .i64 0) 1 8 Tryd.underlying22 hi hz0 hz1 hz2 rfl (by decide) _ _ _ rfl (hW.out.alloc _) ⟨wr.heap.size, 0, none⟩ 1 1 [.int .i64 r] rfl rfl ?c1 ?c2 ?c3 ?c4 ?c5 ?_)
      case c1 => exact cell_one_new _ _ _
      case c2 => simp [Value.oneCell']
      case c3 => unfold maxLen; omega
      case c4 => omega
      case c5 => simp; omega
      intro v' w2 hown' hgrow _ _
      have hb2 := (hb.alloc hb.size (.cells #[.int .i64 r] 3)).grown hgrow (by have := hb.size; simp; omega) (fun q e => by have := (row_ge3 hW.out e).1; have := hb.size; omega)
      have hv2 := (hV.out.later ((Below.refl _ _).alloc (Nat.le_refl _) (.cells #[.int .i64 r] 3))).kept hgrow (fun q e1 e2 => by
        cases e1
        have : w1.heap.size ≤ g := (row_ge3 hW.out e2).1
        omega)
      have hs2 := hgrow.size
      simp at hs2
      clear hW hV hgrow
      go_wp2_with fail
      refine ⟨⟨p + 1, by omega, rfl, ?_, hv2, by omega, hb2⟩, by simp [intOf]; omega⟩
      rw [HS.out, List.map_append]
      simpa using hown'
    · obtain rfl : p = k := by omega
      have i1 : ¬ (p : Int) < p := by omega
      go_wp2_with fail
      go_ret
      refine ⟨_, rfl, (Slc.of_owns (by rw [prsL_len]; exact hown)).mono hws, hb⟩

set_option maxHeartbeats 1000000 in
theorem specPartRests_no (b t n k : Int) (h : NoPrt b t n k) : Gives 31 #[.int .i64 b, .agg #[.int .i64 t, .int .i64 n], .int .i64 k] [] false := by
  intro w
  go_enter Tryd.func31, Tryd.ntmps31
  go_wp2_with fail
  refine (l4Given_no b t n k _ h).mono ?_
  rintro e w1 ⟨rfl, hb1⟩
  have hb := bel1 hb1
  go_wp2_with fail
  go_ret2
  exact ⟨_, rfl, Slc.empty hb.size, hb.alloc hb.size _⟩

set_option maxHeartbeats 1000000 in
theorem specPartRests_yes (b T B k m : Nat) (h : Prt b T B k m) : Gives 31 #[.int .i64 b, .agg #[.int .i64 T, .int .i64 B], .int .i64 k] (prsL b T B k (m / k)) true := by
  intro w
  have hm : ¬ m = 0 := by have := h.len.pos; omega
  have HP := Lib.hid h; clear h
  go_enter Tryd.func31, Tryd.ntmps31
  go_wp2_with fail
  refine (l4Given_yes b T B k m _ HP.out).mono ?_
  rintro e w1 ⟨rfl, hb1⟩
  have q1 := (Box2.newAt (W := w) (T := 30) (x := .int .i64 T) (y := .int .i64 B) rfl).later hb1
  have k0 := q1.cell0
  have k1 := q1.cell1
  have hb := bel1 hb1
  clear hb1
  go_wp2_with fail
  refine (l4Rests_any b T B k m _ HP.out).mono ?_
  rintro e w2 ⟨v, rfl, hv, hb2⟩
  go_wp2_with fail
  go_ret2
  exact ⟨_, rfl, hv.mono hb.size, hb.trans (hb2.mono hb.size)⟩

/-- The sum of a list. -/
def sumL (L : List Int) : Int := L.foldl (· + ·) 0
theorem sumL_snoc (L : List Int) (x : Int) : sumL (L ++ [x]) = sumL L + x := by unfold sumL; rw [List.foldl_append]; rfl
theorem sumL_prs (b T B j : Nat) : ∀ k, sumL (prsL b T B k j) = (prS b T B k j : Int) := by
  intro k
  induction k with
  | zero => rfl
  | succ k ih =>
    rw [prsL_succ, sumL_snoc, ih]
    show (prS b T B k j : Int) + (rst b T B (k * j) : Int) = ((prS b T B k j + rst b T B (k * j) : Nat) : Int)
    omega

set_option maxHeartbeats 1000000 in
theorem l4Total_nil (n₀ : Nat) (v : Value) (w : World) (hv : Slc n₀ w v []) :
    Calls Tryd.prog 32 #[v] w fun e w' => e = .returned (.int .i64 0) ∧ w = w' := by
  obtain ⟨a, c, rfl⟩ := slc_form hv
  rw [show ([] : List Int).length = 0 from rfl]
  clear hv
  go_enter Tryd.func32, Tryd.ntmps32
  go_wp2
  go_loop [3, 4] (fun s i => i = .int .i64 0 ∧ s = .int .i64 0) (fun _ _ => 0)
  case atStart => exact ⟨rfl, rfl⟩
  case round =>
    obtain ⟨rfl, rfl⟩ := hrel
    go_wp2
    go_ret
    exact ⟨rfl, rfl⟩

set_option maxHeartbeats 1000000 in
theorem l4Total_any (n₀ : Nat) (b T B k j : Nat) (v : Value) (w : World) (hv : Slc n₀ w v (prsL b T B k j)) (hk : k ≤ 1000) (hkp : 0 < k) (hr : ∀ i, rst b T B i ≤ 1000) :
    Calls Tryd.prog 32 #[v] w fun e w' => e = .returned (.int .i64 (prS b T B k j)) ∧ w = w' := by
  have hl := prsL_len b T B k j
  have hbd : ∀ q, prS b T B q j ≤ q * 1000 := fun q => sumN_le q fun i _ => hr _
  obtain ⟨g, off, cap, rfl, _, hg, hc1, hc2⟩ := slc_some hv (by rw [hl]; omega)
  rw [hl] at hv hc1 ⊢
  have HL := Lib.hid hl; have HB := Lib.hid hbd; have HR := Lib.hid hr
  clear hl hbd hr
  go_enter Tryd.func32, Tryd.ntmps32
  go_wp2
  go_loop [3, 4] (fun s i => ∃ p : Nat, p ≤ k ∧ i = .int .i64 p ∧ s = .int .i64 (prS b T B p j)) (fun _ i => k - (intOf i).toNat)
  case atStart => exact ⟨0, Nat.zero_le _, rfl, rfl⟩
  case round =>
    obtain ⟨p, hp, rfl, rfl⟩ := hrel
    by_cases hlt : p < k
    · have hc := Slc.cell HL.out hv p hlt
      rw [prsL_get b T B k j p hlt] at hc
      have h1 := HB.out p
      have h2 := HR.out (p * j)
      have i1 : (p : Int) < k := by omega
      have HS : Hid ((prS b T B (p + 1) j : Int) = (prS b T B p j : Int) + (rst b T B (p * j) : Int)) := by
        show ((prS b T B p j + rst b T B (p * j) : Nat) : Int) = _
        omega
      generalize rst b T B (p * j) = r at hc h2 HS
      go_wp2_with fail
      exact ⟨⟨p + 1, by omega, rfl, by rw [HS.out]⟩, by simp [intOf]; omega⟩
    · obtain rfl : p = k := by omega
      have i1 : ¬ (p : Int) < p := by omega
      go_wp2_with fail
      go_ret
      exact ⟨rfl, rfl⟩

set_option maxHeartbeats 1000000 in
theorem specPartMultiple_no (b t n k : Int) (h : NoPrt b t n k) : GivesI 14 #[.int .i64 b, .agg #[.int .i64 t, .int .i64 n], .int .i64 k] 0 false := by
  intro w
  go_enter Tryd.func14, Tryd.ntmps14
  go_wp2_with fail
  refine (specPartRests_no b t n k h _).mono ?_
  rintro e w1 ⟨v, rfl, hv, hb1⟩
  have hb := bel1 hb1
  go_wp2_with fail
  refine (l4Total_nil _ v _ hv).mono ?_
  rintro e w2 ⟨rfl, rfl⟩
  go_wp2_with fail
  go_ret2
  exact ⟨rfl, hb⟩

set_option maxHeartbeats 1000000 in
theorem specPartMultiple_off (b T B k m : Nat) (h : Prt b T B k m) (hd : ¬ B ∣ prS b T B k (m / k)) : GivesI 14 #[.int .i64 b, .agg #[.int .i64 T, .int .i64 B], .int .i64 k] 0 false := by
  intro w
  have hmod : ¬ prS b T B k (m / k) % B = 0 := fun e => hd (Nat.dvd_of_mod_eq_zero e)
  have hmod' : ¬ (prS b T B k (m / k) : Int) % B = 0 := by omega
  have hB0 : ¬ B = 0 := by have := h.div; omega
  have hkm : k ≤ 1000 := by have := h.div; omega
  have hk1 := h.k1
  have hBm := h.bot
  have hbd : prS b T B k (m / k) ≤ k * 1000 := sumN_le k fun i _ => by have := h.rlt (i * (m / k)); omega
  have HP := Lib.hid h; clear h
  go_enter Tryd.func14, Tryd.ntmps14
  go_wp2_with fail
  refine (specPartRests_yes b T B k m HP.out _).mono ?_
  rintro e w1 ⟨v, rfl, hv, hb1⟩
  have q1 := (Box2.newAt (W := w) (T := 30) (x := .int .i64 T) (y := .int .i64 B) rfl).later hb1
  have k0 := q1.cell0
  have k1 := q1.cell1
  have hb := bel1 hb1
  clear hb1
  go_wp2_with fail
  refine (l4Total_any _ b T B k (m / k) v _ hv hkm hk1 (fun i => by have := HP.out.rlt i; omega)).mono ?_
  rintro e w2 ⟨rfl, rfl⟩
  clear hv
  generalize prS b T B k (m / k) = S at hmod hmod' hbd ⊢
  go_wp2_with fail
  go_ret2
  exact ⟨rfl, hb⟩

set_option maxHeartbeats 1000000 in
theorem specPartMultiple_yes (b T B k m q : Nat) (h : Prt b T B k m) (hq : prS b T B k (m / k) = B * q) : GivesI 14 #[.int .i64 b, .agg #[.int .i64 T, .int .i64 B], .int .i64 k] q true := by
  intro w
  have hB0 : ¬ B = 0 := by have := h.div; omega
  have hmod : prS b T B k (m / k) % B = 0 := by rw [hq]; exact Nat.mul_mod_right B q
  have hmod' : (prS b T B k (m / k) : Int) % B = 0 := by omega
  have hdiv : prS b T B k (m / k) / B = q := by rw [hq]; exact Nat.mul_div_cancel_left q (by omega)
  have hdiv' : (prS b T B k (m / k) : Int) / B = q := by rw [← hdiv]; rfl
  have hqk := (h.mult hq).2
  have hkm : k ≤ 1000 := by have := h.div; omega
  have hk1 := h.k1
  have hBm := h.bot
  have hbd : prS b T B k (m / k) ≤ k * 1000 := sumN_le k fun i _ => by have := h.rlt (i * (m / k)); omega
  have HP := Lib.hid h; clear h hdiv
  go_enter Tryd.func14, Tryd.ntmps14
  go_wp2_with fail
  refine (specPartRests_yes b T B k m HP.out _).mono ?_
  rintro e w1 ⟨v, rfl, hv, hb1⟩
  have q1 := (Box2.newAt (W := w) (T := 30) (x := .int .i64 T) (y := .int .i64 B) rfl).later hb1
  have k0 := q1.cell0
  have k1 := q1.cell1
  have hb := bel1 hb1
  clear hb1
  go_wp2_with fail
  refine (l4Total_any _ b T B k (m / k) v _ hv hkm hk1 (fun i => by have := HP.out.rlt i; omega)).mono ?_
  rintro e w2 ⟨rfl, rfl⟩
  clear hv hq
  generalize prS b T B k (m / k) = S at hmod hmod' hbd hdiv' ⊢
  go_wp2_with fail
  go_ret2
  exact ⟨rfl, hb⟩

theorem rndL_zero (b T B m : Nat) : rndL b T B 0 m = digL b T B m := by unfold rndL; rw [List.drop_zero, Nat.zero_add]

set_option maxHeartbeats 1000000 in
theorem specPartHalves_no (b t n : Int) (h : NoPrt b t n 2) : GivesB 24 #[.int .i64 b, .agg #[.int .i64 t, .int .i64 n]] false := by
  intro w
  go_enter Tryd.func24, Tryd.ntmps24
  go_wp2_with fail
  refine (l4Given_no b t n 2 _ h).mono ?_
  rintro e w1 ⟨rfl, hb1⟩
  have hb := bel1 hb1
  go_wp2_with fail
  go_ret
  exact ⟨rfl, hb⟩

set_option maxHeartbeats 2000000 in
theorem specPartHalves_yes (b T B m : Nat) (h : Prt b T B 2 m) : GivesB 24 #[.int .i64 b, .agg #[.int .i64 T, .int .i64 B]] (decide (prS b T B 2 (m / 2) = B)) := by
  intro w
  have hm : ¬ m = 0 := by have := h.len.pos; omega
  have h3 := h.b2; have h4 := h.b16; have hT := h.lt; have hB := h.bot
  obtain ⟨hd1, hd2, hd3, hd4, hd5⟩ := h.div
  have hdg := fun i => dig_lt (b := b) hT i (by omega)
  have hhv := h.halves
  have hbk := h.halves_back
  obtain ⟨d, hdd⟩ : ∃ d, m / 2 = d := ⟨_, rfl⟩
  have HM2 := Lib.hid (show m = 2 * d by omega)
  have hm3 : d ≤ m := by omega
  have hq2 : (m : Int) / 2 = d := by omega
  rw [hdd] at hhv hbk ⊢
  have HP := Lib.hid h; have HV := Lib.hid hhv; have HB := Lib.hid hbk; have HD := Lib.hid hdg
  clear h hhv hbk hdg hdd hd1
  go_enter Tryd.func24, Tryd.ntmps24
  go_wp2_with fail
  refine (l4Given_yes b T B 2 m _ HP.out).mono ?_
  rintro e w1 ⟨rfl, hb1⟩
  have q1 := (Box2.newAt (W := w) (T := 30) (x := .int .i64 T) (y := .int .i64 B) rfl).later hb1
  have k0 := q1.cell0
  have k1 := q1.cell1
  have hb := bel1 hb1
  clear hb1
  go_wp2_with fail
  refine (l1Round_any b T B _ hT hB h3 h4).mono ?_
  rintro e w2 ⟨v, n', m', hm', rfl, hv, hb2⟩
  obtain ⟨rfl, rfl⟩ := HP.out.len.unique hm'
  have hl := rndL_len b T B 0 m
  obtain ⟨g, off, cap, rfl, _, _, hc1, hc2⟩ := slc_some hv (by rw [hl]; omega)
  rw [hl] at hv hc1 ⊢
  have hcell : CellsR w2 g off m (fun k => dig b T B k) := fun k hk => by
    have := Slc.cell hl hv k hk
    rw [rndL_get b T B 0 m k hk, Nat.zero_add] at this
    exact this
  have hbb := hb.trans (hb2.mono hb.size)
  clear hv hb2 hb hm' k0 k1 q1 hl
  go_wp2_with fail
  go_loopw [7] (fun i wr => ∃ p : Nat, p ≤ d ∧ i = .int .i64 p ∧ Hid (∀ c, c < p → dig b T B c + dig b T B (c + d) = b - 1) ∧ CellsR wr g off m (fun k => dig b T B k) ∧ Below w.heap.size w wr) (fun i _ => d - (intOf i).toNat)
  case atStart => exact ⟨0, Nat.zero_le _, rfl, fun c hc => by omega, hcell, hbb⟩
  case round =>
    clear hcell hbb
    obtain ⟨p, hp, rfl, hall, hc, hb⟩ := hrel
    by_cases hlt : p < d
    · have i1 : (p : Int) < d := by omega
      have kc1 := hc p (by omega)
      have kc2 := hc (p + d) (by have := HM2.out; omega)
      have g1 := HD.out p
      have g2 := HD.out (p + d)
      have i2 : IntKind.i64.wrap (p : Int) = p := IntWalk.i64_in _ (by omega)
      have i3 : IntKind.i64.wrap ((p : Int) + d) = (p : Int) + d := IntWalk.i64_in _ (by omega)
      have i7 : (0 : Int) ≤ (p : Int) + d := by omega
      have i8 : (p : Int) + d < m := by have := HM2.out; omega
      have i9 : (0 : Int) ≤ (p : Int) := by omega
      have i10 : (p : Int) < m := by omega
      have hcase : dig b T B p + dig b T B (p + d) = b - 1 ∨ dig b T B p + dig b T B (p + d) ≠ b - 1 := by omega
      obtain ⟨x, hx⟩ : ∃ x, dig b T B p = x := ⟨_, rfl⟩
      obtain ⟨y, hy⟩ : ∃ y, dig b T B (p + d) = y := ⟨_, rfl⟩
      have HX := Lib.hid hx; have HY := Lib.hid hy
      simp only [hx, hy] at kc1 kc2 g1 g2 hcase
      clear hx hy
      rcases hcase with he | he
      · have i5 : ((x : Int) + y != (b : Int) - 1) = false := by simp; omega
        go_wp2_with fail
        go_quiet (fail)
        go_wp2
        go_roundw
        case rel =>
          refine ⟨p + 1, by omega, by go_num, fun c hcp => ?_, hc, below_drewN hb _⟩
          rcases Nat.lt_or_ge c p with h0 | h0
          · exact hall.out c h0
          · obtain rfl : c = p := by omega
            rw [HX.out, HY.out]; exact he
        case measure => simp [intOf]; omega
      · have i5 : ((x : Int) + y != (b : Int) - 1) = true := by simp; omega
        have hne : prS b T B 2 d ≠ B := fun e => by
          have := (HB.out (by rw [e]; exact Nat.dvd_refl B) p).2
          rw [HX.out, HY.out] at this
          exact he this
        have HNE := Lib.hid hne
        clear hne
        go_wp2_with fail
        go_quiet (fail)
        go_wp2
        go_ret
        exact ⟨ret_bool (decide_eq_false HNE.out).symm, below_drewN hb _⟩
    · obtain rfl : p = d := by omega
      have i1 : ¬ (p : Int) < p := by omega
      go_wp2_with fail
      go_ret
      exact ⟨ret_bool (decide_eq_true (HV.out hall.out)).symm, hb⟩

end Go.Proofs.YtehpgcgdcoahnacDoor
