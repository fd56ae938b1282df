/-
  Parts of rounds: the model's side: all numbers of parts; the parts; the digits of their sum.
-/
import Derived.Test.YtehpgcgdcoahnacDoorPartS
import Derived.Deep.RegionLaw
import Derived.BigRegion
namespace Go.Proofs.YtehpgcgdcoahnacDoor
open Go.RowKit

theorem prt_one {b n m k : Nat} (h3 : 2 ≤ b) (h4 : b ≤ 16) (hn : 2 ≤ n) (hn2 : n ≤ 1000) (hg : Nat.gcd b n = 1) (hm : IsLen b 1 n 0 m) (hk : 2 ≤ k) (hd : m % k = 0) : Prt b 1 n k m :=
  ⟨h3, h4, by omega, hn2, Nat.gcd_one_left n, hg, by omega, by omega, hm, hd⟩

theorem noprt_one {b n m k : Nat} (hm : IsLen b 1 n 0 m) (hd : ¬ m % k = 0) : NoPrt b 1 n k := by
  intro b' T B k' m' e1 e2 e3 e4 h
  obtain rfl : b = b' := by omega
  obtain rfl : n = B := by omega
  obtain rfl : k = k' := by omega
  obtain rfl : T = 1 := by omega
  obtain rfl := (hm.unique h.len).2
  exact hd h.dvd

/-- What the model's multiple answers for the number k, k from 2 on. -/
theorem mult_one {f : FuncId} {b n m k : Nat} (h3 : 2 ≤ b) (h4 : b ≤ 16) (hn : 2 ≤ n) (hn2 : n ≤ 1000) (hg : Nat.gcd b n = 1) (hm : IsLen b 1 n 0 m) (hk : 2 ≤ k)
    (hno : NoPrt b 1 n k → GivesI f #[.int .i64 b, .agg #[.int .i64 1, .int .i64 n], .int .i64 k] 0 false)
    (hoff : ∀ m, Prt b 1 n k m → ¬ n ∣ prS b 1 n k (m / k) → GivesI f #[.int .i64 b, .agg #[.int .i64 1, .int .i64 n], .int .i64 k] 0 false)
    (hyes : ∀ m q, Prt b 1 n k m → prS b 1 n k (m / k) = n * q → GivesI f #[.int .i64 b, .agg #[.int .i64 1, .int .i64 n], .int .i64 k] q true) :
    ∃ x : Int, GivesI f #[.int .i64 b, .agg #[.int .i64 1, .int .i64 n], .int .i64 k] x (okK b n m k) := by
  by_cases hd : m % k = 0
  · have hP := prt_one h3 h4 hn hn2 hg hm hk hd
    by_cases hq : n ∣ prS b 1 n k (m / k)
    · obtain ⟨q, hq'⟩ := hq
      have : okK b n m k = true := decide_eq_true ⟨hk, hd, ⟨q, hq'⟩⟩
      rw [this]
      exact ⟨q, hyes m q hP hq'⟩
    · have : okK b n m k = false := decide_eq_false fun h => hq h.2.2
      rw [this]
      exact ⟨0, hoff m hP hq⟩
  · have : okK b n m k = false := decide_eq_false fun h => hd h.2.1
    rw [this]
    exact ⟨0, hno (noprt_one hm hd)⟩

set_option maxHeartbeats 1000000 in
theorem specPartAll_no (b n : Int) (h : (prmB b n && decide (n ≤ 300)) = false) : Gives 7 #[.int .i64 b, .int .i64 n] [] false := by
  intro w
  cases hp : prmB b n with
  | false =>
    clear h
    go_enter Tryd.func7, Tryd.ntmps7
    go_wp2_with fail
    refine (l2Prime_any _ _ _).mono ?_
    rintro e w1 ⟨rfl, rfl⟩
    rw [hp]
    go_wp2_with fail
    go_ret2
    exact ⟨_, rfl, Slc.empty (Nat.le_refl _), (Below.refl _ _).alloc (Nat.le_refl _) _⟩
  | true =>
    rw [hp, Bool.true_and] at h
    have hn : 300 < n := by have := of_decide_eq_false h; omega
    clear h
    go_enter Tryd.func7, Tryd.ntmps7
    go_wp2_with fail
    refine (l2Prime_any _ _ _).mono ?_
    rintro e w1 ⟨rfl, rfl⟩
    rw [hp]
    go_wp2_with fail
    go_ret2
    exact ⟨_, rfl, Slc.empty (Nat.le_refl _), (Below.refl _ _).alloc (Nat.le_refl _) _⟩

set_option maxRecDepth 100000 in
set_option maxHeartbeats 2000000 in
theorem specPartAll_yes (b n m : Nat) (h : prmB b n = true) (h3 : 2 ≤ b) (h4 : b ≤ 16) (hn : 2 ≤ n) (hn2 : n ≤ 300) (hm : IsLen b 1 n 0 m) : Gives 7 #[.int .i64 b, .int .i64 n] (allL b n m (n + 1)) true := by
  intro w
  have hg : Nat.gcd b n = 1 := by
    obtain ⟨b', n', e1, e2, _, _, _, _, hg⟩ := prm_nat h
    obtain rfl : b = b' := by omega
    obtain rfl : n = n' := by omega
    exact hg
  have hmul : ∀ k, 2 ≤ k → k ≤ n → ∃ x : Int, GivesI 14 #[.int .i64 b, .agg #[.int .i64 1, .int .i64 n], .int .i64 k] x (okK b n m k) := fun k hk hkn =>
    mult_one h3 h4 hn (by omega) hg hm hk (fun hno => specPartMultiple_no _ _ _ _ hno) (fun m hP hd => specPartMultiple_off b 1 n k m hP hd) (fun m q hP hq => specPartMultiple_yes b 1 n k m q hP hq)
  have HM := Lib.hid hmul
  clear hmul hm hg
  have j1 : decide ((300 : Int) < n) = false := by simp; omega
  go_enter Tryd.func7, Tryd.ntmps7
  go_wp2_with fail
  refine (l2Prime_any _ _ _).mono ?_
  rintro e w1 ⟨rfl, rfl⟩
  rw [h]
  go_wp2_with fail
  obtain ⟨i0, hi, hz0, hz1, hz2⟩ := info_parts infoInt
  have hal2 := allL_two b n m
  go_loopw [6, 7] (fun v x wr => ∃ p : Nat, 2 ≤ p ∧ p ≤ n + 1 ∧ x = .int .i64 p ∧ wr.ownsRow w.heap.size 3 1 v (allL b n m p).length ((allL b n m p).map (Value.int .i64)) ∧ Below w.heap.size w wr) (fun _ x _ => n + 1 - (intOf x).toNat)
  case atStart =>
    refine ⟨2, Nat.le_refl _, by omega, rfl, ?_, (Below.refl _ _).alloc (Nat.le_refl _) _⟩
    rw [hal2]
    exact World.ownsRow_made (base := w.heap.size) (e := 3) (size := 1) w #[] 0 (Nat.le_refl _) (by simp) (by simp)
  case round =>
    obtain ⟨p, hp2, hpn, rfl, hown, hbel⟩ := hrel
    have hll := allL_len b n m p
    clear hal2
    by_cases hlt : p ≤ n
    · have i1 : (p : Int) ≤ n := by omega
      have hfs : allL b n m (p + 1) = if okK b n m p = true then allL b n m p ++ [(p : Int)] else allL b n m p := rfl
      obtain ⟨x, hx⟩ := HM.out p hp2 hlt
      have HX := Lib.hid hx
      clear hx
      cases hok : okK b n m p with
      | false =>
        rw [hok] at HX hfs
        rw [if_neg (by simp)] at hfs
        have HF := Lib.hid hfs; have HW := Lib.hid hown
        clear hfs hown hok
        go_wp2_with fail
        refine (HX.out _).mono ?_
        rintro e w1 ⟨rfl, hb1⟩
        have hW1 := owns_later HW.out hb1
        have hB1 := hbel.trans (hb1.mono hbel.size)
        clear HW hb1 hbel
        go_wp2_with fail
        exact ⟨⟨p + 1, by omega, by omega, rfl, by rw [HF.out]; exact hW1, hB1⟩, by simp [intOf]; omega⟩
      | true =>
        rw [hok] at HX hfs
        rw [if_pos rfl] at hfs
        have HF := Lib.hid hfs; have HW := Lib.hid hown
        clear hfs hown hok
        go_wp2_with fail
        refine (HX.out _).mono ?_
        rintro e w1 ⟨rfl, hb1⟩
        have hW1 := owns_later HW.out hb1
        have hB1 := hbel.trans (hb1.mono hbel.size)
        clear HW hb1 hbel
        go_wp2_with (at_builtin; refine wpList_append_own_at _ rfl _ _ 22 rfl w.heap.size 3 i0 (.int .i64 0) 1 8 Tryd.underlying22 hi hz0 hz1 hz2 rfl (by decide) _ _ _ rfl (hW1.alloc _) ⟨w1.heap.size, 0, none⟩ 1 1 [.int .i64 p] rfl rfl ?c1 ?c2 ?c3 ?c4 ?c5 ?_)
        case c1 => exact cell_one_new _ _ _
        case c2 => simp [Value.oneCell']
        case c3 => unfold maxLen; omega
        case c4 => omega
        case c5 => have := hB1.size; (try simp); omega
        intro v' w2 hown' hgrow _ _
        have hb2 := (hB1.alloc hB1.size (.cells #[.int .i64 p] 3)).grown hgrow (by have := hB1.size; simp; omega) (fun q e => (row_ge3 hW1 e).1)
        clear hW1 hgrow
        go_wp2_with fail
        refine ⟨⟨p + 1, by omega, by omega, rfl, ?_, hb2⟩, by simp [intOf]; omega⟩
        rw [HF.out, List.length_append, List.map_append]
        simpa using hown'
    · obtain rfl : p = n + 1 := by omega
      have i1 : ¬ (((n + 1 : Nat) : Int) ≤ n) := by omega
      go_wp2_with fail
      go_ret2
      exact ⟨_, rfl, Slc.of_owns hown, hbel⟩

end Go.Proofs.YtehpgcgdcoahnacDoor
