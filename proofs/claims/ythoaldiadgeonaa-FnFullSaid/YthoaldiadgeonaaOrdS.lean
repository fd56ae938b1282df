/-
  Orders, units, rows of ones, products of a base's primes: the model's.
-/
import Derived.Test.YthoaldiadgeonaaGOrd
import Derived.Test.YthoaldiadgeonaaPower
import Derived.Test.YthoaldiadgeonaaGrown
import Derived.Test.YthoaldiadgeonaaGRnd
import Derived.Test.YthoaldiadgeonaaPrm
import Derived.Test.YthoaldiadgeonaaAns
import Derived.Maps.AppendAt
import Derived.Test.YthoaldiadgeonaaTq
namespace Go.Proofs.Ythoaldiadgeonaa
set_option maxRecDepth 100000
open Go.RowKit

set_option maxHeartbeats 1000000 in
theorem l3Order_any (b n m : Nat) (w : World) (hb : b ≤ 1000) (hn : 2 ≤ n) (hn2 : n ≤ 1000) (hm : IsLen b 1 n 0 m) :
    Calls Tryq.prog 31 #[.int .i64 b, .int .i64 n] w fun e w' => e = .returned (.int .i64 m) ∧ w = w' := by
  go_enter Tryq.func31, Try.ntmps31
  go_wp2_with fail
  have h1n : (1 : Int) % (n : Int) = 1 := Int.emod_eq_of_lt (by omega) (by omega)
  have hn0 : ¬ n = 0 := by omega
  have hrst := fun k => rst_lt (b := b) (T := 1) (B := n) (by omega) k
  have HM := Lib.hid hm; clear hm
  have hp := HM.out.pos
  have hml := HM.out.le (show 1 < n by omega)
  go_loop [5, 6] (fun k r => ∃ j : Nat, 1 ≤ j ∧ j ≤ m ∧ k = .int .i64 j ∧ r = .int .i64 (rst b 1 n j)) (fun k _ => m - (intOf k).toNat)
  case atStart => exact ⟨1, Nat.le_refl _, hp, rfl, by rw [show rst b 1 n 1 = 1 * b % n from rfl, Nat.one_mul]; simp⟩
  case round =>
    obtain ⟨j, hj1, hjm, rfl, rfl⟩ := hrel
    have hr := hrst j
    by_cases hlt : j < m
    · have hne : ¬ rst b 1 n j = 1 := fun e => HM.out.ne 0 j hj1 (by omega) e.symm
      have hne' : ¬ (rst b 1 n j : Int) = 1 := by omega
      have m1 : 0 ≤ (rst b 1 n j : Int) * b := Int.mul_nonneg (by omega) (by omega)
      have m2 : (rst b 1 n j : Int) * b ≤ 1000 * 1000 := Int.mul_le_mul (by omega) (by omega) (by omega) (by omega)
      go_wp2_with fail
      refine ⟨⟨j + 1, by omega, hlt, rfl, ?_⟩, by simp [intOf]; omega⟩
      rw [show rst b 1 n (j + 1) = rst b 1 n j * b % n from rfl]; simp
    · obtain rfl : j = m := by omega
      have he : rst b 1 n j = 1 := by have := HM.out.eq; rw [Nat.zero_add] at this; exact this
      rw [he]
      go_wp2_with fail
      go_ret
      exact ⟨rfl, rfl⟩





set_option maxHeartbeats 1000000 in
theorem specOrderOf_no (b n : Int) (h : prmB b n = false) : GivesI 23 #[.int .i64 b, .int .i64 n] 0 false := by
  intro w
  go_enter Tryq.func23, Try.ntmps23
  go_wp2_with fail
  refine (l2Prime_any _ _ _).mono ?_
  rintro e w1 ⟨rfl, rfl⟩
  rw [h]
  go_wp2_with fail
  go_ret2
  exact ⟨rfl, Below.refl _ _⟩

set_option maxHeartbeats 1000000 in
theorem specOrderOf_yes (b n m : Nat) (h : prmB b n = true) (h4 : b ≤ 16) (hn : 2 ≤ n) (hn2 : n ≤ 1000) (hm : IsLen b 1 n 0 m) : GivesI 23 #[.int .i64 b, .int .i64 n] m true := by
  intro w
  go_enter Tryq.func23, Try.ntmps23
  go_wp2_with fail
  refine (l2Prime_any _ _ _).mono ?_
  rintro e w1 ⟨rfl, rfl⟩
  rw [h]
  go_wp2_with fail
  refine (l3Order_any b n m _ (by omega) hn hn2 hm).mono ?_
  rintro e w1 ⟨rfl, rfl⟩
  go_wp2_with fail
  go_ret2
  exact ⟨rfl, Below.refl _ _⟩




set_option maxHeartbeats 1000000 in
theorem l3Prime_any (n : Nat) (w : World) (hn2 : n ≤ 1000) :
    Calls Tryq.prog 37 #[.int .i64 n] w fun e w' => e = .returned (.bool (primeB n)) ∧ w = w' := by
  go_enter Tryq.func37, Try.ntmps37
  go_wp2_with fail
  go_loop [3] (fun x => ∃ k : Nat, 2 ≤ k ∧ k ≤ 33 ∧ x = .int .i64 k ∧ ∀ j, j < k → 2 ≤ j → n % j ≠ 0) (fun x => 40 - (intOf x).toNat)
  case atStart => exact ⟨2, by omega, by omega, rfl, fun j h1 h2 => by omega⟩
  case round =>
    obtain ⟨k, hk2, hk3, rfl, hno⟩ := hrel
    have m0 : k * k ≤ 33 * 33 := Nat.mul_le_mul hk3 hk3
    have m1 : (k : Int) * k ≤ 1089 := by have : ((k * k : Nat) : Int) ≤ 1089 := by omega
                                         simpa using this
    have m2 : 0 ≤ (k : Int) * k := Int.mul_nonneg (by omega) (by omega)
    have hk0 : ¬ k = 0 := by omega
    by_cases hle : k * k ≤ n
    · have hle' : (k : Int) * k ≤ n := by exact_mod_cast hle
      have hkn : k < n := by have : 2 * k ≤ k * k := Nat.mul_le_mul_right k hk2
                             omega
      have hk32 : k ≤ 32 := by
        rcases Nat.lt_or_ge 32 k with h | h
        · have : 33 * 33 ≤ k * k := Nat.mul_le_mul h h
          omega
        · exact h
      by_cases hm : n % k = 0
      · have HP := Lib.hid (not_prime hk2 hkn hm)
        have hm' : (n : Int) % k = 0 := by omega
        clear hno
        go_wp2_with fail
        go_ret
        exact ⟨ret_bool HP.out.symm, rfl⟩
      · have hm' : ¬ (n : Int) % k = 0 := by omega
        have HN := Lib.hid hno
        clear hno
        go_wp2_with fail
        refine ⟨⟨k + 1, by omega, by omega, rfl, fun j h1 h2 => ?_⟩, by simp [intOf]; omega⟩
        rcases Nat.lt_or_ge j k with h | h
        · exact HN.out j h h2
        · obtain rfl : j = k := by omega
          exact hm
    · have hle' : ¬ (k : Int) * k ≤ n := by intro h; exact hle (by exact_mod_cast h)
      have HP : Hid (primeB n = decide ((1 : Int) < n)) := by
        by_cases h2 : 2 ≤ n
        · unfold Hid
          rw [prime_root h2 hno (by omega)]
          exact (decide_eq_true (by omega)).symm
        · unfold Hid primeB
          rw [decide_eq_decide]
          constructor
          · rintro ⟨h, _⟩; omega
          · intro h; omega
      clear hno
      go_wp2_with fail
      go_ret
      exact ⟨ret_bool (by rw [HP.out]), rfl⟩

set_option maxRecDepth 100000 in
set_option maxHeartbeats 1000000 in
theorem specOrderFull_yes (b n : Nat) (h3 : 2 ≤ b) (h4 : b ≤ 16) (hn : 2 ≤ n) (hn2 : n ≤ 1000) : Gives 14 #[.int .i64 b, .int .i64 n] (fulL b (n + 1)) true := by
  intro w
  have j1 : decide (2 ≤ (b : Int) ∧ (b : Int) ≤ 16) = true := by simp; omega
  have j2 : decide (2 ≤ (n : Int) ∧ (n : Int) ≤ 1000) = true := by simp; omega
  go_enter Tryq.func14, Try.ntmps14
  go_wp2_with (go_at_call 29; refine (l6In_any _ _ _ _).mono ?_; rintro e w' ⟨rfl, rfl⟩)
  obtain ⟨i0, hi, hz0, hz1, hz2⟩ := info_parts infoInt
  go_loopw [6, 7] (fun v x wr => ∃ p : Nat, 2 ≤ p ∧ p ≤ n + 1 ∧ x = .int .i64 p ∧ wr.ownsRow w.heap.size 3 1 v (fulL b p).length ((fulL b p).map (Value.int .i64)) ∧ Below w.heap.size w wr) (fun _ x _ => n + 1 - (intOf x).toNat)
  case atStart =>
    refine ⟨2, Nat.le_refl _, by omega, rfl, ?_, (Below.refl _ _).alloc (Nat.le_refl _) _⟩
    exact World.ownsRow_made (base := w.heap.size) (e := 3) (size := 1) w #[] 0 (Nat.le_refl _) (by simp) (by simp)
  case round =>
    obtain ⟨p, hp2, hpn, rfl, hown, hbel⟩ := hrel
    have hll := fulL_len b p
    by_cases hlt : p ≤ n
    · have i1 : (p : Int) ≤ n := by omega
      have hp0 : ¬ p = 0 := by omega
      have hfs : fulL b (p + 1) = if fullB b p = true then fulL b p ++ [(p : Int)] else fulL b p := rfl
      cases hpr : primeB p with
      | false =>
        have hf : fullB b p = false := by unfold fullB; rw [hpr, Bool.false_and]
        rw [hf, if_neg (by simp)] at hfs
        have HF := Lib.hid hfs; have HW := Lib.hid hown
        clear hfs hf hown
        go_wp2_with fail
        refine (l3Prime_any p _ (by omega)).mono ?_
        rintro e w1 ⟨rfl, rfl⟩
        rw [hpr]
        clear hpr
        go_wp2_with fail
        exact ⟨⟨p + 1, by omega, by omega, rfl, by rw [HF.out]; exact HW.out, hbel⟩, by simp [intOf]; omega⟩
      | true =>
        by_cases hbp : b % p = 0
        · have hf : fullB b p = false := by unfold fullB; rw [hpr, Bool.true_and, decide_eq_false (by simpa using hbp), Bool.false_and]
          rw [hf, if_neg (by simp)] at hfs
          have HF := Lib.hid hfs; have HW := Lib.hid hown
          have hbp' : (b : Int) % p = 0 := by omega
          clear hfs hf hown
          go_wp2_with fail
          refine (l3Prime_any p _ (by omega)).mono ?_
          rintro e w1 ⟨rfl, rfl⟩
          rw [hpr]
          clear hpr
          go_wp2_with fail
          exact ⟨⟨p + 1, by omega, by omega, rfl, by rw [HF.out]; exact HW.out, hbel⟩, by simp [intOf]; omega⟩
        · have hbp' : ¬ (b : Int) % p = 0 := by omega
          obtain ⟨m, hm⟩ := ord_some ((prime_base hpr).2 hbp) hp2
          have hf := fullB_ord hpr hbp hm
          have HM := Lib.hid hm; have HW := Lib.hid hown; have HP := Lib.hid hpr
          clear hm hown hpr
          go_wp2_with fail
          refine (l3Prime_any p _ (by omega)).mono ?_
          rintro e w1 ⟨rfl, rfl⟩
          rw [HP.out]
          go_wp2_with fail
          refine (l3Order_any b p m _ (by omega) hp2 (by omega) HM.out).mono ?_
          rintro e w1 ⟨rfl, rfl⟩
          by_cases hmp : m = p - 1
          · rw [decide_eq_true hmp] at hf
            rw [hf, if_pos rfl] at hfs
            have HF := Lib.hid hfs
            have hmp' : ((m : Int) == (p : Int) - 1) = true := by simp; omega
            clear hmp
            clear hfs hf
            go_wp2_with (at_builtin; refine wpList_append_own_at _ rfl _ _ 30 rfl w.heap.size 3 i0 (.int .i64 0) 1 8 Tryq.underlying30 hi hz0 hz1 hz2 rfl (by decide) _ _ _ rfl (HW.out.alloc _) ⟨wr.heap.size, 0, none⟩ 1 1 [.int .i64 p] rfl rfl ?c1 ?c2 ?c3 ?c4 ?c5 ?_)
            case c1 => exact cell_one_new _ _ _
            case c2 => simp [Value.oneCell']
            case c3 => unfold maxLen; omega
            case c4 => omega
            case c5 => have := hbel.size; (try simp); omega
            intro v' w1 hown' hgrow _ _
            have hb1 := (hbel.alloc hbel.size (.cells #[.int .i64 p] 3)).grown hgrow (by have := hbel.size; simp; omega) (fun q e => by
              rcases HW.out.2 with ⟨rfl, _⟩ | ⟨g, cap, cur, rfl, hb, _⟩
              · cases e
              · cases e; exact hb)
            clear HW hgrow
            go_wp2_with fail
            refine ⟨⟨p + 1, by omega, by omega, rfl, ?_, hb1⟩, by simp [intOf]; omega⟩
            rw [HF.out, List.length_append, List.map_append]
            simpa using hown'
          · rw [decide_eq_false hmp] at hf
            rw [hf, if_neg (by simp)] at hfs
            have HF := Lib.hid hfs
            have hmp' : ((m : Int) == (p : Int) - 1) = false := by simp; omega
            clear hfs hf
            go_wp2_with fail
            exact ⟨⟨p + 1, by omega, by omega, rfl, by rw [HF.out]; exact HW.out, hbel⟩, by simp [intOf]; omega⟩
    · obtain rfl : p = n + 1 := by omega
      have i1 : ¬ (((n + 1 : Nat) : Int) ≤ n) := by omega
      go_wp2_with fail
      go_ret2
      exact ⟨_, rfl, Slc.of_owns hown, hbel⟩

set_option maxRecDepth 100000 in
set_option maxHeartbeats 1000000 in
theorem specOrderBases_yes (n k : Nat) (L : List Int) (hn : 2 ≤ n) (hn2 : n ≤ 1000) (hk : 1 ≤ k) (hk2 : k ≤ 1000) (hL : Bas n k 17 L) : Gives 19 #[.int .i64 n, .int .i64 k] L true := by
  intro w
  have j1 : decide (2 ≤ (n : Int) ∧ (n : Int) ≤ 1000) = true := by simp; omega
  have j2 : decide (1 ≤ (k : Int) ∧ (k : Int) ≤ 1000) = true := by simp; omega
  go_enter Tryq.func19, Try.ntmps19
  go_wp2_with (go_at_call 29; refine (l6In_any _ _ _ _).mono ?_; rintro e w' ⟨rfl, rfl⟩)
  obtain ⟨i0, hi, hz0, hz1, hz2⟩ := info_parts infoInt
  have HL := Lib.hid hL; clear hL
  go_loopw [6, 7] (fun v x wr => ∃ (c : Nat) (L0 : List Int), 2 ≤ c ∧ c ≤ 17 ∧ x = .int .i64 c ∧ Bas n k c L0 ∧ wr.ownsRow w.heap.size 3 1 v L0.length (L0.map (Value.int .i64)) ∧ Below w.heap.size w wr) (fun _ x _ => 17 - (intOf x).toNat)
  case atStart =>
    refine ⟨2, [], Nat.le_refl _, by omega, rfl, ⟨[], ⟨[], rfl, .inl ⟨Nat.zero_lt_two, rfl⟩⟩, .inl ⟨Nat.one_lt_two, rfl⟩⟩, ?_, (Below.refl _ _).alloc (Nat.le_refl _) _⟩
    exact World.ownsRow_made (base := w.heap.size) (e := 3) (size := 1) w #[] 0 (Nat.le_refl _) (by simp) (by simp)
  case round =>
    obtain ⟨c, L0, hc2, hc17, rfl, hB, hown, hbel⟩ := hrel
    have hll := hB.len
    by_cases hlt : c ≤ 16
    · have i1 : (c : Int) ≤ 16 := by omega
      have HB := Lib.hid hB; have HW := Lib.hid hown
      clear hB hown
      have LL : Hid (∀ wx : World, Calls Tryq.prog 41 #[.int .i64 c, .agg #[.int .i64 1, .int .i64 n]] wx fun e w' => ∃ j m : Nat, IsLen c 1 n j m ∧ e = .returned (.tuple #[.int .i64 j, .int .i64 m]) ∧ Below wx.heap.size wx w') :=
        fun wx => l1Lengths_any c 1 n wx (by omega) hn2 hc2 hlt
      go_wp2_with fail
      refine (LL.out _).mono ?_
      rintro e w1 ⟨j, m, hm, rfl, hb1⟩
      have hown1 := HW.out.kept (row := none) (grown_below hb1) (by cases u6.ownBlock <;> simp)
      have B1 := hbel.trans (hb1.mono hbel.size)
      have HW1 := Lib.hid hown1
      clear HW LL hown1 hb1 hbel
      by_cases hmk : m = k
      · have HX : Hid (Bas n k (c + 1) (L0 ++ [(c : Int)])) := ⟨L0, HB.out, .inr ⟨hc2, j, m, hm, .inl ⟨hmk, rfl⟩⟩⟩
        have hmk' : ((m : Int) == (k : Int)) = true := by simp; omega
        clear hmk hm
        go_wp2_with (at_builtin; refine wpList_append_own_at _ rfl _ _ 30 rfl w.heap.size 3 i0 (.int .i64 0) 1 8 Tryq.underlying30 hi hz0 hz1 hz2 rfl (by decide) _ _ _ rfl (HW1.out.alloc _) ⟨w1.heap.size, 0, none⟩ 1 1 [.int .i64 c] rfl rfl ?c1 ?c2 ?c3 ?c4 ?c5 ?_)
        case c1 => exact cell_one_new _ _ _
        case c2 => simp [Value.oneCell']
        case c3 => unfold maxLen; omega
        case c4 => omega
        case c5 => have := B1.size; (try simp); omega
        intro v' w2 hown' hgrow _ _
        have hb2 := (B1.alloc B1.size (.cells #[.int .i64 c] 3)).grown hgrow (by have := B1.size; simp; omega) (fun q e => by
          rcases HW1.out.2 with ⟨rfl, _⟩ | ⟨g, cap, cur, rfl, hb, _⟩
          · cases e
          · cases e; exact hb)
        clear HW1 hgrow
        go_wp2_with fail
        refine ⟨⟨c + 1, _, by omega, by omega, rfl, HX.out, ?_, hb2⟩, by simp [intOf]; omega⟩
        rw [List.length_append, List.map_append]
        simpa using hown'
      · have HX : Hid (Bas n k (c + 1) L0) := ⟨L0, HB.out, .inr ⟨hc2, j, m, hm, .inr ⟨hmk, rfl⟩⟩⟩
        have hmk' : ((m : Int) == (k : Int)) = false := by simp; omega
        clear hmk hm
        go_wp2_with fail
        exact ⟨⟨c + 1, L0, by omega, by omega, rfl, HX.out, HW1.out, B1⟩, by simp [intOf]; omega⟩
    · obtain rfl : c = 17 := by omega
      obtain rfl := hB.unique HL.out
      go_wp2_with fail
      go_ret2
      exact ⟨_, rfl, Slc.of_owns hown, hbel⟩

set_option maxHeartbeats 1000000 in
theorem specOrderMost_yes (n m : Nat) (hn : 2 ≤ n) (hn2 : n ≤ 1000) (hm : Mst n n m) : GivesI 9 #[.int .i64 n] m true := by
  intro w
  have j1 : decide (2 ≤ (n : Int) ∧ (n : Int) ≤ 1000) = true := by simp; omega
  go_enter Tryq.func9, Try.ntmps9
  go_wp2_with (go_at_call 29; refine (l6In_any _ _ _ _).mono ?_; rintro e w' ⟨rfl, rfl⟩)
  have GC : ∀ x y : Nat, x ≤ 1000 → y ≤ 1000 → Hid (∀ wx, Calls Tryq.prog 30 #[.int .i64 x, .int .i64 y] wx fun e w' => e = .returned (.int .i64 (Nat.gcd x y)) ∧ wx = w') := fun x y hx hy wx => by
    have := l1Gcd_any x y wx (by omega) (by omega) (by omega) (by omega)
    rw [gcdI_nat] at this
    exact this
  have HM := Lib.hid hm; clear hm
  go_loop [4, 5] (fun y x => ∃ (c m0 : Nat), 1 ≤ c ∧ c ≤ n ∧ x = .int .i64 c ∧ y = .int .i64 m0 ∧ Mst n c m0) (fun _ x => n - (intOf x).toNat)
  case atStart => exact ⟨1, 1, Nat.le_refl _, by omega, rfl, rfl, .inl ⟨by rw [Nat.gcd_zero_left]; omega, rfl⟩⟩
  case round =>
    obtain ⟨c, m0, hc1, hcn, rfl, rfl, hmc⟩ := hrel
    by_cases hlt : c < n
    · have i1 : (c : Int) < n := by omega
      have HC := Lib.hid hmc
      have hd := (hmc.facts hn).1
      have hun := unC_le n n
      have hup : 0 < unC n n := by
        have h1 := unC_all (n := n) 1 (fun x hx => by rw [show x + 1 = 1 by omega]; exact Nat.gcd_one_left n)
        rcases Nat.eq_zero_or_pos (unC n n) with h | h
        · exact absurd h (by
            have : ∀ k, 1 ≤ k → 1 ≤ unC n k := by
              intro k
              induction k with
              | zero => intro h; omega
              | succ k ih =>
                intro _
                show 1 ≤ unC n k + _
                rcases Nat.eq_zero_or_pos k with rfl | h2
                · simp
                · have := ih h2; omega
            have := this n (by omega)
            omega)
        · exact h
      have hm0 := Nat.le_of_dvd hup hd
      have hm0p : 0 < m0 := Nat.pos_of_ne_zero fun e => by rw [e, Nat.zero_dvd] at hd; omega
      have G1 := GC c n (by omega) (by omega)
      clear hmc hd
      go_wp2_with fail
      refine (G1.out _).mono ?_
      rintro e w1 ⟨rfl, rfl⟩
      by_cases hg : Nat.gcd c n = 1
      · obtain ⟨k, hk⟩ := ord_some hg hn
        have hkn := hk.le (show 1 < n by omega)
        have hkp := hk.pos
        have hnext : Mst n (c + 1) (m0 / Nat.gcd m0 k * k) := .inr ⟨hg, m0, k, HC.out, hk, rfl⟩
        have hd2 := Nat.le_of_dvd hup (hnext.facts hn).1
        have HK := Lib.hid hk; have HX := Lib.hid hnext
        have G2 := GC m0 k (by omega) (by omega)
        rw [hg]
        clear hk hnext G1
        go_wp2_with fail
        refine (l3Order_any c n k _ (by omega) hn hn2 HK.out).mono ?_
        rintro e w1 ⟨rfl, rfl⟩
        go_wp2_with fail
        refine (G2.out _).mono ?_
        rintro e w1 ⟨rfl, rfl⟩
        have hgp : 0 < Nat.gcd m0 k := Nat.gcd_pos_of_pos_left _ hm0p
        have hq : m0 / Nat.gcd m0 k ≤ m0 := Nat.div_le_self _ _
        have hq' : ((m0 : Int) / (Nat.gcd m0 k : Nat)) = ((m0 / Nat.gcd m0 k : Nat) : Int) := rfl
        clear G2 HK
        generalize m0 / Nat.gcd m0 k = q at hq hq' hd2 HX
        generalize Nat.gcd m0 k = g at hgp hq' ⊢
        have hg0 : ¬ g = 0 := by omega
        have m1 : 0 ≤ (q : Int) * k := Int.mul_nonneg (by omega) (by omega)
        have m2 : (q : Int) * k ≤ 1000 := by have : ((q * k : Nat) : Int) ≤ 1000 := by omega
                                             simpa using this
        go_wp2_with fail
        refine ⟨⟨c + 1, q * k, by omega, by omega, rfl, by simp, HX.out⟩, by simp [intOf]; omega⟩
      · have hg' : ¬ ((Nat.gcd c n : Nat) : Int) = 1 := by omega
        have HX := Lib.hid (show Mst n (c + 1) m0 from .inl ⟨hg, HC.out⟩)
        clear G1
        generalize Nat.gcd c n = g at hg'
        go_wp2_with fail
        exact ⟨⟨c + 1, m0, by omega, by omega, rfl, rfl, HX.out⟩, by simp [intOf]; omega⟩
    · obtain rfl : c = n := by omega
      obtain rfl := hmc.unique HM.out
      have i1 : ¬ (c : Int) < c := by omega
      go_wp2_with fail
      go_ret2
      exact ⟨rfl, Below.refl _ _⟩

set_option maxHeartbeats 1000000 in
theorem specOrderFull_no (b n : Int) (h : ¬ ((2 ≤ b ∧ b ≤ 16) ∧ (2 ≤ n ∧ n ≤ 1000))) : Gives 14 #[.int .i64 b, .int .i64 n] [] false := by
  intro w
  by_cases h1 : 2 ≤ b ∧ b ≤ 16
  · have j1 : decide (2 ≤ b ∧ b ≤ 16) = true := by simpa using h1
    have j2 : decide (2 ≤ n ∧ n ≤ 1000) = false := by simp; omega
    clear h h1
    go_enter Tryq.func14, Try.ntmps14
    go_wp2_with (go_at_call 29; refine (l6In_any _ _ _ _).mono ?_; rintro e w' ⟨rfl, rfl⟩)
    go_ret2
    exact ⟨_, rfl, Slc.empty (Nat.le_refl _), (Below.refl _ _).alloc (Nat.le_refl _) _⟩
  · have j1 : decide (2 ≤ b ∧ b ≤ 16) = false := by simpa using h1
    clear h h1
    go_enter Tryq.func14, Try.ntmps14
    go_wp2_with (go_at_call 29; refine (l6In_any _ _ _ _).mono ?_; rintro e w' ⟨rfl, rfl⟩)
    go_ret2
    exact ⟨_, rfl, Slc.empty (Nat.le_refl _), (Below.refl _ _).alloc (Nat.le_refl _) _⟩

set_option maxHeartbeats 1000000 in
theorem specOrderBases_no (n k : Int) (h : ¬ ((2 ≤ n ∧ n ≤ 1000) ∧ (1 ≤ k ∧ k ≤ 1000))) : Gives 19 #[.int .i64 n, .int .i64 k] [] false := by
  intro w
  by_cases h1 : 2 ≤ n ∧ n ≤ 1000
  · have j1 : decide (2 ≤ n ∧ n ≤ 1000) = true := by simpa using h1
    have j2 : decide (1 ≤ k ∧ k ≤ 1000) = false := by simp; omega
    clear h h1
    go_enter Tryq.func19, Try.ntmps19
    go_wp2_with (go_at_call 29; refine (l6In_any _ _ _ _).mono ?_; rintro e w' ⟨rfl, rfl⟩)
    go_ret2
    exact ⟨_, rfl, Slc.empty (Nat.le_refl _), (Below.refl _ _).alloc (Nat.le_refl _) _⟩
  · have j1 : decide (2 ≤ n ∧ n ≤ 1000) = false := by simpa using h1
    clear h h1
    go_enter Tryq.func19, Try.ntmps19
    go_wp2_with (go_at_call 29; refine (l6In_any _ _ _ _).mono ?_; rintro e w' ⟨rfl, rfl⟩)
    go_ret2
    exact ⟨_, rfl, Slc.empty (Nat.le_refl _), (Below.refl _ _).alloc (Nat.le_refl _) _⟩

set_option maxHeartbeats 1000000 in
theorem specOrderMost_no (n : Int) (h : ¬ (2 ≤ n ∧ n ≤ 1000)) : GivesI 9 #[.int .i64 n] 0 false := by
  intro w
  have j2 : decide (2 ≤ n ∧ n ≤ 1000) = false := by simpa using h
  clear h
  go_enter Tryq.func9, Try.ntmps9
  go_wp2_with (go_at_call 29; refine (l6In_any _ _ _ _).mono ?_; rintro e w' ⟨rfl, rfl⟩)
  go_ret2
  exact ⟨rfl, Below.refl _ _⟩

end Go.Proofs.Ythoaldiadgeonaa
