/-
  The model's reader past its bytes.
-/
import Derived.Test.YtmpbbflolbakhaaGreatDoorPick
namespace Go.Proofs.YtmpbbflolbakhaaGreatDoor
open Go.RowKit

theorem xor_nonneg (X Y : Int) (h1 : 0 ≤ X) (h2 : X < 4611686018427387904) (h3 : 0 ≤ Y) (h4 : Y < 4611686018427387904) : 0 ≤ bits .xor .i64 X Y := by
  obtain ⟨a, rfl⟩ := Int.eq_ofNat_of_zero_le h1
  obtain ⟨b, rfl⟩ := Int.eq_ofNat_of_zero_le h3
  have hx : a ^^^ b < 2 ^ 62 := Nat.xor_lt_two_pow (by omega) (by omega)
  have e1 : (BitVec.ofInt 64 (a : Int)).toNat = a := by
    rw [BitVec.ofInt_natCast, BitVec.toNat_ofNat]; exact Nat.mod_eq_of_lt (by omega)
  have e2 : (BitVec.ofInt 64 (b : Int)).toNat = b := by
    rw [BitVec.ofInt_natCast, BitVec.toNat_ofNat]; exact Nat.mod_eq_of_lt (by omega)
  show 0 ≤ IntKind.i64.wrap ((BitVec.ofInt 64 (a : Int) ^^^ BitVec.ofInt 64 (b : Int)).toNat : Int)
  rw [BitVec.toNat_xor, e1, e2, IntWalk.i64_in _ (by omega)]
  omega

theorem wrap_small (s : Int) (h0 : 0 ≤ s) (h1 : s < 4611686018427387904) : wrap64 s = s := by
  unfold wrap64
  omega

set_option maxHeartbeats 1000000 in
theorem pick_far (g : Nat) (a : Option Addr) (c : Nat) (p : Nat) (n : Int) (xs : List Int) (w : World) (hsrc : SrcB w a xs) (hbox : Box2 w g 92 (.slice a xs.length c) (.int .i64 p)) (h0 : 0 < xs.length) (hge : xs.length ≤ p) (hp : p ≤ 100000) (hlen : xs.length ≤ 2000) (hn : 1 ≤ n) (hne : ∀ b off, a = some ⟨b, off, none⟩ → b ≠ g) :
    Calls Tryz.prog 49 #[.pointer (some ⟨g, 0, none⟩), .int .i64 n] w (Picked w g (.slice a xs.length c) p n) := by
  obtain ⟨b, off, rfl, hb, hc, hbd⟩ := hsrc h0
  have hbg := hne b off rfl
  have h1 : p % xs.length < xs.length := Nat.mod_lt _ h0
  have h2 : (p * 7 + 3) % xs.length < xs.length := Nat.mod_lt _ h0
  have kc : ∀ q, q < xs.length → (w.setCell ⟨g, 1, none⟩ (.int .i64 (p + 1))).cell? ⟨b, off + q, none⟩ = some (.int .u8 (xs[q]?.getD 0)) := by
    intro q hq
    rw [← hc q hq]
    simp only [World.cell?, Below.heap_setCell _ ⟨g, 1, none⟩ _ b (fun e => hbg e)]
  have kc1 := kc _ h1
  have kc2 := kc _ h2
  obtain ⟨x1, x2⟩ := hbd _ h1
  obtain ⟨y1, y2⟩ := hbd _ h2
  clear hc hbd hsrc kc
  have k0 := hbox.cell0
  have k1 := hbox.cell1
  have f0 := hbox.frozen0
  have f1 := hbox.frozen1
  have B1 := hbox.set1 (.int .i64 (p + 1))
  have k10 := B1.cell0
  have k11 := B1.cell1
  have hn' : decide (n < 1) = false := by simpa using hn
  have hn0 : (n == 0) = false := by simp; omega
  revert hbox h0 hge hlen h1 h2 kc1 kc2 x1 x2 y1 y2 k0 B1 k10
  generalize xs[p % xs.length]?.getD 0 = x
  generalize xs[(p * 7 + 3) % xs.length]?.getD 0 = y
  generalize xs.length = m
  intro hbox h0 hge hlen h1 h2 kc1 kc2 x1 x2 y1 y2 k0 B1 k10
  have hm : ¬ m = 0 := by omega
  have hm0 : ((m : Int) == 0) = false := by simp; omega
  have hltd : decide ((p : Int) < (m : Int)) = false := by simp; omega
  have e1 : (p : Int) % m = ((p % m : Nat) : Int) := (Int.natCast_emod p m).symm
  have e2 : ((p : Int) * 7 + 3) % m = (((p * 7 + 3) % m : Nat) : Int) := by rw [Int.natCast_emod]; simp
  have t1 : (p : Int).tmod m = ((p % m : Nat) : Int) := by rw [Int.tmod_eq_emod_of_nonneg (by omega), e1]
  have t2 : ((p : Int) * 7 + 3).tmod m = (((p * 7 + 3) % m : Nat) : Int) := by rw [Int.tmod_eq_emod_of_nonneg (by omega), e2]
  revert h1 h2 kc1 kc2 e1 e2 t1 t2
  generalize p % m = q1
  generalize (p * 7 + 3) % m = q2
  intro h1 h2 kc1 kc2 e1 e2 t1 t2
  have hq0 : p / m ≤ 100000 := Nat.le_trans (Nat.div_le_self _ _) hp
  go_enter Tryz.func49, Tryz.ntmps49
  go_wp2
  go_region
  go_wp2
  go_ret
  refine ⟨_, ?lo, ?hi, rfl, B1, grown_set1_drew _ _ _⟩
  case lo =>
    have d0 : 0 ≤ (p : Int) / m := Int.ediv_nonneg (by omega) (by omega)
    have d1 : (p : Int) / m ≤ p := Int.ediv_le_self _ (by omega)
    apply Int.tmod_nonneg
    rw [wrap_small ((p : Int) / m) (by omega) (by omega), wrap_small ((p : Int) / m * 53) (by omega) (by omega), wrap_small (x * 131 + y * 1117 + p * 29 + (p : Int) / m * 53) (by omega) (by omega)]
    have t0 : 0 ≤ (x * 131 + y * 1117 + p * 29 + (p : Int) / m * 53).tdiv 64 := Int.tdiv_nonneg (by omega) (by omega)
    have t1 : (x * 131 + y * 1117 + p * 29 + (p : Int) / m * 53).tdiv 64 ≤ x * 131 + y * 1117 + p * 29 + (p : Int) / m * 53 := by
      rw [Int.tdiv_eq_ediv_of_nonneg (by omega)]; exact Int.ediv_le_self _ (by omega)
    rw [wrap_small _ t0 (by omega)]
    exact xor_nonneg _ _ (by omega) (by omega) t0 (by omega)
  case hi => exact Int.tmod_lt_of_pos _ (by omega)

end Go.Proofs.YtmpbbflolbakhaaGreatDoor
