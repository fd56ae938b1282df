/-
  Rings: the model's side: all numbers for which a ring turns.
-/
import Derived.Test.YtagkbpdfpeadbadTurnU
namespace Go.Proofs.Ytagkbpdfpeadbad
open Go.RowKit

theorem owns_lat {n₀ k : Nat} {W W' : World} {T : TypeId} {v : Value} {xs : List Value} (h : W.ownsRow n₀ T 1 v k xs) (hb : Below W.heap.size W W') : W'.ownsRow n₀ T 1 v k xs := by
  refine h.kept (row := none) (grown_below hb) ?_
  cases v.ownBlock <;> simp

theorem owns_ge {w : World} {base k : Nat} {T : TypeId} {v : Value} {xs : List Value} (h : w.ownsRow base T 1 v k xs) {g : Nat} (hg : v.ownBlock = some g) : base ≤ g := by
  rcases h.2 with ⟨rfl, _⟩ | ⟨g', cap, cur, rfl, hb, _⟩
  · cases hg
  · cases hg; exact hb

/-- Among the first i turns. -/
def inK (b : Nat) (d : List Int) (k i : Nat) : Bool := decide (∃ j, j < i ∧ (tim b k d).2 = rotL d j)

theorem inK_succ (b : Nat) (d : List Int) (k i : Nat) : inK b d k (i + 1) = (inK b d k i || decide ((tim b k d).2 = rotL d i)) := by
  unfold inK
  rw [← Bool.decide_or, decide_eq_decide]
  constructor
  · rintro ⟨j, hj, e⟩
    rcases Nat.lt_or_ge j i with h | h
    · exact .inl ⟨j, h, e⟩
    · obtain rfl : j = i := by omega
      exact .inr e
  · rintro (⟨j, hj, e⟩ | e)
    · exact ⟨j, by omega, e⟩
    · exact ⟨i, by omega, e⟩

theorem inB_off {b k : Nat} {d : List Int} (h : (tim b k d).1 ≠ 0) : inB b d k = false := decide_eq_false fun h' => h h'.2.1
theorem inB_on {b k : Nat} {d : List Int} (hk : 1 ≤ k) (h : (tim b k d).1 = 0) : inB b d k = inK b d k d.length := by
  unfold inB inK
  rw [decide_eq_decide]
  exact ⟨fun h' => h'.2.2, fun h' => ⟨hk, h, h'⟩⟩

set_option maxHeartbeats 1000000 in
theorem specTurnAll_no (b : Int) (d : List Int) (hl : d.length ≤ 1048576) (h : rngB b d = false) : GivesD 10 (fun v => #[.int .i64 b, v]) d [] false := by
  intro n₀ v w hv
  have RG := Lib.hid (fun (w1 : World) (h' : Below w.heap.size w w1) => l5Ring_any n₀ b v d w1 (hv.later h') hl)
  rw [h] at RG
  have hA := (Below.refl w.heap.size w).alloc (Nat.le_refl _) (.cells #[] 3)
  go_enter Try.func10, Try.ntmps10
  go_wp2_with (go_at_call 29; refine (RG.out _ hA).mono ?_; rintro e w' ⟨rfl, rfl⟩)
  go_ret2
  exact ⟨_, rfl, Slc.empty (Nat.le_refl _), hA⟩

set_option maxRecDepth 100000 in
set_option maxHeartbeats 2000000 in
theorem specTurnAll_yes (b : Nat) (d : List Int) (h : Rng b d) : GivesD 10 (fun v => #[.int .i64 b, v]) d (turA b d 101) true := by
  intro n₀ v w hv
  have h1 := h.l1; have h2 := h.l2
  obtain ⟨i0, hi, hz0, hz1, hz2⟩ := info_parts infoInt
  obtain ⟨n, hn⟩ : ∃ n, d.length = n := ⟨_, rfl⟩
  have RG := Lib.hid (fun (w1 : World) (h' : Below w.heap.size w w1) => l5Ring_any n₀ b v d w1 (hv.later h') (by omega))
  rw [h.told] at RG
  have TM := Lib.hid (fun (k : Nat) (hk : k ≤ 100) (w1 : World) (h' : Below w.heap.size w w1) => l5Times_any n₀ b k v d w1 (hv.later h') h hk)
  have TD := Lib.hid (fun (j : Nat) (hj : j < n) (w1 : World) (h' : Below w.heap.size w w1) => by
    have := l5Turned_any n₀ v d j w1 (hv.later h') h1 (by omega)
    rw [Nat.mod_eq_of_lt (by omega)] at this
    exact this)
  obtain ⟨a, c0, rfl⟩ := slc_form hv
  rw [hn] at RG TM TD hv h1 h2 ⊢
  have HN := Lib.hid hn
  have hA := (Below.refl w.heap.size w).alloc (Nat.le_refl _) (.cells #[] 3)
  have hO0 : (w.alloc (.cells #[] 3)).ownsRow w.heap.size 3 1 (.slice (some ⟨w.heap.size, 0, none⟩) 0 0) 0 [] := World.ownsRow_made (base := w.heap.size) (e := 3) (size := 1) w #[] 0 (Nat.le_refl _) (by simp) (by simp)
  have ht1 := turA_one b d
  clear h hn hv
  go_enter Try.func10, Try.ntmps10
  go_wp2_with (go_at_call 29; refine (RG.out _ hA).mono ?_; rintro e w' ⟨rfl, rfl⟩)
  go_loopw [6, 7] (fun u x wr => ∃ c : Nat, 1 ≤ c ∧ c ≤ 101 ∧ x = .int .i64 c ∧ wr.ownsRow w.heap.size 3 1 u (turA b d c).length ((turA b d c).map (Value.int .i64)) ∧ Below w.heap.size w wr) (fun _ x _ => 101 - (intOf x).toNat)
  case atStart => exact ⟨1, Nat.le_refl _, by omega, rfl, by rw [ht1]; exact hO0, hA⟩
  case round =>
    clear hO0 hA ht1 RG
    obtain ⟨c, hc1, hc2, rfl, hown, hb⟩ := hrel
    have htl := turA_len b d c
    by_cases hlt : c ≤ 100
    · have j1 : (c : Int) ≤ 100 := by omega
      have hs : turA b d (c + 1) = if inB b d c = true then turA b d c ++ [(c : Int)] else turA b d c := rfl
      have T1 := Lib.hid (TM.out c hlt wr hb)
      have HO := Lib.hid hown
      clear hown
      by_cases h0 : (tim b c d).1 = 0
      · have hin := inB_on hc1 h0
        rw [HN.out] at hin
        rw [decide_eq_true h0] at T1
        have HIN := Lib.hid hin; have HS := Lib.hid hs
        clear hin hs h0
        go_wp2_with fail
        refine T1.out.mono ?_
        rintro e w1 ⟨t, rfl, ht, hb1⟩
        have hB1 := hb.trans (hb1.mono hb.size)
        have hO1 := owns_lat HO.out hb1
        have ht1 := ht.mono hb.size
        clear T1 HO ht hb1 hb
        go_wp2_with fail
        have hw1 := hB1.size
        have htl2 := tim_len b c d
        rw [HN.out] at htl2
        have EQ := Lib.hid (fun (x : Value) (n₁ : Nat) (i : Nat) (w2 : World) (hx : Slc n₁ w2 x (rotL d i)) (ht : Slc w.heap.size w2 t (tim b c d).2) => l2Equal_any w.heap.size n₁ t x (tim b c d).2 (rotL d i) w2 ht hx (by omega) (by rw [rotL_len, HN.out]; omega))
        go_loopw [10, 11] (fun q x wk => ∃ i : Nat, i ≤ n ∧ x = .int .i64 i ∧ q = .bool (inK b d c i) ∧ wk.ownsRow w.heap.size 3 1 u6 (turA b d c).length ((turA b d c).map (Value.int .i64)) ∧ Slc w.heap.size wk t (tim b c d).2 ∧ Below w.heap.size w wk) (fun _ x _ => n - (intOf x).toNat)
        case atStart => exact ⟨0, Nat.zero_le _, rfl, by unfold inK; rw [decide_eq_false (by rintro ⟨j, hj, _⟩; omega)], hO1, ht1, hB1⟩
        case round =>
          clear hO1 ht1 hB1
          obtain ⟨i, hin2, rfl, rfl, hO, ht, hb⟩ := hrel
          by_cases hin3 : i < n
          · have k1 : (i : Int) < (n : Int) := by omega
            have hks := inK_succ b d c i
            cases hk : inK b d c i with
            | true =>
              rw [hk, Bool.true_or] at hks
              have HKS := Lib.hid hks
              clear hks hk
              go_wp2_with fail
              exact ⟨⟨i + 1, hin3, rfl, by rw [HKS.out], hO, ht, hb⟩, by simp [intOf]; omega⟩
            | false =>
              rw [hk, Bool.false_or] at hks
              have HKS := Lib.hid hks
              clear hks hk
              go_wp2_with fail
              refine (TD.out i hin3 wr hb).mono ?_
              rintro e w3 ⟨x, rfl, hx, hb3⟩
              have hB3 := hb.trans (hb3.mono hb.size)
              have hO3 := owns_lat hO hb3
              have ht3 := ht.later hb3
              clear hO ht hb hb3
              go_wp2_with fail
              refine (EQ.out x _ i w3 hx ht3).mono ?_
              rintro e w4 ⟨rfl, hb4⟩
              have hB4 := hB3.trans (hb4.mono hB3.size)
              have hO4 := owns_lat hO3 hb4
              have ht4 := ht3.later hb4
              clear hO3 ht3 hB3 hb4 hx
              go_wp2_with fail
              exact ⟨⟨i + 1, hin3, rfl, by rw [HKS.out], hO4, ht4, hB4⟩, by simp [intOf]; omega⟩
          · obtain rfl : i = n := by omega
            have k1 : ¬ (i : Int) < (i : Int) := by omega
            rw [← HIN.out]
            cases hin : inB b d c with
            | false =>
              have hs := HS.out
              rw [hin, if_neg (by simp)] at hs
              have HS2 := Lib.hid hs
              clear hs hin
              go_wp2_with fail
              exact ⟨⟨c + 1, by omega, by omega, rfl, by rw [HS2.out]; exact hO, hb⟩, by simp [intOf]; omega⟩
            | true =>
              have hs := HS.out
              rw [hin, if_pos rfl] at hs
              have HS2 := Lib.hid hs; have HO := Lib.hid hO
              clear hs hin hO
              go_wp2_with (at_builtin; refine wpList_append_own_at _ rfl _ _ 23 rfl w.heap.size 3 i0 (.int .i64 0) 1 8 Try.underlying23 hi hz0 hz1 hz2 rfl (by decide) _ _ _ rfl (HO.out.alloc _) ⟨wr.heap.size, 0, none⟩ 1 1 [.int .i64 c] rfl rfl (cell_one_new _ _ _) (by simp [Value.oneCell']) ?c3 ?c4 ?c5 ?_)
              case c3 => unfold maxLen; omega
              case c4 => omega
              case c5 => have := hb.size; (try simp); omega
              intro v' w5 hown' hgrow _ _
              have hb5 := (hb.alloc hb.size (.cells #[.int .i64 c] 3)).grown hgrow (by have := hb.size; simp; omega) (fun q e => owns_ge HO.out e)
              clear HO hgrow
              go_wp2_with fail
              refine ⟨⟨c + 1, by omega, by omega, rfl, ?_, hb5⟩, by simp [intOf]; omega⟩
              rw [HS2.out, List.length_append, List.map_append]
              simpa using hown'
      · have hin := inB_off h0
        rw [hin, if_neg (by simp)] at hs
        rw [decide_eq_false h0] at T1
        have HS := Lib.hid hs
        clear hin hs h0
        go_wp2_with fail
        refine T1.out.mono ?_
        rintro e w1 ⟨t, rfl, ht, hb1⟩
        have hB1 := hb.trans (hb1.mono hb.size)
        have hO1 := owns_lat HO.out hb1
        clear T1 HO ht hb1 hb
        go_wp2_with fail
        go_loop [10, 11] (fun q x => q = .bool false ∧ x = .int .i64 0) (fun _ _ => 0)
        case atStart => exact ⟨rfl, rfl⟩
        case round =>
          obtain ⟨rfl, rfl⟩ := hrel
          go_wp2_with fail
          exact ⟨⟨c + 1, by omega, by omega, rfl, by rw [HS.out]; exact hO1, hB1⟩, by simp [intOf]; omega⟩
    · obtain rfl : c = 101 := by omega
      go_wp2_with fail
      go_ret2
      exact ⟨_, rfl, Slc.of_owns hown, hb⟩

end Go.Proofs.Ytagkbpdfpeadbad
