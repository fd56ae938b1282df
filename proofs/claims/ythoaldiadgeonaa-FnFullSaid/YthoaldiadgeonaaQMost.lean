/-
  The greatest order, the program's side over the changed body of orders.
-/
import Derived.Test.YthoaldiadgeonaaQOrd
import Derived.Test.YthoaldiadgeonaaTq
namespace Go.Proofs.Ythoaldiadgeonaa
set_option maxRecDepth 100000
open Go.RowKit Go.Proofs.Ythoaldiadgeonaa.Tq

/-- The units up to p, as numbers. -/
def uN (n : Nat) : Nat → List Nat
  | 0 => []
  | p + 1 => if Nat.gcd (p + 1) n = 1 then uN n p ++ [p + 1] else uN n p
theorem uN_unL (n p : Nat) : unL n p = (uN n p).map (fun x : Nat => (x : Int)) := by
  induction p with
  | zero => rfl
  | succ p ih =>
    show (if Nat.gcd (p + 1) n = 1 then unL n p ++ [((p + 1 : Nat) : Int)] else unL n p) = List.map _ (if Nat.gcd (p + 1) n = 1 then uN n p ++ [p + 1] else uN n p)
    split
    · rw [ih, List.map_append]; rfl
    · exact ih
theorem uN_mem {n p x : Nat} (h : x ∈ uN n p) : 1 ≤ x ∧ x ≤ p ∧ Nat.gcd x n = 1 := by
  induction p with
  | zero => cases h
  | succ p ih =>
    have h : x ∈ (if Nat.gcd (p + 1) n = 1 then uN n p ++ [p + 1] else uN n p) := h
    split at h
    · rename_i hg
      rcases List.mem_append.1 h with h | h
      · have := ih h; exact ⟨this.1, by omega, this.2.2⟩
      · obtain rfl := List.mem_singleton.1 h
        exact ⟨by omega, Nat.le_refl _, hg⟩
    · have := ih h; exact ⟨this.1, by omega, this.2.2⟩

/-- The common multiple of the orders of these. -/
def mF (o : Nat → Nat) (l : List Nat) : Nat := l.foldl (fun m x => m / Nat.gcd m (o x) * o x) 1
theorem mF_snoc (o : Nat → Nat) (l : List Nat) (x : Nat) : mF o (l ++ [x]) = mF o l / Nat.gcd (mF o l) (o x) * o x := by unfold mF; rw [List.foldl_append]; rfl
theorem list_snoc_rec {α : Type} {p : List α → Prop} (k : List α) (nil : p []) (snoc : ∀ k x, p k → p (k ++ [x])) : p k := by
  have : ∀ m (k : List α), k.length = m → p k := fun m => by
    induction m with
    | zero => intro k hk; rw [List.length_eq_zero_iff.1 hk]; exact nil
    | succ m ih =>
      intro k hk
      have hne : k ≠ [] := fun e => by rw [e] at hk; cases hk
      rw [← List.dropLast_concat_getLast hne]
      exact snoc _ _ (ih _ (by rw [List.length_dropLast, hk]; rfl))
  exact this _ k rfl
theorem mF_dvd (o : Nat → Nat) (l k : List Nat) : mF o l ∣ mF o (l ++ k) := by
  refine list_snoc_rec (p := fun k => mF o l ∣ mF o (l ++ k)) k (by rw [List.append_nil]; exact Nat.dvd_refl _) fun k x ih => ?_
  rw [← List.append_assoc, mF_snoc, lcm_form]
  exact Nat.dvd_trans ih (Nat.dvd_lcm_left _ _)
theorem mF_mst {n : Nat} (hn : 2 ≤ n) {o : Nat → Nat} (ho : ∀ x, 1 ≤ x → x ≤ n → Nat.gcd x n = 1 → IsLen x 1 n 0 (o x)) : ∀ p, p ≤ n → Mst n (p + 1) (mF o (uN n p)) := by
  intro p
  induction p with
  | zero => intro _; exact .inl ⟨by rw [Nat.gcd_zero_left]; omega, rfl⟩
  | succ p ih =>
    intro hp
    have h := ih (by omega)
    show (Nat.gcd (p + 1) n ≠ 1 ∧ Mst n (p + 1) _) ∨ _
    have e : uN n (p + 1) = if Nat.gcd (p + 1) n = 1 then uN n p ++ [p + 1] else uN n p := rfl
    by_cases hg : Nat.gcd (p + 1) n = 1
    · rw [e, if_pos hg, mF_snoc]
      exact .inr ⟨hg, _, _, h, ho (p + 1) (by omega) hp hg, rfl⟩
    · rw [e, if_neg hg]
      exact .inl ⟨hg, h⟩
theorem mF_all {n m : Nat} (hn : 2 ≤ n) {o : Nat → Nat} (ho : ∀ x, 1 ≤ x → x ≤ n → Nat.gcd x n = 1 → IsLen x 1 n 0 (o x)) (hm : Mst n n m) : m = mF o (uN n n) ∧ m ∣ unC n n := by
  have h := mF_mst hn ho n (Nat.le_refl _)
  have h1 : Mst n n (mF o (uN n n)) := by
    rcases h with ⟨_, h⟩ | ⟨hg, _⟩
    · exact h
    · rw [Nat.gcd_self] at hg; omega
  exact ⟨hm.unique h1, (Mst.facts hn hm).1⟩
/-- An order, as the changed body has it. -/
theorem ord_of_len {x n m : Nat} (hn : 2 ≤ n) (hn2 : n ≤ 1000) (h : IsLen x 1 n 0 m) : Tq.Ord x n m := by
  have h1 : 1 % n = 1 := Nat.mod_eq_of_lt (by omega)
  refine ⟨h.pos, by have := h.le (show 1 < n by omega); omega, fun j hj hjm e => ?_, ?_⟩
  · rw [h1, ← rst_one hn] at e
    exact h.ne 0 j hj (by omega) e.symm
  · rw [h1, ← rst_one hn]
    have := h.eq
    rw [Nat.zero_add] at this
    exact this

theorem infoAsk : (Tryq.prog.info? 43).map (fun i => (i.zero, i.size, i.bytes)) = some (some (.agg #[.int .i64 0, .int .i64 0]), 2, 16) := by kernel_rfl
theorem cell_two_new (w : World) (x y : Value) (t : TypeId) : ∀ j u, [x, y][j]? = some u → (w.alloc (.cells #[x, y] t)).cell? ((⟨w.heap.size, 0, none⟩ : Addr).add j) = some u := by
  intro j u hj
  have key : ∀ i, (w.alloc (.cells #[x, y] t)).cell? ⟨w.heap.size, i, none⟩ = (#[x, y] : Array Value)[i]? := fun i => by
    unfold World.cell?
    rw [heap_alloc_new w (.cells #[x, y] t)]
    rfl
  match j, hj with
  | 0, hj => rw [show (⟨w.heap.size, 0, none⟩ : Addr).add 0 = ⟨w.heap.size, 0, none⟩ from rfl, key]; simpa using hj
  | 1, hj => rw [show (⟨w.heap.size, 0, none⟩ : Addr).add 1 = ⟨w.heap.size, 1, none⟩ from rfl, key]; simpa using hj

set_option maxHeartbeats 4000000 in
theorem imMost : ImMost := by
  constructor
  · intro n h w
    have j2 : decide (2 ≤ n ∧ n ≤ 1000) = false := by simpa using h
    clear h
    go_enter Tryq.func8, Try.ntmps8
    go_wp2_with (go_at_call 25; refine (bottomIn_any _ _).mono ?_; rintro e w' ⟨rfl, rfl⟩)
    go_ret2
    exact ⟨rfl, Below.refl _ _⟩
  · intro n m hn hn2 hm w
    have j2 : decide (2 ≤ (n : Int) ∧ (n : Int) ≤ 1000) = true := by simp; omega
    have hch : ∀ x, ∃ k, (1 ≤ x → x ≤ n → Nat.gcd x n = 1 → IsLen x 1 n 0 k) := fun x => by
      by_cases hg : Nat.gcd x n = 1
      · obtain ⟨k, hk⟩ := ord_some hg hn
        exact ⟨k, fun _ _ _ => hk⟩
      · exact ⟨0, fun _ _ h => absurd h hg⟩
    obtain ⟨o, ho⟩ : ∃ o : Nat → Nat, ∀ x, 1 ≤ x → x ≤ n → Nat.gcd x n = 1 → IsLen x 1 n 0 (o x) := ⟨fun x => Classical.choose (hch x), fun x => Classical.choose_spec (hch x)⟩
    obtain ⟨hmF, hmd⟩ := mF_all hn ho hm
    have hU := unC_pos (n := n) (by omega)
    have hU2 := unC_le n n
    have hlen : (uN n n).length = unC n n := by have := unL_len n n; rw [uN_unL, List.length_map] at this; exact this
    have HL := Lib.hid (unL_len n n)
    have HO := Lib.hid ho
    have HM := Lib.hid hmF
    have HD := Lib.hid hmd
    clear hch ho hmF hmd hm
    generalize hC : unC n n = C at hU hU2 hlen HL HD
    go_enter Tryq.func8, Try.ntmps8
    go_wp2_with (go_at_call 25; refine (bottomIn_any _ _).mono ?_; rintro e w' ⟨rfl, rfl⟩)
    refine (units_any n _ hn2).mono ?_
    rintro e w1 ⟨v, rfl, hv, hb1⟩
    rcases hv with ⟨rfl, he⟩ | ⟨g, off, cap, cur, rfl, hg, hh, hl, hc, hs, ht⟩
    · have := HL.out
      rw [he] at this
      simp at this
      omega
    have hg1 : w.heap.size < g := by have : (w.alloc (.cells #[] 43)).heap.size ≤ g := hg; simp at this; omega
    have hg2 : g < w1.heap.size := (Array.getElem?_eq_some_iff.1 hh).1
    have hsl : Slc w.heap.size w1 (.slice (some ⟨g, off, none⟩) C cap) (unL n n) := by
      have e := HL.out
      exact .inr ⟨g, off, cap, cur, by rw [e], by omega, hh, hl, hc, hs, ht⟩
    clear ht hs hc hl hh hg
    have hrow : w1.ownsRow w.heap.size 43 2 (.slice (some ⟨w.heap.size, 0, none⟩) 0 0) 0 (askL (fun j => ((uN n n)[j]?.getD 0, n)) 0) := by
      have h0 := World.ownsRow_made (base := w.heap.size) (e := 43) (size := 2) w #[] 0 (Nat.le_refl _) (by simp) (by simp)
      refine ⟨h0.1, h0.2.imp id ?_⟩
      rintro ⟨g', cap', cur', e1, e2, e3, e4⟩
      exact ⟨g', cap', cur', e1, e2, (hb1.block g' (Array.getElem?_eq_some_iff.1 e3).1).trans e3, e4⟩
    have hbw : Below w.heap.size w w1 := bel1 hb1
    have hle1 : w.heap.size < w1.heap.size := by omega
    clear hb1
    rw [HL.out]
    go_wp2_with fail
    obtain ⟨i0, hi, hz0, hz1, hz2⟩ := info_parts infoAsk
    go_loopw [4, 6, 17] (fun v _ x wr => ∃ p : Nat, p ≤ C ∧ x = .int .i64 p ∧ wr.ownsRow w.heap.size 43 2 v p (askL (fun j => ((uN n n)[j]?.getD 0, n)) p) ∧ Hid (∀ q, v.ownBlock = some q → q ≠ g) ∧ Slc w.heap.size wr (.slice (some ⟨g, off, none⟩) C cap) (unL n n) ∧ Hid (w1.heap.size ≤ wr.heap.size) ∧ Below w.heap.size w wr) (fun _ _ x _ => C - (intOf x).toNat)
    case atStart => exact ⟨0, by omega, rfl, hrow, fun q e => by simp [Value.ownBlock] at e; omega, hsl, Nat.le_refl _, hbw⟩
    case round =>
      clear hrow hsl hbw
      obtain ⟨p, hp, rfl, hown, hob, hsl, hsz, hbel⟩ := hrel
      have HW := Lib.hid hown
      have HB := Lib.hid hbel
      clear hown hbel
      by_cases hlt : p < C
      · have hi1 : decide ((p : Int) < (C : Int)) = true := by simp; omega
        have hc := hsl.cell HL.out p hlt
        obtain ⟨u, hu⟩ : ∃ u, (uN n n)[p]? = some u := ⟨(uN n n)[p]'(by omega), List.getElem?_eq_getElem (by omega)⟩
        have hcu : (unL n n)[p]?.getD 0 = (u : Int) := by rw [uN_unL, List.getElem?_map, hu]; rfl
        rw [hcu] at hc
        have HS := Lib.hid hsl
        have hgz : g < wr.heap.size := by have := hsz.out; omega
        have hwsz : w.heap.size ≤ wr.heap.size := HB.out.size
        clear hsl hcu
        go_wp2_with (at_builtin; refine wpList_append_own_at _ rfl _ _ 40 rfl w.heap.size 43 i0 (.agg #[.int .i64 0, .int .i64 0]) 2 16 Tryq.underlying40 hi hz0 hz1 hz2 rfl (by decide) _ _ _ rfl (HW.out.alloc _) ⟨wr.heap.size, 0, none⟩ 1 1 [.int .i64 (u : Int), .int .i64 (n : Int)] rfl rfl ?c1 ?c2 ?c3 ?c4 ?c5 ?_)
        case c2 => simp [Value.oneCell']
        case c3 => unfold maxLen; omega
        case c4 => omega
        case c5 => (try simp); omega
        intro v' w3 hown' hgrow _ hob'
        have hg3 : w3.heap[g]? = wr.heap[g]? := by
          rw [hgrow.block g (by simp; omega) (fun e => hob.out g e.symm rfl)]
          exact Below.heap_alloc _ _ _ hgz
        have hbel3 := (HB.out.alloc HB.out.size (.cells #[.int .i64 (u : Int), .int .i64 (n : Int)] 43)).grown hgrow (by simp; omega) (fun q e => by
          rcases HW.out.2 with ⟨rfl, _⟩ | ⟨g', cap', cur', rfl, hb, _⟩
          · cases e
          · cases e; exact hb)
        have hsl3 : Slc w.heap.size w3 (.slice (some ⟨g, off, none⟩) C cap) (unL n n) := by
          rcases HS.out with ⟨h, _⟩ | ⟨g', off', cap', cur', hv', hg', hh', r'⟩
          · cases h
          · simp only [Value.slice.injEq, Option.some.injEq, Addr.mk.injEq, and_true] at hv'
            obtain ⟨⟨rfl, rfl⟩, _, rfl⟩ := hv'
            exact .inr ⟨g, off, cap, cur', by rw [HL.out], hg', hg3.trans hh', r'⟩
        have hsz3 : w1.heap.size ≤ w3.heap.size := by have := hgrow.size; have := hsz.out; simp at *; omega
        have hob3 : ∀ q, v'.ownBlock = some q → q ≠ g := fun q e => by
          rcases hob' with e2 | e2
          · exact hob.out q (e2 ▸ e)
          · rw [e2] at e
            injection e with e
            omega
        clear HW HS hgrow hg3
        have hown3 : w3.ownsRow w.heap.size 43 2 v' (p + 1) (askL (fun j => ((uN n n)[j]?.getD 0, n)) (p + 1)) := by
          show w3.ownsRow w.heap.size 43 2 v' (p + 1) (askL _ p ++ [.int .i64 ((((uN n n)[p]?.getD 0 : Nat)) : Int), .int .i64 (n : Int)])
          rw [hu]
          exact hown'
        clear hown'
        have HW3 := Lib.hid hown3
        clear hown3
        go_wp2_with fail
        exact ⟨⟨p + 1, by omega, rfl, HW3.out, hob3, hsl3, hsz3, hbel3⟩, by simp [intOf]; omega⟩
      · obtain rfl : p = C := by omega
        have hi1 : decide ((p : Int) < (p : Int)) = false := by simp
        clear hsl hob
        go_wp2_with fail
        have hok : ∀ j, j < p → ((uN n n)[j]?.getD 0, n).1 ≤ 1000 ∧ 1 ≤ ((uN n n)[j]?.getD 0, n).2 ∧ ((uN n n)[j]?.getD 0, n).2 ≤ 15000 ∧ Tq.Ord ((uN n n)[j]?.getD 0, n).1 ((uN n n)[j]?.getD 0, n).2 (o ((uN n n)[j]?.getD 0)) := fun j hj => by
          have e : (uN n n)[j]? = some ((uN n n)[j]'(by omega)) := List.getElem?_eq_getElem (by omega)
          rw [e]
          obtain ⟨h1, h2, h3⟩ := uN_mem (List.getElem_mem (l := uN n n) (n := j) (by omega))
          exact ⟨by show (uN n n)[j]'_ ≤ 1000; omega, by show 1 ≤ n; omega, by show n ≤ 15000; omega, ord_of_len hn hn2 (HO.out _ h1 h2 h3)⟩
        refine (orders_own (ord := fun j => o ((uN n n)[j]?.getD 0)) (by omega) HW.out hok).mono ?_
        rintro e w2 ⟨g2, rfl, hsl2, hb2⟩
        have hbel2 : Below w.heap.size w w2 := HB.out.trans (hb2.mono HB.out.size)
        have hlen2 : ((List.range p).map fun j => ((o ((uN n n)[j]?.getD 0) : Nat) : Int)).length = p := by simp
        clear HW hb2 hok HB
        go_wp2_with fail
        go_loopw [7, 9, 31] (fun m' _ x wr => ∃ q : Nat, q ≤ p ∧ x = .int .i64 q ∧ m' = .int .i64 (mF o ((uN n n).take q) : Nat) ∧ wr = w2) (fun _ _ x _ => p - (intOf x).toNat)
        case atStart => exact ⟨0, by omega, rfl, rfl, rfl⟩
        case round =>
          obtain ⟨q, hq, rfl, rfl, rfl⟩ := hrel
          have hdv : ∀ r, mF o ((uN n n).take r) ∣ m := fun r => by
            rw [HM.out]
            have := mF_dvd o ((uN n n).take r) ((uN n n).drop r)
            rwa [List.take_append_drop] at this
          have hm1 : 0 < m ∧ m ≤ 1000 := by
            have h1 := HD.out
            have h2 := Nat.le_of_dvd (by omega) h1
            have h3 : m ≠ 0 := fun e => by rw [e] at h1; have := Nat.eq_zero_of_zero_dvd h1; omega
            omega
          have hbd : ∀ r, 1 ≤ mF o ((uN n n).take r) ∧ mF o ((uN n n).take r) ≤ 1000 := fun r => by
            have h1 := hdv r
            have h2 := Nat.le_of_dvd hm1.1 h1
            have h3 : mF o ((uN n n).take r) ≠ 0 := fun e => by rw [e] at h1; have := Nat.eq_zero_of_zero_dvd h1; omega
            omega
          by_cases hlt : q < p
          · have hi2 : decide ((q : Int) < (p : Int)) = true := by simp; omega
            have hc := hsl2.cell hlen2 q hlt
            rw [Nat.zero_add] at hc
            obtain ⟨u, hu⟩ : ∃ u, (uN n n)[q]? = some u := ⟨(uN n n)[q]'(by omega), List.getElem?_eq_getElem (by omega)⟩
            have hum : u ∈ uN n n := List.mem_of_getElem? hu
            obtain ⟨hu1, hu2, hu3⟩ := uN_mem hum
            have hk := HO.out u hu1 hu2 hu3
            have hkp := hk.pos
            have hkl := hk.le (show 1 < n by omega)
            have hcv : ((List.range p).map fun j => ((o ((uN n n)[j]?.getD 0) : Nat) : Int))[q]?.getD 0 = (o u : Int) := by
              rw [List.getElem?_map, List.getElem?_range hlt]
              show ((o ((uN n n)[q]?.getD 0) : Nat) : Int) = _
              rw [hu]; rfl
            rw [hcv] at hc
            have hnext : mF o ((uN n n).take (q + 1)) = mF o ((uN n n).take q) / Nat.gcd (mF o ((uN n n).take q)) (o u) * o u := by
              rw [List.take_add_one, hu]
              exact mF_snoc _ _ _
            have hb0 := hbd q
            have hb1 := hbd (q + 1)
            rw [hnext] at hb1
            have HN := Lib.hid hnext
            clear hnext hcv hbd hdv hk hum
            generalize hM : mF o ((uN n n).take q) = M at hb0 hb1 HN ⊢
            generalize hK : o u = k at hc hkp hkl hb1 HN
            have hgp : 0 < Nat.gcd M k := Nat.gcd_pos_of_pos_left _ (by omega)
            obtain ⟨r, hr⟩ : ∃ r, M = Nat.gcd M k * r := Nat.gcd_dvd_left M k
            have hdiv : M / Nat.gcd M k = r := Nat.div_eq_of_eq_mul_right hgp hr
            rw [hdiv] at hb1
            have hrM : r ≤ M := by rw [hr]; exact Nat.le_mul_of_pos_left r hgp
            have GC : Hid (∀ wx, Calls Tryq.prog 28 #[.int .i64 M, .int .i64 k] wx fun e w' => e = .returned (.int .i64 (Nat.gcd M k : Nat)) ∧ wx = w') := fun wx => by
              have := commonDivisor_any (M : Int) k wx (by omega) (by omega) (by omega) (by omega)
              rw [gcdI_nat] at this
              exact this
            have HN2 : Hid (mF o ((uN n n).take (q + 1)) = r * k) := by show _ = _; rw [HN.out, hdiv]
            clear HN hr
            generalize Nat.gcd M k = G at hgp hdiv GC
            have hG0 : ¬ G = 0 := by omega
            have hd2 : ((M : Int) / (G : Int)) = (r : Int) := by rw [← hdiv]; rfl
            have hd3 : Int.tdiv (M : Int) (G : Int) = (r : Int) := by rw [Int.tdiv_eq_ediv_of_nonneg (by omega)]; exact hd2
            have hp1 : (r : Int) * (k : Int) = ((r * k : Nat) : Int) := by simp
            have hp2 : (r : Int) * (k : Int) ≤ 1000 := by rw [hp1]; omega
            have hp3 : 0 ≤ (r : Int) * (k : Int) := by rw [hp1]; omega
            have hw1 : IntKind.i64.wrap (r : Int) = r := IntWalk.i64_in _ (by omega)
            have hw2 : IntKind.i64.wrap ((r : Int) * (k : Int)) = (r : Int) * k := IntWalk.i64_in _ (by omega)
            clear hdiv hM hK hp1
            go_wp2_with fail
            refine (GC.out _).mono ?_
            rintro e w5 ⟨rfl, rfl⟩
            go_wp2_with fail
            refine ⟨⟨q + 1, by omega, rfl, ?_, by first | rfl | trivial⟩, by simp [intOf]; omega⟩
            rw [HN2.out]; simp
          · obtain rfl : q = p := by omega
            have hi2 : decide ((q : Int) < (q : Int)) = false := by simp
            have hfin : mF o ((uN n n).take q) = m := by rw [List.take_of_length_le (by omega)]; exact HM.out.symm
            rw [hfin]
            clear hbd hdv hfin hlen2
            go_wp2_with fail
            go_ret2
            exact ⟨rfl, hbel2⟩

end Go.Proofs.Ythoaldiadgeonaa
