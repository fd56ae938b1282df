/-
  Chapter 8, the program's side: values linked one to the next.
-/
import Derived.Test.YtbgpdhnfaacenabRgtI
import Derived.Test.YtbgpdhnfaacenabEq
import Derived.Test.YtbgpdhnfaacenabStepA
import Derived.Test.YtbgpdhnfaacenabLeaf
import Derived.Maps.OwnSet
import Derived.RegionTactic
import Derived.BigRegion
import Derived.BigQuiet
namespace Go.Proofs.Ytbgpdhnfaacenab
open Go.RowKit Go.Maps Go.ChangeMaps

/-- A value on the way lies in block g. -/
def NodeAt (W : World) (g : Nat) (x d : Int) (nx : Option Addr) : Prop := W.heap[g]? = some (.cells #[.int .i64 x, .int .i64 d, .pointer nx] 49 (0, 0))
theorem NodeAt.lt {W : World} {g : Nat} {x d : Int} {nx : Option Addr} (h : NodeAt W g x d nx) : g < W.heap.size := (Array.getElem?_eq_some_iff.1 h).1
theorem NodeAt.c0 {W : World} {g : Nat} {x d : Int} {nx : Option Addr} (h : NodeAt W g x d nx) : W.cell? ⟨g, 0, none⟩ = some (.int .i64 x) := by simp [World.cell?, show W.heap[g]? = _ from h]
theorem NodeAt.c1 {W : World} {g : Nat} {x d : Int} {nx : Option Addr} (h : NodeAt W g x d nx) : W.cell? ⟨g, 1, none⟩ = some (.int .i64 d) := by simp [World.cell?, show W.heap[g]? = _ from h]
theorem NodeAt.c2 {W : World} {g : Nat} {x d : Int} {nx : Option Addr} (h : NodeAt W g x d nx) : W.cell? ⟨g, 2, none⟩ = some (.pointer nx) := by simp [World.cell?, show W.heap[g]? = _ from h]
theorem NodeAt.fr {W : World} {g : Nat} {x d : Int} {nx : Option Addr} (h : NodeAt W g x d nx) (k : Nat) : W.frozen? ⟨g, k, none⟩ = false := by simp [World.frozen?, show W.heap[g]? = _ from h]
theorem NodeAt.later {W W' : World} {g : Nat} {x d : Int} {nx : Option Addr} (h : NodeAt W g x d nx) (hb : Below W.heap.size W W') : NodeAt W' g x d nx := (hb.block g h.lt).trans h
theorem NodeAt.new {W : World} {g : Nat} (hg : g = W.heap.size) (x d : Int) (nx : Option Addr) : NodeAt (W.alloc (.cells #[.int .i64 x, .int .i64 d, .pointer nx] 49)) g x d nx := by subst hg; exact heap_alloc_new W _
theorem NodeAt.alloc {W : World} {g : Nat} {x d : Int} {nx : Option Addr} (h : NodeAt W g x d nx) (o : Obj) : NodeAt (W.alloc o) g x d nx := h.later ((Below.refl _ _).alloc (Nat.le_refl _) _)
theorem NodeAt.kept {W W' : World} {g : Nat} {x d : Int} {nx : Option Addr} {row : Option Nat} (h : NodeAt W g x d nx) (hg : W.grownBy W' row) (hne : some g ≠ row) : NodeAt W' g x d nx := (hg.block g h.lt hne).trans h
theorem NodeAt.link {W : World} {g : Nat} {x d : Int} {nx : Option Addr} (h : NodeAt W g x d nx) (d' : Int) (nx' : Option Addr) : NodeAt ((W.setCell ⟨g, 1, none⟩ (.int .i64 d')).setCell ⟨g, 2, none⟩ (.pointer nx')) g x d' nx' := by
  unfold NodeAt at h
  simp [NodeAt, World.setCell, Array.getElem?_modify, h]
theorem NodeAt.off {W : World} {g g' : Nat} {x d : Int} {nx : Option Addr} (h : NodeAt W g x d nx) (hne : g ≠ g') (u v : Value) : NodeAt ((W.setCell ⟨g', 1, none⟩ u).setCell ⟨g', 2, none⟩ v) g x d nx := by
  unfold NodeAt at h ⊢
  rw [RowKit.Below.heap_setCell _ _ _ _ hne, RowKit.Below.heap_setCell _ _ _ _ hne]
  exact h

/-- The blocks of the values: the map lies behind the first one. -/
def wq (N j : Nat) : Nat := if j = 0 then N else N + 1 + j
theorem wq_inj {N i j : Nat} (h : wq N i = wq N j) : i = j := by unfold wq at h; split at h <;> split at h <;> omega
theorem wq_map (N j : Nat) : wq N j ≠ N + 1 := by unfold wq; split <;> omega
theorem wq_ge (N j : Nat) : N ≤ wq N j := by unfold wq; split <;> omega
theorem wq_succ (N j : Nat) : wq N (j + 1) = N + 2 + j := by unfold wq; rw [if_neg (by omega)]; omega
theorem wq_zero (N : Nat) : wq N 0 = N := rfl

/-- The next place on a way. -/
def nxt (n m j : Nat) : Nat := if j + 1 = n + m then n else j + 1
theorem nxt_lt {n m j : Nat} (hm : 0 < m) (h : j < n + m) : nxt n m j < n + m := by unfold nxt; split <;> omega
theorem nxt_top {b B n m j : Nat} {t : Int} (h : IsRg b B t n m) : rgT b B t (nxt n m j) = rgT b B t (j + 1) := by
  unfold nxt; split
  · rename_i e; rw [e]; exact h.eq.symm
  · rfl

/-- All values of a way, linked. -/
structure Way (b B : Nat) (t : Int) (n m N : Nat) (W : World) : Prop where
  node : ∀ j, j < n + m → NodeAt W (wq N j) (rgT b B t j) (rgD b B (rgT b B t j)) (some ⟨wq N (nxt n m j), 0, none⟩)
theorem Way.later {b B n m N : Nat} {t : Int} {W W' : World} (h : Way b B t n m N W) (hb : Below W.heap.size W W') : Way b B t n m N W' := ⟨fun j hj => (h.node j hj).later hb⟩
theorem Way.drew {b B n m N : Nat} {t : Int} {W : World} (h : Way b B t n m N W) : Way b B t n m N W.drew := h.later (Below.refl _ _).drew

/-- The values 0 to i, i of them linked. -/
structure Half (b B : Nat) (t : Int) (i N : Nat) (W : World) : Prop where
  node : ∀ j, j < i → NodeAt W (wq N j) (rgT b B t j) (rgD b B (rgT b B t j)) (some ⟨wq N (j + 1), 0, none⟩)
  last : NodeAt W (wq N i) (rgT b B t i) 0 none
  size : W.heap.size = N + 2 + i

/-- What the map of values holds, as numbers of blocks. -/
def nodeElem (v : Value) : Option (DataW Unit × List MemPlace) :=
  match v with
  | .pointer none => some (.lit (.int .i64 (-1)), [])
  | .pointer (some ⟨g, 0, none⟩) => some (.lit (.int .i64 g), [])
  | _ => none
theorem nodeElem_none {v : Value} {ps : List MemPlace} (h : nodeElem v = some (.lit (.int .i64 (-1)), ps)) : v = .pointer none := by
  unfold nodeElem at h
  split at h
  · rfl
  · simp at h
  · cases h
theorem nodeElem_some {v : Value} {g : Nat} {ps : List MemPlace} (h : nodeElem v = some (.lit (.int .i64 g), ps)) : v = .pointer (some ⟨g, 0, none⟩) := by
  unfold nodeElem at h
  split at h
  · simp at h
  · rename_i g'
    simp at h
    have e : g' = g := by omega
    rw [e]
  · cases h

def MapN (W : World) (Bm n : Nat) (D : DataW Unit) : Prop := W.ownsMap Try.prog 47 nodeElem Bm n D
theorem lawN : Keyed Try.prog 47 := int_keyed Try.underlying47

/-- The blocks of the first k tops. -/
structure PlR (b B : Nat) (t : Int) (N k : Nat) (D : DataW Unit) : Prop where
  map : IsMap D
  hit : ∀ j, j < k → D.atKey (.int .i64 (rgT b B t j)) (.lit (.int .i64 (-1))) = .lit (.int .i64 (wq N j))
  miss : ∀ x : Int, (∀ j, j < k → rgT b B t j ≠ x) → D.atKey (.int .i64 x) (.lit (.int .i64 (-1))) = .lit (.int .i64 (-1))
theorem PlR.zero (b B : Nat) (t : Int) (N : Nat) : PlR b B t N 0 (.map []) := ⟨isMap_empty, fun j hj => by omega, fun x _ => rfl⟩
theorem PlR.step {b B : Nat} {t : Int} {N k : Nat} {D : DataW Unit} (h : PlR b B t N k D) (hno : ∀ j, j < k → rgT b B t j ≠ rgT b B t k) : PlR b B t N (k + 1) (D.put (.int .i64 (rgT b B t k)) (.lit (.int .i64 (wq N k)))) := by
  have hkl : WideAt.IsKeyLit (.int .i64 (rgT b B t k)) := by simp [WideAt.IsKeyLit]
  refine ⟨h.map.put _ _, fun j hj => ?_, fun x hx => ?_⟩
  · rcases Nat.lt_or_ge j k with hlt | hge
    · have hne : (Lit.int .i64 (rgT b B t j)) ≠ .int .i64 (rgT b B t k) := fun e => hno j hlt (by injection e)
      rw [atKey_put_other hne]
      exact h.hit j hlt
    · obtain rfl : j = k := by omega
      exact atKey_put_same h.map hkl _ _
  · have hne : (Lit.int .i64 x) ≠ .int .i64 (rgT b B t k) := fun e => hx k (by omega) (by injection e with _ e; omega)
    rw [atKey_put_other hne]
    exact h.miss x (fun j hj => hx j (by omega))

/-- 'm[k]' where it is known what lies there. -/
theorem wpList_lookup_own_is {H : Type} {P : Program} (w : World) {ops : Array Oper} {rest : List Oper} {o : Oper} {a : Act} {Q : Exit → Act → World → Prop}
    (hg : o.guard = none) (m x : Operand) (t : TypeId) (hop : o.op = Op.lookup t m x false)
    (k e : TypeId) (K : Keyed P k) (ht : P.underlying t = some (.map k e)) (R : Value → Option (DataW H × List MemPlace)) {z : Value} (hz : (zeroValue e).run P w = .ok z w) (zd : DataW H) (zp : List MemPlace) (hzd : R z = some (zd, zp)) (b n : Nat) (D : DataW H)
    (hm : a.eval m = .map (some b)) (hown : w.ownsMap P k R b n D) (key : Value) (kl : Lit) (hx : a.eval x = key) (hkey : keyOf P k key = some kl)
    (V : Value) (hV : ∀ v ps, R v = some (D.atKey kl zd, ps) → v = V) (hK : wpList P ops Q rest (a.put o.dst V) w) :
    wpList P ops Q (o :: rest) a w := by
  refine wpList_plain hg fun K' hK' => ?_
  obtain ⟨v, ps, hrun, hv⟩ := hown.lookup K ht hz hzd hkey
  have e := hV v ps hv
  subst e
  unfold Oper.wp
  simp [execOp, hop, hm, hx, hrun, Result.andThen]
  exact hK' _ _ hK

/-- An entry of a map written out. -/
theorem wpList_insert_in {H : Type} {P : Program} (w : World) {ops : Array Oper} {rest : List Oper} {o : Oper} {a : Act} {Q : Exit → Act → World → Prop}
    (hg : o.guard = none) (m x v : Operand) (t : TypeId) (hop : o.op = Op.insert t m x v)
    (k e : TypeId) (K : Keyed P k) (ht : P.underlying t = some (.map k e)) (R : Value → Option (DataW H × List MemPlace)) (b n : Nat) (D : DataW H)
    (hm : a.eval m = .map (some b)) (hown : w.ownsMap P k R b n D) (hn : n < maxLen) (key val : Value) (kl : Lit) (hx : a.eval x = key) (hv : a.eval v = val) (hkey : keyOf P k key = some kl)
    (d : DataW H) (ps : List MemPlace) (hval : R val = some (d, ps))
    (hK : ∀ w', w'.ownsMap P k R b (n + 1) (D.put kl d) → w.mapTurned w' b → wpList P ops Q rest (a.put o.dst undef) w') :
    wpList P ops Q (o :: rest) a w := by
  refine wpList_plain hg fun K' hK' => ?_
  obtain ⟨w', hrun, r1, r2⟩ := hown.store K ht hn hkey hval
  unfold Oper.wp
  simp [execOp, hop, hm, hx, hv, hrun, Result.andThen]
  exact hK' _ _ (hK w' r1 r2)

theorem turned_size {w w' : World} {b : Nat} (h : w.mapTurned w' b) : w'.heap.size = w.heap.size := by
  obtain ⟨es, clock, es', clock', hb, rfl⟩ := h
  simp [setBlock]

/-- A new value at the end, the last one linked to it. -/
theorem Half.step {b B : Nat} {t : Int} {i N : Nat} {W W1 W' : World} (h : Half b B t i N W) (h1 : W1.heap = (W.alloc (.cells #[.int .i64 (rgT b B t (i + 1)), .int .i64 0, .pointer none] 49)).heap) (hg : W1.mapTurned W' (N + 1)) :
    NodeAt W' (wq N i) (rgT b B t i) 0 none ∧ Half b B t (i + 1) N ((W'.setCell ⟨wq N i, 1, none⟩ (.int .i64 (rgD b B (rgT b B t i)))).setCell ⟨wq N i, 2, none⟩ (.pointer (some ⟨wq N (i + 1), 0, none⟩))) := by
  have hs := turned_size hg
  have hsz := h.size
  have hg := hg.grown
  have to1 : ∀ {g : Nat} {x d : Int} {nx : Option Addr}, NodeAt (W.alloc (.cells #[.int .i64 (rgT b B t (i + 1)), .int .i64 0, .pointer none] 49)) g x d nx → NodeAt W1 g x d nx := fun h => by
    unfold NodeAt at h ⊢; rw [h1]; exact h
  refine ⟨(to1 (h.last.alloc _)).kept hg (fun e => wq_map N i (by injection e)), fun j hj => ?_, ?_, by simp; rw [hs, h1]; simp; omega⟩
  · rcases Nat.lt_or_ge j i with hlt | hge
    · exact ((to1 ((h.node j hlt).alloc _)).kept hg (fun e => wq_map N j (by injection e))).off (fun e => by have := wq_inj e; omega) _ _
    · obtain rfl : j = i := by omega
      exact ((to1 (h.last.alloc _)).kept hg (fun e => wq_map N j (by injection e))).link _ _
  · exact ((to1 (NodeAt.new (by rw [wq_succ]; omega) _ _ _)).kept hg (fun e => wq_map N (i + 1) (by injection e))).off (fun e => by have := wq_inj e; omega) _ _

theorem Half.drew {b B : Nat} {t : Int} {i N : Nat} {W : World} (h : Half b B t i N W) : Half b B t i N W.drew := ⟨h.node, h.last, h.size⟩

/-- The last value linked to the first one of the round. -/
theorem Half.close {b B : Nat} {t : Int} {n m i N : Nat} {W : World} (h : Half b B t i N W) (hi : i + 1 = n + m) :
    Way b B t n m N ((W.setCell ⟨wq N i, 1, none⟩ (.int .i64 (rgD b B (rgT b B t i)))).setCell ⟨wq N i, 2, none⟩ (.pointer (some ⟨wq N n, 0, none⟩))) := by
  refine ⟨fun j hj => ?_⟩
  rcases Nat.lt_or_ge j i with hlt | hge
  · have e : nxt n m j = j + 1 := by unfold nxt; rw [if_neg (by omega)]
    rw [e]
    exact (h.node j hlt).off (fun e => by have := wq_inj e; omega) _ _
  · obtain rfl : j = i := by omega
    have e : nxt n m j = n := by unfold nxt; rw [if_pos hi]
    rw [e]
    exact h.last.link _ _

theorem tmod_zeroW {x b : Int} : x.tmod b = 0 ↔ x % b = 0 :=
  ⟨fun h => Int.emod_eq_zero_of_dvd (Int.dvd_of_tmod_eq_zero h), fun h => Int.tmod_eq_zero_of_dvd (Int.dvd_of_emod_eq_zero h)⟩
theorem rgN_tdivW {b B : Nat} (h : Rgb b B) (x : Int) : (x - (rgD b B x : Int) * B).tdiv b = (x - (rgD b B x : Int) * B) / b :=
  Int.tdiv_eq_ediv_of_dvd (Int.dvd_of_emod_eq_zero (rgD_spec (by have := h.b2; omega) h.cop x).2)

set_option maxHeartbeats 1000000 in
theorem rightTold_any (b t n : Int) (w : World) :
    Calls Try.prog 31 #[.int .i64 b, .int .i64 t, .int .i64 n] w fun e w' => e = .returned (.bool (vlB b t n)) ∧ w = w' := by
  by_cases h1 : 2 ≤ b ∧ b ≤ 16
  · have h1' : decide (2 ≤ b ∧ b ≤ 16) = true := by simpa using h1
    by_cases h2 : -10000 ≤ t
    · have h2' : decide (t < -10000) = false := by simp; omega
      by_cases h3 : t ≤ 10000
      · have h3' : decide (t > 10000) = false := by simp; omega
        by_cases h4 : 1 ≤ n
        · have h4' : decide (n ≥ 1) = true := by simpa using h4
          by_cases h5 : n ≤ 1000
          · have h5' : decide (n ≤ 1000) = true := by simpa using h5
            have HF : Hid (vlB b t n = (gcdI b n == 1)) := by unfold Hid vlB; rw [h1', decide_eq_true (show -10000 ≤ t ∧ t ≤ 10000 from ⟨h2, h3⟩), decide_eq_true (show 1 ≤ n ∧ n ≤ 1000 from ⟨h4, h5⟩), Bool.true_and, Bool.true_and, Bool.true_and]; rfl
            obtain ⟨a1, a2⟩ := h1
            go_enter Try.func31, Try.ntmps31
            go_wp2_with (first | (go_at_call 39; refine (baseIn_any _ _).mono ?_; rintro e w' ⟨rfl, rfl⟩) | (go_at_call 41; refine (commonDivisor_any _ _ _ (by omega) (by omega) (by omega) (by omega)).mono ?_; rintro e w' ⟨rfl, rfl⟩))
            go_ret
            exact ⟨ret_bool (by rw [HF.out]), rfl⟩
          · have h5' : decide (n ≤ 1000) = false := by simpa using h5
            have HF : Hid (vlB b t n = false) := by unfold Hid vlB; rw [decide_eq_false (show ¬ (1 ≤ n ∧ n ≤ 1000) by omega), Bool.false_and, Bool.and_false, Bool.and_false]
            clear h1
            go_enter Try.func31, Try.ntmps31
            go_wp2_with (go_at_call 39; refine (baseIn_any _ _).mono ?_; rintro e w' ⟨rfl, rfl⟩)
            go_ret
            exact ⟨ret_bool (by rw [HF.out]), rfl⟩
        · have h4' : decide (n ≥ 1) = false := by simp; omega
          have HF : Hid (vlB b t n = false) := by unfold Hid vlB; rw [decide_eq_false (show ¬ (1 ≤ n ∧ n ≤ 1000) by omega), Bool.false_and, Bool.and_false, Bool.and_false]
          clear h1
          go_enter Try.func31, Try.ntmps31
          go_wp2_with (go_at_call 39; refine (baseIn_any _ _).mono ?_; rintro e w' ⟨rfl, rfl⟩)
          go_ret
          exact ⟨ret_bool (by rw [HF.out]), rfl⟩
      · have h3' : decide (t > 10000) = true := by simp; omega
        have HF : Hid (vlB b t n = false) := by unfold Hid vlB; rw [decide_eq_false (show ¬ (-10000 ≤ t ∧ t ≤ 10000) by omega), Bool.false_and, Bool.and_false]
        clear h1
        go_enter Try.func31, Try.ntmps31
        go_wp2_with (go_at_call 39; refine (baseIn_any _ _).mono ?_; rintro e w' ⟨rfl, rfl⟩)
        go_ret
        exact ⟨ret_bool (by rw [HF.out]), rfl⟩
    · have h2' : decide (t < -10000) = true := by simp; omega
      have HF : Hid (vlB b t n = false) := by unfold Hid vlB; rw [decide_eq_false (show ¬ (-10000 ≤ t ∧ t ≤ 10000) by omega), Bool.false_and, Bool.and_false]
      clear h1
      go_enter Try.func31, Try.ntmps31
      go_wp2_with (go_at_call 39; refine (baseIn_any _ _).mono ?_; rintro e w' ⟨rfl, rfl⟩)
      go_ret
      exact ⟨ret_bool (by rw [HF.out]), rfl⟩
  · have h1' : decide (2 ≤ b ∧ b ≤ 16) = false := by simpa using h1
    have HF : Hid (vlB b t n = false) := by unfold Hid vlB; rw [h1', Bool.false_and]
    clear h1
    go_enter Try.func31, Try.ntmps31
    go_wp2_with (go_at_call 39; refine (baseIn_any _ _).mono ?_; rintro e w' ⟨rfl, rfl⟩)
    go_ret
    exact ⟨ret_bool (by rw [HF.out]), rfl⟩

set_option maxHeartbeats 1000000 in
theorem rstep_any (b B : Nat) (x : Int) (w : World) (h : Rgb b B) (hx : -10000 ≤ x) (hx2 : x ≤ 10000) :
    Calls Try.prog 42 #[.int .i64 x, .int .i64 b, .int .i64 B] w fun e w' =>
      e = .returned (.tuple #[.int .i64 (rgD b B x), .int .i64 ((x - (rgD b B x : Int) * B) / b)]) ∧ w' = w.drew := by
  have hb := h.b2; have hb16 := h.b16; have hB := h.B2
  obtain ⟨hd1, hd2⟩ := rgD_spec (by omega) h.cop x
  have HU : Hid (∀ a : Nat, a < b → (x - (a : Int) * B) % b = 0 → rgD b B x = a) := fun a ha e => rgD_unique h.cop ha e
  have HTD := Lib.hid (rgN_tdivW h x)
  obtain ⟨D, hD⟩ : ∃ D, rgD b B x = D := ⟨_, rfl⟩
  rw [hD] at hd1 hd2 HU HTD ⊢
  have HD2 := Lib.hid hd2
  clear h hd2 hD
  go_enter Try.func42, Try.ntmps42
  go_wp2_with fail
  go_loop [8, 9] (fun a' y' => ∃ a : Nat, a ≤ D ∧ a' = .int .i64 a ∧ y' = .int .i64 (x - (a : Int) * B)) (fun a' _ => D - (intOf a').toNat)
  case atStart => exact ⟨0, Nat.zero_le _, rfl, by simp⟩
  case round =>
    obtain ⟨a, ha, rfl, rfl⟩ := hrel
    obtain ⟨p, hp⟩ : ∃ p, a * B = p := ⟨_, rfl⟩
    have hp2 : p ≤ 16000 := by
      have : a * B ≤ 16 * 1000 := Nat.mul_le_mul (by omega) hB
      omega
    have hc : ((a : Int) * (B : Int)) = (p : Int) := by rw [← hp, Int.natCast_mul]
    have hb0 : ¬ b = 0 := by omega
    have hb1 : ¬ (b : Int) = 0 := by omega
    obtain ⟨y, hy⟩ : ∃ y : Int, x - (a : Int) * B = y := ⟨_, rfl⟩
    obtain ⟨r, hr⟩ : ∃ r : Int, y.tmod b = r := ⟨_, rfl⟩
    have hy1 : -30000 ≤ y := by omega
    have hy2 : y ≤ 30000 := by omega
    have hr1 : -16 ≤ r ∧ r ≤ 16 := by
      have h1 := Int.tmod_lt_of_pos y (show (0 : Int) < b by omega)
      have h2 := Int.lt_tmod_of_pos y (show (0 : Int) < b by omega)
      omega
    have w2' : IntKind.i64.wrap r = r := IntWalk.i64_in _ (by omega)
    have HNX : Hid (x - ((a + 1 : Nat) : Int) * B = y - B) := by unfold Hid; rw [← hy, Int.natCast_add, Int.add_mul]; omega
    have HY := Lib.hid hy; have HR := Lib.hid hr; have HP := Lib.hid hp
    rw [hy]
    clear hc hp hy
    by_cases h0 : r = 0
    · have haD : a = D := by
        refine (HU.out a (by omega) ?_).symm
        rw [HY.out]
        exact tmod_zeroW.1 (HR.out.trans h0)
      subst haD
      subst h0
      have hq := HTD.out
      rw [HY.out] at hq
      obtain ⟨z, hz⟩ : ∃ z : Int, y / (b : Int) = z := ⟨_, rfl⟩
      have hz1 : -30000 ≤ z ∧ z ≤ 30000 := by
        rw [← hz]
        have e1 := Int.mul_ediv_add_emod y b
        have e2 := Int.emod_nonneg y hb1
        have e3 := Int.emod_lt_of_pos y (show (0 : Int) < b by omega)
        rw [hz] at e1 ⊢
        refine ⟨?_, ?_⟩
        · rcases Int.le_total 0 z with h | h
          · omega
          · have := Int.mul_nonpos_of_nonneg_of_nonpos (show (0 : Int) ≤ (b : Int) - 2 by omega) h
            rw [Int.sub_mul] at this; omega
        · rcases Int.le_total z 0 with h | h
          · omega
          · have := Int.mul_nonneg (show (0 : Int) ≤ (b : Int) - 2 by omega) h
            rw [Int.sub_mul] at this; omega
      rw [hz] at hq
      have w3' : IntKind.i64.wrap z = z := IntWalk.i64_in _ (by omega)
      have HZ : Hid ((x - (a : Int) * B) / (b : Int) = z) := by unfold Hid; rw [HY.out]; exact hz
      clear hz hr1 hy1 hy2
      go_wp2_with fail
      go_region
      go_wp2_with fail
      go_ret2
      exact ⟨by rw [HZ.out]; rfl, rfl⟩
    · have haD : a < D := by
        refine Nat.lt_of_le_of_ne ha fun e => h0 ?_
        subst e
        rw [← HR.out, ← HY.out]
        exact tmod_zeroW.2 HD2.out
      have h0' : (r != 0) = true := by simpa using h0
      have h0'' : (r == 0) = false := by simpa using h0
      go_wp2_with fail
      go_round
      case rel => exact ⟨a + 1, haD, by simp, by rw [HNX.out]⟩
      case measure => simp [intOf]; omega

end Go.Proofs.Ytbgpdhnfaacenab
