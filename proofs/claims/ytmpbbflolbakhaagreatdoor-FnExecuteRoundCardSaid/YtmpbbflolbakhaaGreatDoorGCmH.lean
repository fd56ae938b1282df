/-
  Chapter 9: one digit's sign, as strconv.FormatInt gives it at base 16.
  Chapter 9: digits beside each other, as the program prints them and as the law writes them.
  Chapter 9: the law's own signs of digits.
  Chapter 9: a rest of any number of numbers, as many as are wanted.
-/
import Derived.Test.YtmpbbflolbakhaaGreatDoorCmdF
import Derived.Lib.AppendIntMem
namespace Go.Proofs.YtmpbbflolbakhaaGreatDoor
open Go.RowKit

/-- The signs of digits. -/
def hexd (d : Nat) : UInt8 := [48, 49, 50, 51, 52, 53, 54, 55, 56, 57, 97, 98, 99, 100, 101, 102].getD d 48

theorem hexd_size : ∀ d : Fin 16, d.val < (⟨#[48, 49, 50, 51, 52, 53, 54, 55, 56, 57, 97, 98, 99, 100, 101, 102, 103, 104, 105, 106, 107, 108, 109, 110, 111, 112, 113, 114, 115, 116, 117, 118, 119, 120, 121, 122]⟩ : ByteArray).size := by decide +kernel
theorem hexd_at : ∀ d : Fin 16, (⟨#[48, 49, 50, 51, 52, 53, 54, 55, 56, 57, 97, 98, 99, 100, 101, 102, 103, 104, 105, 106, 107, 108, 109, 110, 111, 112, 113, 114, 115, 116, 117, 118, 119, 120, 121, 122]⟩ : ByteArray)[d.val]'(hexd_size d) = hexd d.val := by decide +kernel

set_option maxRecDepth 100000 in
set_option maxHeartbeats 1000000 in
theorem isPow16 (w : World) : Calls Tryz.prog 166 #[.int .i64 16] w fun e w' => e = .returned (.bool true) ∧ w' = w := by
  go_enter Tryz.func166, Tryz.ntmps166
  go_wp2_with fail
  go_ret
  exact ⟨rfl, rfl⟩
set_option maxRecDepth 100000 in
set_option maxHeartbeats 1000000 in
theorem trail16 (w : World) (h : w.cell? ⟨6, 15, none⟩ = some (.int .u8 4)) : Calls Tryz.prog 190 #[.int .u64 16] w fun e w' => e = .returned (.int .i64 4) ∧ w' = w := by
  have h1 : IntKind.u64.wrap (-16) = 18446744073709551600 := by decide +kernel
  have h2 : bits BinOp.and IntKind.u64 16 18446744073709551600 = 16 := by decide +kernel
  have h3 : IntKind.u64.wrap 4573923408821661840 = 4573923408821661840 := by decide +kernel
  go_enter Tryz.func190, Tryz.ntmps190
  go_wp2_with fail
  go_ret
  exact ⟨rfl, rfl⟩
theorem trailing16 (w : World) (h : w.cell? ⟨6, 15, none⟩ = some (.int .u8 4)) : Calls Tryz.prog 167 #[.int .u64 16] w fun e w' => e = .returned (.int .i64 4) ∧ w' = w := by
  go_enter Tryz.func167, Tryz.ntmps167
  go_wp2_with fail
  refine (trail16 _ h).mono ?_
  rintro e w' ⟨rfl, rfl⟩
  go_wp2_with fail
  go_ret
  exact ⟨rfl, rfl⟩
set_option maxRecDepth 100000 in
set_option maxHeartbeats 2000000 in
theorem formatBits16 (d : Nat) (hd : d < 16) (w : World) (h : ∀ W, Below w.heap.size w W → W.cell? ⟨6, 15, none⟩ = some (.int .u8 4)) :
    Calls Tryz.prog 133 #[.slice none 0 0, .int .u64 d, .int .i64 16, .bool false, .bool false] w fun e w' => e = .returned (.tuple #[.slice none 0 0, .string ⟨#[hexd d]⟩]) ∧ Below w.heap.size w w' := by
  go_enter Tryz.func133, Tryz.ntmps133
  have hg : ∀ o : Obj, (w.alloc o).cell? ⟨6, 15, none⟩ = some (.int .u8 4) := fun o => h _ ((Below.refl _ _).alloc (Nat.le_refl _) o)
  clear h
  go_wp2_with fail
  refine (isPow16 _).mono ?_
  rintro e w' ⟨rfl, rfl⟩
  go_wp2_with fail
  refine (trailing16 _ (hg _)).mono ?_
  rintro e w' ⟨rfl, rfl⟩
  go_wp2_with fail
  obtain ⟨W1, hW1⟩ : ∃ W1, w.alloc (.cells Tryz.zeroCells169 169) = W1 := ⟨_, rfl⟩
  have hb1 : Below w.heap.size w W1 := by rw [← hW1]; exact (Below.refl _ _).alloc (Nat.le_refl _) _
  have hh1 : W1.heap[w.heap.size]? = some (.cells Tryz.zeroCells169 169 (0, 0)) := by rw [← hW1]; exact heap_alloc_new w _
  rw [hW1]
  have hz : (Tryz.zeroCells169)[64]? = some (.int .u8 0) := by kernel_rfl
  have hc : W1.cell? ⟨w.heap.size, 64, none⟩ = some (.int .u8 0) := by rw [Lib.cell_of_heap hh1]; exact hz
  have hf : W1.frozen? ⟨w.heap.size, 64, none⟩ = false := by simp [World.frozen?, hh1]
  have hlt : ¬ (16 : Int) ≤ d := by omega
  have hcv : ∀ c : UInt8, (convert 22 9 (.slice (some ⟨w.heap.size, 64, none⟩) 1 1)).run Tryz.prog (W1.setCell ⟨w.heap.size, 64, none⟩ (.int .u8 (c.toNat : Int))) = .ok (.string ⟨#[c]⟩) (W1.setCell ⟨w.heap.size, 64, none⟩ (.int .u8 (c.toNat : Int))) := fun c => by
    refine run_convert_bytes_back _ 22 9 5 ⟨w.heap.size, 64, none⟩ 1 [c] Tryz.underlying22 Tryz.underlying5 Tryz.underlying9 (fun j hj => ?_)
    obtain rfl : j = 0 := by simp at hj; omega
    exact World.cell?_setCell_same _ _ _ hc
  have hd' : d < 36 := by omega
  have hdI : (d : Int) < 36 := by omega
  clear hW1 hz
  go_loopw [1, 13] (fun u i wr => u = .int .u64 d ∧ i = .int .i64 65 ∧ wr = W1) (fun _ _ _ => 0)
  case atStart => exact ⟨rfl, rfl, rfl⟩
  case round =>
    obtain ⟨rfl, rfl, rfl⟩ := hrel
    go_wp2_with fail
    go_ret2
    refine ⟨?_, hb1.setCell (Nat.le_refl _) _⟩
    have hx := hexd_at ⟨d, hd⟩
    simp only [hx]
    rfl
set_option maxRecDepth 100000 in
set_option maxHeartbeats 2000000 in
theorem formatInt16 (d : Nat) (hd : d < 16) (w : World) (h : ∀ W, Below w.heap.size w W → W.cell? ⟨6, 15, none⟩ = some (.int .u8 4)) :
    Calls Tryz.prog 139 #[.int .i64 d, .int .i64 16] w fun e w' => e = .returned (.string ⟨#[hexd d]⟩) ∧ Below w.heap.size w w' := by
  have h1 : Hid (Calls Tryz.prog 93 #[.int .i64 d, .int .i64 16] w fun e w' => e = .returned (.string ⟨#[hexd d]⟩) ∧ Below w.heap.size w w') := by
    have hw : IntKind.u64.wrap (d : Int) = d := by unfold IntKind.wrap; simp [IntKind.bits, IntKind.signed]; omega
    have hlt : ¬ (d : Int) < 0 := by omega
    have hF := Lib.hid (formatBits16 d hd w h)
    generalize hexd d = c at hF ⊢
    clear h
    go_enter Tryz.func93, Tryz.ntmps93
    go_wp2_with fail
    refine hF.out.mono ?_
    rintro e w1 ⟨rfl, hb⟩
    go_wp2_with fail
    go_ret
    exact ⟨rfl, hb⟩
  clear h
  generalize hexd d = c at h1 ⊢
  go_enter Tryz.func139, Tryz.ntmps139
  go_wp2_with fail
  refine h1.out.mono ?_
  rintro e w1 ⟨rfl, hb⟩
  go_wp2_with fail
  go_ret
  exact ⟨rfl, hb⟩

end Go.Proofs.YtmpbbflolbakhaaGreatDoor

namespace Go.Proofs.YtmpbbflolbakhaaGreatDoor
open Go.RowKit

theorem slc_at1 {n₀ n : Nat} {W : World} {v : Value} {xs : List Int} (hx : xs.length = n) (h : Slc n₀ W v xs) (h1 : 1 ≤ n) : ∃ g off c, v = .slice (some ⟨g, off, none⟩) n c ∧ g < W.heap.size := by
  rcases h with ⟨_, rfl⟩ | ⟨g, off, c, cur, hv, _, hh, _⟩
  · simp at hx; omega
  · exact ⟨g, off, c, by rw [hv, hx], (Array.getElem?_eq_some_iff.1 hh).1⟩
theorem join_none : ∀ L : List (List UInt8), Lib.join L [] = L.flatten
  | [] => rfl
  | [x] => by simp [Lib.join, List.intercalate]
  | x :: y :: L => by
    have ih := join_none (y :: L)
    simp only [Lib.join, List.intercalate] at ih ⊢
    rw [List.intersperse_cons_cons, List.flatten_cons, List.flatten_cons, ih]
    simp
theorem join_signs (f : Nat → UInt8) (n : Nat) : Lib.join ((List.range n).map fun k => [f k]) [] = (List.range n).map f := by
  rw [join_none]
  induction n with
  | zero => rfl
  | succ n ih => rw [List.range_succ, List.map_append, List.map_append, List.flatten_append, ih]; simp

set_option maxRecDepth 100000 in
set_option maxHeartbeats 1000000 in
theorem listOutput_any (L : List (List UInt8)) (sep : List UInt8) (n g c : Nat) (w : World) (hn : L.length = n) (h1 : 1 ≤ n) (hn2 : n ≤ 1000000) (hl : (Lib.join L sep).length ≤ 100000000) (hg : g < w.heap.size) (hc1 : n ≤ c)
    (hc : ∀ j x, L[j]? = some x → w.cell? ⟨g, j, none⟩ = some (.string ⟨x.toArray⟩)) :
    Calls Tryz.prog 140 #[.slice (some ⟨g, 0, none⟩) n c, .string ⟨sep.toArray⟩, .bool true] w fun e w' => e = .returned (.string ⟨(Lib.join L sep).toArray⟩) ∧ Below w.heap.size w w' := by
  have hm : (L.map fun x => (⟨x.toArray⟩ : ByteArray)).map (fun x => x.data.toList) = L := by
    rw [List.map_map]; exact List.map_id L
  have hj := Tryz.strings_Join g 0 c (L.map fun x => (⟨x.toArray⟩ : ByteArray)) ⟨sep.toArray⟩ w (fun j x h => by
    rw [List.getElem?_map] at h
    obtain ⟨y, hy, rfl⟩ := Option.map_eq_some_iff.1 h
    rw [Nat.zero_add]; exact hc j y hy) hg (by simp; omega) (by simpa [hn] using hc1) (by rw [hm]; show (Lib.join L sep).length ≤ _; omega)
  rw [hm, List.length_map, hn] at hj
  have hj' : Calls Tryz.prog 170 #[.slice (some ⟨g, 0, none⟩) n c, .string ⟨sep.toArray⟩] w fun e w' => e = .returned (.string ⟨(Lib.join L sep).toArray⟩) ∧ Below w.heap.size w w' := hj
  have HJ := Lib.hid hj'
  have hne : ¬ n = 0 := by omega
  generalize Lib.join L sep = J at HJ ⊢
  clear hj hj' hm hl hc hn
  go_enter Tryz.func140, Tryz.ntmps140
  go_wp2_with fail
  refine HJ.out.mono ?_
  rintro e w' ⟨rfl, hb⟩
  go_wp2_with fail
  go_ret
  exact ⟨rfl, hb⟩

set_option maxRecDepth 100000 in
set_option maxHeartbeats 2000000 in
theorem digitsOutput_any (d : Nat → Nat) (n n₀ : Nat) (xs : List Int) (v : Value) (w : World) (hlen : xs.length = n) (h1 : 1 ≤ n) (hn2 : n ≤ 1000) (hv : Slc n₀ w v xs) (hxs : ∀ k, k < n → xs[k]?.getD 0 = (d k : Int)) (hd : ∀ k, k < n → d k < 16)
    (h64 : ∀ W, Below w.heap.size w W → W.cell? ⟨6, 15, none⟩ = some (.int .u8 4)) :
    Calls Tryz.prog 100 #[v, .bool true] w fun e w' => e = .returned (.string ⟨((List.range n).map fun k => hexd (d k)).toArray⟩) ∧ Below w.heap.size w w' := by
  obtain ⟨g, off, c, rfl, hgl⟩ := slc_at1 hlen hv h1
  have hcell : Hid (∀ W k, Below w.heap.size w W → k < n → W.cell? ⟨g, off + k, none⟩ = some (.int .i64 (d k))) := fun W k hb hk => by
    have := Slc.cell hlen (hv.later hb) k hk
    rw [hxs k hk] at this; exact this
  have hI : Hid (∀ W k, Below w.heap.size w W → k < n → Calls Tryz.prog 139 #[.int .i64 (d k), .int .i64 16] W fun e w' => e = .returned (.string ⟨#[hexd (d k)]⟩) ∧ Below W.heap.size W w') := fun W k hb hk =>
    formatInt16 (d k) (hd k hk) W (fun W' hb' => h64 W' (hb.trans (hb'.mono hb.size)))
  have hJ := join_signs (fun k => hexd (d k)) n
  obtain ⟨J, hJJ⟩ : ∃ J, ((List.range n).map fun k => hexd (d k)) = J := ⟨_, rfl⟩
  have hJl : Hid (J.length = n) := by show _ = _; rw [← hJJ]; simp
  rw [hJJ] at hJ ⊢
  replace hJ := Lib.hid hJ
  clear hJJ
  clear h64 hd hxs hv hlen
  obtain ⟨i0, hi, hz0, hz1, hz2⟩ := info_parts infoStr
  go_enter Tryz.func100, Tryz.ntmps100
  go_wp2_with fail
  go_loopw [5, 7, 11] (fun v _ x wr => ∃ q : Nat, q ≤ n ∧ x = .int .i64 q ∧ wr.ownsRow w.heap.size 9 1 v q ((List.range q).map fun k => Value.string ⟨#[hexd (d k)]⟩) ∧ Below w.heap.size w wr) (fun _ _ x _ => n - (intOf x).toNat)
  case atStart =>
    refine ⟨0, by omega, rfl, ?_, (Below.refl _ _).alloc (Nat.le_refl _) _⟩
    exact World.ownsRow_made (base := w.heap.size) (e := 9) (size := 1) w #[] 0 (Nat.le_refl _) (by simp) (by simp)
  case round =>
    obtain ⟨q, hq, rfl, hown, hbel⟩ := hrel
    have HW := Lib.hid hown
    have HB := Lib.hid hbel
    have hwsz := hbel.size
    by_cases hlt : q < n
    · have hc2 := hcell.out _ q hbel hlt
      have hltI : (q : Int) < n := by omega
      have hwq : IntKind.i64.wrap ((q : Int) + 1) = q + 1 := IntWalk.i64_in _ (by omega)
      have hIq := Lib.hid (hI.out wr q hbel hlt)
      have hrs : Hid ((List.range (q + 1)).map (fun k => Value.string ⟨#[hexd (d k)]⟩) = (List.range q).map (fun k => Value.string ⟨#[hexd (d k)]⟩) ++ [Value.string ⟨#[hexd (d q)]⟩]) := by
        show _ = _
        rw [List.range_succ, List.map_append, List.map_singleton]
      clear hown hbel
      generalize hexd (d q) = cq at hIq hrs
      go_wp2_with fail
      refine hIq.out.mono ?_
      rintro e w1 ⟨rfl, hb1⟩
      have hB1 := HB.out.trans (hb1.mono HB.out.size)
      have HW1 := Lib.hid (owns_kept1 HW.out hb1)
      have HB1 := Lib.hid hB1
      have hwsz1 := hB1.size
      clear hB1 hb1 HW HB
      go_wp2_with (at_builtin; refine wpList_append_own_at _ rfl _ _ 45 rfl w.heap.size 9 i0 (.string ⟨#[]⟩) 1 16 Tryz.underlying45 hi hz0 hz1 hz2 rfl (by decide) _ _ _ rfl (HW1.out.alloc _) ⟨w1.heap.size, 0, none⟩ 1 1 [.string ⟨#[cq]⟩] rfl rfl ?c1 ?c2 ?c3 ?c4 ?c5 ?_)
      case c1 => exact cell_one_new _ _ _
      case c2 => simp [Value.oneCell']
      case c3 => unfold maxLen; omega
      case c4 => omega
      case c5 => (try simp); omega
      intro v' w3 hown' hgrow _ _
      have hb3 := (HB1.out.alloc HB1.out.size (.cells #[.string ⟨#[cq]⟩] 9)).grown hgrow (by simp; omega) (fun q e => by
        rcases HW1.out.2 with ⟨rfl, _⟩ | ⟨g', cap', cur', rfl, hb, _⟩
        · cases e
        · cases e; exact hb)
      have HW3 := Lib.hid hown'
      clear hown' hgrow HW1
      go_wp2_with fail
      exact ⟨⟨q + 1, by omega, by simp, by rw [hrs.out]; exact HW3.out, hb3⟩, by simp [intOf]; omega⟩
    · obtain rfl : q = n := by omega
      obtain ⟨g1, c1, rfl⟩ : ∃ g1 c1, u5 = .slice (some ⟨g1, 0, none⟩) q c1 := by
        rcases hown.2 with ⟨_, h⟩ | ⟨g1, c1, _, h, _⟩
        · omega
        · exact ⟨g1, c1, h⟩
      have hcap : q ≤ c1 := by
        rcases hown.2 with ⟨h, _⟩ | ⟨g', cap', cur', h, _, _, h2, _⟩
        · cases h
        · cases h; exact h2
      have hlt1 := (hown.lt g1 rfl).2
      have hO : Hid (∀ W, W = wr → Calls Tryz.prog 140 #[.slice (some ⟨g1, 0, none⟩) q c1, .string ⟨#[]⟩, .bool true] W fun e w' => e = .returned (.string ⟨J.toArray⟩) ∧ Below W.heap.size W w') := fun W e => by
        subst e
        have := listOutput_any ((List.range q).map fun k => [hexd (d k)]) [] q g1 c1 W (by simp) h1 (by omega) (by rw [hJ.out, hJl.out]; omega) hlt1 hcap (fun j x hj => by
          rw [List.getElem?_map] at hj
          obtain ⟨y, hy, rfl⟩ := Option.map_eq_some_iff.1 hj
          have hjq : j < q := by simpa using (List.getElem?_eq_some_iff.1 hy).1
          obtain rfl : y = j := by have := (List.getElem?_eq_some_iff.1 hy).2; simpa using this.symm
          have hc3 := hown.cellAt y (by simpa using hjq)
          simpa [hy] using hc3)
        rw [hJ.out] at this
        exact this
      clear hown hbel
      go_wp2_with fail
      refine (hO.out _ rfl).mono ?_
      rintro e w1 ⟨rfl, hb1⟩
      go_wp2_with fail
      go_ret
      exact ⟨rfl, HB.out.trans (hb1.mono HB.out.size)⟩

end Go.Proofs.YtmpbbflolbakhaaGreatDoor

namespace Go.Proofs.YtmpbbflolbakhaaGreatDoor
open Go.RowKit

theorem hexs_size : ∀ d : Fin 16, d.val < (⟨#[48, 49, 50, 51, 52, 53, 54, 55, 56, 57, 97, 98, 99, 100, 101, 102]⟩ : ByteArray).size := by decide +kernel
theorem hexs_at : ∀ d : Fin 16, (⟨#[48, 49, 50, 51, 52, 53, 54, 55, 56, 57, 97, 98, 99, 100, 101, 102]⟩ : ByteArray)[d.val]'(hexs_size d) = hexd d.val := by decide +kernel

set_option maxRecDepth 100000 in
set_option maxHeartbeats 2000000 in
theorem signs_any (d : Nat → Nat) (n n₀ : Nat) (xs : List Int) (v : Value) (w : World) (hlen : xs.length = n) (h1 : 1 ≤ n) (hn2 : n ≤ 1000) (hv : Slc n₀ w v xs) (hxs : ∀ k, k < n → xs[k]?.getD 0 = (d k : Int)) (hd : ∀ k, k < n → d k < 16) :
    Calls Tryz.prog 11 #[v] w fun e w' => e = .returned (.string ⟨((List.range n).map fun k => hexd (d k)).toArray⟩) ∧ Below w.heap.size w w' := by
  obtain ⟨g, off, c, rfl, hgl⟩ := slc_at1 hlen hv h1
  have hcell : Hid (∀ W k, Below w.heap.size w W → k < n → W.cell? ⟨g, off + k, none⟩ = some (.int .i64 (d k))) := fun W k hb hk => by
    have := Slc.cell hlen (hv.later hb) k hk
    rw [hxs k hk] at this; exact this
  have HD := Lib.hid hd
  clear hd hxs hv hlen
  go_enter Tryz.func11, Tryz.ntmps11
  go_wp2_with fail
  go_loopw [3, 4] (fun v x wr => ∃ q : Nat, q ≤ n ∧ x = .int .i64 q ∧ v = .string ⟨((List.range q).map fun k => hexd (d k)).toArray⟩ ∧ Below w.heap.size w wr) (fun _ x _ => n - (intOf x).toNat)
  case atStart => exact ⟨0, by omega, rfl, rfl, Below.refl _ _⟩
  case round =>
    obtain ⟨q, hq, rfl, rfl, hbel⟩ := hrel
    have HB := Lib.hid hbel
    have hwsz := hbel.size
    by_cases hlt : q < n
    · have hc2 := hcell.out _ q hbel hlt
      have hd16 := HD.out q hlt
      have hltI : (q : Int) < n := by omega
      have hwq : IntKind.i64.wrap ((q : Int) + 1) = q + 1 := IntWalk.i64_in _ (by omega)
      have hx := hexs_at ⟨d q, hd16⟩
      have hrs : Hid ((List.range (q + 1)).map (fun k => hexd (d k)) = (List.range q).map (fun k => hexd (d k)) ++ [hexd (d q)]) := by
        show _ = _
        rw [List.range_succ, List.map_append, List.map_singleton]
      have hll : ((List.range q).map fun k => hexd (d k)).length = q := by simp
      obtain ⟨A, hA⟩ : ∃ A, ((List.range q).map fun k => hexd (d k)) = A := ⟨_, rfl⟩
      obtain ⟨A1, hA1⟩ : ∃ A1, ((List.range (q + 1)).map fun k => hexd (d k)) = A1 := ⟨_, rfl⟩
      rw [hA] at hrs hll ⊢
      rw [hA1] at hrs
      have HA1 := Lib.hid hA1
      generalize hexd (d q) = cq at hx hrs
      have hadd : ∀ W, (Op.stringOp .add ⟨A.toArray⟩ ⟨#[cq]⟩).run Tryz.prog W = .ok (.string ⟨A1.toArray⟩) W := fun W => by rw [hrs.out]; exact str_add A [cq] (by omega) (by simp) W
      have hby := fun W => byte_str W cq 5
      simp only at hx
      clear hA hA1 hbel
      go_wp2_with fail
      exact ⟨⟨q + 1, by omega, by simp, by rw [HA1.out], HB.out.alloc HB.out.size _⟩, by simp [intOf]; omega⟩
    · obtain rfl : q = n := by omega
      clear hbel
      go_wp2_with fail
      go_ret
      exact ⟨rfl, HB.out⟩

end Go.Proofs.YtmpbbflolbakhaaGreatDoor

namespace Go.Proofs.YtmpbbflolbakhaaGreatDoor
open Go.RowKit

/-- Texts with a space between. -/
def restOf : List (List UInt8) → List UInt8
  | [] => []
  | [t] => t
  | t :: u :: r => t ++ 32 :: restOf (u :: r)
theorem index_space (l r : List UInt8) (h : (32 : UInt8) ∉ l) : Lib.index (l ++ 32 :: r) [32] = l.length := by
  refine Lib.index_first (i := l.length) (by simp) (by simp [Lib.occAt, List.isPrefixOf]) (fun j hj => ?_)
  unfold Lib.occAt
  rw [List.drop_append_of_le_length (by omega)]
  have : (32 : UInt8) ≠ l[j] := fun e => h (e ▸ List.getElem_mem hj)
  rw [show List.drop j l = l[j] :: List.drop (j + 1) l from List.drop_eq_getElem_cons hj]
  show ((32 : UInt8) == l[j] && _) = false
  rw [beq_eq_false_iff_ne.2 this]; rfl
theorem split_rest : ∀ (t : List UInt8) (r : List (List UInt8)), (∀ l ∈ t :: r, (32 : UInt8) ∉ l) → Lib.splitK [32] 0 r.length (restOf (t :: r)) = t :: r
  | t, [], _ => rfl
  | t, u :: r, h => by
    have hi := index_space t (restOf (u :: r)) (h t (by simp))
    have ih := split_rest u r (fun x hx => h x (by simp at hx ⊢; exact .inr hx))
    rw [restOf, List.length_cons, Lib.splitK, hi, if_neg (fun e => by have := beq_iff_eq.1 e; omega)]
    have e1 : ((t.length : Int).toNat + 0) = t.length := by omega
    have e2 : (t ++ 32 :: restOf (u :: r)).drop ((t.length : Int).toNat + [(32 : UInt8)].length) = restOf (u :: r) := by
      rw [show (t.length : Int).toNat + [(32 : UInt8)].length = t.length + 1 by simp, List.drop_append]
      simp
    rw [e1, e2, ih, List.take_left]
theorem count_rest : ∀ (t : List UInt8) (r : List (List UInt8)), (∀ l ∈ t :: r, (32 : UInt8) ∉ l) → Lib.count (restOf (t :: r)) [32] = r.length
  | t, [], h => by rw [Lib.count_one]; exact List.count_eq_zero.2 (h t (by simp))
  | t, u :: r, h => by
    have ih := count_rest u r (fun x hx => h x (by simp at hx ⊢; exact .inr hx))
    rw [Lib.count_one] at ih ⊢
    rw [restOf, List.count_append, List.count_cons_self, List.count_eq_zero.2 (h t (by simp)), ih, List.length_cons]
    omega
theorem splitRest_any (t : List UInt8) (r : List (List UInt8)) (h : ∀ l ∈ t :: r, (32 : UInt8) ∉ l) (hl : (restOf (t :: r)).length ≤ 1000) (m : Int) (W : World) (hm : W.cell? ⟨0, 0, none⟩ = some (.int .i64 m)) :
    Calls Tryz.prog 20 #[.string ⟨(restOf (t :: r)).toArray⟩, .string ⟨#[32]⟩] W fun e w' => e = .returned (.slice (some ⟨W.heap.size, 0, none⟩) (r.length + 1) (r.length + 1)) ∧ w' = W.alloc (.cells ((t :: r).map fun l : List UInt8 => Value.string ⟨l.toArray⟩).toArray 9) := by
  have hc : Lib.countB ⟨(restOf (t :: r)).toArray⟩ ⟨#[32]⟩ = r.length := count_rest t r h
  have hd := Lib.splitB_data ⟨#[32]⟩ 0 r.length ⟨(restOf (t :: r)).toArray⟩
  have hd' : (Lib.splitB ⟨#[32]⟩ 0 r.length ⟨(restOf (t :: r)).toArray⟩).map (·.data.toList) = t :: r := hd.trans (split_rest t r h)
  have hs := Tryz.strings_Split ⟨(restOf (t :: r)).toArray⟩ ⟨#[32]⟩ m W (by show (restOf (t :: r)).toArray.size < _; simp; omega) hm (by show 1 ≤ (#[32] : Array UInt8).size; simp)
  have e : (Lib.splitB ⟨#[32]⟩ 0 r.length ⟨(restOf (t :: r)).toArray⟩).map Value.string = (t :: r).map fun l : List UInt8 => Value.string ⟨l.toArray⟩ := by
    have e1 : ((Lib.splitB ⟨#[32]⟩ 0 r.length ⟨(restOf (t :: r)).toArray⟩).map (·.data.toList)).map (fun l : List UInt8 => Value.string ⟨l.toArray⟩) = (Lib.splitB ⟨#[32]⟩ 0 r.length ⟨(restOf (t :: r)).toArray⟩).map Value.string := by rw [List.map_map]; rfl
    rw [← e1, hd']
  rw [hc, e] at hs
  exact hs

theorem make_n (n : Nat) (hn : n ≤ 1000) (w : World) : (Instr.makeSlice 27 (.int .i64 n) (.int .i64 n)).run Tryz.prog w = .ok (.slice (some ⟨w.heap.size, 0, none⟩) n n) (w.alloc (.cells (madeCells #[.int .i64 0] n) 3)) := by
  obtain ⟨i0, hi, hz0, hz1, hz2⟩ := info_parts infoInt
  have hr := run_make (P := Tryz.prog) w 27 3 i0 (.int .i64 0) Tryz.underlying27 hi hz0 .i64 .i64 n n (by omega) (by omega) (by rw [hz2]; omega) (by omega)
  rw [hz1] at hr
  simp only [Nat.mul_one, Int.toNat_natCast] at hr
  exact hr
/-- Numbers in a row of their own. -/
def Nums (n : Nat) (z : Nat → Int) (g : Value) (w : World) : Prop := ∃ h C, g = .slice (some ⟨h, 0, none⟩) n n ∧ w.heap[h]? = some (.cells C 3 (0, 0)) ∧ C.size = n ∧ ∀ i, i < n → C[i]? = some (.int .i64 (z i))
set_option maxRecDepth 100000 in
set_option maxHeartbeats 4000000 in
theorem restNumbers_any (t : List UInt8) (r : List (List UInt8)) (z : Nat → Int) (n : Nat) (m : Int) (w : World) (hn : r.length + 1 = n) (hn2 : n ≤ 100) (hsp : ∀ l ∈ t :: r, (32 : UInt8) ∉ l) (hl : (restOf (t :: r)).length ≤ 1000) (hm : w.cell? ⟨0, 0, none⟩ = some (.int .i64 m))
    (HN : ∀ i l W, (t :: r)[i]? = some l → Calls Tryz.prog 92 #[.string ⟨l.toArray⟩] W fun e w' => e = .returned (.int .i64 (z i)) ∧ Below W.heap.size W w') :
    Calls Tryz.prog 47 #[.string ⟨(restOf (t :: r)).toArray⟩, .int .i64 n] w fun e w' => ∃ g, e = .returned g ∧ Nums n z g w' ∧ Below w.heap.size w w' := by
  have hS := Lib.hid (fun W (hW : W.cell? ⟨0, 0, none⟩ = some (.int .i64 m)) => splitRest_any t r hsp hl m W hW)
  rw [hn] at hS
  have hLc : Hid (∀ i, i < n → ∃ l, (t :: r)[i]? = some l ∧ ((t :: r).map fun l : List UInt8 => Value.string ⟨l.toArray⟩).toArray[i]? = some (.string ⟨l.toArray⟩)) := fun i hi => by
    have hlt : i < (t :: r).length := by rw [List.length_cons]; omega
    exact ⟨_, List.getElem?_eq_getElem hlt, by rw [List.getElem?_toArray, List.getElem?_map, List.getElem?_eq_getElem hlt]; rfl⟩
  have HN' := Lib.hid HN
  clear HN hl hsp hn
  generalize restOf (t :: r) = R at hS ⊢
  generalize ((t :: r).map fun l : List UInt8 => Value.string ⟨l.toArray⟩).toArray = LC at hS hLc
  generalize t :: r = TR at hLc HN'
  have hmk := make_n n (by omega)
  go_enter Tryz.func47, Tryz.ntmps47
  go_wp2_with (go_at_call 20; refine (hS.out _ hm).mono ?_; rintro e w' ⟨rfl, rfl⟩)
  clear hS hmk
  have hC0 : (madeCells #[.int .i64 0] n).size = n ∧ ∀ i, i < n → (madeCells #[Value.int .i64 0] n)[i]? = some (.int .i64 0) := by
    have e : madeCells #[Value.int .i64 0] n = Array.replicate n (.int .i64 0) := by
      apply Array.toList_inj.1
      rw [toList_madeCells_one, Array.toList_replicate]
    rw [e]
    exact ⟨by simp, fun i hi => by simp [hi]⟩
  obtain ⟨W0, hW0⟩ : ∃ W0, (w.alloc (.cells LC 9)).alloc (.cells (madeCells #[.int .i64 0] n) 3) = W0 := ⟨_, rfl⟩
  have hz0 : W0.heap.size = w.heap.size + 2 := by rw [← hW0]; simp
  have hb0 : Below w.heap.size w W0 := by rw [← hW0]; exact ((Below.refl _ _).alloc (Nat.le_refl _) _).alloc (by simp) _
  have hx0 : W0.heap[w.heap.size]? = some (.cells LC 9 (0, 0)) := by
    rw [← hW0, Below.heap_alloc _ _ w.heap.size (by simp)]
    exact heap_alloc_new w _
  have hy0 : W0.heap[w.heap.size + 1]? = some (.cells (madeCells #[.int .i64 0] n) 3 (0, 0)) := by
    rw [← hW0]
    have := heap_alloc_new (w.alloc (.cells LC 9)) (.cells (madeCells #[.int .i64 0] n) 3)
    simpa using this
  rw [hW0]
  clear hW0
  go_loopw [7, 8, 20] (fun _ _ x wr => ∃ q : Nat, q ≤ n ∧ x = .int .i64 q ∧ wr.heap.size ≥ w.heap.size + 2 ∧ Hid (wr.heap[w.heap.size]? = some (.cells LC 9 (0, 0))) ∧ Hid (∃ C, wr.heap[w.heap.size + 1]? = some (.cells C 3 (0, 0)) ∧ C.size = n ∧ ∀ i, i < n → C[i]? = some (.int .i64 (if i < q then z i else 0))) ∧ Hid (Below w.heap.size w wr)) (fun _ _ x _ => n - (intOf x).toNat)
  case atStart => exact ⟨0, by omega, rfl, by omega, hx0, ⟨_, hy0, hC0.1, fun i hi => by rw [hC0.2 i hi]; rfl⟩, hb0⟩
  case round =>
    obtain ⟨q, hq, rfl, hsz, hx, hy, hb⟩ := hrel
    by_cases hlt : q < n
    · have hltI : (q : Int) < n := by omega
      have hwq : IntKind.i64.wrap ((q : Int) + 1) = q + 1 := IntWalk.i64_in _ (by omega)
      obtain ⟨l, hl1, hl2⟩ := hLc.out q hlt
      have hcl : wr.cell? ⟨w.heap.size, q, none⟩ = some (.string ⟨l.toArray⟩) := by rw [Lib.cell_of_heap hx.out]; exact hl2
      have hNq := Lib.hid (HN'.out q l wr hl1)
      clear hx0 hy0 hb0 hz0 hl1 hl2 hC0
      go_wp2_with fail
      refine hNq.out.mono ?_
      rintro e w1 ⟨rfl, hb1⟩
      obtain ⟨C, hy1, hC1, hC2⟩ := hy.out
      have hy2 : w1.heap[w.heap.size + 1]? = some (.cells C 3 (0, 0)) := (hb1.block _ (by omega)).trans hy1
      have hc1 : w1.cell? ⟨w.heap.size + 1, q, none⟩ = some (.int .i64 0) := by rw [Lib.cell_of_heap hy2, hC2 q hlt, if_neg (by omega)]
      have hf1 : w1.frozen? ⟨w.heap.size + 1, q, none⟩ = false := Lib.frozen_of_heap hy2 q
      have hx1 := Lib.hid ((hb1.block w.heap.size (by omega)).trans hx.out)
      have hB1 := hb.out.trans (hb1.mono hb.out.size)
      have hs1 := hb1.size
      have HY := Lib.hid hy2
      have HB := Lib.hid hB1
      have HC1 := Lib.hid hC1
      have HC2 := Lib.hid hC2
      clear hy1 hy2 hB1 hb1 hb hy hx hC1 hC2 hNq hcl
      go_wp2_with fail
      refine ⟨⟨q + 1, by omega, by simp, by simp; omega, ?_, ⟨C.setIfInBounds q (.int .i64 (z q)), ?_, ?_, ?_⟩, ?_⟩, by simp [intOf]; omega⟩
      · show _ = _
        rw [Below.heap_setCell w1 ⟨w.heap.size + 1, q, none⟩ _ w.heap.size (by simp)]
        exact hx1.out
      · exact heap_setCell_same w1 (w.heap.size + 1) q C 3 (.int .i64 (z q)) HY.out
      · rw [Array.size_setIfInBounds]; exact HC1.out
      · intro i hi
        rw [Array.getElem?_setIfInBounds]
        by_cases e : q = i
        · subst e
          rw [if_pos rfl, if_pos (by rw [HC1.out]; exact hlt), if_pos (by omega)]
        · rw [if_neg e, HC2.out i hi]
          by_cases h2 : i < q
          · rw [if_pos h2, if_pos (by omega)]
          · rw [if_neg h2, if_neg (by omega)]
      · exact HB.out.setCell (by show w.heap.size ≤ w.heap.size + 1; omega) _
    · obtain rfl : q = n := by omega
      clear hx0 hy0 hb0 hz0 hC0
      go_wp2_with fail
      go_ret
      obtain ⟨C, h1, h2, h3⟩ := hy.out
      exact ⟨_, rfl, ⟨_, C, rfl, h1, h2, fun i hi => by rw [h3 i hi, if_pos hi]⟩, hb.out⟩

end Go.Proofs.YtmpbbflolbakhaaGreatDoor
