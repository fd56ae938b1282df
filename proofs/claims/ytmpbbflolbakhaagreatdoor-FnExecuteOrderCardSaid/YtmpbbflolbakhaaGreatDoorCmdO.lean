/-
  Chapter 9: what a line prints that asks for one number.
-/
import Derived.Test.YtmpbbflolbakhaaGreatDoorCmdR
import Derived.Lib.AppendIntMem
namespace Go.Proofs.YtmpbbflolbakhaaGreatDoor
open Go.RowKit

set_option maxRecDepth 100000 in
set_option maxHeartbeats 1000000 in
theorem listOutput_one (D sep : List UInt8) (g c : Nat) (w : World) (hl : D.length ≤ 1000) (hg : g < w.heap.size) (hc1 : 1 ≤ c) (hc : w.cell? ⟨g, 0, none⟩ = some (.string ⟨D.toArray⟩)) :
    Calls Tryz.prog 140 #[.slice (some ⟨g, 0, none⟩) 1 c, .string ⟨sep.toArray⟩, .bool true] w fun e w' => e = .returned (.string ⟨D.toArray⟩) ∧ Below w.heap.size w w' := by
  have hj := Tryz.strings_Join g 0 c [⟨D.toArray⟩] ⟨sep.toArray⟩ w (fun j x h => by
    cases j with
    | zero => simp at h; subst h; exact hc
    | succ j => simp at h) hg (by simp) (by simpa using hc1) (by simp [Lib.join, List.intercalate]; omega)
  have e : Lib.join (List.map (fun x => x.data.toList) [(⟨D.toArray⟩ : ByteArray)]) sep = D := by simp [Lib.join, List.intercalate]
  rw [e] at hj
  go_enter Tryz.func140, Tryz.ntmps140
  go_wp2_with (go_at_call 170; refine hj.mono ?_; rintro e w' ⟨rfl, hb⟩)
  go_ret
  exact ⟨rfl, hb⟩

theorem owns_kept1 {w w' : World} {base : Nat} {e : TypeId} {size : Nat} {v : Value} {n : Nat} {xs : List Value} (h : w.ownsRow base e size v n xs) (hb : Below w.heap.size w w') : w'.ownsRow base e size v n xs := by
  refine ⟨h.1, h.2.imp id ?_⟩
  rintro ⟨g', cap', cur', e1, e2, e3, e4⟩
  exact ⟨g', cap', cur', e1, e2, (hb.block g' (Array.getElem?_eq_some_iff.1 e3).1).trans e3, e4⟩
theorem infoStr : (Tryz.prog.info? 9).map (fun i => (i.zero, i.size, i.bytes)) = some (some (.string ⟨#[]⟩), 1, 16) := by kernel_rfl
set_option maxRecDepth 100000 in
set_option maxHeartbeats 2000000 in
theorem numOut_one (k g : Nat) (w : World) (hk : k ≤ 1000000) (hg : g < w.heap.size) (hc : w.cell? ⟨g, 0, none⟩ = some (.int .i64 k))
    (htab : Lib.TabBelow Tryz.prog w.heap.size w "internal/strconv.uint64pow10" .u64 Lib.pow10Tab) :
    Calls Tryz.prog 104 #[.slice (some ⟨g, 0, none⟩) 1 1, .bool true] w fun e w' => e = .returned (.string ⟨(Lib.decDigits k).toArray⟩) ∧ Below w.heap.size w w' := by
  have hI : Hid (∀ W, Below w.heap.size w W → Calls Tryz.prog 23 #[.int .i64 k] W fun e w' => e = .returned (.string ⟨(Lib.decDigits k).toArray⟩) ∧ Below W.heap.size W w') := fun W hb => by
    refine (Tryz.strconv_Itoa k (by omega) (by omega) W (htab W hb)).mono ?_
    rintro e w' ⟨rfl, q, os, rfl⟩
    rw [Lib.itoa_nonneg]
    exact ⟨rfl, Lib.below_grow _ W (Nat.le_refl _) q os⟩
  have hl := dec_len k hk
  generalize Lib.decDigits k = D at hI hl ⊢
  clear htab
  obtain ⟨i0, hi, hz0, hz1, hz2⟩ := info_parts infoStr
  go_enter Tryz.func104, Tryz.ntmps104
  go_wp2_with fail
  go_loopw [5, 7, 11] (fun v _ x wr => ∃ q : Nat, q ≤ 1 ∧ x = .int .i64 q ∧ wr.ownsRow w.heap.size 9 1 v q (List.replicate q (Value.string ⟨D.toArray⟩)) ∧ Below w.heap.size w wr) (fun _ _ x _ => 1 - (intOf x).toNat)
  case atStart =>
    refine ⟨0, by omega, rfl, ?_, (Below.refl _ _).alloc (Nat.le_refl _) _⟩
    exact World.ownsRow_made (base := w.heap.size) (e := 9) (size := 1) w #[] 0 (Nat.le_refl _) (by simp) (by simp)
  case round =>
    obtain ⟨q, hq, rfl, hown, hbel⟩ := hrel
    have HW := Lib.hid hown
    have HB := Lib.hid hbel
    have hwsz := hbel.size
    by_cases hlt : q = 0
    · subst hlt
      have hc2 : wr.cell? ⟨g, 0, none⟩ = some (.int .i64 k) := by rw [World.cell?_of_block (a := ⟨g, 0, none⟩) (hbel.block g hg)]; exact hc
      clear hown hbel
      go_wp2_with fail
      refine (hI.out _ HB.out).mono ?_
      rintro e w1 ⟨rfl, hb1⟩
      have hB1 := HB.out.trans (hb1.mono HB.out.size)
      have HW1 := Lib.hid (owns_kept1 HW.out hb1)
      have HB1 := Lib.hid hB1
      have hwsz1 := hB1.size
      clear hB1 hb1 HW HB
      go_wp2_with (at_builtin; refine wpList_append_own_at _ rfl _ _ 45 rfl w.heap.size 9 i0 (.string ⟨#[]⟩) 1 16 Tryz.underlying45 hi hz0 hz1 hz2 rfl (by decide) _ _ _ rfl (HW1.out.alloc _) ⟨w1.heap.size, 0, none⟩ 1 1 [.string ⟨D.toArray⟩] rfl rfl ?c1 ?c2 ?c3 ?c4 ?c5 ?_)
      case c1 => exact cell_one_new _ _ _
      case c2 => simp [Value.oneCell']
      case c3 => unfold maxLen; omega
      case c4 => omega
      case c5 => (try simp); omega
      intro v' w3 hown' hgrow _ _
      have hb3 := (HB1.out.alloc HB1.out.size (.cells #[.string ⟨D.toArray⟩] 9)).grown hgrow (by simp; omega) (fun q e => by
        rcases HW1.out.2 with ⟨rfl, _⟩ | ⟨g', cap', cur', rfl, hb, _⟩
        · cases e
        · cases e; exact hb)
      have HW3 := Lib.hid hown'
      clear hown' hgrow HW1
      go_wp2_with fail
      exact ⟨⟨1, by omega, rfl, HW3.out, hb3⟩, by simp [intOf]⟩
    · obtain rfl : q = 1 := by omega
      obtain ⟨g1, c1, rfl⟩ : ∃ g1 c1, u5 = .slice (some ⟨g1, 0, none⟩) 1 c1 := by
        rcases hown.2 with ⟨_, h⟩ | ⟨g1, c1, _, h, _⟩
        · omega
        · exact ⟨g1, c1, h⟩
      have hcap : 1 ≤ c1 := by
        rcases hown.2 with ⟨h, _⟩ | ⟨g', cap', cur', h, _, _, h2, _⟩
        · cases h
        · cases h; exact h2
      have hlt1 := (hown.lt g1 rfl).2
      have hcell := hown.cellAt 0 (by omega)
      have hO : Hid (∀ W, W = wr → Calls Tryz.prog 140 #[.slice (some ⟨g1, 0, none⟩) 1 c1, .string ⟨#[32]⟩, .bool true] W fun e w' => e = .returned (.string ⟨D.toArray⟩) ∧ Below W.heap.size W w') := fun W e => by
        subst e
        exact listOutput_one D [32] g1 c1 W (by omega) hlt1 hcap hcell
      clear hown hbel hcell
      go_wp2_with fail
      refine (hO.out _ rfl).mono ?_
      rintro e w1 ⟨rfl, hb1⟩
      go_wp2_with fail
      go_ret
      exact ⟨rfl, HB.out.trans (hb1.mono HB.out.size)⟩

end Go.Proofs.YtmpbbflolbakhaaGreatDoor
