/-
  Chapter 7, the program's side: lists of numbers copied, put behind each other, their greatest and least number.
-/
import Derived.Test.YtamcpoadpkgogadEq
import Derived.Test.YtamcpoadpkgogadStepA
import Derived.Maps.AppendAt
import Derived.Lib.AppendZerosOnto
import Derived.Lib.SliceRun
import Derived.Deep.RegionWith
import Derived.Deep.RegionLaw
import Derived.Deep.QuietTactic
import Derived.RegionTactic
import Derived.BigRegion
namespace Go.Proofs.Ytamcpoadpkgogad
open Go.RowKit

/-- Numbers that lie in a block from a place on. -/
def NumsAt (W : World) (g o : Nat) (xs : List Int) : Prop := ∀ j, j < xs.length → W.cell? ⟨g, o + j, none⟩ = some (.int .i64 (xs[j]?.getD 0))

theorem NumsAt.later {W W' : World} {g o : Nat} {xs : List Int} (h : NumsAt W g o xs) (hb : Below W.heap.size W W') (hg : g < W.heap.size) : NumsAt W' g o xs := fun j hj => by
  have := h j hj
  rw [← this]
  simp [World.cell?, hb.block g hg]

theorem NumsAt.news {W : World} {g o : Nat} {xs : List Int} (h : NumsAt W g o xs) : ∀ j u, (xs.map (Value.int .i64))[j]? = some u → W.cell? ((⟨g, o, none⟩ : Addr).add j) = some u := by
  intro j u hu
  rw [List.getElem?_map] at hu
  cases hv : xs[j]? with
  | none => rw [hv] at hu; cases hu
  | some v =>
    rw [hv] at hu
    simp only [Option.map_some, Option.some.injEq] at hu
    have hlt : j < xs.length := (List.getElem?_eq_some_iff.1 hv).1
    have hc := h j hlt
    rw [hv] at hc
    subst hu
    have : (⟨g, o, none⟩ : Addr).add j = ⟨g, o + j, none⟩ := by unfold Addr.add; split <;> simp_all
    rw [this, hc]
    rfl

set_option maxHeartbeats 1000000 in
theorem cloneI_any (g o c n : Nat) (xs : List Int) (w : World) (hn : xs.length = n) (hn2 : n ≤ 1000000) (hx : NumsAt w g o xs) (hg : g < w.heap.size) :
    Calls Try.prog 20 #[.slice (some ⟨g, o, none⟩) n c] w fun e w' => ∃ u, e = .returned u ∧ Slc w.heap.size w' u xs ∧ Below w.heap.size w w' := by
  obtain ⟨i0, hi, hz0, hz1, hz2⟩ := info_parts infoInt
  have hnil : ∀ wx, (binOp .eql 27 (.slice (some ⟨g, o, none⟩) n c) (.slice none 0 0)).run Try.prog wx = .ok (.bool false) wx := fun wx => Lib.run_eql_slice_nil wx _ 3 _ _ _ _ _ Try.underlying27
  have hml : (xs.map (Value.int .i64)).length = n * 1 := by simp [hn]
  have ho : ∀ u ∈ xs.map (Value.int .i64), u.oneCell' = true := by
    intro u hu; obtain ⟨x, _, rfl⟩ := List.mem_map.1 hu; simp [Value.oneCell']
  have HX := Lib.hid hx; have HN := Lib.hid hn
  clear hx hn
  have hO : (w.alloc (.cells #[] 3)).ownsRow w.heap.size 3 1 (.slice (some ⟨w.heap.size, 0, none⟩) 0 0) 0 [] := by
    have := World.ownsRow_made (base := w.heap.size) (e := 3) (size := 1) w #[] 0 (by simp) (by simp) (by simp)
    simpa using this
  have hb0 : Below w.heap.size w (w.alloc (.cells #[] 3)) := (Below.refl _ _).alloc (Nat.le_refl _) _
  have hnews := (HX.out.later ((Below.refl w.heap.size w).alloc (Nat.le_refl _) (.cells #[] 3)) hg).news
  go_enter Try.func20, Try.ntmps20
  go_wp2_with (at_builtin; refine wpList_append_own_at _ rfl _ _ 27 rfl w.heap.size 3 i0 (.int .i64 0) 1 8 Try.underlying27 hi hz0 hz1 hz2 rfl (by decide) _ _ _ rfl hO ⟨g, o, none⟩ n c (xs.map (Value.int .i64)) rfl hml hnews ho ?c1 ?c2 ?c3 ?_)
  case c1 => unfold maxLen; omega
  case c2 => omega
  case c3 => simp
  intro v' w4 hown' hgrow _ _
  have hb4 := hb0.grown hgrow hb0.size (fun q e => row_ge hO e)
  rw [← HN.out] at hown'
  clear hO hb0 hgrow hnews hml ho
  go_wp2_with fail
  go_ret
  exact ⟨_, rfl, Slc.of_owns hown', hb4⟩





end Go.Proofs.Ytamcpoadpkgogad
