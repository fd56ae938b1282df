/-
  What a row of chapter 9 that lists the library's tables gives a walk: the table of powers of ten, a cell for the greatest length; a world in which all is laid.
-/
import Derived.Test.YtmpbbflolbakhaaGreatDoorLeaveX
import Derived.Test.YtmpbbflolbakhaaGreatDoorRows
import Derived.Test.YtmpbbflolbakhaaGreatDoorShelf
import Derived.ChangeSame
import Derived.ChangeVars
import Derived.JoinedOf
import Derived.RowKit
import Derived.Stop.Joined
import Derived.Lib.LaidTab
namespace Go.Proofs.YtmpbbflolbakhaaGreatDoor
open Go.ChangeShapes Go.WideShapes Go.RowKit

/-- What the rows list. -/
noncomputable def laidL : List (String × DataW Unit) := [("math/bits.deBruijn32tab", Rows.laid_math_bits_deBruijn32tab), ("math/bits.deBruijn64tab", Rows.laid_math_bits_deBruijn64tab), ("internal/strconv.uint64pow10", Rows.laid_internal_strconv_uint64pow10), ("unicode/utf8.acceptRanges", Rows.laid_unicode_utf8_acceptRanges), ("errors.errorType", Rows.laid_errors_errorType), ("unicode/utf8.first", Rows.laid_unicode_utf8_first)]
theorem laidL_own : ownKnob Tryz.prog.godebug = none := by kernel_rfl
theorem pow10_only : (laidL.filter fun x => x.2.handleName?.isNone).filter (fun x => x.1 == "internal/strconv.uint64pow10") = [("internal/strconv.uint64pow10", Lib.tabData .u64 Lib.pow10Tab)] := by kernel_rfl
theorem pow10_of_met {W : World} (h : laidMetH Tryz.prog laidL W) : Lib.TabIs Tryz.prog W "internal/strconv.uint64pow10" .u64 Lib.pow10Tab := by
  have h2 := (laidMetH_iff.1 h).1.filter (fun x => x.1 == "internal/strconv.uint64pow10")
  rw [pow10_only] at h2
  exact Lib.tabIs_of_head (t := 167) (e := 131) (n := 20) (g := 1) (by kernel_rfl) (by kernel_rfl) Tryz.underlying167 Tryz.underlying131 (by kernel_rfl) (by kernel_rfl) h2
theorem bruijn_only : (laidL.filter fun x => x.2.handleName?.isNone).filter (fun x => x.1 == "math/bits.deBruijn64tab") = [("math/bits.deBruijn64tab", Rows.laid_math_bits_deBruijn64tab)] := by kernel_rfl
theorem bruijn_tab : ∃ zs : List Int, (Rows.laid_math_bits_deBruijn64tab : DataW Unit) = Lib.tabData .u8 zs ∧ zs.length = 64 ∧ zs.getD 15 0 = 4 :=
  ⟨[0, 1, 56, 2, 57, 49, 28, 3, 61, 58, 42, 50, 38, 29, 17, 4, 62, 47, 59, 36, 45, 43, 51, 22, 53, 39, 33, 30, 24, 18, 12, 5, 63, 55, 48, 27, 60, 41, 37, 16, 46, 35, 44, 21, 52, 32, 23, 11, 54, 26, 40, 15, 34, 20, 31, 10, 25, 14, 19, 9, 13, 8, 7, 6], rfl, rfl, rfl⟩
theorem bruijn_of_met {W : World} (h : laidMetH Tryz.prog laidL W) : W.cell? ⟨6, 15, none⟩ = some (.int .u8 4) := by
  have h2 := (laidMetH_iff.1 h).1.filter (fun x => x.1 == "math/bits.deBruijn64tab")
  rw [bruijn_only] at h2
  obtain ⟨zs, e, hl, h4⟩ := bruijn_tab
  rw [e] at h2
  have hT := Lib.tabIs_of_head (t := 255) (e := 5) (n := 64) (g := 6) (by kernel_rfl) (by kernel_rfl) Tryz.underlying255 Tryz.underlying5 (by kernel_rfl) (by kernel_rfl) h2
  have := hT.cell (g := 6) (by kernel_rfl) 15 (by omega)
  rw [h4] at this
  exact this
theorem max_of_shaped {W : World} (h : W.ShapedOpen Tryz.prog) : ∃ m, W.cell? ⟨0, 0, none⟩ = some (.int .i64 m) := Tryz.laysM146.s1_3 W h

/-- A world in which they are laid. -/
noncomputable def laidZ0 (os : Os) : World :=
  { World.holding Tryz.prog os ⟨#[], #[], []⟩ with heap := (World.holding Tryz.prog os ⟨#[], #[], []⟩).heap.modify 4 fun
      | .cells _ t frozen => .cells #[.iface 241 (.agg #[typeHandle Tryz.prog 51])] t frozen
      | o => o }
noncomputable def laidD : List (String × DataW Unit) := laidL.filter fun x => x.2.handleName?.isNone
noncomputable def laidZ (os : Os) : World := (laidZ0 os).layVars Tryz.prog laidD
theorem laidZ_os (os : Os) : (laidZ os).os = os := World.layVars_os _ _ _
set_option maxRecDepth 100000 in
theorem laidZ_fits (os : Os) : (laidZ0 os).layFits Tryz.prog laidD [] = true := by kernel_rfl
set_option maxRecDepth 100000 in
theorem laidZ_ifaces (os : Os) : (laidZ0 os).layIfaces Tryz.prog laidD (laidZ os) = true := by kernel_rfl
set_option maxRecDepth 100000 in
theorem laidZ_handle (os : Os) (args : Array Value) : (laidL.filter fun x => x.2.handleName?.isSome).all (handleAtB Tryz.prog ((laidZ os).forCall (fun _ _ => 0) ⟨#[], args, []⟩).memory) = true := by kernel_rfl
theorem laidZ_met (os : Os) (args : Array Value) : laidMetH Tryz.prog laidL ((laidZ os).forCall (fun _ _ => 0) ⟨#[], args, []⟩).memory := by
  refine laidMetH_of_parts ?_ (laidZ_handle os args)
  show laidMet Tryz.prog laidD _
  have e1 : (laidD.filter fun x => (laidD.map (·.1)).contains x.1) = laidD := List.filter_eq_self.2 fun x hx => List.contains_iff_mem.2 (List.mem_map.2 ⟨x, hx, rfl⟩)
  have e2 : (laidD.filter fun x => !(laidD.map (·.1)).contains x.1) = [] := List.filter_eq_nil_iff.2 fun x hx => by rw [List.contains_iff_mem.2 (List.mem_map.2 ⟨x, hx, rfl⟩)]; simp
  have h : laidMet Tryz.prog laidD (laidZ os) := laidMet_layVars (w0 := laidZ0 os) (laidD.map (·.1)) [] (by rw [e1]; rfl) (by rw [e1]; exact laidZ_fits os) (by rw [e1]; exact laidZ_ifaces os) (by rw [e2]; exact LaidIn.none)
  exact h.of_heap (by simp [World.memory, World.forCall, Input.heap])
set_option maxRecDepth 100000 in
theorem laidZ_shaped (os : Os) (args : Array Value) : ((laidZ os).forCall (fun _ _ => 0) ⟨#[], args, []⟩).Shaped Tryz.prog := World.shaped_of_ZipB (by kernel_rfl) (by kernel_rfl)

end Go.Proofs.YtmpbbflolbakhaaGreatDoor
