/-
  Chapter 9: the lines "base N" and "order N", where all is right.
-/
import Derived.Test.YtmpbbflolbakhaaGreatDoorCmdE
namespace Go.Proofs.YtmpbbflolbakhaaGreatDoor
open Go.RowKit

theorem cell0_keep {w W : World} {m : Int} (hm : w.cell? ⟨0, 0, none⟩ = some (.int .i64 m)) (hb : Below w.heap.size w W) (h0 : 0 < w.heap.size) : W.cell? ⟨0, 0, none⟩ = some (.int .i64 m) := by
  rw [World.cell?_of_block (a := ⟨0, 0, none⟩) (hb.block 0 h0)]; exact hm
theorem BenchAt.cell0 {o : Nat} {b t n : Int} {w : World} (h : BenchAt o b t n w) : w.cell? ⟨o, 0, none⟩ = some (.int .i64 b) := by
  unfold BenchAt at h; simp [World.cell?, h]
theorem BenchAt.frozen0 {o : Nat} {b t n : Int} {w : World} (h : BenchAt o b t n w) (i : Nat) : w.frozen? ⟨o, i, none⟩ = false := by
  unfold BenchAt at h; simp [World.frozen?, h]
theorem BenchAt.off {o v : Nat} {b t n : Int} {w : World} {x : Value} (hne : o ≠ v) (h : BenchAt o b t n w) : BenchAt o b t n (w.setCell ⟨v, 0, none⟩ x) := by
  unfold BenchAt at h ⊢
  rw [Below.heap_setCell w ⟨v, 0, none⟩ x o hne]; exact h
/-- One number in a slice of its own. -/
def OneNum (k : Int) (g : Value) (w : World) : Prop := ∃ r, g = .slice (some ⟨r, 0, none⟩) 1 1 ∧ w.cell? ⟨r, 0, none⟩ = some (.int .i64 k)

theorem ansBase (b o : Nat) (b0 t n m : Int) (w : World) (h3 : 2 ≤ b) (h4 : b ≤ 16) (hO : BenchAt o b0 t n w) (hm : w.cell? ⟨0, 0, none⟩ = some (.int .i64 m)) :
    Calls Tryz.prog 22 #[.pointer (some ⟨o, 0, none⟩), .string ⟨([98, 97, 115, 101] ++ 32 :: Lib.decDigits b).toArray⟩] w fun e w' => e = .returned (.string ⟨[111, 107].toArray⟩) ∧ BenchAt o b t n w' ∧ BelowBut w.heap.size o w w' := by
  have hol := hO.lt
  have hL := dec_short 4 b (by omega)
  refine answerRest_any [98, 97, 115, 101] (Lib.decDigits b) [111, 107] 1 m 73 0 o (OneNum b) (BenchAt o b t n) w (by decide) (by simp; omega) hol hm (enters_of Tryz.func73 (by kernel_rfl) rfl) rfl rfl ?_ ?_ (fun w' v x hne h => h.off hne)
  · intro W hW
    refine (restNumbers_one b m W (by omega) (cell0_keep hm hW (by omega))).mono ?_
    rintro e w' ⟨g, rfl, _, _, hc, hb⟩
    exact ⟨_, rfl, ⟨g, rfl, hc⟩, hb⟩
  · rintro W _ hW ⟨g, rfl, hc⟩
    have hO' := hO.keep hW
    refine (benchBase_any b b0 o g W h3 h4 hO'.cell0 (hO'.frozen0 0) hc).mono ?_
    rintro e w' ⟨rfl, rfl⟩
    refine ⟨rfl, ?_, (Below.but o (Below.refl _ _)).set _ (.inr rfl) _⟩
    have := heap_setCell_same W o 0 #[.int .i64 b0, .int .i64 t, .int .i64 n] 44 (.int .i64 (b : Int)) hO'
    show _ = _
    rw [this]; rfl
theorem ansOrder (b n m o : Nat) (t q k : Int) (w : World) (hp : prmB b n = true) (h4 : b ≤ 16) (hn : 2 ≤ n) (hn2 : n ≤ 1000) (hl : IsLen b 1 n 0 m) (hO : BenchAt o b t q w) (hm : w.cell? ⟨0, 0, none⟩ = some (.int .i64 k))
    (htab : Lib.TabBelow Tryz.prog w.heap.size w "internal/strconv.uint64pow10" .u64 Lib.pow10Tab) :
    Calls Tryz.prog 22 #[.pointer (some ⟨o, 0, none⟩), .string ⟨([111, 114, 100, 101, 114] ++ 32 :: Lib.decDigits n).toArray⟩] w fun e w' => e = .returned (.string ⟨(Lib.decDigits m).toArray⟩) ∧ BenchAt o b t q w' ∧ BelowBut w.heap.size o w w' := by
  have hol := hO.lt
  have hL := dec_short 4 n (by omega)
  refine answerRest_any [111, 114, 100, 101, 114] (Lib.decDigits n) (Lib.decDigits m) 1 k 81 8 o (OneNum n) (BenchAt o b t q) w (by decide) (by simp; omega) hol hm (enters_of Tryz.func81 (by kernel_rfl) rfl) rfl rfl ?_ ?_ (fun w' v x hne h => h.off hne)
  · intro W hW
    refine (restNumbers_one n k W (by omega) (cell0_keep hm hW (by omega))).mono ?_
    rintro e w' ⟨g, rfl, _, _, hc, hb⟩
    exact ⟨_, rfl, ⟨g, rfl, hc⟩, hb⟩
  · rintro W _ hW ⟨g, rfl, hc⟩
    have hO' := hO.keep hW
    refine (benchOrder_any b n m o g W hp h4 hn hn2 hl hO'.cell0 hc (tab_later htab hW)).mono ?_
    rintro e w' ⟨rfl, hb⟩
    exact ⟨rfl, hO'.keep hb, Below.but o hb⟩

end Go.Proofs.YtmpbbflolbakhaaGreatDoor
