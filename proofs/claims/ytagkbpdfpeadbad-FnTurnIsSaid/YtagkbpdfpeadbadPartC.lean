/-
  The sum of parts: what is read of the list of parts; a digit laid ahead of a list.
-/
import Derived.Test.YtagkbpdfpeadbadPartI
import Derived.Test.YtagkbpdfpeadbadStepA
import Derived.Test.YtagkbpdfpeadbadPMath
namespace Go.Proofs.Ytagkbpdfpeadbad
open Go.RowKit

/-- k lists of j numbers each, cell by cell. -/
def PCells (W : World) (gp k j : Nat) (f : Nat → Nat → Nat) : Prop := ∀ p, p < k → ∃ g o c : Nat, W.cell? ⟨gp, p, none⟩ = some (.slice (some ⟨g, o, none⟩) j c) ∧ CellsR W g o j (f p)

theorem PCells.later {W W' : World} {gp k j : Nat} {f : Nat → Nat → Nat} (h : PCells W gp k j f) (hb : Below W.heap.size W W') : PCells W' gp k j f := by
  intro p hp
  obtain ⟨g, o, c, h1, h2⟩ := h p hp
  exact ⟨g, o, c, (hb.cell (p := ⟨gp, p, none⟩) (cell_lt h1)).trans h1, h2.later hb⟩

theorem pcells_of {n₀ : Nat} {W : World} {v : Value} {b T B k j : Nat} (h : RowS0 n₀ W v (ptsL b T B k j)) (hk : 0 < k) (hj : 0 < j) :
    ∃ gp cp, v = .slice (some ⟨gp, 0, none⟩) k cp ∧ PCells W gp k j (fun p c => dig b T B (p * j + c)) := by
  obtain ⟨vs, hl, hV⟩ := h
  have hlk := ptsL_len b T B k j
  obtain ⟨gp, cp, u0, hv, _⟩ := hV.cell hl 0 (by omega)
  refine ⟨gp, cp, by rw [hv, hlk], fun p hp => ?_⟩
  obtain ⟨g', c', u, hv', hc, hu, hs⟩ := hV.cell hl p (by omega)
  rw [hv] at hv'
  cases hv'
  rw [ptsL_get b T B k j p hp] at hs
  have hpl := ptL_len b T B j p
  obtain ⟨g, o, c, rfl, _, _, _, _⟩ := slc_some hs (by rw [hpl]; omega)
  rw [hpl] at hs hc
  refine ⟨g, o, c, hc, fun i hi => ?_⟩
  have := Slc.cell hpl hs i hi
  rw [ptL_get b T B j p i hi] at this
  exact this

theorem cellsR_news {W : World} {g o j b T B i : Nat} (h : CellsR W g o j (fun c => dig b T B (i * j + c))) :
    ∀ q u, ((ptL b T B j i).map (Value.int .i64))[q]? = some u → W.cell? ((⟨g, o, none⟩ : Addr).add q) = some u := by
  intro q u hu
  have hlt : q < j := by have := (List.getElem?_eq_some_iff.1 hu).1; simpa [ptL_len] using this
  have h1 : W.cell? ⟨g, o + q, none⟩ = some (.int .i64 (dig b T B (i * j + q) : Nat)) := h q hlt
  have h2 : ((ptL b T B j i).map (Value.int .i64))[q]? = some (.int .i64 (dig b T B (i * j + q) : Nat)) := by simp [ptL, hlt]
  rw [h2] at hu
  cases hu
  have : (⟨g, o, none⟩ : Addr).add q = ⟨g, o + q, none⟩ := by unfold Addr.add; split <;> simp_all
  rw [this]; exact h1

theorem owns_cell (w : World) (x : Value) (T : TypeId) : (w.alloc (.cells #[x] T)).ownsRow w.heap.size T 1 (.slice (some ⟨w.heap.size, 0, none⟩) 1 1) 1 [x] :=
  ⟨by simp, .inr ⟨w.heap.size, 1, #[x], rfl, Nat.le_refl _, heap_alloc_new w _, Nat.le_refl _, by unfold maxLen; omega, by simp, by simp⟩⟩

def lenV : Value → Nat
  | .slice _ l _ => l
  | _ => 0

/-- A new list of ints with an address, also where it is empty. -/
def SlA (n₀ : Nat) (W : World) (v : Value) (L : List Int) : Prop := ∃ g o c : Nat, v = .slice (some ⟨g, o, none⟩) L.length c ∧ Slc n₀ W v L

theorem SlA.made {n₀ : Nat} {W : World} (hn : n₀ ≤ W.heap.size) : SlA n₀ (W.alloc (.cells #[] 3)) (.slice (some ⟨W.heap.size, 0, none⟩) 0 0) [] :=
  ⟨_, _, _, rfl, .inr ⟨W.heap.size, 0, 0, #[], rfl, hn, heap_alloc_new W _, Nat.le_refl _, by unfold maxLen; omega, by simp, by simp⟩⟩

theorem SlA.later {n₀ : Nat} {W W' : World} {v : Value} {L : List Int} (h : SlA n₀ W v L) (hb : Below W.heap.size W W') : SlA n₀ W' v L := by
  obtain ⟨g, o, c, h1, h2⟩ := h
  exact ⟨g, o, c, h1, h2.later hb⟩

theorem SlA.of_owns {n₀ n₁ : Nat} {W : World} {v : Value} {x : Int} {L : List Int} (hn : n₁ ≤ n₀) (h : W.ownsRow n₀ 3 1 v (1 + L.length) ([Value.int .i64 x] ++ L.map (Value.int .i64))) : SlA n₁ W v (x :: L) := by
  have hs : Slc n₁ W v (x :: L) := by
    refine (Slc.of_owns (n₀ := n₀) ?_).mono hn
    rw [List.length_cons, Nat.add_comm]
    exact h
  obtain ⟨g, o, c, hv, _⟩ := slc_some hs (by simp)
  exact ⟨g, o, c, hv, hs⟩

/-- What an append takes of it. -/
theorem sla_news {n₀ : Nat} {W W' : World} {g o c : Nat} {L : List Int} (h : Slc n₀ W (.slice (some ⟨g, o, none⟩) L.length c) L) (hb : Below W.heap.size W W') :
    ∀ j u, (L.map (Value.int .i64))[j]? = some u → W'.cell? ((⟨g, o, none⟩ : Addr).add j) = some u :=
  slc_news (l := L.length) rfl h hb L 0 (fun j v hj => by rw [Nat.zero_add]; exact hj)

theorem ints_one (L : List Int) : ∀ u ∈ L.map (Value.int .i64), u.oneCell' = true := by
  intro u hu; obtain ⟨x, _, rfl⟩ := List.mem_map.1 hu; simp [Value.oneCell']

theorem col_step {b T B k j d c ii : Nat} {H : Int} (h : colV b T B k j (j - d) d = (c : Int) * (b : Int) ^ d + H) (hi : ii + 1 + d = j) :
    ((c + colS b T B k j ii : Nat) : Int) * (b : Int) ^ d + H = colV b T B k j ii (d + 1) := by
  rw [show j - d = ii + 1 by omega] at h
  show _ = (colS b T B k j ii : Int) * (b : Int) ^ d + colV b T B k j (ii + 1) d
  rw [h, show ((c + colS b T B k j ii : Nat) : Int) = (c : Int) + (colS b T B k j ii : Int) by omega, Int.add_mul]
  omega

theorem col_bound {b T B k j c ii : Nat} (hc : c ≤ k) (hs : colS b T B k j ii ≤ k * (b - 1)) (hb : 2 ≤ b) : c + colS b T B k j ii ≤ k * b := by
  have : k * (b - 1) + k = k * b := by rw [← Nat.mul_succ]; congr 1; omega
  omega

end Go.Proofs.Ytagkbpdfpeadbad
