/-
  An append at a step of a region that draws.
-/
import Derived.Test.YtbgpdhnfaacenabRow
import Derived.Test.YtbgpdhnfaacenabGrown
import Derived.Maps.AppendAt
import Derived.Deep.RegionLaw
namespace Go.Proofs.Ytbgpdhnfaacenab
open Go.RowKit

section
variable {P : Program} {ops : Array Oper} {o : Oper} {a : Act} {K : Act → World → Prop} {Q : Exit → Act → World → Prop} {E : Prop}
/-- An append at a step of a region that draws: what is appended may be nothing. -/
theorem step_append_own (w : World) (hgd : o.guard = none) (s x : Operand) (t : TypeId)
    (ho : o.op = .call { callee := .builtin .append, args := #[s, x], argTypes := #[t, t] })
    (base : Nat) (e : TypeId) (i : TypeInfo) (z : Value) (size bytes : Nat) (ht : P.underlying t = some (.slice e)) (hi : P.info? e = some i) (hz : i.zero = some z)
    (hsize : i.size = size) (hby : i.bytes = bytes) (hzs : z.cells.size = size) (hsz : 0 < size)
    (v : Value) (n : Nat) (xs : List Value) (hs : a.eval s = v) (hown : w.ownsRow base e size v n xs)
    (ad : Addr) (m c : Nat) (news : List Value) (hx : a.eval x = .slice (some ad) m c) (hl : news.length = m * size) (hnews : ∀ j u, news[j]? = some u → w.cell? (ad.add j) = some u) (h1 : ∀ u ∈ news, u.oneCell' = true)
    (h63 : n + m ≤ maxLen) (hbytes : (n + m) * bytes ≤ 140737488355328) (hbase : base ≤ w.heap.size)
    (h : ∀ v' w', w'.ownsRow base e size v' (n + m) (xs ++ news) → w.grownBy w' v.ownBlock → K (a.put o.dst v') w') :
    if Region.wanted o (yielded ops a.tmps) = true then Oper.wp P o a w K Q else E := by
  have hw : Region.wanted o (yielded ops a.tmps) = true := by simp [Region.wanted, hgd]
  rw [if_pos hw]
  obtain ⟨v', w', hr, h2, h3, _, _⟩ := run_append_own_at (P := P) w base t o.type e i z size bytes ht hi hz hsize hby hzs hsz v n xs hown ad m c news hl hnews h1 h63 hbytes hbase
  unfold Oper.wp execOp
  simp only [ho, resolve, invoke, builtin, Sem.run_bind, Sem.run_pure, Result.andThen_ok, List.map_toArray, List.map_cons, List.map_nil, hs, hx, hr]
  exact h v' w' h2 h3
end

/-- Part of a row, as what an append takes. -/
theorem slc_news {n₀ : Nat} {W W' : World} {g off cap l : Nat} {xs : List Int} (hx : xs.length = l) (h : Slc n₀ W (.slice (some ⟨g, off, none⟩) l cap) xs) (hb : Below W.heap.size W W') (ys : List Int) (d : Nat)
    (hy : ∀ j v, ys[j]? = some v → xs[d + j]? = some v) :
    ∀ j u, (ys.map (Value.int .i64))[j]? = some u → W'.cell? ((⟨g, off + d, none⟩ : Addr).add j) = some u := by
  intro j u hu
  rw [List.getElem?_map] at hu
  cases hv : ys[j]? with
  | none => rw [hv] at hu; cases hu
  | some v =>
    rw [hv] at hu
    simp only [Option.map_some, Option.some.injEq] at hu
    have h0 := hy j v hv
    have hlt : d + j < l := by rw [← hx]; exact (List.getElem?_eq_some_iff.1 h0).1
    have hc := (h.later hb).cell hx (d + j) hlt
    rw [h0] at hc
    subst hu
    have : (⟨g, off + d, none⟩ : Addr).add j = ⟨g, off + (d + j), none⟩ := by unfold Addr.add; split <;> simp_all [Nat.add_assoc]
    rw [this, hc]
    simp

theorem row_ge {w : World} {base : Nat} {e : TypeId} {size : Nat} {v : Value} {n : Nat} {xs : List Value} (h : w.ownsRow base e size v n xs) {g : Nat} (hg : v.ownBlock = some g) : base ≤ g := by
  rcases h.2 with ⟨rfl, _⟩ | ⟨g', cap, cur, rfl, hb, _⟩
  · cases hg
  · cases hg; exact hb

end Go.Proofs.Ytbgpdhnfaacenab
