/-
  The laws' own sum of a list.
-/
import Derived.Test.YtehpgcgdcoahnacDoorPartS
namespace Go.Proofs.YtehpgcgdcoahnacDoor
open Go.RowKit

set_option maxHeartbeats 1000000 in
theorem total_any (n₀ : Nat) (b T B k j : Nat) (v : Value) (w : World) (hv : Slc n₀ w v (prsL b T B k j)) (hk : k ≤ 1000) (hkp : 0 < k) (hr : ∀ i, rst b T B i ≤ 1000) :
    Calls Tryd.prog 16 #[v] w fun e w' => e = .returned (.int .i64 (prS b T B k j)) ∧ w = w' := by
  have hl := prsL_len b T B k j
  have hbd : ∀ q, prS b T B q j ≤ q * 1000 := fun q => sumN_le q fun i _ => hr _
  obtain ⟨g, off, cap, rfl, _, hg, hc1, hc2⟩ := slc_some hv (by rw [hl]; omega)
  rw [hl] at hv hc1 ⊢
  have HL := Lib.hid hl; have HB := Lib.hid hbd; have HR := Lib.hid hr
  clear hl hbd hr
  go_enter Tryd.func16, Tryd.ntmps16
  go_wp2
  go_loop [3, 4] (fun s i => ∃ p : Nat, p ≤ k ∧ i = .int .i64 p ∧ s = .int .i64 (prS b T B p j)) (fun _ i => k - (intOf i).toNat)
  case atStart => exact ⟨0, Nat.zero_le _, rfl, rfl⟩
  case round =>
    obtain ⟨p, hp, rfl, rfl⟩ := hrel
    by_cases hlt : p < k
    · have hc := Slc.cell HL.out hv p hlt
      rw [prsL_get b T B k j p hlt] at hc
      have h1 := HB.out p
      have h2 := HR.out (p * j)
      have i1 : (p : Int) < k := by omega
      have HS : Hid ((prS b T B (p + 1) j : Int) = (prS b T B p j : Int) + (rst b T B (p * j) : Int)) := by
        show ((prS b T B p j + rst b T B (p * j) : Nat) : Int) = _
        omega
      generalize rst b T B (p * j) = r at hc h2 HS
      go_wp2_with fail
      exact ⟨⟨p + 1, by omega, rfl, by rw [HS.out]⟩, by simp [intOf]; omega⟩
    · obtain rfl : p = k := by omega
      have i1 : ¬ (p : Int) < p := by omega
      go_wp2_with fail
      go_ret
      exact ⟨rfl, rfl⟩

end Go.Proofs.YtehpgcgdcoahnacDoor
