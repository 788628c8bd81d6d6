/-
  A slice of things to take, read as an argument.
-/
import Derived.Test.YtedhecbcpcmlmaaStays
import Derived.Test.YtedhecbcpcmlmaaBack
import Derived.Deep.SlicePairs
import Derived.Carry
import Derived.ProofKit
import Derived.OpenShut
namespace Go.Proofs.Ytedhecbcpcmlmaa
open Go.ChangeShapes Go.WideShapes Go.ChangeAt Go.RowKit Go.Deep

theorem cells32 : Try.prog.cellsOf 32 = 2 := by kernel_rfl
theorem cells3 : Try.prog.cellsOf 3 = 1 := by kernel_rfl

theorem takes_open {H : Type} {enc : TypeId × Value → H} {W : World} {fuel : Nat} {a : Option Addr} {len cap : Nat} {x : DataW H × List MemPlace}
    (h : DataW.trod enc Try.prog W 0 (fun _ => true) true fuel 22 [.slice a len cap] = some x) : ∃ K M, TakesAt W a len K M ∧ len ≤ maxLen := by
  rcases open_slice_pairs Try.underlying22 Try.underlying32 cells32 rfl rfl cells3 cells3 h with ⟨hcs, _⟩ | ⟨a', len', cap', m, n, V0, V1, D0, D1, P0, P1, hcs, _, hl, hm, hmm, _, hcell⟩
  · simp at hcs
    obtain ⟨rfl, rfl, rfl⟩ := hcs
    exact ⟨fun _ => 0, fun _ => 0, fun i hi => absurd hi (Nat.not_lt_zero _), Nat.zero_le _⟩
  · simp at hcs
    obtain ⟨rfl, rfl, rfl⟩ := hcs
    simp only [if_true] at hmm
    refine ⟨fun i => intOf (V0 i), fun i => intOf (V1 i), fun i hi => ?_, Nat.le_trans hl hm⟩
    obtain ⟨h0, h1, t0, t1⟩ := hcell i (by omega)
    obtain ⟨z0, e0, _, wz0⟩ := DataW.trod_int Try.underlying3 t0
    obtain ⟨z1, e1, _, wz1⟩ := DataW.trod_int Try.underlying3 t1
    simp at e0 e1
    obtain ⟨b, off, spot⟩ := a'
    have hspot : spot = none := by simpa [Addr.add] using World.cell?_spot (hcell 0 (by omega)).1
    subst hspot
    rw [add_plain] at h0 h1
    rw [e0] at h0
    rw [e1] at h1
    have k0 : intOf (V0 i) = z0 := by rw [e0]; rfl
    have k1 : intOf (V1 i) = z1 := by rw [e1]; rfl
    refine ⟨b, off, rfl, World.block_lt_of_cell? _ _ h0, ?_, ?_, ?_, ?_⟩
    · show _ = some (Value.int .i64 (intOf (V0 i)))
      rw [k0]; exact h0
    · show _ = some (Value.int .i64 (intOf (V1 i)))
      rw [k1]; exact h1
    · show _ ≤ intOf (V0 i) ∧ intOf (V0 i) ≤ _
      rw [k0]; exact wf_i64 wz0
    · show _ ≤ intOf (V1 i) ∧ intOf (V1 i) ≤ _
      rw [k1]; exact wf_i64 wz1
end Go.Proofs.Ytedhecbcpcmlmaa
