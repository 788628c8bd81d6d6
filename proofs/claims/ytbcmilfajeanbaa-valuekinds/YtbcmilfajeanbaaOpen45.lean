/-
  Arguments of the laws of layers 4 and 5, opened: items and values in the making.
-/
import Derived.Test.YtbcmilfajeanbaaDel12All
import Derived.Deep.SlicePairs
import Derived.Lib.SmallJoins
import Derived.Carry
import Derived.ProofKit
import Derived.OpenShut
namespace Go.Proofs.Ytbcmilfajeanbaa
open Go.ChangeShapes Go.WideShapes Go.ChangeAt Go.RowKit Go.Deep Go.Joins

theorem own45 : ownKnob Try.prog.godebug = none := by kernel_rfl
theorem laid45 : laidOutB Try.prog = true := by kernel_rfl
theorem cells45R : Try.prog.cellsOf 24 = 2 := by kernel_rfl
theorem cells45U : Try.prog.cellsOf 22 = 1 := by kernel_rfl
theorem cells45I : Try.prog.cellsOf 2 = 1 := by kernel_rfl
theorem wf45_u64 {x : Int} (h : (Lit.int .u64 x).wf = true) : 0 ≤ x ∧ x < 18446744073709551616 := by
  simp [Lit.wf, IntKind.min, IntKind.max, IntKind.signed, IntKind.bits] at h
  omega

theorem raws45_open {H : Type} {enc : TypeId × Value → H} {W : World} {fuel : Nat} {a : Option Addr} {len cap : Nat} {x : DataW H × List MemPlace}
    (h : DataW.trod enc Try.prog W 0 (fun _ => true) true fuel 54 [.slice a len cap] = some x) : ∃ K M, Raws W a len K M := by
  rcases open_slice_pairs Try.underlying54 Try.underlying24 cells45R rfl rfl cells45U cells45I h with ⟨hcs, _⟩ | ⟨a', len', cap', m, n, V0, V1, D0, D1, P0, P1, hcs, _, hl, hm, hmm, _, hcell⟩
  · simp at hcs
    obtain ⟨rfl, rfl, rfl⟩ := hcs
    exact ⟨fun _ => 0, fun _ => 0, fun i hi => absurd hi (Nat.not_lt_zero _)⟩
  · simp at hcs
    obtain ⟨rfl, rfl, rfl⟩ := hcs
    simp only [if_true] at hmm
    refine ⟨fun i => intOf (V0 i), fun i => intOf (V1 i), fun i hi => ?_⟩
    obtain ⟨h0, h1, t0, t1⟩ := hcell i (by omega)
    obtain ⟨z0, e0, _, wz0⟩ := DataW.trod_int Try.underlying22 t0
    obtain ⟨z1, e1, _, wz1⟩ := DataW.trod_int Try.underlying2 t1
    simp at e0 e1
    obtain ⟨b, off, spot⟩ := a'
    have hspot : spot = none := by simpa [Addr.add] using World.cell?_spot (hcell 0 (by omega)).1
    subst hspot
    rw [add_plain] at h0 h1
    rw [e0] at h0
    rw [e1] at h1
    have k0 : intOf (V0 i) = z0 := by rw [e0]; rfl
    have k1 : intOf (V1 i) = z1 := by rw [e1]; rfl
    refine ⟨b, off, rfl, World.block_lt_of_cell? _ _ h0, ?_, ?_, ?_⟩
    · show _ = some (Value.int .u64 (intOf (V0 i)))
      rw [k0]; exact h0
    · show _ = some (Value.int .i64 (intOf (V1 i)))
      rw [k1]; exact h1
    · show _ ≤ intOf (V0 i) ∧ intOf (V0 i) < _
      rw [k0]; exact wf45_u64 wz0

set_option maxRecDepth 100000 in
theorem raw45_open {H : Type} {enc : TypeId × Value → H} {W : World} {b0 : Nat} {v : Value} {d : DataW H} {p : List MemPlace}
    (hv : Value.okWide Try.prog W .any b0 24 v) (h : DataW.Trod enc Try.prog W 0 (fun _ => true) true 24 v d p) : ∃ x y : Int, v = .agg #[.int .u64 x, .int .i64 y] ∧ 0 ≤ x ∧ x < 18446744073709551616 := by
  obtain ⟨v0, v1, y0, y1, n, rfl, _, _, t0, t1⟩ := open_agg2 Try.underlying24 (by kernel_rfl) cells45R hv h
  obtain ⟨z0, e0, _, wz0⟩ := DataW.trod_int Try.underlying22 t0
  obtain ⟨z1, e1, _, wz1⟩ := DataW.trod_int Try.underlying2 t1
  simp at e0 e1
  subst e0; subst e1
  exact ⟨z0, z1, rfl, wf45_u64 wz0⟩
end Go.Proofs.Ytbcmilfajeanbaa
