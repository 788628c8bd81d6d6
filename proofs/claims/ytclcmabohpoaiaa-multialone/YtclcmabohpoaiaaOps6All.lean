/-
  Arguments of the laws of layers 4 and 5, opened: items and values in the making.
  Operations in the making, as an argument of the laws of layers 7 to 9, opened.
-/
import Derived.Test.YtclcmabohpoaiaaFits5All
import Derived.Deep.SlicePairs
import Derived.Lib.SmallJoins
import Derived.Carry
import Derived.ProofKit
import Derived.OpenShut
namespace Go.Proofs.Ytclcmabohpoaiaa
open Go.ChangeShapes Go.WideShapes Go.ChangeAt Go.RowKit Go.Deep Go.Joins

theorem own45 : ownKnob Try.prog.godebug = none := by kernel_rfl
theorem laid45 : laidOutB Try.prog = true := by kernel_rfl
theorem cells45R : Try.prog.cellsOf 42 = 2 := by kernel_rfl
theorem cells45U : Try.prog.cellsOf 40 = 1 := by kernel_rfl
theorem cells45I : Try.prog.cellsOf 2 = 1 := by kernel_rfl
theorem wf45_u64 {x : Int} (h : (Lit.int .u64 x).wf = true) : 0 ≤ x ∧ x < 18446744073709551616 := by
  simp [Lit.wf, IntKind.min, IntKind.max, IntKind.signed, IntKind.bits] at h
  omega

theorem raws45_open {H : Type} {enc : TypeId × Value → H} {W : World} {fuel : Nat} {a : Option Addr} {len cap : Nat} {x : DataW H × List MemPlace}
    (h : DataW.trod enc Try.prog W 0 (fun _ => true) true fuel 62 [.slice a len cap] = some x) : ∃ K M, Raws W a len K M := by
  rcases open_slice_pairs Try.underlying62 Try.underlying42 cells45R rfl rfl cells45U cells45I h with ⟨hcs, _⟩ | ⟨a', len', cap', m, n, V0, V1, D0, D1, P0, P1, hcs, _, hl, hm, hmm, _, hcell⟩
  · simp at hcs
    obtain ⟨rfl, rfl, rfl⟩ := hcs
    exact ⟨fun _ => 0, fun _ => 0, fun i hi => absurd hi (Nat.not_lt_zero _)⟩
  · simp at hcs
    obtain ⟨rfl, rfl, rfl⟩ := hcs
    simp only [if_true] at hmm
    refine ⟨fun i => intOf (V0 i), fun i => intOf (V1 i), fun i hi => ?_⟩
    obtain ⟨h0, h1, t0, t1⟩ := hcell i (by omega)
    obtain ⟨z0, e0, _, wz0⟩ := DataW.trod_int Try.underlying40 t0
    obtain ⟨z1, e1, _, wz1⟩ := DataW.trod_int Try.underlying2 t1
    simp at e0 e1
    obtain ⟨b, off, spot⟩ := a'
    have hspot : spot = none := by simpa [Addr.add] using World.cell?_spot (hcell 0 (by omega)).1
    subst hspot
    rw [add_plain] at h0 h1
    rw [e0] at h0
    rw [e1] at h1
    have k0 : intOf (V0 i) = z0 := by rw [e0]; rfl
    have k1 : intOf (V1 i) = z1 := by rw [e1]; rfl
    refine ⟨b, off, rfl, World.block_lt_of_cell? _ _ h0, ?_, ?_, ?_⟩
    · show _ = some (Value.int .u64 (intOf (V0 i)))
      rw [k0]; exact h0
    · show _ = some (Value.int .i64 (intOf (V1 i)))
      rw [k1]; exact h1
    · show _ ≤ intOf (V0 i) ∧ intOf (V0 i) < _
      rw [k0]; exact wf45_u64 wz0

set_option maxRecDepth 100000 in
theorem raw45_open {H : Type} {enc : TypeId × Value → H} {W : World} {b0 : Nat} {v : Value} {d : DataW H} {p : List MemPlace}
    (hv : Value.okWide Try.prog W .any b0 42 v) (h : DataW.Trod enc Try.prog W 0 (fun _ => true) true 42 v d p) : ∃ x y : Int, v = .agg #[.int .u64 x, .int .i64 y] ∧ 0 ≤ x ∧ x < 18446744073709551616 := by
  obtain ⟨v0, v1, y0, y1, n, rfl, _, _, t0, t1⟩ := open_agg2 Try.underlying42 (by kernel_rfl) cells45R hv h
  obtain ⟨z0, e0, _, wz0⟩ := DataW.trod_int Try.underlying40 t0
  obtain ⟨z1, e1, _, wz1⟩ := DataW.trod_int Try.underlying2 t1
  simp at e0 e1
  subst e0; subst e1
  exact ⟨z0, z1, rfl, wf45_u64 wz0⟩
end Go.Proofs.Ytclcmabohpoaiaa

namespace Go.Proofs.Ytclcmabohpoaiaa
open Go.ChangeShapes Go.WideShapes Go.ChangeAt Go.RowKit Go.Deep Go.Joins

/-- One operation in the making: its kind, its item, its draws. -/
def OpAt (w : World) (g o : Nat) : Prop :=
  ∃ (kd p x d0 d1 : Int), (w.cell? ⟨g, o, none⟩ = some (.int .i64 kd) ∧ w.cell? ⟨g, o + 1, none⟩ = some (.int .u64 p) ∧ w.cell? ⟨g, o + 2, none⟩ = some (.int .i64 x)) ∧
    (w.cell? ⟨g, o + 3, none⟩ = some (.int .i64 d0) ∧ w.cell? ⟨g, o + 4, none⟩ = some (.int .i64 d1)) ∧ 0 ≤ p ∧ p < 18446744073709551616
/-- Operations, as an argument. -/
def Ops (w : World) (a : Option Addr) (n : Nat) : Prop := ∀ i, i < n → ∃ g off, a = some ⟨g, off, none⟩ ∧ g < w.heap.size ∧ OpAt w g (off + i * 5)
theorem Ops.below {w w' : World} {a : Option Addr} {n : Nat} (h : Ops w a n) (hb : Below w.heap.size w w') : Ops w' a n := fun i hi => by
  obtain ⟨g, off, h1, h2, kd, p, x, d0, d1, ⟨c0, c1, c2⟩, ⟨c3, c4⟩, h4⟩ := h i hi
  refine ⟨g, off, h1, Nat.lt_of_lt_of_le h2 hb.size, kd, p, x, d0, d1, ⟨?_, ?_, ?_⟩, ⟨?_, ?_⟩, h4⟩
  · exact (hb.cell (p := ⟨g, off + i * 5, none⟩) h2).trans c0
  · exact (hb.cell (p := ⟨g, off + i * 5 + 1, none⟩) h2).trans c1
  · exact (hb.cell (p := ⟨g, off + i * 5 + 2, none⟩) h2).trans c2
  · exact (hb.cell (p := ⟨g, off + i * 5 + 3, none⟩) h2).trans c3
  · exact (hb.cell (p := ⟨g, off + i * 5 + 4, none⟩) h2).trans c4

theorem cells6R : Try.prog.cellsOf 44 = 5 := by kernel_rfl
theorem cells6I : Try.prog.cellsOf 3 = 1 := by kernel_rfl

set_option maxRecDepth 100000 in
theorem ops6_open {H : Type} {enc : TypeId × Value → H} {W : World} {fuel : Nat} {a : Option Addr} {len cap : Nat} {x : DataW H × List MemPlace}
    (h : DataW.trod enc Try.prog W 0 (fun _ => true) true fuel 22 [.slice a len cap] = some x) : Ops W a len := by
  rcases open_slice Try.underlying22 h with ⟨hcs, _⟩ | ⟨a', len', cap', m, n, D, Pl, hcs, _, hl, hm, hmm, _, hcell⟩
  · simp at hcs
    obtain ⟨rfl, rfl, rfl⟩ := hcs
    exact fun i hi => absurd hi (Nat.not_lt_zero _)
  · simp at hcs
    obtain ⟨rfl, rfl, rfl⟩ := hcs
    simp only [if_true] at hmm
    intro i hi
    obtain ⟨cs, h1, h2⟩ := hcell i (by omega)
    rw [cells6R] at h1
    obtain ⟨_, hlen, hc⟩ := World.cells?_some h1
    obtain ⟨y0, y1, y2, y3, k, _, _, t0, t1, t2, t3⟩ := trod_struct4 Try.underlying44 h2
    match cs, hlen with
    | [v0, v1, v2, v3, v4], _ =>
      simp [cells6I, cells45R] at t0 t1 t2 t3
      obtain ⟨z0, e0, _, _⟩ := DataW.trod_int Try.underlying3 t0
      obtain ⟨y4, y5, k', _, _, t4, t5⟩ := trod_struct2 Try.underlying42 t1
      simp [cells45U, cells45I] at t4 t5
      obtain ⟨z1, e1, _, wz1⟩ := DataW.trod_int Try.underlying40 t4
      obtain ⟨z2, e2, _, _⟩ := DataW.trod_int Try.underlying2 t5
      obtain ⟨z3, e3, _, _⟩ := DataW.trod_int Try.underlying3 t2
      obtain ⟨z4, e4, _, _⟩ := DataW.trod_int Try.underlying3 t3
      simp at e0 e1 e2 e3 e4
      subst e0; subst e1; subst e2; subst e3; subst e4
      obtain ⟨b, off, spot⟩ := a'
      have c0 := hc 0 (by omega)
      have c1 := hc 1 (by omega)
      have c2 := hc 2 (by omega)
      have c3 := hc 3 (by omega)
      have c4 := hc 4 (by omega)
      have hspot : spot = none := by
        obtain ⟨cs0, q1, _⟩ := hcell 0 (by omega)
        rw [cells6R] at q1
        obtain ⟨_, hlen0, hc0⟩ := World.cells?_some q1
        have q2 := hc0 0 (by omega)
        rw [List.getElem?_eq_getElem (by omega)] at q2
        simpa [Addr.add] using World.cell?_spot q2
      subst hspot
      simp only [add_plain] at c0 c1 c2 c3 c4
      refine ⟨b, off, rfl, World.block_lt_of_cell? _ _ c0, z0, z1, z2, z3, z4, ⟨?_, ?_, ?_⟩, ⟨?_, ?_⟩, wf45_u64 wz1⟩
      · exact c0
      · exact c1
      · exact c2
      · exact c3
      · exact c4
end Go.Proofs.Ytclcmabohpoaiaa
