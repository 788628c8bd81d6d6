/-
  Arguments of the laws of layer 14, opened.
-/
import Derived.Test.YtdghgmaoamjnlaaGreatKNew9All
import Derived.Deep.SlicePairs
import Derived.Lib.SmallJoins
import Derived.Carry
import Derived.ProofKit
import Derived.OpenShut
namespace Go.Proofs.YtdghgmaoamjnlaaGreat
open Go.ChangeShapes Go.WideShapes Go.ChangeAt Go.RowKit Go.Deep Go.Joins

theorem own45 : ownKnob Tryz.prog.godebug = none := by kernel_rfl
theorem laid45 : laidOutB Tryz.prog = true := by kernel_rfl
theorem cells14R : Tryz.prog.cellsOf 177 = 3 := by kernel_rfl

set_option maxRecDepth 100000 in
theorem raw14_open {H : Type} {enc : TypeId × Value → H} {W : World} {b0 : Nat} {v : Value} {d : DataW H} {p : List MemPlace}
    (hv : Value.okWide Tryz.prog W .any b0 177 v) (h : DataW.Trod enc Tryz.prog W 0 (fun _ => true) true 177 v d p) : ∃ x y z : Int, v = .agg #[.int .i64 x, .int .i64 y, .int .i64 z] := by
  obtain ⟨v0, v1, v2, y0, y1, y2, n, rfl, _, _, t0, t1, t2⟩ := open_agg3 Tryz.underlying177 (by kernel_rfl) cells14R hv h
  obtain ⟨z0, e0, _, _⟩ := DataW.trod_int Tryz.underlying3 t0
  obtain ⟨z1, e1, _, _⟩ := DataW.trod_int Tryz.underlying3 t1
  obtain ⟨z2, e2, _, _⟩ := DataW.trod_int Tryz.underlying3 t2
  simp at e0 e1 e2
  subst e0; subst e1; subst e2
  exact ⟨z0, z1, z2, rfl⟩
end Go.Proofs.YtdghgmaoamjnlaaGreat
