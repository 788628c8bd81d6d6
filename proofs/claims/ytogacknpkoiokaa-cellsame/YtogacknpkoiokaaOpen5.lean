/-
  Arguments of the laws of layer 5, opened: a value in the making.
-/
import Derived.Test.YtogacknpkoiokaaOpen45
namespace Go.Proofs.Ytogacknpkoiokaa
open Go.ChangeShapes Go.WideShapes Go.ChangeAt Go.RowKit Go.Deep Go.Joins

theorem cells5W : Try.prog.cellsOf 76 = 2 := by kernel_rfl
set_option maxRecDepth 100000 in
theorem val5_open {H : Type} {enc : TypeId × Value → H} {W : World} {b0 : Nat} {v : Value} {d : DataW H} {p : List MemPlace}
    (hv : Value.okWide Try.prog W .any b0 76 v) (h : DataW.Trod enc Try.prog W 0 (fun _ => true) true 76 v d p) : ∃ (x : Int) (a : Option Addr) (n cap : Nat) (K V : Nat → Int), v = .agg #[.int .i64 x, .slice a n cap] ∧ Raws W a n K V := by
  obtain ⟨v0, v1, y0, y1, n, rfl, _, _, t0, t1⟩ := open_agg2 Try.underlying76 (by kernel_rfl) cells5W hv h
  obtain ⟨z0, e0, _, wz0⟩ := DataW.trod_int Try.underlying2 t0
  obtain ⟨a, l, c, e1⟩ := slice_form Try.underlying22 t1
  simp at e0 e1
  subst e0; subst e1
  obtain ⟨K, M, hr⟩ := raws45_open t1
  exact ⟨z0, a, l, c, K, M, rfl, hr⟩
end Go.Proofs.Ytogacknpkoiokaa
