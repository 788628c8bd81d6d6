/-
  For every cell, value and item in the making carryoverlaw05.CellOwn returns true, and its arguments read as before. No condition.
-/
import Derived.Test.YtogacknpkoiokaaRows
import Derived.Test.YtogacknpkoiokaaOwnLaw5
import Derived.Test.YtogacknpkoiokaaOpen5
import Derived.Test.YtogacknpkoiokaaOpen45
import Derived.WalkKit
namespace Go.Proofs.Ytogacknpkoiokaa.cellOwn
open Go.ChangeShapes Go.WideShapes Go.ChangeAt Go.RowKit Go.Deep Go.Joins
set_option linter.unusedVariables false

set_option maxRecDepth 100000 in
theorem lifted (os : Os) (started : os.Started) (H : Type) (enc : TypeId × Value → H) :
    ReturnsInHanded {} Try.checked os 7 .any (Rows.cellOwnSpec.pre6 enc Try.prog Try.f7 Rows.cellOwnRow.domain false) (Rows.cellOwnSpec.post enc Try.prog Try.f7 false true false false) := by
  refine returnsInHanded_of_change (C := Try.checked) own45 started (by kernel_rfl) Try.func7
    (ChangeSpec.witness6 (enc := enc) (C := Try.checked) false ⟨#[], #[.int .i64 0, .agg #[.int .i64 0, .slice none 0 0], .agg #[.int .u64 0, .int .i64 0]], []⟩ 8 (by kernel_rfl) (by kernel_rfl) (by kernel_rfl) (by kernel_rfl)) ?_
  intro W base args ds gs before hval0 hW hcnd _
  have hval : ∀ (j : Nat) t v, Try.f7.params[j]? = some t → args[j]? = some v → Value.okWide Try.prog W .any base t v := hval0
  have hW' := hW
  obtain ⟨p, q, hA0, hV, rfl, hfz, hnd⟩ := hW
  have hA : DataW.TrodAll enc Try.prog W 0 (fun _ => true) true Try.f7.params.toList args.toList ds p := hA0
  rw [Try.params7] at hA hval
  obtain ⟨v0, vs0, d0, ds0, q0, qq0, hargs, rfl, rfl, h0, r0⟩ := trodAll_cons hA
  obtain ⟨v1, vs1, d1, ds1, q1, qq1, rfl, rfl, rfl, h1, r1⟩ := trodAll_cons r0
  obtain ⟨v2, vs2, d2, ds2, q2, qq2, rfl, rfl, rfl, h2, r2⟩ := trodAll_cons r1
  obtain ⟨rfl, rfl, rfl⟩ := trodAll_nil r2
  obtain rfl : args = #[v0, v1, v2] := by cases args; simp_all
  obtain ⟨rfl, rfl⟩ := trodVars_none hV
  have hlt1 : ∀ x ∈ q1, x.block < W.heap.size := fun x hx => hW'.lt x (by simp [hx])
  have hlt2 : ∀ x ∈ q2, x.block < W.heap.size := fun x hx => hW'.lt x (by simp [hx])
  obtain ⟨a0, rfl, rfl, rfl, w0⟩ := open_int Try.underlying3 (hval 0 3 v0 rfl rfl) h0
  obtain ⟨x1, s1, n1, c1, K1, M1, rfl, hr1⟩ := val5_open (hval 1 76 v1 rfl rfl) h1
  obtain ⟨p2, u2, rfl, hr2⟩ := raw45_open (hval 2 33 v2 rfl rfl) h2
  clear hA0 hval0
  simp only [List.append_nil, List.nil_append] at hW'
  refine (cellOwn_any a0 x1 s1 n1 c1 K1 M1 p2 u2 W hr1).mono fun e W' ⟨he, bel⟩ => ?_
  subst he
  have h1' := Below.trod laid45 (by kernel_rfl) (of_decide_eq_true (by kernel_rfl)) h1 bel hlt1
  have h2' := Below.trod laid45 (by kernel_rfl) (of_decide_eq_true (by kernel_rfl)) h2 bel hlt2
  have ha : DataW.TrodAll enc Try.prog W' 0 (fun b => decide (b < W.heap.size)) true [3, 76, 33] [.int .i64 a0, .agg #[.int .i64 x1, .slice s1 n1 c1], .agg #[.int .u64 p2, .int .i64 u2]] [.lit (.int .i64 a0), d1, d2] (q1 ++ q2) := by
    simpa using (trodAll_cons_mk (shut_int Try.underlying3 w0) (trodAll_cons_mk h1' (trodAll_cons_mk h2' trodAll_mk0)))
  exact ⟨_, rfl, _, _, _, [], q1 ++ q2, [], hW', (trodAll_cons_mk (shut_bool Try.underlying4 _) trodAll_mk0), ha, rfl, bel.frame _, fun h => by cases h⟩

theorem over : Rows.cellOwnRow.holds Try.pinned (OpenSpec.ofChange Rows.cellOwnSpec) :=
  OpenClaim.holds_of_wide 7 Try.f7 rfl rfl rfl rfl rfl rfl rfl ⟨rfl, rfl, rfl, rfl, rfl⟩ rfl rfl rfl rfl rfl (by kernel_rfl) Try.func7 (by kernel_rfl)
    (of_decide_eq_true (by kernel_rfl)) (by unfold Func.isWrapper; first | (rw [if_pos (by decide +kernel)]; kernel_rfl) | (rw [if_neg (by decide +kernel)]; exact ⟨rfl, rfl⟩))
    (fun os started H enc _ => lifted os started H enc)

theorem proved : Rows.CellOwnSaid :=
  over
end Go.Proofs.Ytogacknpkoiokaa.cellOwn
