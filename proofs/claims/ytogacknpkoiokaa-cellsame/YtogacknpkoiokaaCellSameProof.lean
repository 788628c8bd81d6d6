/-
  For every two values in the making carryoverlaw05.CellSame returns true, and its arguments read as before. No condition.
-/
import Derived.Test.YtogacknpkoiokaaRows
import Derived.Test.YtogacknpkoiokaaSameLaw5
import Derived.Test.YtogacknpkoiokaaOpen5
import Derived.Test.YtogacknpkoiokaaOpen45
import Derived.WalkKit
namespace Go.Proofs.Ytogacknpkoiokaa.cellSame
open Go.ChangeShapes Go.WideShapes Go.ChangeAt Go.RowKit Go.Deep Go.Joins
set_option linter.unusedVariables false

set_option maxRecDepth 100000 in
theorem lifted (os : Os) (started : os.Started) (H : Type) (enc : TypeId × Value → H) :
    ReturnsInHanded {} Try.checked os 8 .any (Rows.cellSameSpec.pre6 enc Try.prog Try.f8 Rows.cellSameRow.domain false) (Rows.cellSameSpec.post enc Try.prog Try.f8 false true false false) := by
  refine returnsInHanded_of_change (C := Try.checked) own45 started (by kernel_rfl) Try.func8
    (ChangeSpec.witness6 (enc := enc) (C := Try.checked) false ⟨#[], #[.agg #[.int .i64 0, .slice none 0 0], .agg #[.int .i64 0, .slice none 0 0]], []⟩ 8 (by kernel_rfl) (by kernel_rfl) (by kernel_rfl) (by kernel_rfl)) ?_
  intro W base args ds gs before hval0 hW hcnd _
  have hval : ∀ (j : Nat) t v, Try.f8.params[j]? = some t → args[j]? = some v → Value.okWide Try.prog W .any base t v := hval0
  have hW' := hW
  obtain ⟨p, q, hA0, hV, rfl, hfz, hnd⟩ := hW
  have hA : DataW.TrodAll enc Try.prog W 0 (fun _ => true) true Try.f8.params.toList args.toList ds p := hA0
  rw [Try.params8] at hA hval
  obtain ⟨v0, vs0, d0, ds0, q0, qq0, hargs, rfl, rfl, h0, r0⟩ := trodAll_cons hA
  obtain ⟨v1, vs1, d1, ds1, q1, qq1, rfl, rfl, rfl, h1, r1⟩ := trodAll_cons r0
  obtain ⟨rfl, rfl, rfl⟩ := trodAll_nil r1
  obtain rfl : args = #[v0, v1] := by cases args; simp_all
  obtain ⟨rfl, rfl⟩ := trodVars_none hV
  have hlt0 : ∀ x ∈ q0, x.block < W.heap.size := fun x hx => hW'.lt x (by simp [hx])
  have hlt1 : ∀ x ∈ q1, x.block < W.heap.size := fun x hx => hW'.lt x (by simp [hx])
  obtain ⟨x0, s0, n0, c0, K0, M0, rfl, hr0⟩ := val5_open (hval 0 76 v0 rfl rfl) h0
  obtain ⟨x1, s1, n1, c1, K1, M1, rfl, hr1⟩ := val5_open (hval 1 76 v1 rfl rfl) h1
  clear hA0 hval0
  simp only [List.append_nil] at hW'
  refine (cellSame_any x0 x1 s0 s1 n0 n1 c0 c1 K0 M0 K1 M1 W hr0 hr1).mono fun e W' ⟨he, bel⟩ => ?_
  subst he
  have h0' := Below.trod laid45 (by kernel_rfl) (of_decide_eq_true (by kernel_rfl)) h0 bel hlt0
  have h1' := Below.trod laid45 (by kernel_rfl) (of_decide_eq_true (by kernel_rfl)) h1 bel hlt1
  have ha : DataW.TrodAll enc Try.prog W' 0 (fun b => decide (b < W.heap.size)) true [76, 76] [.agg #[.int .i64 x0, .slice s0 n0 c0], .agg #[.int .i64 x1, .slice s1 n1 c1]] [d0, d1] (q0 ++ q1) := by
    simpa using (trodAll_cons_mk h0' (trodAll_cons_mk h1' trodAll_mk0))
  exact ⟨_, rfl, _, _, _, [], q0 ++ q1, [], hW', (trodAll_cons_mk (shut_bool Try.underlying4 _) trodAll_mk0), ha, rfl, bel.frame _, fun h => by cases h⟩

theorem over : Rows.cellSameRow.holds Try.pinned (OpenSpec.ofChange Rows.cellSameSpec) :=
  OpenClaim.holds_of_wide 8 Try.f8 rfl rfl rfl rfl rfl rfl rfl ⟨rfl, rfl, rfl, rfl, rfl⟩ rfl rfl rfl rfl rfl (by kernel_rfl) Try.func8 (by kernel_rfl)
    (of_decide_eq_true (by kernel_rfl)) (by unfold Func.isWrapper; first | (rw [if_pos (by decide +kernel)]; kernel_rfl) | (rw [if_neg (by decide +kernel)]; exact ⟨rfl, rfl⟩))
    (fun os started H enc _ => lifted os started H enc)

theorem proved : Rows.CellSameSaid :=
  over
end Go.Proofs.Ytogacknpkoiokaa.cellSame
