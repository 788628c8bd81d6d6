/-
  EngineWith: for every item in the making and every number the call returns true: an engine on a memory in which a cell was written makes its steps on it. No condition.
-/
import Derived.Test.YtdghgmaoamjnlaaGreatRows
import Derived.Test.YtdghgmaoamjnlaaGreatEngWith
import Derived.Test.YtdghgmaoamjnlaaGreatOpen45
import Derived.WalkKit
namespace Go.Proofs.YtdghgmaoamjnlaaGreat.engineWith
open Go.ChangeShapes Go.WideShapes Go.ChangeAt Go.RowKit Go.Deep Go.Joins
set_option linter.unusedVariables false

set_option maxRecDepth 100000 in
theorem lifted (os : Os) (started : os.Started) (H : Type) (enc : TypeId × Value → H) :
    ReturnsInHanded {} Tryz.checked os 7 .any (Rows.engineWithSpec.pre6 enc Tryz.prog Tryz.f7 Rows.engineWithRow.domain false) (Rows.engineWithSpec.post enc Tryz.prog Tryz.f7 false true false false) := by
  refine returnsInHanded_of_change (C := Tryz.checked) own45 started (by kernel_rfl) Tryz.func7
    (ChangeSpec.witness6 (enc := enc) (C := Tryz.checked) false ⟨#[], #[.agg #[.int .u64 0, .int .i64 0], .int .i64 0], []⟩ 8 (by kernel_rfl) (by kernel_rfl) (by kernel_rfl) (by kernel_rfl)) ?_
  intro W base args ds gs before hval0 hW hcnd _
  have hval : ∀ (j : Nat) t v, Tryz.f7.params[j]? = some t → args[j]? = some v → Value.okWide Tryz.prog W .any base t v := hval0
  have hW' := hW
  obtain ⟨p, q, hA0, hV, rfl, hfz, hnd⟩ := hW
  have hA : DataW.TrodAll enc Tryz.prog W 0 (fun _ => true) true Tryz.f7.params.toList args.toList ds p := hA0
  rw [Tryz.params7] at hA hval
  obtain ⟨v0, vs0, d0, ds0, q0, qq0, hargs, rfl, rfl, h0, r0⟩ := trodAll_cons hA
  obtain ⟨v1, vs1, d1, ds1, q1, qq1, rfl, rfl, rfl, h1, r1⟩ := trodAll_cons r0
  obtain ⟨rfl, rfl, rfl⟩ := trodAll_nil r1
  obtain rfl : args = #[v0, v1] := by cases args; simp_all
  obtain ⟨rfl, rfl⟩ := trodVars_none hV
  have hlt0 : ∀ x ∈ q0, x.block < W.heap.size := fun x hx => hW'.lt x (by simp [hx])
  obtain ⟨p0, u0, rfl, hr0⟩ := raw45_open (hval 0 57 v0 rfl rfl) h0
  obtain ⟨a1, rfl, rfl, rfl, w1⟩ := open_int Tryz.underlying3 (hval 1 3 v1 rfl rfl) h1
  clear hA0 hval0
  simp only [List.append_nil] at hW'
  refine (engineWith_any p0 u0 a1 W hr0.1 hr0.2).mono fun e W' ⟨he, bel⟩ => ?_
  subst he
  have h0' := Below.trod laid45 (by kernel_rfl) (of_decide_eq_true (by kernel_rfl)) h0 bel hlt0
  have ha : DataW.TrodAll enc Tryz.prog W' 0 (fun b => decide (b < W.heap.size)) true [57, 3] [.agg #[.int .u64 p0, .int .i64 u0], .int .i64 a1] [d0, .lit (.int .i64 a1)] (q0) := by
    simpa using (trodAll_cons_mk h0' (trodAll_cons_mk (shut_int Tryz.underlying3 w1) trodAll_mk0))
  exact ⟨_, rfl, _, _, _, [], q0, [], hW', (trodAll_cons_mk (shut_bool Tryz.underlying4 _) trodAll_mk0), ha, rfl, bel.frame _, fun h => by cases h⟩

theorem over : Rows.engineWithRow.holds Tryz.pinned (OpenSpec.ofChange Rows.engineWithSpec) :=
  OpenClaim.holds_of_wide 7 Tryz.f7 rfl rfl rfl rfl rfl rfl rfl ⟨rfl, rfl, rfl, rfl, rfl⟩ rfl rfl rfl rfl rfl (by kernel_rfl) Tryz.func7 (by kernel_rfl)
    (of_decide_eq_true (by kernel_rfl)) (by unfold Func.isWrapper; first | (rw [if_pos (by decide +kernel)]; kernel_rfl) | (rw [if_neg (by decide +kernel)]; exact ⟨rfl, rfl⟩))
    (fun os started H enc _ => lifted os started H enc)

theorem proved : Rows.EngineWithSaid :=
  over
end Go.Proofs.YtdghgmaoamjnlaaGreat.engineWith
