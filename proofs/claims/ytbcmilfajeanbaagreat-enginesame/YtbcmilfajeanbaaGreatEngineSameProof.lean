/-
  EngineSame: for every kind, parameter and row of calls the call returns true, and nothing that was there has changed. No condition.
-/
import Derived.Test.YtbcmilfajeanbaaGreatRows
import Derived.Test.YtbcmilfajeanbaaGreatEngSame
import Derived.Test.YtbcmilfajeanbaaGreatRefOp6All
import Derived.WalkKit
namespace Go.Proofs.YtbcmilfajeanbaaGreat.engineSame
open Go.ChangeShapes Go.WideShapes Go.ChangeAt Go.RowKit Go.Deep Go.Joins
set_option linter.unusedVariables false

set_option maxRecDepth 100000 in
theorem lifted (os : Os) (started : os.Started) (H : Type) (enc : TypeId × Value → H) :
    ReturnsInHanded {} Tryz.checked os 3 .any (Rows.engineSameSpec.pre6 enc Tryz.prog Tryz.f3 Rows.engineSameRow.domain false) (Rows.engineSameSpec.post enc Tryz.prog Tryz.f3 false true false false) := by
  refine returnsInHanded_of_change (C := Tryz.checked) own45 started (by kernel_rfl) Tryz.func3
    (ChangeSpec.witness6 (enc := enc) (C := Tryz.checked) false ⟨#[], #[.int .i64 0, .int .i64 0, .slice none 0 0], []⟩ 8 (by kernel_rfl) (by kernel_rfl) (by kernel_rfl) (by kernel_rfl)) ?_
  intro W base args ds gs before hval0 hW hcnd _
  have hval : ∀ (j : Nat) t v, Tryz.f3.params[j]? = some t → args[j]? = some v → Value.okWide Tryz.prog W .any base t v := hval0
  have hW' := hW
  obtain ⟨p, q, hA0, hV, rfl, hfz, hnd⟩ := hW
  have hA : DataW.TrodAll enc Tryz.prog W 0 (fun _ => true) true Tryz.f3.params.toList args.toList ds p := hA0
  rw [Tryz.params3] at hA hval
  obtain ⟨v0, vs0, d0, ds0, q0, qq0, hargs, rfl, rfl, h0, r0⟩ := trodAll_cons hA
  obtain ⟨v1, vs1, d1, ds1, q1, qq1, rfl, rfl, rfl, h1, r1⟩ := trodAll_cons r0
  obtain ⟨v2, vs2, d2, ds2, q2, qq2, rfl, rfl, rfl, h2, r2⟩ := trodAll_cons r1
  obtain ⟨rfl, rfl, rfl⟩ := trodAll_nil r2
  obtain rfl : args = #[v0, v1, v2] := by cases args; simp_all
  obtain ⟨rfl, rfl⟩ := trodVars_none hV
  have hlt2 : ∀ x ∈ q2, x.block < W.heap.size := fun x hx => hW'.lt x (by simp [hx])
  obtain ⟨a0, rfl, rfl, rfl, w0⟩ := open_int Tryz.underlying3 (hval 0 3 v0 rfl rfl) h0
  obtain ⟨a1, rfl, rfl, rfl, w1⟩ := open_int Tryz.underlying3 (hval 1 3 v1 rfl rfl) h1
  obtain ⟨s2, n2, c2, rfl⟩ := okWide_slice Tryz.underlying22 (hval 2 22 v2 rfl rfl)
  have hr2 : Acts13 W s2 n2 := by
    obtain ⟨fuel, hf⟩ := h2
    exact acts13_open hf
  clear hA0 hval0
  simp only [List.append_nil, List.nil_append] at hW'
  refine (engineSame_any a0 a1 s2 n2 c2 W hr2).mono fun e W' ⟨he, bel⟩ => ?_
  subst he
  have h2' := Below.trod laid45 (by kernel_rfl) (of_decide_eq_true (by kernel_rfl)) h2 bel hlt2
  have ha : DataW.TrodAll enc Tryz.prog W' 0 (fun b => decide (b < W.heap.size)) true [3, 3, 22] [.int .i64 a0, .int .i64 a1, .slice s2 n2 c2] [.lit (.int .i64 a0), .lit (.int .i64 a1), d2] (q2) := by
    simpa using (trodAll_cons_mk (shut_int Tryz.underlying3 w0) (trodAll_cons_mk (shut_int Tryz.underlying3 w1) (trodAll_cons_mk h2' trodAll_mk0)))
  exact ⟨_, rfl, _, _, _, [], q2, [], hW', (trodAll_cons_mk (shut_bool Tryz.underlying4 _) trodAll_mk0), ha, rfl, bel.frame _, fun h => by cases h⟩

theorem over : Rows.engineSameRow.holds Tryz.pinned (OpenSpec.ofChange Rows.engineSameSpec) :=
  OpenClaim.holds_of_wide 3 Tryz.f3 rfl rfl rfl rfl rfl rfl rfl ⟨rfl, rfl, rfl, rfl, rfl⟩ rfl rfl rfl rfl rfl (by kernel_rfl) Tryz.func3 (by kernel_rfl)
    (of_decide_eq_true (by kernel_rfl)) (by unfold Func.isWrapper; first | (rw [if_pos (by decide +kernel)]; kernel_rfl) | (rw [if_neg (by decide +kernel)]; exact ⟨rfl, rfl⟩))
    (fun os started H enc _ => lifted os started H enc)

theorem proved : Rows.EngineSameSaid :=
  over
end Go.Proofs.YtbcmilfajeanbaaGreat.engineSame
