/-
  Layer 4's law of any calls of a pile, as it stands in the table.
-/
import Derived.Test.YtepigofpcjmddaaRows
import Derived.Test.YtepigofpcjmddaaPilePl
import Derived.Test.YtepigofpcjmddaaActs4All
import Derived.WalkKit
namespace Go.Proofs.Ytepigofpcjmddaa.pilePlays
open Go.ChangeShapes Go.WideShapes Go.ChangeAt Go.RowKit Go.Deep Go.Joins
set_option linter.unusedVariables false

set_option maxRecDepth 100000 in
theorem lifted (os : Os) (started : os.Started) (H : Type) (enc : TypeId × Value → H) :
    ReturnsInHanded {} Try.checked os 3 .any (Rows.pilePlaysSpec.pre6 enc Try.prog Try.f3 Rows.pilePlaysRow.domain false) (Rows.pilePlaysSpec.post enc Try.prog Try.f3 false true false false) := by
  refine returnsInHanded_of_change (C := Try.checked) own45 started (by kernel_rfl) Try.func3
    (ChangeSpec.witness6 (enc := enc) (C := Try.checked) false ⟨#[], #[.slice none 0 0, .slice none 0 0], []⟩ 8 (by kernel_rfl) (by kernel_rfl) (by kernel_rfl) (by kernel_rfl)) ?_
  intro W base args ds gs before hval0 hW hcnd _
  have hval : ∀ (j : Nat) t v, Try.f3.params[j]? = some t → args[j]? = some v → Value.okWide Try.prog W .any base t v := hval0
  have hW' := hW
  obtain ⟨p, q, hA0, hV, rfl, hfz, hnd⟩ := hW
  have hA : DataW.TrodAll enc Try.prog W 0 (fun _ => true) true Try.f3.params.toList args.toList ds p := hA0
  rw [Try.params3] at hA hval
  obtain ⟨v0, vs0, d0, ds0, q0, qq0, hargs, rfl, rfl, h0, r0⟩ := trodAll_cons hA
  obtain ⟨v1, vs1, d1, ds1, q1, qq1, rfl, rfl, rfl, h1, r1⟩ := trodAll_cons r0
  obtain ⟨rfl, rfl, rfl⟩ := trodAll_nil r1
  obtain rfl : args = #[v0, v1] := by cases args; simp_all
  obtain ⟨rfl, rfl⟩ := trodVars_none hV
  have hlt0 : ∀ x ∈ q0, x.block < W.heap.size := fun x hx => hW'.lt x (by simp [hx])
  have hlt1 : ∀ x ∈ q1, x.block < W.heap.size := fun x hx => hW'.lt x (by simp [hx])
  obtain ⟨s0, n0, c0, rfl⟩ := okWide_slice Try.underlying22 (hval 0 22 v0 rfl rfl)
  obtain ⟨K0, M0, hr0⟩ : ∃ K M, Raws W s0 n0 K M := by
    obtain ⟨fuel, hf⟩ := h0
    exact raws45_open hf
  obtain ⟨s1, n1, c1, rfl⟩ := okWide_slice Try.underlying23 (hval 1 23 v1 rfl rfl)
  have hr1 : Acts4 W s1 n1 := by
    obtain ⟨fuel, hf⟩ := h1
    exact acts4_open hf
  clear hA0 hval0
  simp only [List.append_nil] at hW'
  refine (pilePlays_any s0 n0 c0 K0 M0 s1 n1 c1 W hr0 hr1).mono fun e W' ⟨he, bel⟩ => ?_
  subst he
  have h0' := Below.trod laid45 (by kernel_rfl) (of_decide_eq_true (by kernel_rfl)) h0 bel hlt0
  have h1' := Below.trod laid45 (by kernel_rfl) (of_decide_eq_true (by kernel_rfl)) h1 bel hlt1
  have ha : DataW.TrodAll enc Try.prog W' 0 (fun b => decide (b < W.heap.size)) true [22, 23] [.slice s0 n0 c0, .slice s1 n1 c1] [d0, d1] (q0 ++ q1) := by
    simpa using (trodAll_cons_mk h0' (trodAll_cons_mk h1' trodAll_mk0))
  exact ⟨_, rfl, _, _, _, [], q0 ++ q1, [], hW', (trodAll_cons_mk (shut_bool Try.underlying4 _) trodAll_mk0), ha, rfl, bel.frame _, fun h => by cases h⟩

theorem over : Rows.pilePlaysRow.holds Try.pinned (OpenSpec.ofChange Rows.pilePlaysSpec) :=
  OpenClaim.holds_of_wide 3 Try.f3 rfl rfl rfl rfl rfl rfl rfl ⟨rfl, rfl, rfl, rfl, rfl⟩ rfl rfl rfl rfl rfl (by kernel_rfl) Try.func3 (by kernel_rfl)
    (of_decide_eq_true (by kernel_rfl)) (by unfold Func.isWrapper; first | (rw [if_pos (by decide +kernel)]; kernel_rfl) | (rw [if_neg (by decide +kernel)]; exact ⟨rfl, rfl⟩))
    (fun os started H enc _ => lifted os started H enc)

theorem proved : Rows.PilePlaysSaid :=
  over
end Go.Proofs.Ytepigofpcjmddaa.pilePlays
