/-
  For every two slices of items in the making carryoverlaw04.PileMerge returns true, and its arguments read as before. No condition.
-/
import Derived.Test.YthhechgjablklaaRows
import Derived.Test.YthhechgjablklaaMerge2
import Derived.Deep.SlicePairs
import Derived.Carry
import Derived.WalkKit
import Derived.ProofKit
import Derived.OpenShut
namespace Go.Proofs.Ythhechgjablklaa.pileMerge
open Go.ChangeShapes Go.WideShapes Go.ChangeAt Go.RowKit Go.Deep
set_option linter.unusedVariables false

theorem own : ownKnob Try.prog.godebug = none := by kernel_rfl
theorem laid : laidOutB Try.prog = true := by kernel_rfl
theorem cellsR : Try.prog.cellsOf 33 = 2 := by kernel_rfl
theorem cellsU : Try.prog.cellsOf 31 = 1 := by kernel_rfl
theorem cellsI : Try.prog.cellsOf 2 = 1 := by kernel_rfl
theorem wf_u64 {x : Int} (h : (Lit.int .u64 x).wf = true) : 0 ≤ x ∧ x < 18446744073709551616 := by
  simp [Lit.wf, IntKind.min, IntKind.max, IntKind.signed, IntKind.bits] at h
  omega


theorem raws_open {H : Type} {enc : TypeId × Value → H} {W : World} {fuel : Nat} {a : Option Addr} {len cap : Nat} {x : DataW H × List MemPlace}
    (h : DataW.trod enc Try.prog W 0 (fun _ => true) true fuel 22 [.slice a len cap] = some x) : ∃ K M, Raws W a len K M := by
  rcases open_slice_pairs Try.underlying22 Try.underlying33 cellsR rfl rfl cellsU cellsI h with ⟨hcs, _⟩ | ⟨a', len', cap', m, n, V0, V1, D0, D1, P0, P1, hcs, _, hl, hm, hmm, _, hcell⟩
  · simp at hcs
    obtain ⟨rfl, rfl, rfl⟩ := hcs
    exact ⟨fun _ => 0, fun _ => 0, fun i hi => absurd hi (Nat.not_lt_zero _)⟩
  · simp at hcs
    obtain ⟨rfl, rfl, rfl⟩ := hcs
    simp only [if_true] at hmm
    refine ⟨fun i => intOf (V0 i), fun i => intOf (V1 i), fun i hi => ?_⟩
    obtain ⟨h0, h1, t0, t1⟩ := hcell i (by omega)
    obtain ⟨z0, e0, _, wz0⟩ := DataW.trod_int Try.underlying31 t0
    obtain ⟨z1, e1, _, wz1⟩ := DataW.trod_int Try.underlying2 t1
    simp at e0 e1
    obtain ⟨b, off, spot⟩ := a'
    have hspot : spot = none := by simpa [Addr.add] using World.cell?_spot (hcell 0 (by omega)).1
    subst hspot
    rw [add_plain] at h0 h1
    rw [e0] at h0
    rw [e1] at h1
    have k0 : intOf (V0 i) = z0 := by rw [e0]; rfl
    have k1 : intOf (V1 i) = z1 := by rw [e1]; rfl
    refine ⟨b, off, rfl, World.block_lt_of_cell? _ _ h0, ?_, ?_, ?_⟩
    · show _ = some (Value.int .u64 (intOf (V0 i)))
      rw [k0]; exact h0
    · show _ = some (Value.int .i64 (intOf (V1 i)))
      rw [k1]; exact h1
    · show _ ≤ intOf (V0 i) ∧ intOf (V0 i) < _
      rw [k0]; exact wf_u64 wz0

set_option maxRecDepth 100000 in
theorem lifted (os : Os) (started : os.Started) (H : Type) (enc : TypeId × Value → H) :
    ReturnsInHanded {} Try.checked os 5 .any (Rows.pileMergeSpec.pre6 enc Try.prog Try.f5 Rows.pileMergeRow.domain false) (Rows.pileMergeSpec.post enc Try.prog Try.f5 false true false false) := by
  refine returnsInHanded_of_change (C := Try.checked) own started (by kernel_rfl) Try.func5
    (ChangeSpec.witness6 (enc := enc) (C := Try.checked) false ⟨#[], #[.slice none 0 0, .slice none 0 0], []⟩ 8 (by kernel_rfl) (by kernel_rfl) (by kernel_rfl) (by kernel_rfl)) ?_
  intro W base args ds gs before hval0 hW hcnd _
  have hval : ∀ (j : Nat) t v, Try.f5.params[j]? = some t → args[j]? = some v → Value.okWide Try.prog W .any base t v := hval0
  have hW' := hW
  obtain ⟨p, q, hA0, hV, rfl, hfz, hnd⟩ := hW
  have hA : DataW.TrodAll enc Try.prog W 0 (fun _ => true) true Try.f5.params.toList args.toList ds p := hA0
  rw [Try.params5] at hA hval
  obtain ⟨v0, vs0, d0, ds0, p0, q0, hargs, rfl, rfl, h0, r0⟩ := trodAll_cons hA
  obtain ⟨v1, vs1, d1, ds1, p1, q1, rfl, rfl, rfl, h1, r1⟩ := trodAll_cons r0
  obtain ⟨rfl, rfl, rfl⟩ := trodAll_nil r1
  obtain rfl : args = #[v0, v1] := by cases args; simp_all
  obtain ⟨rfl, rfl⟩ := trodVars_none hV
  obtain ⟨a1, n1, c1, rfl⟩ := okWide_slice Try.underlying22 (hval 0 22 v0 rfl rfl)
  obtain ⟨a2, n2, c2, rfl⟩ := okWide_slice Try.underlying22 (hval 1 22 v1 rfl rfl)
  have hlt0 : ∀ x ∈ p0, x.block < W.heap.size := fun x hx => hW'.lt x (by simp [hx])
  have hlt1 : ∀ x ∈ p1, x.block < W.heap.size := fun x hx => hW'.lt x (by simp [hx])
  obtain ⟨K1, M1, hr1⟩ : ∃ K M, Raws W a1 n1 K M := by
    obtain ⟨fuel, hf⟩ := h0
    exact raws_open hf
  obtain ⟨K2, M2, hr2⟩ : ∃ K M, Raws W a2 n2 K M := by
    obtain ⟨fuel, hf⟩ := h1
    exact raws_open hf
  clear hA0 hval0
  simp only [List.append_nil] at hW'
  refine (merge_any a1 a2 n1 n2 c1 c2 K1 M1 K2 M2 W hr1 hr2).mono fun e W' ⟨he, bel⟩ => ?_
  subst he
  have h0' := Below.trod laid (by kernel_rfl) (of_decide_eq_true (by kernel_rfl)) h0 bel hlt0
  have h1' := Below.trod laid (by kernel_rfl) (of_decide_eq_true (by kernel_rfl)) h1 bel hlt1
  have ha : DataW.TrodAll enc Try.prog W' 0 (fun b => decide (b < W.heap.size)) true [22, 22] [.slice a1 n1 c1, .slice a2 n2 c2] [d0, d1] (p0 ++ p1) := by
    simpa using (trodAll_cons_mk h0' (trodAll_cons_mk h1' trodAll_mk0))
  exact ⟨_, rfl, _, _, _, [], p0 ++ p1, [], hW', (trodAll_cons_mk (shut_bool Try.underlying4 _) trodAll_mk0), ha, rfl, bel.frame _, fun h => by cases h⟩

theorem over : Rows.pileMergeRow.holds Try.pinned (OpenSpec.ofChange Rows.pileMergeSpec) :=
  OpenClaim.holds_of_wide 5 Try.f5 rfl rfl rfl rfl rfl rfl rfl ⟨rfl, rfl, rfl, rfl, rfl⟩ rfl rfl rfl rfl rfl (by kernel_rfl) Try.func5 (by kernel_rfl)
    (of_decide_eq_true (by kernel_rfl)) (by unfold Func.isWrapper; first | (rw [if_pos (by decide +kernel)]; kernel_rfl) | (rw [if_neg (by decide +kernel)]; exact ⟨rfl, rfl⟩))
    (fun os started H enc _ => lifted os started H enc)

theorem proved : Rows.PileMergeSaid :=
  over
end Go.Proofs.Ythhechgjablklaa.pileMerge
