/-
  Layer 3: RealReads: contract.
-/
import Derived.Test.YtfcjdgjjicfheaaDoorLawsT3
namespace Go.Proofs.YtfcjdgjjicfheaaDoor
open Go.RowKit

theorem cut20_any (s : ByteArray) (w : World) : Calls Tryd.prog 12 #[.string s, .int .i64 20] w fun e w' => (∃ t : ByteArray, t.size ≤ 20 ∧ e = .returned (.string t)) ∧ w' = w := by
  by_cases h : s.size ≤ 20
  · have hi : (s.size : Int) ≤ 20 := by omega
    go_enter Tryd.func12, Tryd.ntmps12
    go_wp2
    go_ret
    exact ⟨⟨s, h, rfl⟩, rfl⟩
  · have hi : ¬ (s.size : Int) ≤ 20 := by omega
    have hi2 : (20 : Int) ≤ s.size := by omega
    go_enter Tryd.func12, Tryd.ntmps12
    go_wp2
    go_ret
    exact ⟨⟨_, by rw [ByteArray.size_extract]; omega, rfl⟩, rfl⟩

set_option maxHeartbeats 1000000 in
set_option maxRecDepth 100000 in
theorem realReads_any (s : ByteArray) (w : World) (hE : Env3 w) :
    Calls Tryd.prog 4 #[.string s] w fun e w' => e = .returned (.bool true) ∧ Below w.heap.size w w' := by
  have ht := hE.tab
  have hN := hE.size
  have HE := Lib.hid hE
  clear hE
  go_enter Tryd.func4, Tryd.ntmps4
  go_wp2_with (first
    | (go_at_call 12; refine (cut20_any _ _).mono ?_; rintro e w1 ⟨⟨t, ht20, rfl⟩, hw1⟩; replace hw1 := hw1.symm; subst hw1)
    | (go_at_call 5; refine (awake3_any _ ht hN).mono ?_; rintro e w2 ⟨rfl, hb2⟩; have HE2 := Lib.hid (HE.out.below hb2); clear ht hN)
    | (go_at_call 8; fail))
  have hPA := parse_any t (by omega) w2 HE2.out.tab HE2.out.size HE2.out.e2 HE2.out.e3
  have hRA := fun w => rparse_any t w
  have hpv := pv_rpv t
  rcases hp : pv t with _ | b
  · have hr : rpv t = none := hpv.symm.trans hp
    have hP : Calls Tryd.prog 8 #[.string t] w2 fun e w' => Below w2.heap.size w2 w' ∧ e = .returned (.tuple #[.float .f64 0, .int .i64 2]) := by
      unfold PvEnd at hPA; rw [hp] at hPA; exact hPA
    have hR : ∀ w, Calls Tryd.prog 13 #[.string t] w fun e w' => Below w.heap.size w w' ∧ ∃ v : Int, e = .returned (.tuple #[.int .u64 v, .bool false]) := fun w => by
      refine (hRA w).mono ?_
      rintro e w' ⟨h1, v, h2, _⟩
      rw [hr] at h2
      exact ⟨h1, v, h2⟩
    have hFb := fun w => run_bits 0 w
    rw [show ni 0 = 0 by decide] at hFb
    clear hPA hRA hpv hp hr
    go_wp2_with (first
      | (go_at_call 8; refine hP.mono ?_; rintro e w3 ⟨hb3, rfl⟩)
      | (go_at_call 13; refine (hR _).mono ?_; rintro e w4 ⟨hb4, v, rfl⟩))
    go_ret
    exact ⟨by simp, hb2.trans ((hb3.trans (hb4.mono hb3.size)).mono hb2.size)⟩
  · have hr : rpv t = some b := hpv.symm.trans hp
    have hP : Calls Tryd.prog 8 #[.string t] w2 fun e w' => Below w2.heap.size w2 w' ∧ e = .returned (.tuple #[.float .f64 b, .int .i64 0]) := by
      unfold PvEnd at hPA; rw [hp] at hPA; exact hPA
    have hR : ∀ w, Calls Tryd.prog 13 #[.string t] w fun e w' => Below w.heap.size w w' ∧ e = .returned (.tuple #[.int .u64 (ni b), .bool true]) := fun w => by
      refine (hRA w).mono ?_
      rintro e w' ⟨h1, v, h2, h3⟩
      have h4 := h3 b hr
      subst h4
      rw [hr] at h2
      exact ⟨h1, h2⟩
    have hFb := fun w => run_bits b w
    generalize ni b = bi at hR hFb
    clear hPA hRA hpv hp hr
    go_wp2_with (first
      | (go_at_call 8; refine hP.mono ?_; rintro e w3 ⟨hb3, rfl⟩)
      | (go_at_call 13; refine (hR _).mono ?_; rintro e w4 ⟨hb4, rfl⟩))
    go_ret
    exact ⟨by simp, hb2.trans ((hb3.trans (hb4.mono hb3.size)).mono hb2.size)⟩
end Go.Proofs.YtfcjdgjjicfheaaDoor
