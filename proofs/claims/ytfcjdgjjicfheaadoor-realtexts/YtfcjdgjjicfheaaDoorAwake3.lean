/-
  Layer 3's answers that the document fixes: the call returns true.
-/
import Derived.Test.YtfcjdgjjicfheaaDoorRealInf
import Derived.Test.YtfcjdgjjicfheaaDoorText
namespace Go.Proofs.YtfcjdgjjicfheaaDoor
open Go.RowKit

theorem awake3_any (w : World) (ht : w.cell? ⟨6, 15, none⟩ = some (.int .u8 4)) (hN : 6 < w.heap.size) :
    Calls Tryd.prog 5 #[] w fun e w' => e = .returned (.bool true) ∧ Below w.heap.size w w' := by
  have hk : key 0 = 9223372036854775808 := by decide
  have hT : txt (cbits 4607182418800017408) = ⟨#[51, 102, 102, 48, 48, 48, 48, 48, 48, 48, 48, 48, 48, 48, 48, 48]⟩ := by decide +kernel
  have hc : cls 18442240474082181120 = 2 := by decide
  have hp : cmpI (key 9221120237041090561) (key 9218868437227405312) = 1 := by decide
  have hK : ∀ w, Calls Tryd.prog 14 #[.float .f64 0] w fun e w' => e = .returned (.int .u64 9223372036854775808) ∧ w' = w := fun w => by rw [← hk]; exact key_any 0 w (by decide)
  have hX : ∀ w : World, w.cell? ⟨6, 15, none⟩ = some (.int .u8 4) → 6 < w.heap.size → Calls Tryd.prog 6 #[.float .f64 4607182418800017408] w fun e w' => e = .returned (.string ⟨#[51, 102, 102, 48, 48, 48, 48, 48, 48, 48, 48, 48, 48, 48, 48, 48]⟩) ∧ Below w.heap.size w w' := fun w h1 h2 => by rw [← hT]; exact text_any _ w (by decide) h1 h2
  have hC : ∀ w, Calls Tryd.prog 15 #[.float .f64 18442240474082181120] w fun e w' => e = .returned (.int .i64 2) ∧ w' = w := fun w => by rw [← hc]; exact class_any _ w (by decide)
  have hM : ∀ w, Calls Tryd.prog 17 #[.float .f64 9221120237041090561, .float .f64 9218868437227405312] w fun e w' => e = .returned (.int .i64 1) ∧ w' = w := fun w => by rw [← hp]; exact cmp_any _ _ w (by decide) (by decide)
  clear hk hT hc hp
  have hi1 := infN_pos
  have hi2 := infN_neg
  go_enter Tryd.func5, Tryd.ntmps5
  go_wp2_with (first
    | (go_at_call 14; refine (hK _).mono ?_; rintro e w1 ⟨rfl, hw1⟩; replace hw1 := hw1.symm; subst hw1)
    | (go_at_call 6; refine (hX _ ht hN).mono ?_; rintro e w2 ⟨rfl, hb2⟩)
    | (go_at_call 16; refine (inf_any _ _).mono ?_; rintro e w1 ⟨rfl, hw1⟩; replace hw1 := hw1.symm; subst hw1)
    | (go_at_call 18; refine (nan_any _).mono ?_; rintro e w1 ⟨rfl, hw1⟩; replace hw1 := hw1.symm; subst hw1)
    | (go_at_call 15; refine (hC _).mono ?_; rintro e w1 ⟨rfl, hw1⟩; replace hw1 := hw1.symm; subst hw1)
    | (go_at_call 17; refine (hM _).mono ?_; rintro e w1 ⟨rfl, hw1⟩; replace hw1 := hw1.symm; subst hw1))
  go_ret
  exact ⟨rfl, hb2⟩
end Go.Proofs.YtfcjdgjjicfheaaDoor
