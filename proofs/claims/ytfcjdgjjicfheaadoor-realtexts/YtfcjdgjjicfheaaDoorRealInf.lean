/-
  Infinities: contract.
-/
import Derived.Test.YtfcjdgjjicfheaaDoorRealW
namespace Go.Proofs.YtfcjdgjjicfheaaDoor
open Go.RowKit

theorem inf_any (s : Int) (w : World) : Calls Tryd.prog 16 #[.int .i64 s] w fun e w' => e = .returned (.float .f64 (infN s)) ∧ w' = w := by
  have h31 := run_frombits
  unfold infN
  by_cases h : 0 ≤ s
  · rw [if_pos h]
    go_enter Tryd.func16, Tryd.ntmps16
    go_wp2
    go_ret
    exact ⟨rfl, rfl⟩
  · rw [if_neg h]
    have h' : decide (0 ≤ s) = false := decide_eq_false h
    go_enter Tryd.func16, Tryd.ntmps16
    go_wp2
    go_ret
    exact ⟨rfl, rfl⟩
end Go.Proofs.YtfcjdgjjicfheaaDoor
