/-
  Layer 3's laws: the calls return true.
-/
import Derived.Test.YtnpoojjnfkhdaaaDoorLaws3
namespace Go.Proofs.YtnpoojjnfkhdaaaDoor
open Go.RowKit

theorem realBack_any (x : Int) (w : World) (hx0 : 0 ≤ x) (hx1 : x < 18446744073709551616) (ht : w.cell? ⟨6, 15, none⟩ = some (.int .u8 4)) (hN : 6 < w.heap.size) :
    Calls Tryd.prog 4 #[.int .u64 x] w fun e w' => e = .returned (.bool true) ∧ Below w.heap.size w w' := by
  have h15 := run_bits
  obtain ⟨y, hy⟩ : ∃ y, backI x = y := ⟨_, rfl⟩
  have hyr := backI_rng hx0 hx1
  have hky0 := keyI_backI hx0 hx1
  have hy0 : 0 ≤ y := by rw [← hy]; exact hyr.1
  have hy1 : y < 18446744073709551616 := by rw [← hy]; exact hyr.2
  rw [hy] at hky0
  clear hyr
  cases hbb : backB x
  · have hnn : nanB (nf y) = true ∧ y ≠ 9221120237041090560 := by
      have h1 : ¬ cbits (nf y) = nf y := by have := of_decide_eq_false hbb; rwa [hy] at this
      cases hq : nanB (nf y)
      · exact absurd (cbits_num hq) h1
      · exact ⟨rfl, fun e => h1 (by rw [cbits_nan hq, e]; rfl)⟩
    have hgt : 9218868437227405312 < nf y % 9223372036854775808 := of_decide_eq_true hnn.1
    have hB : ∀ w, Calls Tryd.prog 11 #[.int .u64 x] w fun e w' => e = .returned (.tuple #[.float .f64 0, .bool false]) ∧ w' = w := fun w => by
      have := back_any x w hx0 hx1; rw [backV_no hbb] at this; exact this
    have k1 : key (nf 18442240474082181120) = 4503599627370495 := by decide
    have k2 : key (nf 9218868437227405312) = 18442240474082181120 := by decide
    have k3 : key (nf 9221120237041090560) = 18444492273895866368 := by decide
    have n0 : ni 0 = 0 := rfl
    have hcase : x < 4503599627370495 ∨ (decide (x < 4503599627370495) = false ∧ 18442240474082181120 < x ∧ (x != 18444492273895866368) = true) := by
      unfold backI at hy
      unfold nf at hgt
      split at hy
      · left; omega
      · right; exact ⟨decide_eq_false (by omega), by omega, by have := hnn.2; simp; omega⟩
    clear hgt hnn hbb hy hky0
    rcases hcase with hlo | ⟨hlo, hhi, hne⟩
    · skip
      go_enter Tryd.func4, Tryd.ntmps4
      go_wp2_with (first
        | (go_at_call 10; refine (awake3_any _ ht hN).mono ?_; rintro e w2 ⟨rfl, hb2⟩)
        | (go_at_call 11; refine (hB _).mono ?_; rintro e w1 ⟨rfl, hw1⟩; replace hw1 := hw1.symm; subst hw1)
        | (go_at_call 12; refine (rkey_any _ _ (by decide) (by decide)).mono ?_; rintro e w1 ⟨rfl, hw1⟩; replace hw1 := hw1.symm; subst hw1))
      go_ret
      exact ⟨rfl, hb2⟩
    · skip
      go_enter Tryd.func4, Tryd.ntmps4
      go_wp2_with (first
        | (go_at_call 10; refine (awake3_any _ ht hN).mono ?_; rintro e w2 ⟨rfl, hb2⟩)
        | (go_at_call 11; refine (hB _).mono ?_; rintro e w1 ⟨rfl, hw1⟩; replace hw1 := hw1.symm; subst hw1)
        | (go_at_call 12; refine (rkey_any _ _ (by decide) (by decide)).mono ?_; rintro e w1 ⟨rfl, hw1⟩; replace hw1 := hw1.symm; subst hw1))
      go_ret
      exact ⟨rfl, hb2⟩
  · have hB : ∀ w, Calls Tryd.prog 11 #[.int .u64 x] w fun e w' => e = .returned (.tuple #[.float .f64 (nf y), .bool true]) ∧ w' = w := fun w => by
      have := back_any x w hx0 hx1; rw [backV_yes hbb, hy] at this; exact this
    have hcb : cbits (nf y) = nf y := by have := of_decide_eq_true hbb; rwa [hy] at this
    have hny : ni (nf y) = y := ni_nf hy0
    have hK : ∀ w, Calls Tryd.prog 12 #[.int .u64 y] w fun e w' => e = .returned (.int .u64 x) ∧ w' = w := fun w => by
      have := rkey_any y w hy0 hy1
      rw [show key (nf y) = x by unfold key; rw [hcb, hny]; exact hky0] at this; exact this
    have hR : ∀ w, Calls Tryd.prog 17 #[.int .u64 y] w fun e w' => e = .returned (.int .u64 y) ∧ w' = w := fun w => by
      have := rbits_any y w hy0 hy1
      rw [hcb, hny] at this; exact this
    clear hbb hy hky0 hcb hx0 hx1 hy0 hy1
    go_enter Tryd.func4, Tryd.ntmps4
    go_wp2_with (first
      | (go_at_call 10; refine (awake3_any _ ht hN).mono ?_; rintro e w2 ⟨rfl, hb2⟩)
      | (go_at_call 11; refine (hB _).mono ?_; rintro e w1 ⟨rfl, hw1⟩; replace hw1 := hw1.symm; subst hw1)
      | (go_at_call 12; refine (hK _).mono ?_; rintro e w1 ⟨rfl, hw1⟩; replace hw1 := hw1.symm; subst hw1)
      | (go_at_call 17; refine (hR _).mono ?_; rintro e w1 ⟨rfl, hw1⟩; replace hw1 := hw1.symm; subst hw1))
    go_ret
    exact ⟨rfl, hb2⟩

end Go.Proofs.YtnpoojjnfkhdaaaDoor
