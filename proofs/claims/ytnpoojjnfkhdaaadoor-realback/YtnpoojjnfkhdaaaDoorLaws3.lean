/-
  Layer 3's laws: the calls return true.
-/
import Derived.Test.YtnpoojjnfkhdaaaDoorAwake3
namespace Go.Proofs.YtnpoojjnfkhdaaaDoor
open Go.RowKit

theorem cbits_idem (n : Nat) : cbits (cbits n) = cbits n := by
  cases h : nanB n
  · rw [cbits_num h, cbits_num h]
  · rw [cbits_nan h]; decide
theorem backI_keyI {y : Int} (h0 : 0 ≤ y) (h1 : y < 18446744073709551616) : backI (keyI y) = y := by
  unfold backI keyI
  split
  · rw [if_neg (by omega)]; omega
  · rw [if_pos (by omega)]; omega
theorem keyI_backI {y : Int} (h0 : 0 ≤ y) (h1 : y < 18446744073709551616) : keyI (backI y) = y := by
  unfold backI keyI
  split
  · rw [if_neg (by omega)]; omega
  · rw [if_pos (by omega)]; omega
theorem back_key (n : Nat) (hn : n < 18446744073709551616) (w : World) : Calls Tryd.prog 11 #[.int .u64 (key n)] w fun e w' => e = .returned (.tuple #[.float .f64 (cbits n), .bool true]) ∧ w' = w := by
  have hr := key_rng hn
  have hb := ni_rng (cbits_lt hn)
  have e1 : backI (key n) = ni (cbits n) := backI_keyI hb.1 hb.2
  have e2 : nf (backI (key n)) = cbits n := by rw [e1]; rfl
  have e3 : backB (key n) = true := by unfold backB; rw [e2, cbits_idem]; exact decide_eq_true rfl
  have := back_any (key n) w hr.1 hr.2
  rw [backV_yes e3, e2] at this
  exact this

theorem realKeys_any (x : Int) (w : World) (hx0 : 0 ≤ x) (hx1 : x < 18446744073709551616) (ht : w.cell? ⟨6, 15, none⟩ = some (.int .u8 4)) (hN : 6 < w.heap.size) :
    Calls Tryd.prog 3 #[.int .u64 x] w fun e w' => e = .returned (.bool true) ∧ Below w.heap.size w w' := by
  have h15 := run_bits
  have hn := nf_lt hx1
  have hB := back_key (nf x) hn
  go_enter Tryd.func3, Tryd.ntmps3
  go_wp2_with (first
    | (go_at_call 10; refine (awake3_any _ ht hN).mono ?_; rintro e w2 ⟨rfl, hb2⟩)
    | (go_at_call 12; refine (rkey_any _ _ hx0 hx1).mono ?_; rintro e w1 ⟨rfl, hw1⟩; replace hw1 := hw1.symm; subst hw1)
    | (go_at_call 11; refine (hB _).mono ?_; rintro e w1 ⟨rfl, hw1⟩; replace hw1 := hw1.symm; subst hw1)
    | (go_at_call 14; refine (f_any _ _).mono ?_; rintro e w1 ⟨rfl, hw1⟩; replace hw1 := hw1.symm; subst hw1)
    | (go_at_call 13; refine (key_any _ _ hn).mono ?_; rintro e w1 ⟨rfl, hw1⟩; replace hw1 := hw1.symm; subst hw1)
    | (go_at_call 16; refine (canon_any _ _).mono ?_; rintro e w1 ⟨rfl, hw1⟩; replace hw1 := hw1.symm; subst hw1)
    | (go_at_call 17; refine (rbits_any _ _ hx0 hx1).mono ?_; rintro e w1 ⟨rfl, hw1⟩; replace hw1 := hw1.symm; subst hw1)
    | (go_at_call 18; refine (class_any _ _ hn).mono ?_; rintro e w1 ⟨rfl, hw1⟩; replace hw1 := hw1.symm; subst hw1)
    | (go_at_call 19; refine (rclass_any _ _ hx0 hx1).mono ?_; rintro e w1 ⟨rfl, hw1⟩; replace hw1 := hw1.symm; subst hw1))
  go_ret
  exact ⟨rfl, hb2⟩

end Go.Proofs.YtnpoojjnfkhdaaaDoor
