/-
  Layer 3's laws: the calls return true.
-/
import Derived.Test.YtnpoojjnfkhdaaaDoorLaws3
namespace Go.Proofs.YtnpoojjnfkhdaaaDoor
open Go.RowKit

/-- The other sign. -/
def turnI (x : Int) : Int := if x < 9223372036854775808 then x + 9223372036854775808 else x - 9223372036854775808
theorem turn_xor {x : Int} (h0 : 0 ≤ x) (h1 : x < 18446744073709551616) : bits .xor .u64 x 9223372036854775808 = turnI x := by
  unfold turnI; split
  · exact Top.u64_xor_lo x h0 (by omega)
  · exact Top.u64_xor_hi x (by omega) h1
theorem turn_rng {x : Int} (h0 : 0 ≤ x) (h1 : x < 18446744073709551616) : 0 ≤ turnI x ∧ turnI x < 18446744073709551616 := by unfold turnI; split <;> omega
theorem turn_mod {x : Int} (h0 : 0 ≤ x) (h1 : x < 18446744073709551616) : nf (turnI x) % 9223372036854775808 = nf x % 9223372036854775808 := by unfold turnI nf; split <;> omega
theorem cls_turn {x : Int} (h0 : 0 ≤ x) (h1 : x < 18446744073709551616) : cls (nf (turnI x)) = cls (nf x) := by unfold cls; rw [turn_mod h0 h1]
theorem cls_num {n : Nat} (h : ¬ cls n = 3) : nanB n = false := by
  cases hq : nanB n
  · rfl
  · exfalso; apply h
    have := of_decide_eq_true hq
    unfold cls; rw [if_neg (by omega), if_neg (by omega), if_neg (by omega)]
theorem cls_zero {n : Nat} : cls n = 0 ↔ n % 9223372036854775808 = 0 := by
  unfold cls; split
  · simp; assumption
  · split
    · simp; assumption
    · split <;> simp <;> assumption
theorem cls_ge (n : Nat) : 0 ≤ cls n := by unfold cls; split <;> (try split) <;> (try split) <;> omega
theorem key_num {n : Nat} (h : nanB n = false) : key n = if n < 9223372036854775808 then (n : Int) + 9223372036854775808 else 18446744073709551615 - (n : Int) := by
  unfold key keyI ni; rw [cbits_num h]; split <;> split <;> omega
theorem key_turn {x : Int} (h0 : 0 ≤ x) (h1 : x < 18446744073709551616) (h : nanB (nf x) = false) : key (nf (turnI x)) = 18446744073709551615 - key (nf x) := by
  have h' : nanB (nf (turnI x)) = false := by unfold nanB at h ⊢; rw [turn_mod h0 h1]; exact h
  rw [key_num h, key_num h']; unfold turnI nf; split <;> split <;> split <;> omega
theorem key_srung {m n : Nat} (hm : m < 18446744073709551616) (hn : n < 18446744073709551616) (am : nanB m = false) (an : nanB n = false) (hz : ¬ (m % 9223372036854775808 = 0 ∧ n % 9223372036854775808 = 0)) :
    (Flt.srung m < Flt.srung n ↔ key m < key n) ∧ (Flt.srung m = Flt.srung n ↔ key m = key n) := by
  rw [key_num am, key_num an]; unfold Flt.srung
  constructor <;> split <;> split <;> split <;> split <;> omega
theorem cmpI_turn (p q : Int) : cmpI (18446744073709551615 - q) (18446744073709551615 - p) = cmpI p q := by
  unfold cmpI; split <;> split <;> (try split) <;> (try split) <;> omega
theorem order_lt {m n : Nat} (hm : m < 18446744073709551616) (hn : n < 18446744073709551616) (am : nanB m = false) (an : nanB n = false) (hz : ¬ (m % 9223372036854775808 = 0 ∧ n % 9223372036854775808 = 0)) :
    (FloatKind.f64.format.order m n == some Ordering.lt) = decide (cmpI (key m) (key n) < 0) ∧ (FloatKind.f64.format.order m n == some Ordering.gt) = decide (0 < cmpI (key m) (key n)) := by
  have h1 : ¬ 9218868437227405312 < m % 9223372036854775808 := of_decide_eq_false am
  have h2 : ¬ 9218868437227405312 < n % 9223372036854775808 := of_decide_eq_false an
  show (Ieee.double.order m n == _) = _ ∧ (Ieee.double.order m n == _) = _
  rw [Flt.order_eq m n (by omega) (by omega), Flt.compare_int]
  obtain ⟨k1, k2⟩ := key_srung hm hn am an hz
  rcases Int.lt_trichotomy (key m) (key n) with h | h | h
  · rw [if_pos (k1.2 h), cmpI_lt h]; exact ⟨rfl, rfl⟩
  · rw [if_neg (by rw [k1]; omega), if_pos (k2.2 h), cmpI_eq h]; exact ⟨rfl, rfl⟩
  · rw [if_neg (by rw [k1]; omega), if_neg (by rw [k2]; omega), cmpI_gt h]; exact ⟨rfl, rfl⟩

theorem realTurns_any (a b : Int) (w : World) (ha0 : 0 ≤ a) (ha1 : a < 18446744073709551616) (hb0 : 0 ≤ b) (hb1 : b < 18446744073709551616) (ht : w.cell? ⟨6, 15, none⟩ = some (.int .u8 4)) (hN : 6 < w.heap.size) :
    Calls Tryd.prog 9 #[.int .u64 a, .int .u64 b] w fun e w' => e = .returned (.bool true) ∧ Below w.heap.size w w' := by
  have hna := nf_lt ha1
  have hnb := nf_lt hb1
  obtain ⟨cc, hcc⟩ : ∃ cc : Int → Int, ∀ z, cls (nf z) = cc z := ⟨_, fun _ => rfl⟩
  have hCR : ∀ z w, (z = a ∨ z = b) → Calls Tryd.prog 19 #[.int .u64 z] w fun e w' => e = .returned (.int .i64 (cc z)) ∧ w' = w := by
    rintro z w (rfl | rfl)
    · rw [← hcc]; exact rclass_any _ w ha0 ha1
    · rw [← hcc]; exact rclass_any _ w hb0 hb1
  by_cases h3 : cc a = 3
  · clear hna hnb ha0 ha1 hb0 hb1 hcc
    go_enter Tryd.func9, Tryd.ntmps9
    go_wp2_with (first
      | (go_at_call 10; refine (awake3_any _ ht hN).mono ?_; rintro e w2 ⟨rfl, hb2⟩)
      | (go_at_call 19; refine (hCR _ _ (by first | exact .inl rfl | exact .inr rfl)).mono ?_; rintro e w1 ⟨rfl, hw1⟩; replace hw1 := hw1.symm; subst hw1))
    go_ret
    exact ⟨rfl, hb2⟩
  · have d3 : (cc a == 3) = false := by simpa using h3
    by_cases h4 : cc b = 3
    · clear hna hnb ha0 ha1 hb0 hb1 hcc h3
      go_enter Tryd.func9, Tryd.ntmps9
      go_wp2_with (first
        | (go_at_call 10; refine (awake3_any _ ht hN).mono ?_; rintro e w2 ⟨rfl, hb2⟩)
        | (go_at_call 19; refine (hCR _ _ (by first | exact .inl rfl | exact .inr rfl)).mono ?_; rintro e w1 ⟨rfl, hw1⟩; replace hw1 := hw1.symm; subst hw1))
      go_ret
      exact ⟨rfl, hb2⟩
    · have d4 : (cc b == 3) = false := by simpa using h4
      have na := cls_num (n := nf a) (by rw [hcc]; exact h3)
      have nb := cls_num (n := nf b) (by rw [hcc]; exact h4)
      have xa := turn_xor ha0 ha1
      have xb := turn_xor hb0 hb1
      have ka := key_turn ha0 ha1 na
      have kb := key_turn hb0 hb1 nb
      have cA := cls_turn ha0 ha1
      have ra := key_rng hna
      have fl := Top.u64_flip (key (nf a)) ra.1 ra.2
      rw [← ka] at fl
      have fl2 : bits .xor .u64 (if IntKind.u64.signed = true then -1 else IntKind.u64.max) (key (nf a)) = key (nf (turnI a)) := fl
      have hcm : cmpI (key (nf (turnI b))) (key (nf (turnI a))) = cmpI (key (nf a)) (key (nf b)) := by
        rw [ka, kb]; exact cmpI_turn _ _
      have hn : ∀ z, (z = nf a ∨ z = nf b ∨ z = nf (turnI a) ∨ z = nf (turnI b)) → z < 18446744073709551616 := by
        rintro z (rfl | rfl | rfl | rfl)
        · exact hna
        · exact hnb
        · exact nf_lt (turn_rng ha0 ha1).2
        · exact nf_lt (turn_rng hb0 hb1).2
      clear ka kb fl ra na nb h3 h4 hna hnb ha0 ha1 hb0 hb1 hcc
      go_enter Tryd.func9, Tryd.ntmps9
      go_wp2_with (first
        | (go_at_call 10; refine (awake3_any _ ht hN).mono ?_; rintro e w2 ⟨rfl, hb2⟩)
        | (go_at_call 19; refine (hCR _ _ (by first | exact .inl rfl | exact .inr rfl)).mono ?_; rintro e w1 ⟨rfl, hw1⟩; replace hw1 := hw1.symm; subst hw1)
        | (go_at_call 14; refine (f_any _ _).mono ?_; rintro e w1 ⟨rfl, hw1⟩; replace hw1 := hw1.symm; subst hw1)
        | (go_at_call 20; refine (cmp_any _ _ _ (hn _ (by first | exact .inl rfl | exact .inr (.inl rfl) | exact .inr (.inr (.inl rfl)) | exact .inr (.inr (.inr rfl)))) (hn _ (by first | exact .inl rfl | exact .inr (.inl rfl) | exact .inr (.inr (.inl rfl)) | exact .inr (.inr (.inr rfl))))).mono ?_; rintro e w1 ⟨rfl, hw1⟩; replace hw1 := hw1.symm; subst hw1)
        | (go_at_call 13; refine (key_any _ _ (hn _ (by first | exact .inl rfl | exact .inr (.inl rfl) | exact .inr (.inr (.inl rfl)) | exact .inr (.inr (.inr rfl))))).mono ?_; rintro e w1 ⟨rfl, hw1⟩; replace hw1 := hw1.symm; subst hw1)
        | (go_at_call 18; refine (class_any _ _ (hn _ (by first | exact .inl rfl | exact .inr (.inl rfl) | exact .inr (.inr (.inl rfl)) | exact .inr (.inr (.inr rfl))))).mono ?_; rintro e w1 ⟨rfl, hw1⟩; replace hw1 := hw1.symm; subst hw1))
      go_ret
      exact ⟨rfl, hb2⟩
end Go.Proofs.YtnpoojjnfkhdaaaDoor
