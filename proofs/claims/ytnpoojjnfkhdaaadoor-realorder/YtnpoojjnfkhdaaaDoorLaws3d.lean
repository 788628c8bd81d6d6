/-
  Layer 3's laws: the calls return true.
-/
import Derived.Test.YtnpoojjnfkhdaaaDoorLaws3c
namespace Go.Proofs.YtnpoojjnfkhdaaaDoor
open Go.RowKit

theorem cmpI_trans {x y z : Int} (h1 : cmpI x y ≤ 0) (h2 : cmpI y z ≤ 0) : cmpI x z ≤ 0 := (cmpI_le x z).2 (Int.le_trans ((cmpI_le x y).1 h1) ((cmpI_le y z).1 h2))
theorem cls_le (n : Nat) : cls n ≤ 3 := by unfold cls; split <;> (try split) <;> (try split) <;> omega

set_option maxHeartbeats 2000000 in
theorem realOrder_any (a b c : Int) (w : World) (ha0 : 0 ≤ a) (ha1 : a < 18446744073709551616) (hb0 : 0 ≤ b) (hb1 : b < 18446744073709551616) (_hc0 : 0 ≤ c) (hc1 : c < 18446744073709551616) (ht : w.cell? ⟨6, 15, none⟩ = some (.int .u8 4)) (hN : 6 < w.heap.size) :
    Calls Tryd.prog 5 #[.int .u64 a, .int .u64 b, .int .u64 c] w fun e w' => e = .returned (.bool true) ∧ Below w.heap.size w w' := by
  obtain ⟨cc, hcc⟩ : ∃ cc : Int → Int, ∀ z, cls (nf z) = cc z := ⟨_, fun _ => rfl⟩
  have hCR : ∀ z w, (z = a ∨ z = b) → Calls Tryd.prog 19 #[.int .u64 z] w fun e w' => e = .returned (.int .i64 (cc z)) ∧ w' = w := by
    rintro z w (rfl | rfl)
    · rw [← hcc]; exact rclass_any _ w ha0 ha1
    · rw [← hcc]; exact rclass_any _ w hb0 hb1
  have hn : ∀ z, (z = nf a ∨ z = nf b ∨ z = nf c) → z < 18446744073709551616 := by
    rintro z (rfl | rfl | rfl)
    · exact nf_lt ha1
    · exact nf_lt hb1
    · exact nf_lt hc1
  have hRC : ∀ w, Calls Tryd.prog 21 #[.int .u64 a, .int .u64 b] w fun e w' => e = .returned (.int .i64 (cmpI (key (nf a)) (key (nf b)))) ∧ w' = w := fun w => rcmp_any a b w ha0 ha1 hb0 hb1
  obtain ⟨n, h1⟩ : ∃ n, cmpI (key (nf a)) (key (nf b)) = n := ⟨_, rfl⟩
  have h2 : cmpI (key (nf b)) (key (nf a)) = -n := by rw [← h1]; exact cmpI_neg _ _
  have h3 : cmpI (key (nf a)) (key (nf a)) = 0 := cmpI_eq rfl
  obtain ⟨p, h4⟩ : ∃ p, cmpI (key (nf b)) (key (nf c)) = p := ⟨_, rfl⟩
  obtain ⟨q, h5⟩ : ∃ q, cmpI (key (nf a)) (key (nf c)) = q := ⟨_, rfl⟩
  have hr := cmpI_rng (key (nf a)) (key (nf b))
  rw [h1] at hr
  obtain ⟨hr0, hr1⟩ := hr
  have hnp : (n ≤ 0 ∧ p ≤ 0 ∧ decide (0 < q) = false) ∨ (n ≤ 0 ∧ decide (p ≤ 0) = false) ∨ (decide (n ≤ 0) = false) := by
    by_cases hn0 : n ≤ 0
    · by_cases hp0 : p ≤ 0
      · left
        refine ⟨hn0, hp0, decide_eq_false ?_⟩
        have : q ≤ 0 := by rw [← h5]; rw [← h1] at hn0; rw [← h4] at hp0; exact cmpI_trans hn0 hp0
        omega
      · right; left; exact ⟨hn0, decide_eq_false hp0⟩
    · right; right; exact decide_eq_false hn0
  have hcl : cc a = 3 ∨ ((cc a == 3) = false ∧ cc b = 3) ∨ ((cc a == 3) = false ∧ (cc b == 3) = false ∧ cc a = 0 ∧ cc b = 0) ∨
      ((cc a == 3) = false ∧ (cc b == 3) = false ∧ (cc a + cc b == 0) = false ∧ (0 ≤ cc a ∧ cc a ≤ 3 ∧ 0 ≤ cc b ∧ cc b ≤ 3) ∧ (FloatKind.f64.format.order (nf a) (nf b) == some Ordering.lt) = decide (n < 0) ∧ (FloatKind.f64.format.order (nf a) (nf b) == some Ordering.gt) = decide (0 < n)) := by
    by_cases c1 : cc a = 3
    · exact .inl c1
    · by_cases c2 : cc b = 3
      · exact .inr (.inl ⟨by simpa using c1, c2⟩)
      · have ga := cls_ge (nf a); have gb := cls_ge (nf b)
        have la := cls_le (nf a); have lb := cls_le (nf b)
        rw [hcc] at ga gb la lb
        by_cases c3 : cc a = 0 ∧ cc b = 0
        · exact .inr (.inr (.inl ⟨by simpa using c1, by simpa using c2, c3.1, c3.2⟩))
        · have := order_lt (m := nf a) (n := nf b) (nf_lt ha1) (nf_lt hb1) (cls_num (by rw [hcc]; exact c1)) (cls_num (by rw [hcc]; exact c2)) (by rw [← cls_zero, ← cls_zero, hcc, hcc]; exact c3)
          rw [h1] at this
          exact .inr (.inr (.inr ⟨by simpa using c1, by simpa using c2, by simp; omega, ⟨ga, la, gb, lb⟩, this.1, this.2⟩))
  clear ha0 ha1 hb0 hb1 hc1 hcc
  rcases hnp with ⟨n0, p0, q0⟩ | ⟨n0, p0⟩ | n0
  all_goals
    rcases hcl with c1 | ⟨c1, c2⟩ | ⟨c1, c2, c3, c4⟩ | ⟨c1, c2, c3, ⟨c4, c5, c6, c7⟩, o1, o2⟩
    all_goals
      go_enter Tryd.func5, Tryd.ntmps5
      go_wp2_with (first
        | (go_at_call 10; refine (awake3_any _ ht hN).mono ?_; rintro e w2 ⟨rfl, hb2⟩)
        | (go_at_call 19; refine (hCR _ _ (by first | exact .inl rfl | exact .inr rfl)).mono ?_; rintro e w1 ⟨rfl, hw1⟩; replace hw1 := hw1.symm; subst hw1)
        | (go_at_call 14; refine (f_any _ _).mono ?_; rintro e w1 ⟨rfl, hw1⟩; replace hw1 := hw1.symm; subst hw1)
        | (go_at_call 21; refine (hRC _).mono ?_; rintro e w1 ⟨rfl, hw1⟩; replace hw1 := hw1.symm; subst hw1)
        | (go_at_call 20; refine (cmp_any _ _ _ (hn _ (by first | exact .inl rfl | exact .inr (.inl rfl) | exact .inr (.inr rfl))) (hn _ (by first | exact .inl rfl | exact .inr (.inl rfl) | exact .inr (.inr rfl)))).mono ?_; rintro e w1 ⟨rfl, hw1⟩; replace hw1 := hw1.symm; subst hw1))
      go_ret
      exact ⟨rfl, hb2⟩
end Go.Proofs.YtnpoojjnfkhdaaaDoor
