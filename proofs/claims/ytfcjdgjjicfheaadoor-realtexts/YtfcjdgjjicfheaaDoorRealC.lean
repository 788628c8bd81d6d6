/-
  Layer 3: Back, Class and the library's calls that they make: contracts.
-/
import Derived.Test.YtfcjdgjjicfheaaDoorRealW
namespace Go.Proofs.YtfcjdgjjicfheaaDoor
open Go.RowKit

theorem nan_any (w : World) : Calls Tryd.prog 18 #[] w fun e w' => e = .returned (.float .f64 9221120237041090561) ∧ w' = w := by
  have h31 := run_frombits
  go_enter Tryd.func18, Tryd.ntmps18
  go_wp2
  go_ret
  exact ⟨rfl, rfl⟩
theorem abs_any (n : Nat) (w : World) (hn : n < 18446744073709551616) : Calls Tryd.prog 39 #[.float .f64 n] w fun e w' => e = .returned (.float .f64 (n % 9223372036854775808)) ∧ w' = w := by
  have h31 := run_frombits
  have h15 := run_bits
  have hr := ni_rng hn
  have hb := Top.u64_not_top (ni n) hr.1 hr.2
  have hz : n % 9223372036854775808 = nf (ni n % 9223372036854775808) := by unfold nf ni; omega
  rw [hz, ← hb]
  clear hz hb hr
  go_enter Tryd.func39, Tryd.ntmps39
  go_wp2
  go_ret
  exact ⟨rfl, rfl⟩

/-- Of which kind it is. -/
def cls (n : Nat) : Int := if n % 9223372036854775808 = 0 then 0 else if n % 9223372036854775808 < 9218868437227405312 then 1 else if n % 9223372036854775808 = 9218868437227405312 then 2 else 3
def infB (n : Nat) : Bool := decide (n % 9223372036854775808 = 9218868437227405312)
theorem infB_order (n : Nat) (h : nanB n = false) : (FloatKind.f64.format.order (n % 9223372036854775808) 9218868437227405311 == some Ordering.gt) = infB n := by
  have h' : ¬ 9218868437227405312 < n % 9223372036854775808 := of_decide_eq_false h
  show (Ieee.double.order _ _ == some Ordering.gt) = _
  rw [Flt.order_eq _ _ (by omega) (by decide), Flt.compare_int]
  have e1 : Flt.srung (n % 9223372036854775808) = ((n % 9223372036854775808 : Nat) : Int) := by
    unfold Flt.srung
    rw [if_neg (by omega), Nat.mod_mod]
  have e2 : Flt.srung 9218868437227405311 = 9218868437227405311 := by decide
  rw [e1, e2]
  unfold infB
  by_cases hi : n % 9223372036854775808 = 9218868437227405312
  · rw [decide_eq_true hi, if_neg (by omega), if_neg (by omega)]; rfl
  · rw [decide_eq_false hi]
    by_cases hl : ((n % 9223372036854775808 : Nat) : Int) < 9218868437227405311
    · rw [if_pos hl]; rfl
    · rw [if_neg hl, if_pos (by omega)]; rfl
theorem isInf_any (n : Nat) (w : World) (hn : n < 18446744073709551616) (h : nanB n = false) : Calls Tryd.prog 27 #[.float .f64 n, .int .i64 0] w fun e w' => e = .returned (.bool (infB n)) ∧ w' = w := by
  have hb := infB_order n h
  obtain ⟨m, hm⟩ : ∃ m, n % 9223372036854775808 = m := ⟨_, rfl⟩
  have hA : ∀ w, Calls Tryd.prog 39 #[.float .f64 n] w fun e w' => e = .returned (.float .f64 m) ∧ w' = w := fun w => by rw [← hm]; exact abs_any n w hn
  rw [hm] at hb
  clear hm h hn
  go_enter Tryd.func27, Tryd.ntmps27
  go_wp2_with (go_at_call 39; refine (hA _).mono ?_; rintro e w' ⟨rfl, rfl⟩)
  go_ret
  exact ⟨rfl, rfl⟩
def zeroB (n : Nat) : Bool := decide (n % 9223372036854775808 = 0)
theorem zeroB_order (n : Nat) (h : nanB n = false) : (FloatKind.f64.format.order n 0 == some Ordering.eq) = zeroB n := by
  have h' : ¬ 9218868437227405312 < n % 9223372036854775808 := of_decide_eq_false h
  show (Ieee.double.order n 0 == some Ordering.eq) = _
  rw [Flt.order_eq _ _ (by omega) (by decide), Flt.compare_int]
  have e2 : Flt.srung 0 = 0 := by decide
  rw [e2]
  unfold zeroB
  by_cases hi : n % 9223372036854775808 = 0
  · have e1 : Flt.srung n = 0 := by unfold Flt.srung; split <;> omega
    rw [decide_eq_true hi, e1]; rfl
  · have e1 : Flt.srung n ≠ 0 := by unfold Flt.srung; split <;> omega
    rw [decide_eq_false hi]
    by_cases hl : Flt.srung n < 0
    · rw [if_pos hl]; rfl
    · rw [if_neg hl, if_neg e1]; rfl
theorem class_any (n : Nat) (w : World) (hn : n < 18446744073709551616) : Calls Tryd.prog 15 #[.float .f64 n] w fun e w' => e = .returned (.int .i64 (cls n)) ∧ w' = w := by
  cases h : nanB n
  · have hz := zeroB_order n h
    have hI := isInf_any n
    have hc : cls n = if infB n = true then 2 else if zeroB n = true then 0 else 1 := by
      have h' : ¬ 9218868437227405312 < n % 9223372036854775808 := of_decide_eq_false h
      unfold cls infB zeroB
      simp only [decide_eq_true_eq]
      split <;> split <;> (try split) <;> omega
    go_enter Tryd.func15, Tryd.ntmps15
    go_wp2_with (first
      | (go_at_call 26; refine (isNaN_any _ _).mono ?_; rw [h]; rintro e w' ⟨rfl, rfl⟩)
      | (go_at_call 27; refine (isInf_any _ _ hn h).mono ?_; rintro e w' ⟨rfl, rfl⟩))
    · have h1 : infB n = true := by assumption
      go_ret
      exact ⟨by rw [hc, if_pos h1]; rfl, rfl⟩
    · have h1 : infB n = false := by assumption
      have h2 : zeroB n = true := by assumption
      go_ret
      exact ⟨by rw [hc, if_neg (by rw [h1]; decide), if_pos h2]; rfl, rfl⟩
    · have h1 : infB n = false := by assumption
      have h2 : zeroB n = false := by assumption
      go_ret
      exact ⟨by rw [hc, if_neg (by rw [h1]; decide), if_neg (by rw [h2]; decide)]; rfl, rfl⟩
  · have hc : cls n = 3 := by
      have h' : 9218868437227405312 < n % 9223372036854775808 := of_decide_eq_true h
      unfold cls; rw [if_neg (by omega), if_neg (by omega), if_neg (by omega)]
    rw [hc]
    go_enter Tryd.func15, Tryd.ntmps15
    go_wp2_with (first
      | (go_at_call 26; refine (isNaN_any _ _).mono ?_; rw [h]; rintro e w' ⟨rfl, rfl⟩))
    go_ret
    exact ⟨rfl, rfl⟩

theorem rclass_any (x : Int) (w : World) (h0 : 0 ≤ x) (h1 : x < 18446744073709551616) : Calls Tryd.prog 25 #[.int .u64 x] w fun e w' => e = .returned (.int .i64 (cls (nf x))) ∧ w' = w := by
  have hm : ((nf x % 9223372036854775808 : Nat) : Int) = x % 9223372036854775808 := by unfold nf; omega
  by_cases c0 : x % 9223372036854775808 = 0
  · have hc : cls (nf x) = 0 := by unfold cls; rw [if_pos (by omega)]
    rw [hc]; clear hc hm
    go_enter Tryd.func25, Tryd.ntmps25
    go_wp2
    go_ret
    exact ⟨rfl, rfl⟩
  · have d0 : (x % 9223372036854775808 == 0) = false := by simpa using c0
    by_cases c1 : x % 9223372036854775808 < 9218868437227405312
    · have hc : cls (nf x) = 1 := by unfold cls; rw [if_neg (by omega), if_pos (by omega)]
      rw [hc]; clear hc hm c0
      go_enter Tryd.func25, Tryd.ntmps25
      go_wp2
      go_ret
      exact ⟨rfl, rfl⟩
    · have d1 : decide (x % 9223372036854775808 < 9218868437227405312) = false := decide_eq_false c1
      by_cases c2 : x % 9223372036854775808 = 9218868437227405312
      · have hc : cls (nf x) = 2 := by unfold cls; rw [if_neg (by omega), if_neg (by omega), if_pos (by omega)]
        rw [hc]; clear hc hm c0 c1 d0 d1
        go_enter Tryd.func25, Tryd.ntmps25
        go_wp2
        go_ret
        exact ⟨rfl, rfl⟩
      · have hc : cls (nf x) = 3 := by unfold cls; rw [if_neg (by omega), if_neg (by omega), if_neg (by omega)]
        have d2 : (x % 9223372036854775808 == 9218868437227405312) = false := by simpa using c2
        rw [hc]; clear hc hm c0 c1 c2
        go_enter Tryd.func25, Tryd.ntmps25
        go_wp2
        go_ret
        exact ⟨rfl, rfl⟩

/-- The bits of a key. -/
def backI (x : Int) : Int := if x < 9223372036854775808 then 18446744073709551615 - x else x - 9223372036854775808
theorem backI_rng {x : Int} (h0 : 0 ≤ x) (h1 : x < 18446744073709551616) : 0 ≤ backI x ∧ backI x < 18446744073709551616 := by unfold backI; split <;> omega
def backB (x : Int) : Bool := decide (cbits (nf (backI x)) = nf (backI x))
def backV (x : Int) : Value := if backB x = true then .tuple #[.float .f64 (nf (backI x)), .bool true] else .tuple #[.float .f64 0, .bool false]
theorem backV_yes {x : Int} (h : backB x = true) : backV x = .tuple #[.float .f64 (nf (backI x)), .bool true] := if_pos h
theorem backV_no {x : Int} (h : backB x = false) : backV x = .tuple #[.float .f64 0, .bool false] := if_neg (by rw [h]; decide)
end Go.Proofs.YtfcjdgjjicfheaaDoor
