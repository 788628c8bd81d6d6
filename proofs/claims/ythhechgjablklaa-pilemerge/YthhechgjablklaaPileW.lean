/-
  Layer 4: items, their order, their places: contracts.
-/
import Derived.Test.YthhechgjablklaaRealW
import Derived.Test.YthhechgjablklaaHeapM
import Derived.Test.YthhechgjablklaaBase
import Derived.BigQuiet
import Derived.Deep.QuietTactic
namespace Go.Proofs.Ythhechgjablklaa
open Go.RowKit Go.Sort

theorem cisNaNi_any (x : Int) (w : World) : Calls Try.prog 92 #[.int .i64 x] w fun e w' => e = .returned (.bool false) ∧ w' = w := by
  go_enter Try.func92, Try.ntmps92
  go_wp2
  go_ret
  exact ⟨rfl, rfl⟩
theorem comparei_any (x y : Int) (w : World) : Calls Try.prog 66 #[.int .i64 x, .int .i64 y] w fun e w' => e = .returned (.int .i64 (cmpI x y)) ∧ w' = w := by
  rcases Int.lt_trichotomy x y with h | h | h
  · rw [cmpI_lt h]
    go_enter Try.func66, Try.ntmps66
    go_wp2_with (go_at_call 92; refine (cisNaNi_any _ _).mono ?_; rintro e w' ⟨rfl, rfl⟩)
    go_ret
    exact ⟨rfl, rfl⟩
  · rw [cmpI_eq h]
    subst h
    go_enter Try.func66, Try.ntmps66
    go_wp2_with (go_at_call 92; refine (cisNaNi_any _ _).mono ?_; rintro e w' ⟨rfl, rfl⟩)
    go_ret
    exact ⟨rfl, rfl⟩
  · rw [cmpI_gt h]
    have h' : ¬ x < y := by omega
    go_enter Try.func66, Try.ntmps66
    go_wp2_with (go_at_call 92; refine (cisNaNi_any _ _).mono ?_; rintro e w' ⟨rfl, rfl⟩)
    go_ret
    exact ⟨rfl, rfl⟩


/-- How two items stand, by bits. -/
def cmpN (m : Nat) (a : Int) (n : Nat) (b : Int) : Int := if cmpI (key m) (key n) = 0 then cmpI a b else cmpI (key m) (key n)
theorem cmpN_same {m n : Nat} (h : cmpI (key m) (key n) = 0) (a b : Int) : cmpN m a n b = cmpI a b := if_pos h
theorem cmpN_other {m n : Nat} (h : ¬ cmpI (key m) (key n) = 0) (a b : Int) : cmpN m a n b = cmpI (key m) (key n) := if_neg h

/-- An item in a box. -/
abbrev boxI (m : Nat) (a : Int) : Obj := .cells #[.float .f64 m, .int .i64 a] 29

theorem icmp_any (m n : Nat) (a b : Int) (w : World) (hm : m < 18446744073709551616) (hn : n < 18446744073709551616) :
    Calls Try.prog 28 #[.agg #[.float .f64 m, .int .i64 a], .agg #[.float .f64 n, .int .i64 b]] w fun e w' => e = .returned (.int .i64 (cmpN m a n b)) ∧ w' = (w.alloc (boxI m a)).alloc (boxI n b) := by
  have hC := fun w => cmp_any m n w hm hn
  obtain ⟨c, hc⟩ : ∃ c, cmpI (key m) (key n) = c := ⟨_, rfl⟩
  by_cases h0 : c = 0
  · rw [cmpN_same (by rw [hc]; exact h0)]
    subst h0
    rw [hc] at hC
    clear hc hm hn
    go_enter Try.func28, Try.ntmps28
    go_wp2_with (first
      | (go_at_call 65; refine (hC _).mono ?_; rintro e w1 ⟨rfl, hw1⟩; replace hw1 := hw1.symm; subst hw1)
      | (go_at_call 66; refine (comparei_any _ _ _).mono ?_; rintro e w1 ⟨rfl, hw1⟩; replace hw1 := hw1.symm; subst hw1))
    go_ret
    exact ⟨rfl, rfl⟩
  · rw [cmpN_other (by rw [hc]; exact h0), hc]
    have hb : (c != 0) = true := by simpa using h0
    rw [hc] at hC
    clear hc hm hn
    go_enter Try.func28, Try.ntmps28
    go_wp2_with (first
      | (go_at_call 65; refine (hC _).mono ?_; rintro e w1 ⟨rfl, hw1⟩; replace hw1 := hw1.symm; subst hw1))
    go_ret
    exact ⟨rfl, rfl⟩

theorem icanon_any (m : Nat) (a : Int) (w : World) :
    Calls Try.prog 30 #[.agg #[.float .f64 m, .int .i64 a]] w fun e w' => e = .returned (.agg #[.float .f64 (cbits m), .int .i64 a]) ∧ Below w.heap.size w w' := by
  have hsf := run_store_float (P := Try.prog)
  go_enter Try.func30, Try.ntmps30
  go_wp2_with (go_at_call 68; refine (canon_any _ _).mono ?_; rintro e w1 ⟨rfl, hw1⟩; replace hw1 := hw1.symm; subst hw1)
  exact bodyPost_ret (v := .agg #[.float .f64 (cbits m), .int .i64 a]) (by simp [results, Try.results30, go_sem]) rfl ⟨rfl, ((Below.refl _ _).alloc (Nat.le_refl _) _).alloc (by simp) _⟩
end Go.Proofs.Ythhechgjablklaa
