/-
  Layer 4's laws: items in the making, the document's answers: contracts.
-/
import Derived.Test.YthhechgjablklaaKI4
namespace Go.Proofs.Ythhechgjablklaa
open Go.RowKit Go.Sort

theorem run_equalIn_float {P : Program} (d : Nat) (t : TypeId) (a b : Nat) (w : World) (h : P.underlying t = some (.float .f64)) : (Op.equalIn (d + 1) t (.float .f64 a) (.float .f64 b)).run P w = .ok (Op.floatEq .f64 a b) w := by
  simp [Op.equalIn, run_underlying h]

theorem own_any (p v : Int) (w : World) : Calls Try.prog 17 #[.agg #[.int .u64 p, .int .i64 v]] w fun e w' => e = .returned (.agg #[.float .f64 (nf p), .int .i64 v]) ∧ Below w.heap.size w w' := by
  have hsf := run_store_float (P := Try.prog)
  go_enter Try.func17, Try.ntmps17
  go_wp2
  go_region_with (go_at_call 57; refine (f_any _ _).mono ?_; rintro e w1 ⟨rfl, hw1⟩; replace hw1 := hw1.symm; subst hw1)
  all_goals go_wp2
  all_goals exact bodyPost_ret (v := .agg #[.float .f64 (nf p), .int .i64 v]) (by simp [results, Try.results17, go_sem]) rfl ⟨rfl, ((((Below.refl _ _).alloc (Nat.le_refl _) _).alloc (by simp) _)).drew⟩

theorem make_any (p v : Int) (w : World) (h0 : 0 ≤ p) (h1 : p < 18446744073709551616) :
    Calls Try.prog 58 #[.int .u64 p, .int .i64 v] w fun e w' => e = .returned (.agg #[.int .u64 (ni (cbits (nf p))), .int .i64 v]) ∧ Below w.heap.size w w' := by
  have hR := fun w => rbits_any p w h0 h1
  clear h0 h1
  go_enter Try.func58, Try.ntmps58
  go_wp2_with (go_at_call 85; refine (hR _).mono ?_; rintro e w1 ⟨rfl, hw1⟩; replace hw1 := hw1.symm; subst hw1)
  exact bodyPost_ret (v := .agg #[.int .u64 (ni (cbits (nf p))), .int .i64 v]) (by simp [results, Try.results58, go_sem]) rfl ⟨rfl, (Below.refl _ _).alloc (Nat.le_refl _) _⟩
theorem told_any (p v : Int) (w : World) (h0 : 0 ≤ p) (h1 : p < 18446744073709551616) :
    Calls Try.prog 19 #[.agg #[.int .u64 p, .int .i64 v]] w fun e w' => e = .returned (.agg #[.int .u64 (ni (cbits (nf p))), .int .i64 v]) ∧ Below w.heap.size w w' := by
  have hM := fun w => make_any p v w h0 h1
  obtain ⟨q, hq⟩ : ∃ q, ni (cbits (nf p)) = q := ⟨_, rfl⟩
  rw [hq] at hM ⊢
  clear h0 h1 hq
  go_enter Try.func19, Try.ntmps19
  go_wp2_with fail
  refine (hM _).mono ?_
  rintro e w1 ⟨rfl, hb1⟩
  have hz : w.heap.size + 1 < w1.heap.size := by have := hb1.size; simp at this; omega
  have c0 : w1.cell? ⟨w.heap.size + 1, 0, none⟩ = some (.int .u64 0) := by rw [hb1.cell (p := ⟨w.heap.size + 1, 0, none⟩) (by simp)]; simp
  have c1 : w1.cell? ⟨w.heap.size + 1, 1, none⟩ = some (.int .i64 0) := by rw [hb1.cell (p := ⟨w.heap.size + 1, 1, none⟩) (by simp)]; simp
  have z0 : w1.frozen? ⟨w.heap.size + 1, 0, none⟩ = false := by rw [hb1.frozen (p := ⟨w.heap.size + 1, 0, none⟩) (by simp)]; simp
  have z1 : w1.frozen? ⟨w.heap.size + 1, 1, none⟩ = false := by rw [hb1.frozen (p := ⟨w.heap.size + 1, 1, none⟩) (by simp)]; simp
  go_wp2
  refine bodyPost_ret (v := .agg #[.int .u64 q, .int .i64 v]) (by simp [results, Try.results19, go_sem, c0, c1]) rfl ⟨rfl, ?_⟩
  exact ((((((Below.refl _ _).alloc (Nat.le_refl _) _).alloc (by simp) _).trans (hb1.mono (by simp; omega))).setCell (by simp) _).setCell (by simp) _)

/-- Is an item the document's? -/
def isV (m : Nat) (a q b : Int) : Int := if ni m = q ∧ a = b then 0 else -1
theorem is_any (m : Nat) (a q b : Int) (w : World) : Calls Try.prog 23 #[.agg #[.float .f64 m, .int .i64 a], .agg #[.int .u64 q, .int .i64 b]] w fun e w' => e = .returned (.int .i64 (isV m a q b)) ∧ Below w.heap.size w w' := by
  have h15 := run_bits
  by_cases h1 : ni m = q
  · by_cases h2 : a = b
    · have : isV m a q b = 0 := if_pos ⟨h1, h2⟩
      rw [this]
      subst h1; subst h2
      clear this
      go_enter Try.func23, Try.ntmps23
      go_wp2
      go_quiet (fail)
      go_wp2
      go_ret
      exact ⟨rfl, below_drewN (((Below.refl _ _).alloc (Nat.le_refl _) _).alloc (by simp) _) _⟩
    · have : isV m a q b = -1 := if_neg (fun e => h2 e.2)
      rw [this]
      subst h1
      clear this
      have hb : (a != b) = true := by simpa using h2
      go_enter Try.func23, Try.ntmps23
      go_wp2
      go_quiet (fail)
      go_wp2
      go_ret
      exact ⟨rfl, below_drewN (((Below.refl _ _).alloc (Nat.le_refl _) _).alloc (by simp) _) _⟩
  · have : isV m a q b = -1 := if_neg (fun e => h1 e.1)
    rw [this]
    clear this
    have hb : (ni m != q) = true := by simpa using h1
    go_enter Try.func23, Try.ntmps23
    go_wp2
    go_quiet (fail)
    go_wp2
    go_ret
    exact ⟨rfl, below_drewN (((Below.refl _ _).alloc (Nat.le_refl _) _).alloc (by simp) _) _⟩

theorem rcmp4_any (p a q b : Int) (w : World) (h0 : 0 ≤ p) (h1 : p < 18446744073709551616) (h2 : 0 ≤ q) (h3 : q < 18446744073709551616) :
    Calls Try.prog 29 #[.agg #[.int .u64 p, .int .i64 a], .agg #[.int .u64 q, .int .i64 b]] w fun e w' => e = .returned (.int .i64 (cmpN (nf p) a (nf q) b)) ∧ Below w.heap.size w w' := by
  have hC := fun w => rcmp_any p q w h0 h1 h2 h3
  obtain ⟨c, hc⟩ : ∃ c, cmpI (key (nf p)) (key (nf q)) = c := ⟨_, rfl⟩
  rw [hc] at hC
  clear h0 h1 h2 h3
  by_cases e : c = 0
  · rw [cmpN_same (by rw [hc]; exact e)]
    subst e
    clear hc
    rcases Int.lt_trichotomy a b with h | h | h
    · rw [cmpI_lt h]
      go_enter Try.func29, Try.ntmps29
      go_wp2_with (go_at_call 67; refine (hC _).mono ?_; rintro e w1 ⟨rfl, hw1⟩; replace hw1 := hw1.symm; subst hw1)
      go_ret
      exact ⟨rfl, ((Below.refl _ _).alloc (Nat.le_refl _) _).alloc (by simp) _⟩
    · rw [cmpI_eq h]
      subst h
      go_enter Try.func29, Try.ntmps29
      go_wp2_with (go_at_call 67; refine (hC _).mono ?_; rintro e w1 ⟨rfl, hw1⟩; replace hw1 := hw1.symm; subst hw1)
      go_ret
      exact ⟨rfl, ((Below.refl _ _).alloc (Nat.le_refl _) _).alloc (by simp) _⟩
    · rw [cmpI_gt h]
      have hd : decide (a < b) = false := decide_eq_false (by omega)
      go_enter Try.func29, Try.ntmps29
      go_wp2_with (go_at_call 67; refine (hC _).mono ?_; rintro e w1 ⟨rfl, hw1⟩; replace hw1 := hw1.symm; subst hw1)
      go_ret
      exact ⟨rfl, ((Below.refl _ _).alloc (Nat.le_refl _) _).alloc (by simp) _⟩
  · rw [cmpN_other (by rw [hc]; exact e), hc]
    have hb : (c == 0) = false := by simpa using e
    clear hc e
    go_enter Try.func29, Try.ntmps29
    go_wp2_with (go_at_call 67; refine (hC _).mono ?_; rintro e w1 ⟨rfl, hw1⟩; replace hw1 := hw1.symm; subst hw1)
    go_ret
    exact ⟨rfl, ((Below.refl _ _).alloc (Nat.le_refl _) _).alloc (by simp) _⟩
end Go.Proofs.Ythhechgjablklaa
