/-
  Layer 6: draws, parameters: contracts.
-/
import Derived.Test.YthhechgjablklaaOpOf6
namespace Go.Proofs.Ythhechgjablklaa
open Go.RowKit

/-- A draw among so many. -/
def into (d n : Int) : Int := if n < 1 then 0 else d % n
theorem into_lo {d n : Int} (h : n < 1) : into d n = 0 := if_pos h
theorem into_hi {d n : Int} (h : ¬ n < 1) : into d n = d % n := if_neg h
theorem tmod_emod_nonneg {d n : Int} (hn : 1 ≤ n) (h : 0 ≤ d.tmod n) : d.tmod n = d % n := by
  have h1 := Int.tmod_add_mul_tdiv d n
  have h2 := Int.tmod_lt_of_pos d (show 0 < n by omega)
  have h3 : d.tmod n % n = d.tmod n := Int.emod_eq_of_lt h h2
  have h4 : d % n = (d.tmod n + n * d.tdiv n) % n := by rw [h1]
  rw [h4, Int.add_mul_emod_self_left, h3]
theorem tmod_emod_neg {d n : Int} (hn : 1 ≤ n) (h : d.tmod n < 0) : d.tmod n + n = d % n := by
  have h1 := Int.tmod_add_mul_tdiv d n
  have h2 := Int.lt_tmod_of_pos d (show 0 < n by omega)
  have h3 : (d.tmod n + n) % n = d.tmod n + n := Int.emod_eq_of_lt (by omega) (by omega)
  have h4 : d % n = (d.tmod n + n * d.tdiv n) % n := by rw [h1]
  rw [h4, Int.add_mul_emod_self_left, ← h3, Int.add_emod_right]
theorem into_rng {d n : Int} (hn : 1 ≤ n) : 0 ≤ into d n ∧ into d n < n := by
  rw [into_hi (by omega)]
  exact ⟨Int.emod_nonneg _ (by omega), Int.emod_lt_of_pos _ (by omega)⟩

theorem into_any (d n : Int) (w : World) (hn : n ≤ 9223372036854775807) :
    Calls Try.prog 83 #[.int .i64 d, .int .i64 n] w fun e w' => e = .returned (.int .i64 (into d n)) ∧ w' = w := by
  by_cases h : n < 1
  · rw [into_lo h]
    go_enter Try.func83, Try.ntmps83
    go_wp2
    go_ret
    exact ⟨rfl, rfl⟩
  · rw [into_hi h]
    have h1 : decide (n < 1) = false := decide_eq_false h
    have hn0 : (n == 0) = false := by simp; omega
    have hn1 : 1 ≤ n := by omega
    by_cases hm : d.tmod n < 0
    · have e1 := tmod_emod_neg hn1 hm
      have e2 := Int.lt_tmod_of_pos d (show 0 < n by omega)
      have hw : wrap64 (d.tmod n + n) = d % n := by unfold wrap64; omega
      have HW : Hid (∀ _ : Unit, wrap64 (d.tmod n + n) = d % n) := fun _ => hw
      clear e1 hw e2
      go_enter Try.func83, Try.ntmps83
      go_wp2
      go_ret
      exact ⟨by rw [← HW ()]; rfl, rfl⟩
    · have e1 : d.tmod n = d % n := tmod_emod_nonneg hn1 (by omega)
      have HW : Hid (∀ _ : Unit, d.tmod n = d % n) := fun _ => e1
      have hm1 : decide (d.tmod n < 0) = false := decide_eq_false hm
      clear e1
      go_enter Try.func83, Try.ntmps83
      go_wp2
      go_ret
      exact ⟨by rw [← HW ()]; rfl, rfl⟩

def pow2 (p : Int) : Bool := decide (p = 1 ∨ p = 2 ∨ p = 4 ∨ p = 8 ∨ p = 16)
theorem pow2_any (p : Int) (w : World) (h : 1 ≤ p ∧ p ≤ 16) : Calls Try.prog 101 #[.int .i64 p] w fun e w' => e = .returned (.bool (pow2 p)) ∧ w' = w := by
  have hp : bits .and .i64 p (p - 1) = 0 ↔ pow2 p = true := by
    have : p = 1 ∨ p = 2 ∨ p = 3 ∨ p = 4 ∨ p = 5 ∨ p = 6 ∨ p = 7 ∨ p = 8 ∨ p = 9 ∨ p = 10 ∨ p = 11 ∨ p = 12 ∨ p = 13 ∨ p = 14 ∨ p = 15 ∨ p = 16 := by omega
    rcases this with rfl | rfl | rfl | rfl | rfl | rfl | rfl | rfl | rfl | rfl | rfl | rfl | rfl | rfl | rfl | rfl <;> decide
  cases hq : pow2 p
  · have hb : (bits .and .i64 p (p - 1) == 0) = false := by
      cases he : (bits .and .i64 p (p - 1) == 0)
      · rfl
      · rw [hp.1 (by simpa using he)] at hq; cases hq
    clear hp hq
    go_enter Try.func101, Try.ntmps101
    go_wp2
    go_ret
    exact ⟨rfl, rfl⟩
  · have hb := hp.2 hq
    clear hp hq
    go_enter Try.func101, Try.ntmps101
    go_wp2
    go_ret
    exact ⟨rfl, rfl⟩

/-- May a structure of a kind have this parameter? -/
def legal (k p : Int) : Int := if ¬ (1 ≤ k ∧ k ≤ 4) then 6 else if ¬ (1 ≤ p ∧ p ≤ 16) then 5 else if k = 4 ∧ pow2 p = false then 5 else 0
theorem legal_kind {k p : Int} (h : ¬ (1 ≤ k ∧ k ≤ 4)) : legal k p = 6 := if_pos h
theorem legal_par {k p : Int} (h : 1 ≤ k ∧ k ≤ 4) (hp : ¬ (1 ≤ p ∧ p ≤ 16)) : legal k p = 5 := by unfold legal; rw [if_neg (fun e => e h), if_pos hp]
theorem legal_net {k p : Int} (h : 1 ≤ k ∧ k ≤ 4) (hp : 1 ≤ p ∧ p ≤ 16) (hq : k = 4 ∧ pow2 p = false) : legal k p = 5 := by unfold legal; rw [if_neg (fun e => e h), if_neg (fun e => e hp), if_pos hq]
theorem legal_ok {k p : Int} (h : 1 ≤ k ∧ k ≤ 4) (hp : 1 ≤ p ∧ p ≤ 16) (hq : ¬ (k = 4 ∧ pow2 p = false)) : legal k p = 0 := by unfold legal; rw [if_neg (fun e => e h), if_neg (fun e => e hp), if_neg hq]
theorem opl_pos (k : Int) : ((opl k).length = 0 ↔ ¬ (1 ≤ k ∧ k ≤ 4)) := by
  rcases kinds k with rfl | rfl | rfl | rfl | h
  · decide
  · decide
  · decide
  · decide
  · rw [(opl_none h).1]; simp; omega

set_option maxHeartbeats 2000000 in
theorem legal_any (k p : Int) (w : World) : Calls Try.prog 81 #[.int .i64 k, .int .i64 p] w fun e w' => e = .returned (.int .i64 (legal k p)) ∧ Below w.heap.size w w' := by
  have hO := of_any k w
  have hl := opl_pos k
  have hl2 := (opl_length k).2
  generalize opl k = l at *
  by_cases hk : 1 ≤ k ∧ k ≤ 4
  · have hn : ((l.length : Int) == 0) = false := by
      have : ¬ l.length = 0 := fun e => hl.1 e hk
      simp; intro e; exact this (by simp [e])
    generalize l.length = n at *
    clear hl hl2
    by_cases hp : p < 1
    · rw [legal_par hk (by omega)]
      clear hk
      go_enter Try.func81, Try.ntmps81
      go_wp2_with (go_at_call 100; refine hO.mono ?_; rintro e w1 ⟨a, rfl, hi, hb⟩)
      go_ret
      exact ⟨rfl, hb⟩
    · have hp1 : decide (p < 1) = false := decide_eq_false hp
      by_cases hq : 16 < p
      · rw [legal_par hk (by omega)]
        clear hk hp
        go_enter Try.func81, Try.ntmps81
        go_wp2_with (go_at_call 100; refine hO.mono ?_; rintro e w1 ⟨a, rfl, hi, hb⟩)
        go_ret
        exact ⟨rfl, hb⟩
      · have hq1 : decide (16 < p) = false := decide_eq_false hq
        have hpp : 1 ≤ p ∧ p ≤ 16 := by omega
        have hP := fun w => pow2_any p w hpp
        by_cases h4 : k = 4
        · cases hz : pow2 p
          · rw [legal_net hk hpp ⟨h4, hz⟩]
            rw [hz] at hP
            subst h4
            clear hk hp hpp hz hq
            go_enter Try.func81, Try.ntmps81
            go_wp2_with (first | (go_at_call 100; refine hO.mono ?_; rintro e w1 ⟨a, rfl, hi, hb⟩) | (go_at_call 101; refine (hP _).mono ?_; rintro e w2 ⟨rfl, hw⟩; replace hw := hw.symm; subst hw))
            go_ret
            exact ⟨rfl, hb⟩
          · rw [legal_ok hk hpp (fun e => by rw [hz] at e; cases e.2)]
            rw [hz] at hP
            subst h4
            clear hk hp hpp hz hq
            go_enter Try.func81, Try.ntmps81
            go_wp2_with (first | (go_at_call 100; refine hO.mono ?_; rintro e w1 ⟨a, rfl, hi, hb⟩) | (go_at_call 101; refine (hP _).mono ?_; rintro e w2 ⟨rfl, hw⟩; replace hw := hw.symm; subst hw))
            go_ret
            exact ⟨rfl, hb⟩
        · rw [legal_ok hk hpp (fun e => h4 e.1)]
          have h41 : (k == 4) = false := by simpa using h4
          clear hk hp hpp hq h4 hP
          go_enter Try.func81, Try.ntmps81
          go_wp2_with (go_at_call 100; refine hO.mono ?_; rintro e w1 ⟨a, rfl, hi, hb⟩)
          go_ret
          exact ⟨rfl, hb⟩
  · rw [legal_kind hk]
    have hn : l.length = 0 := hl.2 hk
    rw [hn] at hO
    clear hl hl2 hn hk
    go_enter Try.func81, Try.ntmps81
    go_wp2_with (go_at_call 100; refine hO.mono ?_; rintro e w1 ⟨a, rfl, hi, hb⟩)
    go_ret
    exact ⟨rfl, hb⟩

end Go.Proofs.Ythhechgjablklaa
