/-
  Layer 6: the operations of a kind: contracts.
  Layer 6: parameters: contracts.
-/
import Derived.Test.YtbcmilfajeanbaaChecked
import Derived.WalkKit
import Derived.Deep.RegionWith
import Derived.BigQuiet
import Derived.Deep.QuietTactic
namespace Go.Proofs.Ytbcmilfajeanbaa
open Go.RowKit

theorem run_store_flt {P : Program} (a : Addr) (n : Nat) (w : World) : (store a (.float .f64 n)).run P w = stored P w a (.float .f64 n) .plain := run_store P w a _ _ rfl

/-- Integers in a row. -/
def IntsAt (w : World) (a : Option Addr) (l : List Int) : Prop :=
  ∀ i, i < l.length → ∃ b, a = some ⟨b, 0, none⟩ ∧ b < w.heap.size ∧ w.cell? ⟨b, i, none⟩ = some (.int .i64 l[i]!)
theorem IntsAt.below {w w' : World} {a : Option Addr} {l : List Int} (h : IntsAt w a l) (hb : Below w.heap.size w w') : IntsAt w' a l := fun i hi => by
  obtain ⟨b, h1, h2, h3⟩ := h i hi
  exact ⟨b, h1, Nat.lt_of_lt_of_le h2 hb.size, by rw [hb.cell (p := ⟨b, i, none⟩) h2]; exact h3⟩

/-- The operations of a kind: the first, the last. -/
def opFrom (k : Int) : Int := if k = 1 then 1 else if k = 2 then 3 else if k = 3 then 5 else if k = 4 then 7 else 0
def opTo (k : Int) : Int := if k = 1 then 2 else if k = 2 then 4 else if k = 3 then 6 else if k = 4 then 7 else -1
def opl (k : Int) : List Int := if k = 1 then [1, 2] else if k = 2 then [3, 4] else if k = 3 then [5, 6] else if k = 4 then [7] else []
theorem kinds (k : Int) : k = 1 ∨ k = 2 ∨ k = 3 ∨ k = 4 ∨ (¬ k = 1 ∧ ¬ k = 2 ∧ ¬ k = 3 ∧ ¬ k = 4) := by omega
theorem opl_none {k : Int} (h : ¬ k = 1 ∧ ¬ k = 2 ∧ ¬ k = 3 ∧ ¬ k = 4) : opl k = [] ∧ opFrom k = 0 ∧ opTo k = -1 := by
  unfold opl opFrom opTo
  rw [if_neg h.1, if_neg h.2.1, if_neg h.2.2.1, if_neg h.2.2.2, if_neg h.1, if_neg h.2.1, if_neg h.2.2.1, if_neg h.2.2.2, if_neg h.1, if_neg h.2.1, if_neg h.2.2.1, if_neg h.2.2.2]
  exact ⟨rfl, rfl, rfl⟩
theorem opl_length (k : Int) : ((opl k).length : Int) = opTo k - opFrom k + 1 ∧ (opl k).length ≤ 2 := by
  rcases kinds k with rfl | rfl | rfl | rfl | h
  · decide
  · decide
  · decide
  · decide
  · rw [(opl_none h).1, (opl_none h).2.1, (opl_none h).2.2]; decide
theorem opl_get (k : Int) (i : Nat) (hi : i < (opl k).length) : (opl k)[i]! = opFrom k + (i : Int) := by
  rcases kinds k with rfl | rfl | rfl | rfl | h
  · have : i = 0 ∨ i = 1 := by have : i < 2 := hi; omega
    rcases this with rfl | rfl <;> decide
  · have : i = 0 ∨ i = 1 := by have : i < 2 := hi; omega
    rcases this with rfl | rfl <;> decide
  · have : i = 0 ∨ i = 1 := by have : i < 2 := hi; omega
    rcases this with rfl | rfl <;> decide
  · have : i = 0 := by have : i < 1 := hi; omega
    subst this; decide
  · rw [(opl_none h).1] at hi; exact absurd hi (Nat.not_lt_zero _)
theorem op_rng (k : Int) : 0 ≤ opFrom k ∧ opFrom k ≤ 7 ∧ -1 ≤ opTo k ∧ opTo k ≤ 7 ∧ (∀ x, x ∈ opl k ↔ opFrom k ≤ x ∧ x ≤ opTo k) := by
  rcases kinds k with rfl | rfl | rfl | rfl | h
  · refine ⟨by decide, by decide, by decide, by decide, fun x => ?_⟩
    show x ∈ [(1 : Int), 2] ↔ (1 : Int) ≤ x ∧ x ≤ 2
    simp; omega
  · refine ⟨by decide, by decide, by decide, by decide, fun x => ?_⟩
    show x ∈ [(3 : Int), 4] ↔ (3 : Int) ≤ x ∧ x ≤ 4
    simp; omega
  · refine ⟨by decide, by decide, by decide, by decide, fun x => ?_⟩
    show x ∈ [(5 : Int), 6] ↔ (5 : Int) ≤ x ∧ x ≤ 6
    simp; omega
  · refine ⟨by decide, by decide, by decide, by decide, fun x => ?_⟩
    show x ∈ [(7 : Int)] ↔ (7 : Int) ≤ x ∧ x ≤ 7
    simp; omega
  · rw [(opl_none h).1, (opl_none h).2.1, (opl_none h).2.2]
    refine ⟨by decide, by decide, by decide, by decide, fun x => ?_⟩
    simp; omega

theorem ints_new (w : World) (l : List Int) (t : TypeId) : IntsAt (w.alloc (.cells (l.map (Value.int .i64)).toArray t)) (some ⟨w.heap.size, 0, none⟩) l := fun i hi =>
  ⟨w.heap.size, rfl, by simp, by rw [World.cell?_alloc_new, List.getElem?_toArray, List.getElem?_map, List.getElem?_eq_getElem hi, getElem!_pos l i hi]; rfl⟩

theorem of_any (k : Int) (w : World) : Calls Try.prog 61 #[.int .i64 k] w fun e w' => ∃ a, e = .returned (.slice a (opl k).length (opl k).length) ∧ IntsAt w' a (opl k) ∧ Below w.heap.size w w' := by
  rcases kinds k with rfl | rfl | rfl | rfl | h
  · go_enter Try.func61, Try.ntmps61
    go_wp2
    go_ret
    exact ⟨_, rfl, ints_new w [1, 2] _, (Below.refl _ _).alloc (Nat.le_refl _) _⟩
  · go_enter Try.func61, Try.ntmps61
    go_wp2
    go_ret
    exact ⟨_, rfl, ints_new w [3, 4] _, (Below.refl _ _).alloc (Nat.le_refl _) _⟩
  · go_enter Try.func61, Try.ntmps61
    go_wp2
    go_ret
    exact ⟨_, rfl, ints_new w [5, 6] _, (Below.refl _ _).alloc (Nat.le_refl _) _⟩
  · go_enter Try.func61, Try.ntmps61
    go_wp2
    go_ret
    exact ⟨_, rfl, ints_new w [7] _, (Below.refl _ _).alloc (Nat.le_refl _) _⟩
  · rw [(opl_none h).1]
    obtain ⟨h1, h2, h3, h4⟩ := h
    go_enter Try.func61, Try.ntmps61
    go_wp2
    go_ret
    exact ⟨none, rfl, fun i hi => absurd hi (Nat.not_lt_zero _), Below.refl _ _⟩

end Go.Proofs.Ytbcmilfajeanbaa

namespace Go.Proofs.Ytbcmilfajeanbaa
open Go.RowKit

/-- A draw among so many. -/
def into (d n : Int) : Int := if n < 1 then 0 else d % n
theorem into_lo {d n : Int} (h : n < 1) : into d n = 0 := if_pos h
theorem into_hi {d n : Int} (h : ¬ n < 1) : into d n = d % n := if_neg h
theorem tmod_emod_nonneg {d n : Int} (hn : 1 ≤ n) (h : 0 ≤ d.tmod n) : d.tmod n = d % n := by
  have h1 := Int.tmod_add_mul_tdiv d n
  have h2 := Int.tmod_lt_of_pos d (show 0 < n by omega)
  have h3 : d.tmod n % n = d.tmod n := Int.emod_eq_of_lt h h2
  have h4 : d % n = (d.tmod n + n * d.tdiv n) % n := by rw [h1]
  rw [h4, Int.add_mul_emod_self_left, h3]
theorem tmod_emod_neg {d n : Int} (hn : 1 ≤ n) (h : d.tmod n < 0) : d.tmod n + n = d % n := by
  have h1 := Int.tmod_add_mul_tdiv d n
  have h2 := Int.lt_tmod_of_pos d (show 0 < n by omega)
  have h3 : (d.tmod n + n) % n = d.tmod n + n := Int.emod_eq_of_lt (by omega) (by omega)
  have h4 : d % n = (d.tmod n + n * d.tdiv n) % n := by rw [h1]
  rw [h4, Int.add_mul_emod_self_left, ← h3, Int.add_emod_right]
theorem into_rng {d n : Int} (hn : 1 ≤ n) : 0 ≤ into d n ∧ into d n < n := by
  rw [into_hi (by omega)]
  exact ⟨Int.emod_nonneg _ (by omega), Int.emod_lt_of_pos _ (by omega)⟩

def pow2 (p : Int) : Bool := decide (p = 1 ∨ p = 2 ∨ p = 4 ∨ p = 8 ∨ p = 16)
theorem pow2_any (p : Int) (w : World) (h : 1 ≤ p ∧ p ≤ 16) : Calls Try.prog 62 #[.int .i64 p] w fun e w' => e = .returned (.bool (pow2 p)) ∧ w' = w := by
  have hp : bits .and .i64 p (p - 1) = 0 ↔ pow2 p = true := by
    have : p = 1 ∨ p = 2 ∨ p = 3 ∨ p = 4 ∨ p = 5 ∨ p = 6 ∨ p = 7 ∨ p = 8 ∨ p = 9 ∨ p = 10 ∨ p = 11 ∨ p = 12 ∨ p = 13 ∨ p = 14 ∨ p = 15 ∨ p = 16 := by omega
    rcases this with rfl | rfl | rfl | rfl | rfl | rfl | rfl | rfl | rfl | rfl | rfl | rfl | rfl | rfl | rfl | rfl <;> decide
  cases hq : pow2 p
  · have hb : (bits .and .i64 p (p - 1) == 0) = false := by
      cases he : (bits .and .i64 p (p - 1) == 0)
      · rfl
      · rw [hp.1 (by simpa using he)] at hq; cases hq
    clear hp hq
    go_enter Try.func62, Try.ntmps62
    go_wp2
    go_ret
    exact ⟨rfl, rfl⟩
  · have hb := hp.2 hq
    clear hp hq
    go_enter Try.func62, Try.ntmps62
    go_wp2
    go_ret
    exact ⟨rfl, rfl⟩

/-- May a structure of a kind have this parameter? -/
def legal (k p : Int) : Int := if ¬ (1 ≤ k ∧ k ≤ 4) then 6 else if ¬ (1 ≤ p ∧ p ≤ 16) then 5 else if k = 4 ∧ pow2 p = false then 5 else 0
theorem legal_kind {k p : Int} (h : ¬ (1 ≤ k ∧ k ≤ 4)) : legal k p = 6 := if_pos h
theorem legal_par {k p : Int} (h : 1 ≤ k ∧ k ≤ 4) (hp : ¬ (1 ≤ p ∧ p ≤ 16)) : legal k p = 5 := by unfold legal; rw [if_neg (fun e => e h), if_pos hp]
theorem legal_net {k p : Int} (h : 1 ≤ k ∧ k ≤ 4) (hp : 1 ≤ p ∧ p ≤ 16) (hq : k = 4 ∧ pow2 p = false) : legal k p = 5 := by unfold legal; rw [if_neg (fun e => e h), if_neg (fun e => e hp), if_pos hq]
theorem legal_ok {k p : Int} (h : 1 ≤ k ∧ k ≤ 4) (hp : 1 ≤ p ∧ p ≤ 16) (hq : ¬ (k = 4 ∧ pow2 p = false)) : legal k p = 0 := by unfold legal; rw [if_neg (fun e => e h), if_neg (fun e => e hp), if_neg hq]
theorem opl_pos (k : Int) : ((opl k).length = 0 ↔ ¬ (1 ≤ k ∧ k ≤ 4)) := by
  rcases kinds k with rfl | rfl | rfl | rfl | h
  · decide
  · decide
  · decide
  · decide
  · rw [(opl_none h).1]; simp; omega

set_option maxHeartbeats 2000000 in
theorem legal_any (k p : Int) (w : World) : Calls Try.prog 30 #[.int .i64 k, .int .i64 p] w fun e w' => e = .returned (.int .i64 (legal k p)) ∧ Below w.heap.size w w' := by
  have hO := of_any k w
  have hl := opl_pos k
  have hl2 := (opl_length k).2
  generalize opl k = l at *
  by_cases hk : 1 ≤ k ∧ k ≤ 4
  · have hn : ((l.length : Int) == 0) = false := by
      have : ¬ l.length = 0 := fun e => hl.1 e hk
      simp; intro e; exact this (by simp [e])
    generalize l.length = n at *
    clear hl hl2
    by_cases hp : p < 1
    · rw [legal_par hk (by omega)]
      clear hk
      go_enter Try.func30, Try.ntmps30
      go_wp2_with (go_at_call 61; refine hO.mono ?_; rintro e w1 ⟨a, rfl, hi, hb⟩)
      go_ret
      exact ⟨rfl, hb⟩
    · have hp1 : decide (p < 1) = false := decide_eq_false hp
      by_cases hq : 16 < p
      · rw [legal_par hk (by omega)]
        clear hk hp
        go_enter Try.func30, Try.ntmps30
        go_wp2_with (go_at_call 61; refine hO.mono ?_; rintro e w1 ⟨a, rfl, hi, hb⟩)
        go_ret
        exact ⟨rfl, hb⟩
      · have hq1 : decide (16 < p) = false := decide_eq_false hq
        have hpp : 1 ≤ p ∧ p ≤ 16 := by omega
        have hP := fun w => pow2_any p w hpp
        by_cases h4 : k = 4
        · cases hz : pow2 p
          · rw [legal_net hk hpp ⟨h4, hz⟩]
            rw [hz] at hP
            subst h4
            clear hk hp hpp hz hq
            go_enter Try.func30, Try.ntmps30
            go_wp2_with (first | (go_at_call 61; refine hO.mono ?_; rintro e w1 ⟨a, rfl, hi, hb⟩) | (go_at_call 62; refine (hP _).mono ?_; rintro e w2 ⟨rfl, hw⟩; replace hw := hw.symm; subst hw))
            go_ret
            exact ⟨rfl, hb⟩
          · rw [legal_ok hk hpp (fun e => by rw [hz] at e; cases e.2)]
            rw [hz] at hP
            subst h4
            clear hk hp hpp hz hq
            go_enter Try.func30, Try.ntmps30
            go_wp2_with (first | (go_at_call 61; refine hO.mono ?_; rintro e w1 ⟨a, rfl, hi, hb⟩) | (go_at_call 62; refine (hP _).mono ?_; rintro e w2 ⟨rfl, hw⟩; replace hw := hw.symm; subst hw))
            go_ret
            exact ⟨rfl, hb⟩
        · rw [legal_ok hk hpp (fun e => h4 e.1)]
          have h41 : (k == 4) = false := by simpa using h4
          clear hk hp hpp hq h4 hP
          go_enter Try.func30, Try.ntmps30
          go_wp2_with (go_at_call 61; refine hO.mono ?_; rintro e w1 ⟨a, rfl, hi, hb⟩)
          go_ret
          exact ⟨rfl, hb⟩
  · rw [legal_kind hk]
    have hn : l.length = 0 := hl.2 hk
    rw [hn] at hO
    clear hl hl2 hn hk
    go_enter Try.func30, Try.ntmps30
    go_wp2_with (go_at_call 61; refine hO.mono ?_; rintro e w1 ⟨a, rfl, hi, hb⟩)
    go_ret
    exact ⟨rfl, hb⟩

end Go.Proofs.Ytbcmilfajeanbaa
