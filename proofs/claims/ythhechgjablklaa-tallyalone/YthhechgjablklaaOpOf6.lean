/-
  Layer 6: the operations of a kind: contracts.
-/
import Derived.Test.YthhechgjablklaaChecked
import Derived.WalkKit
import Derived.Deep.RegionWith
import Derived.BigQuiet
import Derived.Deep.QuietTactic
namespace Go.Proofs.Ythhechgjablklaa
open Go.RowKit

theorem run_store_flt {P : Program} (a : Addr) (n : Nat) (w : World) : (store a (.float .f64 n)).run P w = stored P w a (.float .f64 n) .plain := run_store P w a _ _ rfl

/-- Integers in a row. -/
def IntsAt (w : World) (a : Option Addr) (l : List Int) : Prop :=
  ∀ i, i < l.length → ∃ b, a = some ⟨b, 0, none⟩ ∧ b < w.heap.size ∧ w.cell? ⟨b, i, none⟩ = some (.int .i64 l[i]!)
theorem IntsAt.below {w w' : World} {a : Option Addr} {l : List Int} (h : IntsAt w a l) (hb : Below w.heap.size w w') : IntsAt w' a l := fun i hi => by
  obtain ⟨b, h1, h2, h3⟩ := h i hi
  exact ⟨b, h1, Nat.lt_of_lt_of_le h2 hb.size, by rw [hb.cell (p := ⟨b, i, none⟩) h2]; exact h3⟩

/-- The operations of a kind: the first, the last. -/
def opFrom (k : Int) : Int := if k = 1 then 1 else if k = 2 then 3 else if k = 3 then 5 else if k = 4 then 7 else 0
def opTo (k : Int) : Int := if k = 1 then 2 else if k = 2 then 4 else if k = 3 then 6 else if k = 4 then 7 else -1
def opl (k : Int) : List Int := if k = 1 then [1, 2] else if k = 2 then [3, 4] else if k = 3 then [5, 6] else if k = 4 then [7] else []
theorem kinds (k : Int) : k = 1 ∨ k = 2 ∨ k = 3 ∨ k = 4 ∨ (¬ k = 1 ∧ ¬ k = 2 ∧ ¬ k = 3 ∧ ¬ k = 4) := by omega
theorem opl_none {k : Int} (h : ¬ k = 1 ∧ ¬ k = 2 ∧ ¬ k = 3 ∧ ¬ k = 4) : opl k = [] ∧ opFrom k = 0 ∧ opTo k = -1 := by
  unfold opl opFrom opTo
  rw [if_neg h.1, if_neg h.2.1, if_neg h.2.2.1, if_neg h.2.2.2, if_neg h.1, if_neg h.2.1, if_neg h.2.2.1, if_neg h.2.2.2, if_neg h.1, if_neg h.2.1, if_neg h.2.2.1, if_neg h.2.2.2]
  exact ⟨rfl, rfl, rfl⟩
theorem opl_length (k : Int) : ((opl k).length : Int) = opTo k - opFrom k + 1 ∧ (opl k).length ≤ 2 := by
  rcases kinds k with rfl | rfl | rfl | rfl | h
  · decide
  · decide
  · decide
  · decide
  · rw [(opl_none h).1, (opl_none h).2.1, (opl_none h).2.2]; decide
theorem opl_get (k : Int) (i : Nat) (hi : i < (opl k).length) : (opl k)[i]! = opFrom k + (i : Int) := by
  rcases kinds k with rfl | rfl | rfl | rfl | h
  · have : i = 0 ∨ i = 1 := by have : i < 2 := hi; omega
    rcases this with rfl | rfl <;> decide
  · have : i = 0 ∨ i = 1 := by have : i < 2 := hi; omega
    rcases this with rfl | rfl <;> decide
  · have : i = 0 ∨ i = 1 := by have : i < 2 := hi; omega
    rcases this with rfl | rfl <;> decide
  · have : i = 0 := by have : i < 1 := hi; omega
    subst this; decide
  · rw [(opl_none h).1] at hi; exact absurd hi (Nat.not_lt_zero _)
theorem op_rng (k : Int) : 0 ≤ opFrom k ∧ opFrom k ≤ 7 ∧ -1 ≤ opTo k ∧ opTo k ≤ 7 ∧ (∀ x, x ∈ opl k ↔ opFrom k ≤ x ∧ x ≤ opTo k) := by
  rcases kinds k with rfl | rfl | rfl | rfl | h
  · refine ⟨by decide, by decide, by decide, by decide, fun x => ?_⟩
    show x ∈ [(1 : Int), 2] ↔ (1 : Int) ≤ x ∧ x ≤ 2
    simp; omega
  · refine ⟨by decide, by decide, by decide, by decide, fun x => ?_⟩
    show x ∈ [(3 : Int), 4] ↔ (3 : Int) ≤ x ∧ x ≤ 4
    simp; omega
  · refine ⟨by decide, by decide, by decide, by decide, fun x => ?_⟩
    show x ∈ [(5 : Int), 6] ↔ (5 : Int) ≤ x ∧ x ≤ 6
    simp; omega
  · refine ⟨by decide, by decide, by decide, by decide, fun x => ?_⟩
    show x ∈ [(7 : Int)] ↔ (7 : Int) ≤ x ∧ x ≤ 7
    simp; omega
  · rw [(opl_none h).1, (opl_none h).2.1, (opl_none h).2.2]
    refine ⟨by decide, by decide, by decide, by decide, fun x => ?_⟩
    simp; omega

theorem ints_new (w : World) (l : List Int) (t : TypeId) : IntsAt (w.alloc (.cells (l.map (Value.int .i64)).toArray t)) (some ⟨w.heap.size, 0, none⟩) l := fun i hi =>
  ⟨w.heap.size, rfl, by simp, by rw [World.cell?_alloc_new, List.getElem?_toArray, List.getElem?_map, List.getElem?_eq_getElem hi, getElem!_pos l i hi]; rfl⟩

theorem of_any (k : Int) (w : World) : Calls Try.prog 100 #[.int .i64 k] w fun e w' => ∃ a, e = .returned (.slice a (opl k).length (opl k).length) ∧ IntsAt w' a (opl k) ∧ Below w.heap.size w w' := by
  rcases kinds k with rfl | rfl | rfl | rfl | h
  · go_enter Try.func100, Try.ntmps100
    go_wp2
    go_ret
    exact ⟨_, rfl, ints_new w [1, 2] _, (Below.refl _ _).alloc (Nat.le_refl _) _⟩
  · go_enter Try.func100, Try.ntmps100
    go_wp2
    go_ret
    exact ⟨_, rfl, ints_new w [3, 4] _, (Below.refl _ _).alloc (Nat.le_refl _) _⟩
  · go_enter Try.func100, Try.ntmps100
    go_wp2
    go_ret
    exact ⟨_, rfl, ints_new w [5, 6] _, (Below.refl _ _).alloc (Nat.le_refl _) _⟩
  · go_enter Try.func100, Try.ntmps100
    go_wp2
    go_ret
    exact ⟨_, rfl, ints_new w [7] _, (Below.refl _ _).alloc (Nat.le_refl _) _⟩
  · rw [(opl_none h).1]
    obtain ⟨h1, h2, h3, h4⟩ := h
    go_enter Try.func100, Try.ntmps100
    go_wp2
    go_ret
    exact ⟨none, rfl, fun i hi => absurd hi (Nat.not_lt_zero _), Below.refl _ _⟩

theorem rof_any (k : Int) (w : World) : Calls Try.prog 82 #[.int .i64 k] w fun e w' => e = .returned (.tuple #[.int .i64 (opFrom k), .int .i64 (opTo k)]) ∧ w' = w := by
  rcases kinds k with rfl | rfl | rfl | rfl | h
  · go_enter Try.func82, Try.ntmps82
    go_wp2
    go_ret2
    exact ⟨rfl, rfl⟩
  · go_enter Try.func82, Try.ntmps82
    go_wp2
    go_ret2
    exact ⟨rfl, rfl⟩
  · go_enter Try.func82, Try.ntmps82
    go_wp2
    go_ret2
    exact ⟨rfl, rfl⟩
  · go_enter Try.func82, Try.ntmps82
    go_wp2
    go_ret2
    exact ⟨rfl, rfl⟩
  · rw [(opl_none h).2.1, (opl_none h).2.2]
    obtain ⟨h1, h2, h3, h4⟩ := h
    go_enter Try.func82, Try.ntmps82
    go_wp2
    go_ret2
    exact ⟨rfl, rfl⟩
end Go.Proofs.Ythhechgjablklaa
