/-
  Layer 6: the operations of a kind: contracts.
  Layer 6's reference: the operations of a kind: contract.
  Layer 6: Check: contracts.
-/
import Derived.Test.YtbcmilfajeanbaaChecked
import Derived.WalkKit
import Derived.Deep.RegionWith
import Derived.BigQuiet
import Derived.Deep.QuietTactic
namespace Go.Proofs.Ytbcmilfajeanbaa
open Go.RowKit

theorem run_store_flt {P : Program} (a : Addr) (n : Nat) (w : World) : (store a (.float .f64 n)).run P w = stored P w a (.float .f64 n) .plain := run_store P w a _ _ rfl

/-- Integers in a row. -/
def IntsAt (w : World) (a : Option Addr) (l : List Int) : Prop :=
  ∀ i, i < l.length → ∃ b, a = some ⟨b, 0, none⟩ ∧ b < w.heap.size ∧ w.cell? ⟨b, i, none⟩ = some (.int .i64 l[i]!)
theorem IntsAt.below {w w' : World} {a : Option Addr} {l : List Int} (h : IntsAt w a l) (hb : Below w.heap.size w w') : IntsAt w' a l := fun i hi => by
  obtain ⟨b, h1, h2, h3⟩ := h i hi
  exact ⟨b, h1, Nat.lt_of_lt_of_le h2 hb.size, by rw [hb.cell (p := ⟨b, i, none⟩) h2]; exact h3⟩

/-- The operations of a kind: the first, the last. -/
def opFrom (k : Int) : Int := if k = 1 then 1 else if k = 2 then 3 else if k = 3 then 5 else if k = 4 then 7 else 0
def opTo (k : Int) : Int := if k = 1 then 2 else if k = 2 then 4 else if k = 3 then 6 else if k = 4 then 7 else -1
def opl (k : Int) : List Int := if k = 1 then [1, 2] else if k = 2 then [3, 4] else if k = 3 then [5, 6] else if k = 4 then [7] else []
theorem kinds (k : Int) : k = 1 ∨ k = 2 ∨ k = 3 ∨ k = 4 ∨ (¬ k = 1 ∧ ¬ k = 2 ∧ ¬ k = 3 ∧ ¬ k = 4) := by omega
theorem opl_none {k : Int} (h : ¬ k = 1 ∧ ¬ k = 2 ∧ ¬ k = 3 ∧ ¬ k = 4) : opl k = [] ∧ opFrom k = 0 ∧ opTo k = -1 := by
  unfold opl opFrom opTo
  rw [if_neg h.1, if_neg h.2.1, if_neg h.2.2.1, if_neg h.2.2.2, if_neg h.1, if_neg h.2.1, if_neg h.2.2.1, if_neg h.2.2.2, if_neg h.1, if_neg h.2.1, if_neg h.2.2.1, if_neg h.2.2.2]
  exact ⟨rfl, rfl, rfl⟩
theorem opl_length (k : Int) : ((opl k).length : Int) = opTo k - opFrom k + 1 ∧ (opl k).length ≤ 2 := by
  rcases kinds k with rfl | rfl | rfl | rfl | h
  · decide
  · decide
  · decide
  · decide
  · rw [(opl_none h).1, (opl_none h).2.1, (opl_none h).2.2]; decide
theorem opl_get (k : Int) (i : Nat) (hi : i < (opl k).length) : (opl k)[i]! = opFrom k + (i : Int) := by
  rcases kinds k with rfl | rfl | rfl | rfl | h
  · have : i = 0 ∨ i = 1 := by have : i < 2 := hi; omega
    rcases this with rfl | rfl <;> decide
  · have : i = 0 ∨ i = 1 := by have : i < 2 := hi; omega
    rcases this with rfl | rfl <;> decide
  · have : i = 0 ∨ i = 1 := by have : i < 2 := hi; omega
    rcases this with rfl | rfl <;> decide
  · have : i = 0 := by have : i < 1 := hi; omega
    subst this; decide
  · rw [(opl_none h).1] at hi; exact absurd hi (Nat.not_lt_zero _)
theorem op_rng (k : Int) : 0 ≤ opFrom k ∧ opFrom k ≤ 7 ∧ -1 ≤ opTo k ∧ opTo k ≤ 7 ∧ (∀ x, x ∈ opl k ↔ opFrom k ≤ x ∧ x ≤ opTo k) := by
  rcases kinds k with rfl | rfl | rfl | rfl | h
  · refine ⟨by decide, by decide, by decide, by decide, fun x => ?_⟩
    show x ∈ [(1 : Int), 2] ↔ (1 : Int) ≤ x ∧ x ≤ 2
    simp; omega
  · refine ⟨by decide, by decide, by decide, by decide, fun x => ?_⟩
    show x ∈ [(3 : Int), 4] ↔ (3 : Int) ≤ x ∧ x ≤ 4
    simp; omega
  · refine ⟨by decide, by decide, by decide, by decide, fun x => ?_⟩
    show x ∈ [(5 : Int), 6] ↔ (5 : Int) ≤ x ∧ x ≤ 6
    simp; omega
  · refine ⟨by decide, by decide, by decide, by decide, fun x => ?_⟩
    show x ∈ [(7 : Int)] ↔ (7 : Int) ≤ x ∧ x ≤ 7
    simp; omega
  · rw [(opl_none h).1, (opl_none h).2.1, (opl_none h).2.2]
    refine ⟨by decide, by decide, by decide, by decide, fun x => ?_⟩
    simp; omega

theorem ints_new (w : World) (l : List Int) (t : TypeId) : IntsAt (w.alloc (.cells (l.map (Value.int .i64)).toArray t)) (some ⟨w.heap.size, 0, none⟩) l := fun i hi =>
  ⟨w.heap.size, rfl, by simp, by rw [World.cell?_alloc_new, List.getElem?_toArray, List.getElem?_map, List.getElem?_eq_getElem hi, getElem!_pos l i hi]; rfl⟩

theorem of_any (k : Int) (w : World) : Calls Try.prog 61 #[.int .i64 k] w fun e w' => ∃ a, e = .returned (.slice a (opl k).length (opl k).length) ∧ IntsAt w' a (opl k) ∧ Below w.heap.size w w' := by
  rcases kinds k with rfl | rfl | rfl | rfl | h
  · go_enter Try.func61, Try.ntmps61
    go_wp2
    go_ret
    exact ⟨_, rfl, ints_new w [1, 2] _, (Below.refl _ _).alloc (Nat.le_refl _) _⟩
  · go_enter Try.func61, Try.ntmps61
    go_wp2
    go_ret
    exact ⟨_, rfl, ints_new w [3, 4] _, (Below.refl _ _).alloc (Nat.le_refl _) _⟩
  · go_enter Try.func61, Try.ntmps61
    go_wp2
    go_ret
    exact ⟨_, rfl, ints_new w [5, 6] _, (Below.refl _ _).alloc (Nat.le_refl _) _⟩
  · go_enter Try.func61, Try.ntmps61
    go_wp2
    go_ret
    exact ⟨_, rfl, ints_new w [7] _, (Below.refl _ _).alloc (Nat.le_refl _) _⟩
  · rw [(opl_none h).1]
    obtain ⟨h1, h2, h3, h4⟩ := h
    go_enter Try.func61, Try.ntmps61
    go_wp2
    go_ret
    exact ⟨none, rfl, fun i hi => absurd hi (Nat.not_lt_zero _), Below.refl _ _⟩

end Go.Proofs.Ytbcmilfajeanbaa

namespace Go.Proofs.Ytbcmilfajeanbaa
open Go.RowKit

theorem rof_any (k : Int) (w : World) : Calls Try.prog 44 #[.int .i64 k] w fun e w' => e = .returned (.tuple #[.int .i64 (opFrom k), .int .i64 (opTo k)]) ∧ w' = w := by
  rcases kinds k with rfl | rfl | rfl | rfl | h
  · go_enter Try.func44, Try.ntmps44
    go_wp2
    go_ret2
    exact ⟨rfl, rfl⟩
  · go_enter Try.func44, Try.ntmps44
    go_wp2
    go_ret2
    exact ⟨rfl, rfl⟩
  · go_enter Try.func44, Try.ntmps44
    go_wp2
    go_ret2
    exact ⟨rfl, rfl⟩
  · go_enter Try.func44, Try.ntmps44
    go_wp2
    go_ret2
    exact ⟨rfl, rfl⟩
  · rw [(opl_none h).2.1, (opl_none h).2.2]
    obtain ⟨h1, h2, h3, h4⟩ := h
    go_enter Try.func44, Try.ntmps44
    go_wp2
    go_ret2
    exact ⟨rfl, rfl⟩
end Go.Proofs.Ytbcmilfajeanbaa

namespace Go.Proofs.Ytbcmilfajeanbaa
open Go.RowKit

theorem opindex_any (a : Option Addr) (cap n : Nat) (l : List Int) (x : Int) (w : World) (h : IntsAt w a l) (hl : l.length = n) (hn : n ≤ 1000) :
    Calls Try.prog 92 #[.slice a n cap, .int .i64 x] w fun e w' => ∃ r : Int, e = .returned (.int .i64 r) ∧ (0 ≤ r ↔ x ∈ l) ∧ w' = w := by
  have hn1 : (n : Int) ≤ 1000 := by omega
  have HL : Hid (l.length = n) := hl
  clear hl
  go_enter Try.func92, Try.ntmps92
  go_wp2
  go_loop [8] (fun s => ∃ k : Nat, k ≤ n ∧ s = .int .i64 (k : Int) ∧ ∀ j, j < k → ¬ x = l[j]!) (fun s => n - (intOf s).toNat)
  case atStart => exact ⟨0, Nat.zero_le _, rfl, fun j hj => absurd hj (Nat.not_lt_zero _)⟩
  case round =>
    obtain ⟨k, hk, rfl, hno⟩ := hrel
    by_cases hlt : k < n
    · obtain ⟨b, rfl, hb, hc⟩ := h k (by rw [HL]; exact hlt)
      have k1 : (k : Int) < (n : Int) := by omega
      have hm : l[k]! ∈ l := by rw [getElem!_pos l k (by rw [HL]; exact hlt)]; exact List.getElem_mem _
      by_cases e : x = l[k]!
      · have HX : Hid (x ∈ l) := by rw [e]; exact hm
        have HE : Hid (∀ _ : Unit, x = l[k]!) := fun _ => e
        have hcx : w.cell? ⟨b, k, none⟩ = some (.int .i64 x) := by rw [e]; exact hc
        clear e hc hno hm
        go_wp2
        go_ret
        exact ⟨k, rfl, ⟨fun _ => HX, fun _ => by omega⟩, rfl⟩
      · have HN : Hid (∀ j, j < k + 1 → ¬ x = l[j]!) := fun j hj => by
          rcases Nat.lt_succ_iff_lt_or_eq.1 hj with h1 | h1
          · exact hno j h1
          · rw [h1]; exact e
        generalize l[k]! = y at *
        have eb : (x == y) = false := by simpa using e
        clear e hno hm
        go_wp2
        go_round
        case rel => exact ⟨k + 1, by omega, by go_num, HN⟩
        case measure => simp [intOf]; omega
    · have hkn : k = n := by omega
      have HX : Hid (¬ x ∈ l) := fun hm => by
        obtain ⟨j, hj, ej⟩ := List.getElem_of_mem hm
        have := hno j (by rw [HL] at hj; omega)
        rw [getElem!_pos l j hj] at this
        exact this ej.symm
      have hd : decide ((k : Int) < (n : Int)) = false := decide_eq_false (by omega)
      clear hno hkn
      go_wp2
      go_ret
      exact ⟨-1, rfl, ⟨fun h => absurd h (by decide), fun h => absurd h HX⟩, rfl⟩

theorem contains_any (a : Option Addr) (cap n : Nat) (l : List Int) (x : Int) (w : World) (h : IntsAt w a l) (hl : l.length = n) (hn : n ≤ 1000) :
    Calls Try.prog 70 #[.slice a n cap, .int .i64 x] w fun e w' => e = .returned (.bool (decide (x ∈ l))) ∧ w' = w := by
  have hI := opindex_any a cap n l x w h hl hn
  clear h hl hn
  by_cases hx : x ∈ l
  · rw [decide_eq_true hx]
    go_enter Try.func70, Try.ntmps70
    go_wp2_with fail
    refine hI.mono ?_
    rintro e w' ⟨r, rfl, hr, hw⟩
    replace hw := hw.symm; subst hw
    have h0 := hr.2 hx
    clear hr hx hI
    go_wp2
    go_ret
    exact ⟨rfl, rfl⟩
  · rw [decide_eq_false hx]
    go_enter Try.func70, Try.ntmps70
    go_wp2_with fail
    refine hI.mono ?_
    rintro e w' ⟨r, rfl, hr, hw⟩
    replace hw := hw.symm; subst hw
    have h0 : decide (0 ≤ r) = false := decide_eq_false (fun h => hx (hr.1 h))
    clear hr hx hI
    go_wp2
    go_ret
    exact ⟨rfl, rfl⟩

/-- May it be done? -/
def chk (kind k v : Int) : Int := if ¬ (opFrom kind ≤ k ∧ k ≤ opTo kind) then 6 else if k = 5 ∧ (v < 0 ∨ 4294967296 < v) then 4 else 0
theorem chk6 {kind k v : Int} (h : ¬ (opFrom kind ≤ k ∧ k ≤ opTo kind)) : chk kind k v = 6 := if_pos h
theorem chk4 {kind k v : Int} (h : opFrom kind ≤ k ∧ k ≤ opTo kind) (h2 : k = 5 ∧ (v < 0 ∨ 4294967296 < v)) : chk kind k v = 4 := by unfold chk; rw [if_neg (fun e => e h), if_pos h2]
theorem chk0 {kind k v : Int} (h : opFrom kind ≤ k ∧ k ≤ opTo kind) (h2 : ¬ (k = 5 ∧ (v < 0 ∨ 4294967296 < v))) : chk kind k v = 0 := by unfold chk; rw [if_neg (fun e => e h), if_neg h2]

abbrev boxO (k : Int) (f : Nat) (v d0 d1 : Int) : Obj := .cells #[.int .i64 k, .float .f64 f, .int .i64 v, .int .i64 d0, .int .i64 d1] 42

set_option maxHeartbeats 2000000 in
theorem check_any (kind k v d0 d1 : Int) (f : Nat) (w : World) :
    Calls Try.prog 36 #[.agg #[.int .i64 k, .float .f64 f, .int .i64 v, .int .i64 d0, .int .i64 d1], .int .i64 kind] w fun e w' => e = .returned (.int .i64 (chk kind k v)) ∧ Below w.heap.size w w' := by
  have hO := fun w => of_any kind w
  have hC := fun a w h => contains_any a (opl kind).length _ (opl kind) k w h rfl (by have := (opl_length kind).2; omega)
  have hm := (op_rng kind).2.2.2.2 k
  generalize opl kind = l at *
  generalize l.length = n at *
  have hz : ∀ w1, Below (w.alloc (boxO k f v d0 d1)).drew.heap.size (w.alloc (boxO k f v d0 d1)).drew w1 → w1.cell? ⟨w.heap.size, 0, none⟩ = some (.int .i64 k) ∧ w1.cell? ⟨w.heap.size, 2, none⟩ = some (.int .i64 v) := fun w1 hb => by
    constructor
    · rw [hb.cell (p := ⟨w.heap.size, 0, none⟩) (by simp)]; simp
    · rw [hb.cell (p := ⟨w.heap.size, 2, none⟩) (by simp)]; simp
  have hB0 : ∀ w1, Below (w.alloc (boxO k f v d0 d1)).drew.heap.size (w.alloc (boxO k f v d0 d1)).drew w1 → Below w.heap.size w w1 := fun w1 hb =>
    (((Below.refl _ _).alloc (Nat.le_refl _) _).drew).trans (hb.mono (by simp))
  have hfin : opFrom kind ≤ k ∧ k ≤ opTo kind → Hid (∀ _ : Unit, decide (k ∈ l) = true) := fun h _ => decide_eq_true (hm.2 h)
  by_cases hin : opFrom kind ≤ k ∧ k ≤ opTo kind
  · rw [hfin hin ()] at hC
    by_cases h5 : k = 5
    · by_cases hv : v < 0
      · rw [chk4 hin ⟨h5, .inl hv⟩]
        subst h5
        clear hm hin hfin
        go_enter Try.func36, Try.ntmps36
        go_wp2
        go_region_with (first | (go_at_call 61; refine (hO _).mono ?_; rintro e w1 ⟨a, rfl, hi, hb⟩; obtain ⟨hz1, hz2⟩ := hz _ hb) | (go_at_call 70; refine (hC a _ hi).mono ?_; rintro e w1 ⟨rfl, hw⟩; replace hw := hw.symm; subst hw))
        all_goals go_wp2
        all_goals go_ret
        all_goals exact ⟨rfl, hB0 _ hb⟩
      · have hv0 : decide (v < 0) = false := decide_eq_false hv
        by_cases hv1 : 4294967296 < v
        · rw [chk4 hin ⟨h5, .inr hv1⟩]
          subst h5
          clear hm hin hfin hv
          go_enter Try.func36, Try.ntmps36
          go_wp2
          go_region_with (first | (go_at_call 61; refine (hO _).mono ?_; rintro e w1 ⟨a, rfl, hi, hb⟩; obtain ⟨hz1, hz2⟩ := hz _ hb) | (go_at_call 70; refine (hC a _ hi).mono ?_; rintro e w1 ⟨rfl, hw⟩; replace hw := hw.symm; subst hw))
          all_goals go_wp2
          all_goals go_ret
          all_goals exact ⟨rfl, hB0 _ hb⟩
        · rw [chk0 hin (fun e => e.2.elim hv hv1)]
          have hv2 : decide (4294967296 < v) = false := decide_eq_false hv1
          subst h5
          clear hm hin hfin hv hv1
          go_enter Try.func36, Try.ntmps36
          go_wp2
          go_region_with (first | (go_at_call 61; refine (hO _).mono ?_; rintro e w1 ⟨a, rfl, hi, hb⟩; obtain ⟨hz1, hz2⟩ := hz _ hb) | (go_at_call 70; refine (hC a _ hi).mono ?_; rintro e w1 ⟨rfl, hw⟩; replace hw := hw.symm; subst hw))
          all_goals go_wp2
          all_goals go_ret
          all_goals exact ⟨rfl, hB0 _ hb⟩
    · rw [chk0 hin (fun e => h5 e.1)]
      have hk5 : (k == 5) = false := by simpa using h5
      clear hm hin hfin h5
      go_enter Try.func36, Try.ntmps36
      go_wp2
      go_region_with (first | (go_at_call 61; refine (hO _).mono ?_; rintro e w1 ⟨a, rfl, hi, hb⟩; obtain ⟨hz1, hz2⟩ := hz _ hb) | (go_at_call 70; refine (hC a _ hi).mono ?_; rintro e w1 ⟨rfl, hw⟩; replace hw := hw.symm; subst hw))
      all_goals go_wp2
      all_goals go_ret
      all_goals exact ⟨rfl, hB0 _ hb⟩
  · rw [chk6 hin]
    have hd : decide (k ∈ l) = false := decide_eq_false (fun e => hin (hm.1 e))
    rw [hd] at hC
    clear hd hm hin hfin
    go_enter Try.func36, Try.ntmps36
    go_wp2
    go_region_with (first | (go_at_call 61; refine (hO _).mono ?_; rintro e w1 ⟨a, rfl, hi, hb⟩; obtain ⟨hz1, hz2⟩ := hz _ hb) | (go_at_call 70; refine (hC a _ hi).mono ?_; rintro e w1 ⟨rfl, hw⟩; replace hw := hw.symm; subst hw))
    all_goals go_wp2
    all_goals go_ret
    all_goals exact ⟨rfl, hB0 _ hb⟩
end Go.Proofs.Ytbcmilfajeanbaa
