/-
  Layer 4: items made canonical, a pile of them: contracts.
-/
import Derived.Test.YthhechgjablklaaPileQ
namespace Go.Proofs.Ythhechgjablklaa
open Go.RowKit Go.Sort

/-- Items that are handed over: their bits and values. -/
def Items (w : World) (a : Option Addr) (n : Nat) (P : Nat → Nat) (V : Nat → Int) : Prop :=
  ∀ i, i < n → ∃ g, a = some ⟨g, 0, none⟩ ∧ g < w.heap.size ∧ w.cell? ⟨g, i * 2, none⟩ = some (.float .f64 (P i)) ∧ w.cell? ⟨g, i * 2 + 1, none⟩ = some (.int .i64 (V i)) ∧ P i < 18446744073709551616
theorem Items.below {w w' : World} {a : Option Addr} {n : Nat} {P : Nat → Nat} {V : Nat → Int} (h : Items w a n P V) (hb : Below w.heap.size w w') : Items w' a n P V := fun i hi => by
  obtain ⟨g, h1, h2, h3, h4, h5⟩ := h i hi
  exact ⟨g, h1, Nat.lt_of_lt_of_le h2 hb.size, by rw [hb.cell (p := ⟨g, i * 2, none⟩) h2]; exact h3, by rw [hb.cell (p := ⟨g, i * 2 + 1, none⟩) h2]; exact h4, h5⟩
def canArr (P : Nat → Nat) (V : Nat → Int) (n k : Nat) : Array KI := (Array.range n).map fun i => if i < k then mkKI (P i) (V i) else default
theorem canArr_size (P : Nat → Nat) (V : Nat → Int) (n k : Nat) : (canArr P V n k).size = n := by simp [canArr]
theorem canArr_get (P : Nat → Nat) (V : Nat → Int) (n k i : Nat) (h : i < n) : (canArr P V n k)[i]! = if i < k then mkKI (P i) (V i) else default := by
  rw [getElem!_pos _ i (by rw [canArr_size]; exact h)]; simp [canArr]
theorem canArr_step (P : Nat → Nat) (V : Nat → Int) (n k : Nat) : (canArr P V n k).setIfInBounds k (mkKI (P k) (V k)) = canArr P V n (k + 1) := by
  apply Array.ext
  · simp [canArr]
  · intro i h1 h2
    rw [Array.getElem_setIfInBounds (by simpa using h1)]
    simp only [canArr, Array.getElem_map, Array.getElem_range]
    by_cases e : k = i
    · subst e; simp
    · rw [if_neg e]
      by_cases e2 : i < k
      · rw [if_pos e2, if_pos (by omega)]
      · rw [if_neg e2, if_neg (by omega)]

theorem made (n : Nat) (hn : n ≤ 1099511627776) (P : Nat → Nat) (V : Nat → Int) (w : World) : ∃ w0, (Instr.makeSlice 25 (.int .i64 (n : Int)) (.int .i64 (n : Int))).run Try.prog w = .ok (.slice (some ⟨w.heap.size, 0, none⟩) n n) w0 ∧ Row w0 w.heap.size n (canArr P V n 0) ∧ Below w.heap.size w w0 ∧ w0.heap.size = w.heap.size + 1 := by
  obtain ⟨i, hi, hz, hsz, hby⟩ := info_item
  have hr := run_make (P := Try.prog) w 25 29 i _ Try.underlying25 hi hz .i64 .i64 (n : Int) (n : Int) (by omega) (Int.le_refl _) (by rw [hby]; omega) (by omega)
  rw [Int.toNat_natCast, hsz] at hr
  refine ⟨_, hr, ?_, (Below.refl _ _).alloc (Nat.le_refl _) _, by simp⟩
  have hc : ∀ j, (w.alloc (.cells (madeCells (Value.agg #[.float .f64 0, .int .i64 0]).cells (n * 2)) 29)).cell? ⟨w.heap.size, j, none⟩ = (madeCells (Value.agg #[.float .f64 0, .int .i64 0]).cells (n * 2))[j]? := fun j => World.cell?_alloc_new w _ _ j
  refine Row.ofCells (by simp) (by rw [canArr_size]; exact Nat.le_refl _) (by rw [canArr_size]; exact hn) (by unfold maxLen; omega) (fun t ht => ?_) (fun j hj => ⟨?_, World.frozen?_alloc_new w _ _ _⟩)
  · rw [canArr_size] at ht
    rw [hc, Array.getElem?_eq_getElem (by rw [size_madeCells]; exact ht)]
    have e0 : (canArr P V n 0)[t / 2]! = default := by rw [canArr_get P V n 0 (t / 2) (by omega), if_neg (by omega)]
    unfold cellOf
    rw [e0]
    have ez : (Value.agg #[.float .f64 0, .int .i64 0]).cells = #[.float .f64 0, .int .i64 0] := rfl
    simp only [madeCells, Array.getElem_map, Array.getElem_range, ez]
    rcases Nat.mod_two_eq_zero_or_one t with e | e
    · rw [if_pos e]
      show some ((#[Value.float .f64 0, Value.int .i64 0] : Array Value)[t % 2]!) = _
      rw [e]; rfl
    · rw [if_neg (by omega)]
      show some ((#[Value.float .f64 0, Value.int .i64 0] : Array Value)[t % 2]!) = _
      rw [e]; rfl
  · rw [hc, Array.getElem?_eq_getElem (by rw [size_madeCells]; exact hj)]; rfl

set_option maxHeartbeats 1000000 in
theorem canonical_any (a : Option Addr) (n cap : Nat) (P : Nat → Nat) (V : Nat → Int) (w : World) (h : Items w a n P V) (hn : n ≤ 1099511627776) :
    Calls Try.prog 59 #[.slice a n cap] w fun e w' => ∃ g, e = .returned (.slice (some ⟨g, 0, none⟩) n n) ∧ w.heap.size ≤ g ∧ Row w' g n (canArr P V n n) ∧ Below w.heap.size w w' := by
  have hn1 : (n : Int) ≤ 1099511627776 := by omega
  obtain ⟨w0, hmk, hR0, hB0, hs0⟩ := made n hn P V w
  clear hs0
  have hsf := run_store_float (P := Try.prog)
  go_enter Try.func59, Try.ntmps59
  go_wp2
  go_loopw [11] (fun s wr => ∃ k : Nat, s = .int .i64 (k : Int) ∧ k ≤ n ∧ Row wr w.heap.size n (canArr P V n k) ∧ Below w.heap.size w wr) (fun s _ => n - (intOf s).toNat)
  case atStart => exact ⟨0, rfl, Nat.zero_le _, hR0, hB0⟩
  case round =>
    obtain ⟨k, rfl, hk, hR, hB⟩ := hrel
    by_cases hlt : k < n
    · obtain ⟨ga, rfl, hg, hf, hv, hp⟩ := h k hlt
      have hf' : wr.cell? ⟨ga, k * 2, none⟩ = some (.float .f64 (P k)) := by rw [hB.cell (p := ⟨ga, k * 2, none⟩) hg]; exact hf
      have hv' : wr.cell? ⟨ga, k * 2 + 1, none⟩ = some (.int .i64 (V k)) := by rw [hB.cell (p := ⟨ga, k * 2 + 1, none⟩) hg]; exact hv
      have hcn := icanon_any (P k) (V k) (wr.alloc (boxI (P k) (V k)))
      have k1 : (k : Int) < (n : Int) := by omega
      go_wp2_with fail
      refine hcn.mono ?_
      rintro e w2 ⟨rfl, hb2⟩
      have hbb : But (fun _ => False) wr w2 := ((But.refl _ wr).alloc _).trans (But.of_below hb2)
      have hR2 := hR.but hbb id
      have hs := hR2.set k (by rw [canArr_size]; exact hlt) (mkKI (P k) (V k))
      rw [canArr_step, mkKI_b hp, mkKI_v hp] at hs
      have z1 := (hR2.there (k * 2) (by omega)).2
      have z2 := (hR2.there (k * 2 + 1) (by omega)).2
      have c1 := hR2.flt k (by rw [canArr_size]; exact hlt)
      have c2 := hR2.val k (by rw [canArr_size]; exact hlt)
      have hB2 : Below w.heap.size w w2 := hB.trans (hbb.below hB.size (fun _ e => e.elim))
      clear hcn hR2 hR hbb hb2 hf hv hf' hv' hmk
      go_wp2
      go_roundw
      case rel => exact ⟨k + 1, by go_num, by omega, hs, (hB2.setCell (Nat.le_refl _) _).setCell (Nat.le_refl _) _⟩
      case measure => simp [intOf]; omega
    · have hd : decide ((k : Int) < (n : Int)) = false := decide_eq_false (by omega)
      have hkn : k = n := by omega
      have HR : Row wr w.heap.size n (canArr P V n n) := by rw [hkn] at hR; exact hR
      clear hR hmk hkn
      go_wp2
      go_ret
      exact ⟨w.heap.size, rfl, Nat.le_refl _, HR, hB⟩
end Go.Proofs.Ythhechgjablklaa
