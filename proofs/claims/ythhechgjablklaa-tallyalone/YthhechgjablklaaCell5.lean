/-
  Layer 5: values, cells, memories: what they hold; copies: contracts.
-/
import Derived.Test.YthhechgjablklaaSl5
namespace Go.Proofs.Ythhechgjablklaa
open Go.RowKit Go.Sort

/-- A value in a box. -/
abbrev boxV (n : Int) (s : Value) : Obj := .cells #[.int .i64 n, s] 67

theorem vclone_any (x : Int) (a : Option Addr) (cap n : Nat) (l : List Value) (w : World) (h : SlAt 2 w a cap n l) (hn : n ≤ 1000000) :
    Calls Try.prog 96 #[.agg #[.int .i64 x, .slice a n cap]] w fun e w' => ∃ a' cap', e = .returned (.agg #[.int .i64 x, .slice a' n cap']) ∧ SlAt 2 w' a' cap' n l ∧ (∀ j, inB a' j → w.heap.size ≤ j) ∧ Below w.heap.size w w' := by
  have hC := hidq (sclone_any a cap n l ((w.alloc (boxV x (.slice a n cap))).alloc (boxV 0 (.slice none 0 0))) (h.but (S := fun _ => False) (((But.refl _ _).alloc _).alloc _) (fun _ _ e => e)) hn)
  clear h
  go_enter Try.func96, Try.ntmps96
  go_wp2_with fail
  refine hC.out.mono ?_
  rintro e w1 ⟨a', cap', rfl, hS, hf, hb⟩
  have HS := hidq hS
  have HF := hidq hf
  clear hS hf
  have hz : w.heap.size + 1 < w1.heap.size := by have := hb.size; simp at this; omega
  have c0 : w1.cell? ⟨w.heap.size, 0, none⟩ = some (.int .i64 x) := by rw [hb.cell (p := ⟨w.heap.size, 0, none⟩) (by simp; omega)]; simp
  have c1 : w1.cell? ⟨w.heap.size, 1, none⟩ = some (.slice a n cap) := by rw [hb.cell (p := ⟨w.heap.size, 1, none⟩) (by simp; omega)]; simp
  have d0 : w1.cell? ⟨w.heap.size + 1, 0, none⟩ = some (.int .i64 0) := by rw [hb.cell (p := ⟨w.heap.size + 1, 0, none⟩) (by simp)]; simp
  have d1 : w1.cell? ⟨w.heap.size + 1, 1, none⟩ = some (.slice none 0 0) := by rw [hb.cell (p := ⟨w.heap.size + 1, 1, none⟩) (by simp)]; simp
  have z1 : w1.frozen? ⟨w.heap.size, 1, none⟩ = false := by rw [hb.frozen (p := ⟨w.heap.size, 1, none⟩) (by simp; omega)]; simp
  have y0 : w1.frozen? ⟨w.heap.size + 1, 0, none⟩ = false := by rw [hb.frozen (p := ⟨w.heap.size + 1, 0, none⟩) (by simp)]; simp
  have y1 : w1.frozen? ⟨w.heap.size + 1, 1, none⟩ = false := by rw [hb.frozen (p := ⟨w.heap.size + 1, 1, none⟩) (by simp)]; simp
  have hb0 : Below w.heap.size w w1 := (((Below.refl _ _).alloc (Nat.le_refl _) _).alloc (by simp) _).trans (hb.mono (by simp; omega))
  have hfin : ∀ w2, But (fun k => k = w.heap.size ∨ k = w.heap.size + 1) w1 w2 → SlAt 2 w2 a' cap' n l ∧ (∀ j, inB a' j → w.heap.size ≤ j) ∧ Below w.heap.size w w2 := fun w2 h2 =>
    ⟨HS.out.but h2 (fun j hj e => by have := HF.out j hj; simp at this; omega), fun j hj => by have := HF.out j hj; simp at this; omega, hb0.trans (h2.below hb0.size (fun k e => by omega))⟩
  have HFIN := hidq hfin
  clear hb hb0 hfin
  go_wp2
  refine bodyPost_ret (v := .agg #[.int .i64 x, .slice a' n cap']) (by simp [results, Try.results96, go_sem, d0, d1]) rfl ⟨a', cap', rfl, HFIN.out _ ?_⟩
  exact (((But.refl _ _).set1 _ _ (.inl rfl) _).set1 _ _ (.inr rfl) _).set1 _ _ (.inr rfl) _

abbrev boxC (v x : Int) (s : Value) : Obj := .cells #[.int .u64 v, .int .i64 x, s] 69
set_option maxHeartbeats 1000000 in
theorem copied_any (v x : Int) (a : Option Addr) (cap n : Nat) (l : List Value) (w : World) (h : SlAt 2 w a cap n l) (hn : n ≤ 1000000) :
    Calls Try.prog 74 #[.agg #[.int .u64 v, .int .i64 x, .slice a n cap]] w fun e w' => ∃ a' cap', e = .returned (.agg #[.int .u64 v, .int .i64 x, .slice a' n cap']) ∧ SlAt 2 w' a' cap' n l ∧ (∀ j, inB a' j → w.heap.size ≤ j) ∧ Below w.heap.size w w' := by
  have hC := hidq (fun W (hW : But (fun _ => False) w W) => vclone_any x a cap n l W (h.but hW (fun _ _ e => e)) hn)
  have hfin : ∀ a' cap' w1 w2, SlAt 2 w1 a' cap' n l → (∀ j, inB a' j → w.heap.size + 2 ≤ j) → Below (w.heap.size + 2) ((w.alloc (boxC v x (.slice a n cap))).alloc (boxC 0 0 (.slice none 0 0))) w1 → But (fun k => k = w.heap.size ∨ k = w.heap.size + 1) w1 w2 → SlAt 2 w2 a' cap' n l ∧ (∀ j, inB a' j → w.heap.size ≤ j) ∧ Below w.heap.size w w2 := fun a' cap' w1 w2 hS hF hb h2 => by
    have hb0 : Below w.heap.size w w1 := (((Below.refl _ _).alloc (Nat.le_refl _) _).alloc (by simp) _).trans (hb.mono (by omega))
    exact ⟨hS.but h2 (fun j hj e => by have := hF j hj; omega), fun j hj => by have := hF j hj; omega, hb0.trans (h2.below hb0.size (fun k e => by omega))⟩
  have hcells : ∀ w1, Below (w.heap.size + 2) ((w.alloc (boxC v x (.slice a n cap))).alloc (boxC 0 0 (.slice none 0 0))) w1 →
      (w.heap.size + 1 < w1.heap.size ∧ w1.cell? ⟨w.heap.size, 0, none⟩ = some (.int .u64 v)) ∧ (w1.cell? ⟨w.heap.size + 1, 0, none⟩ = some (.int .u64 0) ∧ w1.cell? ⟨w.heap.size + 1, 1, none⟩ = some (.int .i64 0) ∧ w1.cell? ⟨w.heap.size + 1, 2, none⟩ = some (.slice none 0 0)) ∧
      w1.frozen? ⟨w.heap.size + 1, 0, none⟩ = false ∧ w1.frozen? ⟨w.heap.size + 1, 1, none⟩ = false ∧ w1.frozen? ⟨w.heap.size + 1, 2, none⟩ = false := fun w1 hb => by
    refine ⟨⟨by have := hb.size; simp at this; omega, ?_⟩, ⟨?_, ?_, ?_⟩, ?_, ?_, ?_⟩
    · rw [hb.cell (p := ⟨w.heap.size, 0, none⟩) (by simp)]; simp
    · rw [hb.cell (p := ⟨w.heap.size + 1, 0, none⟩) (by simp)]; simp
    · rw [hb.cell (p := ⟨w.heap.size + 1, 1, none⟩) (by simp)]; simp
    · rw [hb.cell (p := ⟨w.heap.size + 1, 2, none⟩) (by simp)]; simp
    · rw [hb.frozen (p := ⟨w.heap.size + 1, 0, none⟩) (by simp)]; simp
    · rw [hb.frozen (p := ⟨w.heap.size + 1, 1, none⟩) (by simp)]; simp
    · rw [hb.frozen (p := ⟨w.heap.size + 1, 2, none⟩) (by simp)]; simp
  have HFIN := hidq hfin
  have HCEL := hidq hcells
  have hsz : ((w.alloc (boxC v x (.slice a n cap))).alloc (boxC 0 0 (.slice none 0 0))).drew.heap.size = w.heap.size + 2 := by simp
  have HSZ := hidq hsz
  clear h hfin hcells hsz
  go_enter Try.func74, Try.ntmps74
  go_wp2
  go_region_with (go_at_call 96; refine (hC.out _ (((But.refl _ w).alloc _).alloc _).drew).mono ?_; rintro e w1 ⟨a', cap', rfl, hS, hf, hb⟩; have HS := hidq hS; rw [HSZ.out] at hf hb; have HF := hidq hf; have HB := hidq hb; obtain ⟨⟨hz, c0⟩, ⟨d0, d1, d2⟩, z0, z1, z2⟩ := HCEL.out w1 (by exact ⟨hb.os, hb.tape, hb.output, hb.size, hb.block⟩); clear hS hf hb)
  all_goals go_wp2
  all_goals refine bodyPost_ret (v := .agg #[.int .u64 v, .int .i64 x, .slice a' n cap']) (by simp [results, Try.results74, go_sem, d0, d1, d2]) rfl ⟨a', cap', rfl, HFIN.out _ _ w1 _ HS.out HF.out ?_ ?_⟩
  all_goals first
    | exact ⟨HB.out.os, HB.out.tape, HB.out.output, HB.out.size, HB.out.block⟩
    | exact (((But.refl _ _).set1 _ _ (.inr rfl) _).set1 _ _ (.inr rfl) _).set1 _ _ (.inr rfl) _
end Go.Proofs.Ythhechgjablklaa
