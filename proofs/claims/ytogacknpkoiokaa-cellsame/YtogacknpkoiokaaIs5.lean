/-
  Layer 5's laws: is a value the document's? Where it is: contracts.
-/
import Derived.Test.YtogacknpkoiokaaTold5
namespace Go.Proofs.Ytogacknpkoiokaa
open Go.RowKit Go.Sort

theorem isV_eq (x : KI) : isV x.b x.v (ni x.b) x.v = 0 := if_pos ⟨rfl, rfl⟩
set_option maxHeartbeats 1000000 in
theorem are5_any (a1 a2 : Option Addr) (c1 c2 n : Nat) (L : List KI) (w : World) (hL : L.length = n) (h1 : SlAt 2 w a1 c1 n (flatI (kts L))) (h2 : SlAt 2 w a2 c2 n (flatR L)) (hn : n ≤ 1000000) :
    Calls Try.prog 21 #[.slice a1 n c1, .slice a2 n c2] w fun e w' => e = .returned (.int .i64 0) ∧ Below w.heap.size w w' := by
  have hn1 : (n : Int) ≤ 1000000 := by omega
  go_enter Try.func21, Try.ntmps21
  go_wp2
  go_loopw [13] (fun c wr => ∃ (k : Nat), c = .int .i64 (k : Int) ∧ k ≤ n ∧ Below w.heap.size w wr) (fun c _ => n - (intOf c).toNat)
  case atStart => exact ⟨0, rfl, Nat.zero_le _, Below.refl _ _⟩
  case round =>
    obtain ⟨k, rfl, hk, hB⟩ := hrel
    by_cases hlt : k < n
    · have hkl : k < L.length := by omega
      have hkl2 : k < (kts L).length := by rw [kts_length]; exact hkl
      obtain ⟨g1, rfl, hl1, e0⟩ := h1.cell (flatI_get (kts L) k hkl2).1
      obtain ⟨g1', q1, _, e1⟩ := h1.cell (flatI_get (kts L) k hkl2).2
      cases q1
      obtain ⟨g2, rfl, hl2, f0⟩ := h2.cell (flatR_get L k hkl).1
      obtain ⟨g2', q2, _, f1⟩ := h2.cell (flatR_get L k hkl).2
      cases q2
      have hx : (kts L)[k] = (L[k].b, L[k].v) := by simp [kts, kt]
      rw [hx] at e0 e1
      have e0' := (hB.cell (p := ⟨g1, k * 2, none⟩) hl1).trans e0
      have e1' := (hB.cell (p := ⟨g1, k * 2 + 1, none⟩) hl1).trans e1
      have f0' := (hB.cell (p := ⟨g2, k * 2, none⟩) hl2).trans f0
      have f1' := (hB.cell (p := ⟨g2, k * 2 + 1, none⟩) hl2).trans f1
      have hle1 := h1.le
      have hle2 := h2.le
      generalize L[k] = x at *
      have his := hidd (fun w => is_any x.b x.v (ni x.b) x.v w)
      rw [isV_eq] at his
      have k1 : (k : Int) < (n : Int) := by omega
      clear hx e0 e1 f0 f1 hL
      go_wp2
      go_region_with (go_at_call 18; refine (his.out _).mono ?_; rintro e w3 ⟨rfl, hb3⟩)
      all_goals go_wp2
      all_goals exact ⟨⟨k + 1, rfl, by omega, hB.trans ((((But.refl (fun _ => False) wr).drew).trans (But.of_below hb3)).below hB.size (fun _ e => e.elim))⟩, by simp [intOf]; omega⟩
    · have hkn : k = n := by omega
      subst hkn
      clear hL
      go_wp2
      go_ret
      exact ⟨rfl, hB⟩

theorem is5_any (x : Int) (a1 a2 : Option Addr) (c1 c2 n : Nat) (L : List KI) (w : World) (hL : L.length = n) (h1 : SlAt 2 w a1 c1 n (flatI (kts L))) (h2 : SlAt 2 w a2 c2 n (flatR L)) (hn : n ≤ 1000000) :
    Calls Try.prog 30 #[.agg #[.int .i64 x, .slice a1 n c1], .agg #[.int .i64 x, .slice a2 n c2]] w fun e w' => e = .returned (.int .i64 0) ∧ Below w.heap.size w w' := by
  have hb : But (fun _ => False) w ((w.alloc (boxV x (.slice a1 n c1))).alloc (boxR x (.slice a2 n c2))) := ((But.refl _ _).alloc _).alloc _
  have hA := hidq (are5_any a1 a2 c1 c2 n L _ hL (h1.but hb (fun _ _ e => e)) (h2.but hb (fun _ _ e => e)) hn)
  clear h1 h2 hL hb
  go_enter Try.func30, Try.ntmps30
  go_wp2_with (go_at_call 21; refine hA.out.mono ?_; rintro e w1 ⟨rfl, hb1⟩)
  go_ret
  exact ⟨rfl, (((Below.refl _ _).alloc (Nat.le_refl _) _).alloc (by simp) _).trans (hb1.mono (by simp; omega))⟩
end Go.Proofs.Ytogacknpkoiokaa
