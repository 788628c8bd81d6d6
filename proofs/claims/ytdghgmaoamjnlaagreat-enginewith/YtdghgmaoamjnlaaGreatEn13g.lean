/-
  Layer 13, 14: a pick where nobody is busy: contracts.
-/
import Derived.Test.YtdghgmaoamjnlaaGreatGhostAll
import Derived.Test.YtdghgmaoamjnlaaGreatHi14bAll
namespace Go.Proofs.YtdghgmaoamjnlaaGreat
open Go.RowKit Go.Sort

abbrev evZ : Value := .agg #[.int .i64 0, .int .i64 0, .float .f64 0, .int .i64 0, .int .i64 0, .int .i64 0, .bool false, .bool false, .float .f64 0, .int .i64 0, .int .i64 0]
set_option maxRecDepth 20000 in
set_option maxHeartbeats 4000000 in
theorem pickno_any (eb : Nat) (kind param : Int) (T : TypeId) (mv : Value) (mb : Nat) (Q : Nat → Option Nat) (closed : Bool) (steps : Int) (pick : Int) (w : World) (h : BoxAt w eb (ecells kind param T mv mb Q closed steps)) (hb : busyTo Q 6 = []) :
    Calls Tryz.prog 35 #[.pointer (some ⟨eb, 0, none⟩), .int .i64 pick] w fun e w' => e = .returned (.tuple #[evZ, .bool false]) ∧ Below w.heap.size w w' := by
  have hsf := run_store_flt (P := Tryz.prog)
  obtain ⟨vb, hvb⟩ : ∃ vb, w.heap.size = vb := ⟨_, rfl⟩
  obtain ⟨W0, hW0⟩ : ∃ W0, w.alloc (.cells #[.int .i64 0, .int .i64 0, .float .f64 0, .int .i64 0, .int .i64 0, .int .i64 0, .bool false, .bool false, .float .f64 0, .int .i64 0, .int .i64 0] 101) = W0 := ⟨_, rfl⟩
  have hV0 := BoxAt.new w [.int .i64 0, .int .i64 0, .float .f64 0, .int .i64 0, .int .i64 0, .int .i64 0, .bool false, .bool false, .float .f64 0, .int .i64 0, .int .i64 0] 101
  rw [show w.alloc (.cells [.int .i64 0, .int .i64 0, .float .f64 0, .int .i64 0, .int .i64 0, .int .i64 0, .bool false, .bool false, .float .f64 0, .int .i64 0, .int .i64 0].toArray 101) = W0 from hW0, hvb] at hV0
  have hb0 : Below w.heap.size w W0 := by rw [← hW0]; exact (Below.refl _ _).alloc (Nat.le_refl _) _
  have hBz := busy_any eb kind param T mv mb Q closed steps W0 (h.below hb0)
  have hBE : ∀ e w', BusyEnd Q W0 e w' → ∃ a cap, e = .returned (.slice a 0 cap) ∧ Below W0.heap.size W0 w' := by
    rintro e w' ⟨a, cap, h1, _, _, h4⟩
    rw [hb] at h1
    exact ⟨a, cap, h1, h4⟩
  replace hBz := hBz.mono hBE
  have HH := hidq (And.intro hV0 (And.intro hb0 hvb))
  clear hBE h hb hV0 hb0
  go_enter Tryz.func35, Tryz.ntmps35
  go_wp2_with fail
  refine hBz.mono ?_
  rintro e w1 ⟨a, cap, rfl, hb1⟩
  clear hBz
  obtain ⟨hV0, hb0, _⟩ := HH.out
  have hV1 := hV0.below hb1
  obtain ⟨v0, u0⟩ := hV1.get 0 _ rfl
  obtain ⟨v1, u1⟩ := hV1.get 1 _ rfl
  obtain ⟨v2, u2⟩ := hV1.get 2 _ rfl
  obtain ⟨v3, u3⟩ := hV1.get 3 _ rfl
  obtain ⟨v4, u4⟩ := hV1.get 4 _ rfl
  obtain ⟨v5, u5⟩ := hV1.get 5 _ rfl
  obtain ⟨v6, u6⟩ := hV1.get 6 _ rfl
  obtain ⟨v7, u7⟩ := hV1.get 7 _ rfl
  obtain ⟨v8, u8⟩ := hV1.get 8 _ rfl
  obtain ⟨v9, u9⟩ := hV1.get 9 _ rfl
  obtain ⟨v10, u10⟩ := hV1.get 10 _ rfl
  have hvl := hV1.lt
  have hlow := hb0.trans (hb1.mono hb0.size)
  obtain ⟨Wv, hWv⟩ : ∃ Wv, setBox w1 vb [(0, .int .i64 0), (1, .int .i64 0), (2, .float .f64 0), (3, .int .i64 0), (4, .int .i64 0), (5, .int .i64 0), (6, .bool false), (7, .bool false), (8, .float .f64 0), (9, .int .i64 0), (10, .int .i64 0)] = Wv := ⟨_, rfl⟩
  have hbv : But (fun j => j = vb) w1 Wv := by rw [← hWv]; exact setBox_but vb _ w1
  have hQV : BoxAt Wv vb [.int .i64 0, .int .i64 0, .float .f64 0, .int .i64 0, .int .i64 0, .int .i64 0, .bool false, .bool false, .float .f64 0, .int .i64 0, .int .i64 0] := by rw [← hWv]; exact setBox_box _ hV1
  dsimp only [setBox] at hWv
  have HWv := hidq hWv
  have HE := hidq (hlow.trans (hbv.below hlow.size (fun k e => by have : k = vb := e; omega)))
  have HQZ := hidq hQV
  clear hQV hbv hWv hlow hV0 hb0 hV1 hb1 HH hvb hW0
  go_wp2_with fail
  try rw [HWv.out]
  have hQV := HQZ.out
  have q0 := (hQV.get 0 _ rfl).1
  have q1 := (hQV.get 1 _ rfl).1
  have q2 := (hQV.get 2 _ rfl).1
  have q3 := (hQV.get 3 _ rfl).1
  have q4 := (hQV.get 4 _ rfl).1
  have q5 := (hQV.get 5 _ rfl).1
  have q6 := (hQV.get 6 _ rfl).1
  have q7 := (hQV.get 7 _ rfl).1
  have q8 := (hQV.get 8 _ rfl).1
  have q9 := (hQV.get 9 _ rfl).1
  have q10 := (hQV.get 10 _ rfl).1
  clear hQV
  exact bodyPost_ret (v := .tuple #[evZ, .bool false]) (by simp [results, Tryz.results35, go_sem, q0, q1, q2, q3, q4, q5, q6, q7, q8, q9, q10]) rfl ⟨rfl, HE.out⟩
end Go.Proofs.YtdghgmaoamjnlaaGreat
