/-
  Layer 6's law of an operation that nobody disturbs: its machine: contract.
-/
import Derived.Test.YtogacknpkoiokaaWrite5
import Derived.Test.YtogacknpkoiokaaOp6b
namespace Go.Proofs.Ytogacknpkoiokaa
open Go.RowKit Go.Sort

set_option maxHeartbeats 4000000 in
theorem slow_any (b fb : Nat) (O : Nat → Prop) (M : Mem) (s v n : Int) (w : World) (h : MemAt w b O M) (hfb : ¬ O fb) (hfl : fb < w.heap.size) (hs : w.cell? ⟨fb, 7, none⟩ = some (.int .i64 s)) (hv : w.cell? ⟨fb, 2, none⟩ = some (.int .i64 v)) (hz : w.frozen? ⟨fb, 7, none⟩ = false)
    (hsr : 0 ≤ s ∧ s ≤ 1000) (hnr : 0 ≤ n ∧ n ≤ 1000) (hn : (M.cell 0).n = n) (hck : M.clock < 4611686018427387904) :
    Calls Try.prog 123 #[.agg #[], .pointer (some ⟨b, 0, none⟩), .pointer (some ⟨fb, 0, none⟩)] w fun e w' => e = .returned (.tuple #[.agg #[.bool true, .float .f64 0, .int .i64 0, .int .i64 (s + 1)], .bool (decide (v ≤ s + 1))]) ∧
      MemAt w' b (own' O w w') (M.put 0 (n + 1) []) ∧ But (fun k => O k ∨ k = fb) w w' ∧ w'.cell? ⟨fb, 7, none⟩ = some (.int .i64 (s + 1)) ∧ w'.cell? ⟨fb, 2, none⟩ = some (.int .i64 v) ∧ w'.frozen? ⟨fb, 7, none⟩ = false := by
  have hsf := run_store_flt (P := Try.prog)
  have hf0 := fldC_0
  have hf1 := fldC_1
  have hf2 := fldV_0
  have hbl := h.lt b h.ob
  have HH := hidq h
  have HN := hidq hn
  clear h hn
  go_enter Try.func123, Try.ntmps123
  go_wp2_with fail
  obtain ⟨W1, hW1⟩ : ∃ W1, ((w.setCell ⟨fb, 7, none⟩ (.int .i64 (s + 1))).alloc (.cells #[] 105)).alloc (.cells #[.bool false, .float .f64 0, .int .i64 0, .int .i64 0] 101) = W1 := ⟨_, rfl⟩
  have hbut : But (fun k => k = fb) w W1 := by rw [← hW1]; exact (((But.refl (fun k => k = fb) w).set1 fb 7 rfl _).alloc _).alloc _
  have hM1 : MemAt W1 b O M := HH.out.but hbut (fun k hk e => hfb (by rw [← e]; exact hk))
  have hz1 : w.heap.size + 2 ≤ W1.heap.size := by rw [← hW1]; simp [World.size_setCell]
  have hs1 : ((w.setCell ⟨fb, 7, none⟩ (.int .i64 (s + 1))).alloc (.cells #[] 105)).heap.size = w.heap.size + 1 := by rw [World.size_alloc, World.size_setCell]
  have a0 : W1.cell? ⟨w.heap.size + 1, 0, none⟩ = some (.bool false) ∧ W1.cell? ⟨w.heap.size + 1, 1, none⟩ = some (.float .f64 0) ∧ W1.cell? ⟨w.heap.size + 1, 2, none⟩ = some (.int .i64 0) ∧ W1.cell? ⟨w.heap.size + 1, 3, none⟩ = some (.int .i64 0) := by
    rw [← hW1, ← hs1]; exact ⟨(World.cell?_alloc_new _ _ _ 0).trans rfl, (World.cell?_alloc_new _ _ _ 1).trans rfl, (World.cell?_alloc_new _ _ _ 2).trans rfl, (World.cell?_alloc_new _ _ _ 3).trans rfl⟩
  have a1 : W1.frozen? ⟨w.heap.size + 1, 0, none⟩ = false ∧ W1.frozen? ⟨w.heap.size + 1, 1, none⟩ = false ∧ W1.frozen? ⟨w.heap.size + 1, 2, none⟩ = false ∧ W1.frozen? ⟨w.heap.size + 1, 3, none⟩ = false := by
    rw [← hW1, ← hs1]; exact ⟨World.frozen?_alloc_new _ _ _ _, World.frozen?_alloc_new _ _ _ _, World.frozen?_alloc_new _ _ _ _, World.frozen?_alloc_new _ _ _ _⟩
  have hbs : But (fun _ => False) (w.setCell ⟨fb, 7, none⟩ (.int .i64 (s + 1))) W1 := by rw [← hW1]; exact ((But.refl _ _).alloc _).alloc _
  have f7 : W1.cell? ⟨fb, 7, none⟩ = some (.int .i64 (s + 1)) := by rw [hbs.cell (p := ⟨fb, 7, none⟩) (by rw [World.size_setCell]; exact hfl) id, World.cell?_setCell_same' _ _ _ (by rw [hs]; rfl)]
  have f2 : W1.cell? ⟨fb, 2, none⟩ = some (.int .i64 v) := by rw [hbs.cell (p := ⟨fb, 2, none⟩) (by rw [World.size_setCell]; exact hfl) id, World.cell?_setCell_other _ _ _ _ (fun e => by injection e with _ e2; cases e2)]; exact hv
  have q7 : W1.frozen? ⟨fb, 7, none⟩ = false := by rw [hbs.frozen (p := ⟨fb, 7, none⟩) (by rw [World.size_setCell]; exact hfl) id, World.frozen?_setCell]; exact hz
  rw [hW1]
  clear hW1 hs1 hbs hs hv hz
  have hR := read5_any b O M 0 W1 hM1
  rw [show M.look 0 = M.cell 0 from look_nat 0, HN.out] at hR
  refine hR.mono ?_
  rintro e W2 ⟨a', cap', rfl, _, _, hb2⟩
  have hM2 := hM1.below hb2
  have hF : Calls Try.prog 60 #[.pointer (some ⟨b, 0, none⟩), .int .i64 0, .agg #[.int .i64 (n + 1), .slice none 0 0]] W2 _ :=
    force_any b 0 O M (n + 1) none 0 [] W2 hM2 (SlAt.nil _ _) (fun j hj => by obtain ⟨y, hy, _⟩ := hj; cases hy) (Nat.zero_le _) (by decide) hck
  have HF := hidq hF
  clear hF hR hM1 hM2
  generalize (M.cell 0).L.length = ln at *
  generalize (M.cell 0).ver = ve at *
  go_wp2_with fail
  refine HF.out.mono ?_
  rintro e W3 ⟨rfl, hM3, hb3⟩
  have hOa : ¬ O (w.heap.size + 1) := fun e => by have := HH.out.lt _ e; omega
  have hbf : But O W1 W3 := (But.of_below hb2).trans hb3
  have hfl1 : fb < W1.heap.size := by omega
  have g7 : W3.cell? ⟨fb, 7, none⟩ = some (.int .i64 (s + 1)) := by rw [hbf.cell (p := ⟨fb, 7, none⟩) hfl1 hfb]; exact f7
  have g2 : W3.cell? ⟨fb, 2, none⟩ = some (.int .i64 v) := by rw [hbf.cell (p := ⟨fb, 2, none⟩) hfl1 hfb]; exact f2
  have q73 : W3.frozen? ⟨fb, 7, none⟩ = false := by rw [hbf.frozen (p := ⟨fb, 7, none⟩) hfl1 hfb]; exact q7
  have hal : w.heap.size + 1 < W1.heap.size := by omega
  have g0 : (W3.cell? ⟨w.heap.size + 1, 0, none⟩ = some (.bool false) ∧ W3.cell? ⟨w.heap.size + 1, 1, none⟩ = some (.float .f64 0)) ∧ W3.cell? ⟨w.heap.size + 1, 2, none⟩ = some (.int .i64 0) ∧ W3.cell? ⟨w.heap.size + 1, 3, none⟩ = some (.int .i64 0) :=
    ⟨⟨(hbf.cell (p := ⟨w.heap.size + 1, 0, none⟩) hal hOa).trans a0.1, (hbf.cell (p := ⟨w.heap.size + 1, 1, none⟩) hal hOa).trans a0.2.1⟩, (hbf.cell (p := ⟨w.heap.size + 1, 2, none⟩) hal hOa).trans a0.2.2.1, (hbf.cell (p := ⟨w.heap.size + 1, 3, none⟩) hal hOa).trans a0.2.2.2⟩
  have z0 : (W3.frozen? ⟨w.heap.size + 1, 0, none⟩ = false ∧ W3.frozen? ⟨w.heap.size + 1, 1, none⟩ = false) ∧ W3.frozen? ⟨w.heap.size + 1, 2, none⟩ = false ∧ W3.frozen? ⟨w.heap.size + 1, 3, none⟩ = false :=
    ⟨⟨(hbf.frozen (p := ⟨w.heap.size + 1, 0, none⟩) hal hOa).trans a1.1, (hbf.frozen (p := ⟨w.heap.size + 1, 1, none⟩) hal hOa).trans a1.2.1⟩, (hbf.frozen (p := ⟨w.heap.size + 1, 2, none⟩) hal hOa).trans a1.2.2.1, (hbf.frozen (p := ⟨w.heap.size + 1, 3, none⟩) hal hOa).trans a1.2.2.2⟩
  obtain ⟨⟨g00, g01⟩, g02, g03⟩ := g0
  obtain ⟨⟨z00, z01⟩, z02, z03⟩ := z0
  have hfl3 : fb < W3.heap.size := by have := hbf.size; omega
  have hal3 : w.heap.size + 1 < W3.heap.size := by have := hbf.size; omega
  have hfa : ¬ fb = w.heap.size + 1 := by omega
  have FIN := hidq (fun W4 (h4 : But (fun k => k = w.heap.size + 1) W3 W4) => (show MemAt W4 b (own' O w W4) (M.put 0 (n + 1) []) ∧ But (fun k => O k ∨ k = fb) w W4 ∧ W4.cell? ⟨fb, 7, none⟩ = some (.int .i64 (s + 1)) ∧ W4.cell? ⟨fb, 2, none⟩ = some (.int .i64 v) ∧ W4.frozen? ⟨fb, 7, none⟩ = false from by
    have hb2s := hb2.size
    have hsz4 := h4.size
    have h3s := hb3.size
    refine ⟨(hM3.but h4 (fun k hk e => ?_)).own (fun k hk => ?_) (fun k hk => ?_), ?_, ?_, ?_, ?_⟩
    · rcases hk with hk | hk
      · exact hOa (by rw [← e]; exact hk)
      · omega
    · rcases hk with hk | hk
      · exact .inl hk
      · exact .inr ⟨by omega, by omega⟩
    · rcases hk with hk | hk
      · have := HH.out.lt k hk; omega
      · exact hk.2
    · exact ((hbut.mono (fun k _ e => .inr e)).then (T := O) hbf (fun k _ e => .inl e)).then h4 (fun k hk e => by omega)
    · rw [h4.cell (p := ⟨fb, 7, none⟩) hfl3 hfa]; exact g7
    · rw [h4.cell (p := ⟨fb, 2, none⟩) hfl3 hfa]; exact g2
    · rw [h4.frozen (p := ⟨fb, 7, none⟩) hfl3 hfa]; exact q73))
  clear hM3 hb3 hb2 hbf HF hOa hal hfl1 a0 a1 f7 f2 hbut q7
  go_wp2
  go_region
  all_goals go_wp2
  all_goals refine bodyPost_ret (v := .tuple #[.agg #[.bool true, .float .f64 0, .int .i64 0, .int .i64 (s + 1)], .bool (decide (v ≤ s + 1))]) (by simp [results, Try.results123, go_sem, g00, g01, g02, g03]) rfl ⟨rfl, FIN.out _ ?_⟩
  all_goals exact (((((But.refl (fun k => k = w.heap.size + 1) W3).set1 _ _ rfl _).set1 _ _ rfl _).set1 _ _ rfl _).set1 _ _ rfl _).drew
end Go.Proofs.Ytogacknpkoiokaa
