/-
  Layer 5's laws: a value in the making, as the program's: contract.
-/
import Derived.Test.YtogacknpkoiokaaRaws4
import Derived.Test.YtogacknpkoiokaaMem5
namespace Go.Proofs.Ytogacknpkoiokaa
open Go.RowKit Go.Sort

abbrev boxW (n : Int) (s : Value) : Obj := .cells #[.int .i64 n, s] 76

/-- A value that was made: what was made of the first six. -/
def OwnEnd (x : Int) (n : Nat) (K V : Nat → Int) (w : World) (e : Ending) (w' : World) : Prop :=
  ∃ m a' cap', m = min n 6 ∧ e = .returned (.agg #[.int .i64 x, .slice a' m cap']) ∧ SlAt 2 w' a' cap' m (flatI (kts (rawL K V m))) ∧ (∀ j, inB a' j → w.heap.size ≤ j) ∧ Below w.heap.size w w'

set_option maxHeartbeats 4000000 in
set_option maxRecDepth 20000 in
theorem own5_any (x : Int) (a : Option Addr) (n cap : Nat) (K V : Nat → Int) (w : World) (h : Raws w a n K V) :
    Calls Try.prog 34 #[.agg #[.int .i64 x, .slice a n cap]] w (OwnEnd x n K V w) := by
  have hsf := run_store_float (P := Try.prog)
  go_enter Try.func34, Try.ntmps34
  go_wp2_with fail
  obtain ⟨W1, hW1⟩ : ∃ W1, ((w.alloc (boxW x (.slice a n cap))).alloc (boxV 0 (.slice none 0 0))).alloc (boxV x (.slice none 0 0)) = W1 := ⟨_, rfl⟩
  rw [hW1]
  have hb1 : Below w.heap.size w W1 := by rw [← hW1]; exact (((Below.refl _ _).alloc (Nat.le_refl _) _).alloc (by simp) _).alloc (by simp; omega) _
  have hz1 : W1.heap.size = w.heap.size + 3 := by rw [← hW1]; simp
  obtain ⟨p, hp⟩ : ∃ p, w.heap.size = p := ⟨_, rfl⟩
  obtain ⟨q, hq⟩ : ∃ q, w.heap.size + 1 = q := ⟨_, rfl⟩
  obtain ⟨r, hr⟩ : ∃ r, w.heap.size + 1 + 1 = r := ⟨_, rfl⟩
  have hbox : W1.cell? ⟨p, 1, none⟩ = some (.slice a n cap) ∧ (W1.cell? ⟨q, 0, none⟩ = some (.int .i64 0) ∧ W1.cell? ⟨q, 1, none⟩ = some (.slice none 0 0) ∧ W1.frozen? ⟨q, 0, none⟩ = false ∧ W1.frozen? ⟨q, 1, none⟩ = false) ∧
      W1.cell? ⟨r, 0, none⟩ = some (.int .i64 x) ∧ W1.cell? ⟨r, 1, none⟩ = some (.slice none 0 0) ∧ W1.frozen? ⟨r, 1, none⟩ = false := by
    have s1 : (w.alloc (boxW x (.slice a n cap))).heap.size = w.heap.size + 1 := World.size_alloc _ _
    have s2 : ((w.alloc (boxW x (.slice a n cap))).alloc (boxV 0 (.slice none 0 0))).heap.size = w.heap.size + 1 + 1 := by rw [World.size_alloc, s1]
    have b3 : But (fun _ => False) ((w.alloc (boxW x (.slice a n cap))).alloc (boxV 0 (.slice none 0 0))) W1 := by rw [← hW1]; exact (But.refl _ _).alloc _
    have b2 : But (fun _ => False) (w.alloc (boxW x (.slice a n cap))) W1 := ((But.refl _ _).alloc _).trans b3
    refine ⟨?_, ⟨?_, ?_, ?_, ?_⟩, ?_, ?_, ?_⟩
    · rw [b2.cell (p := ⟨p, 1, none⟩) (by show p < _; omega) id, ← hp]; exact (World.cell?_alloc_new _ _ _ 1).trans rfl
    · rw [b3.cell (p := ⟨q, 0, none⟩) (by show q < _; omega) id, ← hq, ← s1]; exact (World.cell?_alloc_new _ _ _ 0).trans rfl
    · rw [b3.cell (p := ⟨q, 1, none⟩) (by show q < _; omega) id, ← hq, ← s1]; exact (World.cell?_alloc_new _ _ _ 1).trans rfl
    · rw [b3.frozen (p := ⟨q, 0, none⟩) (by show q < _; omega) id, ← hq, ← s1]; exact World.frozen?_alloc_new _ _ _ _
    · rw [b3.frozen (p := ⟨q, 1, none⟩) (by show q < _; omega) id, ← hq, ← s1]; exact World.frozen?_alloc_new _ _ _ _
    · rw [← hW1, ← hr, ← s2]; exact (World.cell?_alloc_new _ _ _ 0).trans rfl
    · rw [← hW1, ← hr, ← s2]; exact (World.cell?_alloc_new _ _ _ 1).trans rfl
    · rw [← hW1, ← hr, ← s2]; exact World.frozen?_alloc_new _ _ _ _
  have HL := hidq (And.intro hp (And.intro hq (And.intro hr hz1)))
  rw [hr, hq, hp]
  clear hW1 hp hq hr hz1
  have HH := hidq h
  clear h
  go_loopw [4] (fun s wr => ∃ (k : Nat) (a' : Option Addr) (cap' : Nat), s = .int .i64 (k : Int) ∧ k ≤ min n 6 ∧ But (fun j => j = r) W1 wr ∧ wr.cell? ⟨r, 0, none⟩ = some (.int .i64 x) ∧ wr.cell? ⟨r, 1, none⟩ = some (.slice a' k cap') ∧ wr.frozen? ⟨r, 1, none⟩ = false ∧ SlAt 2 wr a' cap' k (flatI (kts (rawL K V k))) ∧ ∀ j, inB a' j → W1.heap.size ≤ j) (fun s _ => 6 - (intOf s).toNat)
  case atStart => exact ⟨0, none, 0, rfl, Nat.zero_le _, But.refl _ _, hbox.2.2.1, hbox.2.2.2.1, hbox.2.2.2.2, SlAt.nil _ _, (fun j hj => by obtain ⟨y, hy, _⟩ := hj; cases hy)⟩
  case round =>
    obtain ⟨k, a', cap', rfl, hk, hB, hr0, hr1, hz, hS, hF⟩ := hrel
    obtain ⟨hp, hq, hr, hz1⟩ := HL.out
    have hp1 : wr.cell? ⟨p, 1, none⟩ = some (.slice a n cap) := by rw [hB.cell (p := ⟨p, 1, none⟩) (by show p < _; omega) (by show ¬ p = _; omega)]; exact hbox.1
    have hsz := hB.size
    have hrl : r < wr.heap.size := by omega
    by_cases hlt : k < n ∧ k < 6
    · have k1 : (k : Int) < (n : Int) := by omega
      have k2 : (k : Int) < 6 := by omega
      obtain ⟨g, off, rfl, hg, hc0, hc1, hK0, hK1⟩ := HH.out k hlt.1
      have hgw : g < W1.heap.size := by omega
      have hgr : ¬ g = r := by omega
      have e0 : wr.cell? ⟨g, off + k * 2, none⟩ = some (.int .u64 (K k)) := by rw [hB.cell (p := ⟨g, off + k * 2, none⟩) hgw hgr, hb1.cell (p := ⟨g, off + k * 2, none⟩) (by show g < _; exact hg)]; exact hc0
      have e1 : wr.cell? ⟨g, off + k * 2 + 1, none⟩ = some (.int .i64 (V k)) := by rw [hB.cell (p := ⟨g, off + k * 2 + 1, none⟩) hgw hgr, hb1.cell (p := ⟨g, off + k * 2 + 1, none⟩) (by show g < _; exact hg)]; exact hc1
      have hOw := hidq (fun W => own_any (K k) (V k) W)
      have hCa := hidq (fun W => icanon_any (nf (K k)) (V k) W)
      have hnl := nf_lt hK1
      have hkb : (kiOf K V k).b = cbits (nf (K k)) := mkKI_b hnl _
      have hkv : (kiOf K V k).v = V k := mkKI_v hnl _
      have hnext : flatI (kts (rawL K V (k + 1))) = flatI (kts (rawL K V k)) ++ [.float .f64 (cbits (nf (K k))), .int .i64 (V k)] := by
        rw [rawL_succ, kts_append, flatI_append, ← hkb, ← hkv]; rfl
      have AP := hidq (fun W (hW : But (fun _ => False) wr W) => sl_append plainI 25 (W.alloc (boxI (cbits (nf (K k))) (V k))) a' cap' k _ (hS.but (S := fun _ => False) (hW.alloc _) (fun _ _ e => e)) _ 1 _
        (src_two _ Try.underlying25 W.heap.size (.float .f64 (cbits (nf (K k)))) (.int .i64 (V k)) (World.cell?_alloc_new _ _ _ 0) (World.cell?_alloc_new _ _ _ 1) rfl rfl) (by omega) (by omega))
      rw [← hnext] at AP
      have FC := hidq (fun W (hW : But (fun _ => False) wr W) => (show (W.cell? ⟨r, 1, none⟩ = some (.slice a' k cap') ∧ W.cell? ⟨p, 1, none⟩ = some (.slice (some ⟨g, off, none⟩) n cap)) ∧ r < W.heap.size from
        ⟨⟨(hW.cell (p := ⟨r, 1, none⟩) hrl id).trans hr1, (hW.cell (p := ⟨p, 1, none⟩) (by show p < _; omega) id).trans hp1⟩, by have := hW.size; omega⟩))
      have hnr : ¬ inB a' r := fun e => by have := hF r e; omega
      have FD := hidq (fun W W' (hW : But (fun _ => False) wr W) (hW' : But (inB a') (W.alloc (boxI (cbits (nf (K k))) (V k))) W') => (show (W'.cell? ⟨r, 1, none⟩ = some (.slice a' k cap') ∧ W'.cell? ⟨r, 0, none⟩ = some (.int .i64 x)) ∧ W'.frozen? ⟨r, 1, none⟩ = false ∧ r < W'.heap.size from by
        have h1 : But (inB a') wr W' := ((hW.alloc _).mono (fun _ _ e => e.elim)).trans hW'
        exact ⟨⟨(h1.cell (p := ⟨r, 1, none⟩) hrl hnr).trans hr1, (h1.cell (p := ⟨r, 0, none⟩) hrl hnr).trans hr0⟩, (h1.frozen (p := ⟨r, 1, none⟩) hrl hnr).trans hz, by have := h1.size; omega⟩))
      have FIN := hidq (fun W W' g2 cap2 (hW : But (fun _ => False) wr W) (hF2 : Flat 2 W' g2 cap2 (k + 1) (flatI (kts (rawL K V (k + 1))))) (hW' : But (inB a') (W.alloc (boxI (cbits (nf (K k))) (V k))) W') (hg2 : inB a' g2 ∨ (W.alloc (boxI (cbits (nf (K k))) (V k))).heap.size ≤ g2) W'' (hW'' : But (fun j => j = r) W' W'') =>
        (show But (fun j => j = r) W1 W'' ∧ SlAt 2 W'' (some ⟨g2, 0, none⟩) cap2 (k + 1) (flatI (kts (rawL K V (k + 1)))) ∧ ∀ j, inB (some ⟨g2, 0, none⟩) j → W1.heap.size ≤ j from by
          have hws := hW.size
          have hg3 : W1.heap.size ≤ g2 := by
            rcases hg2 with e | e
            · exact hF _ e
            · rw [World.size_alloc] at e; omega
          have h1 : But (inB a') wr W' := ((hW.alloc _).mono (fun _ _ e => e.elim)).trans hW'
          refine ⟨(hB.then h1 (fun j hj e => by have := hF j e; omega)).then hW'' (fun _ _ e => e), .inr ⟨g2, rfl, hF2.but hW'' (by omega)⟩, ?_⟩
          rintro j ⟨y, hy, rfl⟩; cases hy; exact hg3))
      clear hS hF hB hnext hkb hkv hc0 hc1 hbox hp hq hr hz1 hnr
      generalize cbits (nf (K k)) = c at *
      go_wp2
      go_region_law (first
        | (refine step_append rfl (.tmp 20) (.tmp 28) 25 rfl _ _ (by simp [Act.eval]) (by simp [Act.eval]) _ _ HRUN.out ?_)
        | (go_simp; go_wp2_with (first | (go_at_call 12; refine (hOw.out _).mono ?_; rintro e w2 ⟨rfl, hb2⟩; have hbb2 : But (fun _ => False) wr w2 := ((But.refl _ wr).drew).trans (But.of_below hb2); obtain ⟨⟨f1, f2⟩, f3⟩ := FC.out w2 hbb2) | (go_at_call 53; refine (hCa.out _).mono ?_; rintro e w3 ⟨rfl, hb3⟩; have hbb3 : But (fun _ => False) wr w3 := hbb2.trans (But.of_below hb3); obtain ⟨⟨f4, f5⟩, f6⟩ := FC.out w3 hbb3; obtain ⟨g2, cap2, w4, hrun, hF2, hb4, hg2⟩ := AP.out w3 hbb3; obtain ⟨⟨d1, d2⟩, d3, d4⟩ := FD.out w3 w4 hbb3 hb4; have HF2 := hidq hF2; have HB4 := hidq hb4; have HRUN := hidq hrun; clear hF2 hb4 hrun))))
      all_goals go_wp2
      all_goals go_roundw
      all_goals first
        | (show (_ : Nat) < _; simp [intOf]; omega)
        | (obtain ⟨y1, y2, y3⟩ := FIN.out w3 w4 g2 cap2 hbb3 HF2.out HB4.out hg2 _ ((But.refl (fun j => j = r) w4).set1 r 1 rfl _)
           exact ⟨k + 1, some ⟨g2, 0, none⟩, cap2, by go_num, by omega, y1, by rw [World.cell?_setCell_other _ _ _ _ (fun e => by injection e with _ e2; cases e2)]; exact d2, by rw [World.cell?_setCell_same' _ _ _ (by rw [d1]; rfl)], by rw [World.frozen?_setCell]; exact d3, y2, y3⟩)
    · have hkm : k = min n 6 := by omega
      have hq0 : wr.cell? ⟨q, 0, none⟩ = some (.int .i64 0) ∧ wr.cell? ⟨q, 1, none⟩ = some (.slice none 0 0) ∧ wr.frozen? ⟨q, 0, none⟩ = false ∧ wr.frozen? ⟨q, 1, none⟩ = false := by
        have hql : q < W1.heap.size := by omega
        have hqr : ¬ q = r := by omega
        exact ⟨(hB.cell (p := ⟨q, 0, none⟩) hql hqr).trans hbox.2.1.1, (hB.cell (p := ⟨q, 1, none⟩) hql hqr).trans hbox.2.1.2.1, (hB.frozen (p := ⟨q, 0, none⟩) hql hqr).trans hbox.2.1.2.2.1, (hB.frozen (p := ⟨q, 1, none⟩) hql hqr).trans hbox.2.1.2.2.2⟩
      obtain ⟨c0, c1, z0, z1⟩ := hq0
      have hql : q < wr.heap.size := by omega
      have FIN := hidq (fun W (hW : But (fun j => j = q) wr W) => (show SlAt 2 W a' cap' k (flatI (kts (rawL K V k))) ∧ (∀ j, inB a' j → w.heap.size ≤ j) ∧ Below w.heap.size w W from by
        refine ⟨?_, fun j hj => by have := hF j hj; omega, ?_⟩
        · exact hS.but hW (fun j hj e => by have := hF j hj; omega)
        · refine (hb1.trans (hB.below hb1.size (fun j e => by omega))).trans (hW.below (by omega) (fun j e => by omega))))
      have HKM := hidq hkm
      have hlf : decide ((k : Int) < (n : Int)) = false ∨ decide ((k : Int) < 6) = false := by
        by_cases e : k < n
        · exact .inr (decide_eq_false (by omega))
        · exact .inl (decide_eq_false (by omega))
      by_cases e : (k : Int) < (n : Int)
      · have hl6 : decide ((k : Int) < 6) = false := decide_eq_false (by omega)
        clear hS hF hB hbox hp hq hr hz1 hkm hlf hlt
        go_wp2
        refine bodyPost_ret (v := .agg #[.int .i64 x, .slice a' k cap']) (by simp [results, Try.results34, go_sem, c0, c1]) rfl ⟨k, a', cap', HKM.out, rfl, FIN.out _ ?_⟩
        exact ((But.refl (fun j => j = q) wr).set1 _ _ rfl _).set1 _ _ rfl _
      · have hln : decide ((k : Int) < (n : Int)) = false := decide_eq_false e
        clear hS hF hB hbox hp hq hr hz1 hkm hlf hlt
        go_wp2
        refine bodyPost_ret (v := .agg #[.int .i64 x, .slice a' k cap']) (by simp [results, Try.results34, go_sem, c0, c1]) rfl ⟨k, a', cap', HKM.out, rfl, FIN.out _ ?_⟩
        exact ((But.refl (fun j => j = q) wr).set1 _ _ rfl _).set1 _ _ rfl _
end Go.Proofs.Ytogacknpkoiokaa
