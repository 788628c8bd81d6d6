/-
  Layer 5's laws: a value in the making, as the document's: contract.
  Layer 5's laws: is a value the document's? Where it is: contracts.
  Layer 5, the document's memory: all writes, one behind the other: what it holds; how many cells: contract.
  Layer 5, the document's memory: a cell is read: contract.
  Appending onto a fresh empty slice.
  Blocks whose cells are known one by one.
  Layer 5: a memory is written: contracts.
  Layer 5: Force, Write: contracts.
  Layer 5: Write: contracts.
  A region that draws its order, by a property of each operation's value: whatever order is drawn, each operation runs where those that it waits for have left values with their properties; at the end all properties hold.
  A region that draws its order, by a property of each operation's value AND A GHOST that the operations carry on: for values that an operation of the region makes and another of the region turns (a fresh slice that is appended to).
  The slots behind a region that draws its order, written out: those that it wrote by what was said of them, the others as they were.
-/
import Derived.Test.YtepigofpcjmddaaOwn5All
import Derived.Orders
import Derived.WalkKit
import Derived.Deep.QuietTactic
namespace Go.Proofs.Ytepigofpcjmddaa
open Go.RowKit Go.Sort

abbrev boxR (n : Int) (s : Value) : Obj := .cells #[.int .i64 n, s] 58
abbrev boxRI (q v : Int) : Obj := .cells #[.int .u64 q, .int .i64 v] 35

/-- A value that was made: what was made of the first six. -/
def ToldEnd (x : Int) (n : Nat) (K V : Nat → Int) (w : World) (e : Ending) (w' : World) : Prop :=
  ∃ m a' cap', m = min n 6 ∧ e = .returned (.agg #[.int .i64 x, .slice a' m cap']) ∧ SlAt 2 w' a' cap' m (flatR (rawL K V m)) ∧ (∀ j, inB a' j → w.heap.size ≤ j) ∧ Below w.heap.size w w'

set_option maxHeartbeats 4000000 in
set_option maxRecDepth 20000 in
theorem told5_any (x : Int) (a : Option Addr) (n cap : Nat) (K V : Nat → Int) (w : World) (h : Raws w a n K V) :
    Calls Try.prog 55 #[.agg #[.int .i64 x, .slice a n cap]] w (ToldEnd x n K V w) := by
  go_enter Try.func55, Try.ntmps55
  go_wp2_with fail
  obtain ⟨W1, hW1⟩ : ∃ W1, ((w.alloc (boxW x (.slice a n cap))).alloc (boxR 0 (.slice none 0 0))).alloc (boxR x (.slice none 0 0)) = W1 := ⟨_, rfl⟩
  rw [hW1]
  have hb1 : Below w.heap.size w W1 := by rw [← hW1]; exact (((Below.refl _ _).alloc (Nat.le_refl _) _).alloc (by simp) _).alloc (by simp; omega) _
  have hz1 : W1.heap.size = w.heap.size + 3 := by rw [← hW1]; simp
  obtain ⟨p, hp⟩ : ∃ p, w.heap.size = p := ⟨_, rfl⟩
  obtain ⟨q, hq⟩ : ∃ q, w.heap.size + 1 = q := ⟨_, rfl⟩
  obtain ⟨r, hr⟩ : ∃ r, w.heap.size + 1 + 1 = r := ⟨_, rfl⟩
  have hbox : W1.cell? ⟨p, 1, none⟩ = some (.slice a n cap) ∧ (W1.cell? ⟨q, 0, none⟩ = some (.int .i64 0) ∧ W1.cell? ⟨q, 1, none⟩ = some (.slice none 0 0) ∧ W1.frozen? ⟨q, 0, none⟩ = false ∧ W1.frozen? ⟨q, 1, none⟩ = false) ∧
      W1.cell? ⟨r, 0, none⟩ = some (.int .i64 x) ∧ W1.cell? ⟨r, 1, none⟩ = some (.slice none 0 0) ∧ W1.frozen? ⟨r, 1, none⟩ = false := by
    have s1 : (w.alloc (boxW x (.slice a n cap))).heap.size = w.heap.size + 1 := World.size_alloc _ _
    have s2 : ((w.alloc (boxW x (.slice a n cap))).alloc (boxR 0 (.slice none 0 0))).heap.size = w.heap.size + 1 + 1 := by rw [World.size_alloc, s1]
    have b3 : But (fun _ => False) ((w.alloc (boxW x (.slice a n cap))).alloc (boxR 0 (.slice none 0 0))) W1 := by rw [← hW1]; exact (But.refl _ _).alloc _
    have b2 : But (fun _ => False) (w.alloc (boxW x (.slice a n cap))) W1 := ((But.refl _ _).alloc _).trans b3
    refine ⟨?_, ⟨?_, ?_, ?_, ?_⟩, ?_, ?_, ?_⟩
    · rw [b2.cell (p := ⟨p, 1, none⟩) (by show p < _; omega) id, ← hp]; exact (World.cell?_alloc_new _ _ _ 1).trans rfl
    · rw [b3.cell (p := ⟨q, 0, none⟩) (by show q < _; omega) id, ← hq, ← s1]; exact (World.cell?_alloc_new _ _ _ 0).trans rfl
    · rw [b3.cell (p := ⟨q, 1, none⟩) (by show q < _; omega) id, ← hq, ← s1]; exact (World.cell?_alloc_new _ _ _ 1).trans rfl
    · rw [b3.frozen (p := ⟨q, 0, none⟩) (by show q < _; omega) id, ← hq, ← s1]; exact World.frozen?_alloc_new _ _ _ _
    · rw [b3.frozen (p := ⟨q, 1, none⟩) (by show q < _; omega) id, ← hq, ← s1]; exact World.frozen?_alloc_new _ _ _ _
    · rw [← hW1, ← hr, ← s2]; exact (World.cell?_alloc_new _ _ _ 0).trans rfl
    · rw [← hW1, ← hr, ← s2]; exact (World.cell?_alloc_new _ _ _ 1).trans rfl
    · rw [← hW1, ← hr, ← s2]; exact World.frozen?_alloc_new _ _ _ _
  have HL := hidq (And.intro hp (And.intro hq (And.intro hr hz1)))
  rw [hr, hq, hp]
  clear hW1 hp hq hr hz1
  have HH := hidq h
  clear h
  go_loopw [4] (fun s wr => ∃ (k : Nat) (a' : Option Addr) (cap' : Nat), s = .int .i64 (k : Int) ∧ k ≤ min n 6 ∧ But (fun j => j = r) W1 wr ∧ wr.cell? ⟨r, 0, none⟩ = some (.int .i64 x) ∧ wr.cell? ⟨r, 1, none⟩ = some (.slice a' k cap') ∧ wr.frozen? ⟨r, 1, none⟩ = false ∧ SlAt 2 wr a' cap' k (flatR (rawL K V k)) ∧ ∀ j, inB a' j → W1.heap.size ≤ j) (fun s _ => 6 - (intOf s).toNat)
  case atStart => exact ⟨0, none, 0, rfl, Nat.zero_le _, But.refl _ _, hbox.2.2.1, hbox.2.2.2.1, hbox.2.2.2.2, SlAt.nil _ _, (fun j hj => by obtain ⟨y, hy, _⟩ := hj; cases hy)⟩
  case round =>
    obtain ⟨k, a', cap', rfl, hk, hB, hr0, hr1, hz, hS, hF⟩ := hrel
    obtain ⟨hp, hq, hr, hz1⟩ := HL.out
    have hp1 : wr.cell? ⟨p, 1, none⟩ = some (.slice a n cap) := by rw [hB.cell (p := ⟨p, 1, none⟩) (by show p < _; omega) (by show ¬ p = _; omega)]; exact hbox.1
    have hsz := hB.size
    have hrl : r < wr.heap.size := by omega
    by_cases hlt : k < n ∧ k < 6
    · have k1 : (k : Int) < (n : Int) := by omega
      have k2 : (k : Int) < 6 := by omega
      obtain ⟨g, off, rfl, hg, hc0, hc1, hK0, hK1⟩ := HH.out k hlt.1
      have hgw : g < W1.heap.size := by omega
      have hgr : ¬ g = r := by omega
      have e0 : wr.cell? ⟨g, off + k * 2, none⟩ = some (.int .u64 (K k)) := by rw [hB.cell (p := ⟨g, off + k * 2, none⟩) hgw hgr, hb1.cell (p := ⟨g, off + k * 2, none⟩) (by show g < _; exact hg)]; exact hc0
      have e1 : wr.cell? ⟨g, off + k * 2 + 1, none⟩ = some (.int .i64 (V k)) := by rw [hB.cell (p := ⟨g, off + k * 2 + 1, none⟩) hgw hgr, hb1.cell (p := ⟨g, off + k * 2 + 1, none⟩) (by show g < _; exact hg)]; exact hc1
      have hOw := hidq (fun W => told_any (K k) (V k) W hK0 hK1)
      have hnl := nf_lt hK1
      have hkb : (kiOf K V k).b = cbits (nf (K k)) := mkKI_b hnl _
      have hkv : (kiOf K V k).v = V k := mkKI_v hnl _
      have hnext : flatR (rawL K V (k + 1)) = flatR (rawL K V k) ++ [.int .u64 (ni (cbits (nf (K k)))), .int .i64 (V k)] := by
        rw [rawL_succ, flatR_append, ← hkb, ← hkv]; rfl
      have AP := hidq (fun W (hW : But (fun _ => False) wr W) => sl_append plainR 26 (W.alloc (boxRI (ni (cbits (nf (K k)))) (V k))) a' cap' k _ (hS.but (S := fun _ => False) (hW.alloc _) (fun _ _ e => e)) _ 1 _
        (src_two _ Try.underlying26 W.heap.size (.int .u64 (ni (cbits (nf (K k))))) (.int .i64 (V k)) (World.cell?_alloc_new _ _ _ 0) (World.cell?_alloc_new _ _ _ 1) rfl rfl) (by omega) (by omega))
      rw [← hnext] at AP
      have FC := hidq (fun W (hW : But (fun _ => False) wr W) => (show (W.cell? ⟨r, 1, none⟩ = some (.slice a' k cap') ∧ W.cell? ⟨p, 1, none⟩ = some (.slice (some ⟨g, off, none⟩) n cap)) ∧ r < W.heap.size from
        ⟨⟨(hW.cell (p := ⟨r, 1, none⟩) hrl id).trans hr1, (hW.cell (p := ⟨p, 1, none⟩) (by show p < _; omega) id).trans hp1⟩, by have := hW.size; omega⟩))
      have hnr : ¬ inB a' r := fun e => by have := hF r e; omega
      have FD := hidq (fun W W' (hW : But (fun _ => False) wr W) (hW' : But (inB a') (W.alloc (boxRI (ni (cbits (nf (K k)))) (V k))) W') => (show (W'.cell? ⟨r, 1, none⟩ = some (.slice a' k cap') ∧ W'.cell? ⟨r, 0, none⟩ = some (.int .i64 x)) ∧ W'.frozen? ⟨r, 1, none⟩ = false ∧ r < W'.heap.size from by
        have h1 : But (inB a') wr W' := ((hW.alloc _).mono (fun _ _ e => e.elim)).trans hW'
        exact ⟨⟨(h1.cell (p := ⟨r, 1, none⟩) hrl hnr).trans hr1, (h1.cell (p := ⟨r, 0, none⟩) hrl hnr).trans hr0⟩, (h1.frozen (p := ⟨r, 1, none⟩) hrl hnr).trans hz, by have := h1.size; omega⟩))
      have FIN := hidq (fun W W' g2 cap2 (hW : But (fun _ => False) wr W) (hF2 : Flat 2 W' g2 cap2 (k + 1) (flatR (rawL K V (k + 1)))) (hW' : But (inB a') (W.alloc (boxRI (ni (cbits (nf (K k)))) (V k))) W') (hg2 : inB a' g2 ∨ (W.alloc (boxRI (ni (cbits (nf (K k)))) (V k))).heap.size ≤ g2) W'' (hW'' : But (fun j => j = r) W' W'') =>
        (show But (fun j => j = r) W1 W'' ∧ SlAt 2 W'' (some ⟨g2, 0, none⟩) cap2 (k + 1) (flatR (rawL K V (k + 1))) ∧ ∀ j, inB (some ⟨g2, 0, none⟩) j → W1.heap.size ≤ j from by
          have hws := hW.size
          have hg3 : W1.heap.size ≤ g2 := by
            rcases hg2 with e | e
            · exact hF _ e
            · rw [World.size_alloc] at e; omega
          have h1 : But (inB a') wr W' := ((hW.alloc _).mono (fun _ _ e => e.elim)).trans hW'
          refine ⟨(hB.then h1 (fun j hj e => by have := hF j e; omega)).then hW'' (fun _ _ e => e), .inr ⟨g2, rfl, hF2.but hW'' (by omega)⟩, ?_⟩
          rintro j ⟨y, hy, rfl⟩; cases hy; exact hg3))
      clear hS hF hB hnext hkb hkv hc0 hc1 hbox hp hq hr hz1 hnr
      generalize ni (cbits (nf (K k))) = c at *
      go_wp2
      go_region_law (first
        | (refine step_append rfl (.tmp 20) (.tmp 27) 26 rfl _ _ (by simp [Act.eval]) (by simp [Act.eval]) _ _ HRUN.out ?_)
        | (go_simp; go_wp2_with (go_at_call 11; refine (hOw.out _).mono ?_; rintro e w3 ⟨rfl, hb3⟩; have hbb3 : But (fun _ => False) wr w3 := ((But.refl _ wr).drew).trans (But.of_below hb3); obtain ⟨⟨f4, f5⟩, f6⟩ := FC.out w3 hbb3; obtain ⟨g2, cap2, w4, hrun, hF2, hb4, hg2⟩ := AP.out w3 hbb3; obtain ⟨⟨d1, d2⟩, d3, d4⟩ := FD.out w3 w4 hbb3 hb4; have HF2 := hidq hF2; have HB4 := hidq hb4; have HRUN := hidq hrun; clear hF2 hb4 hrun)))
      all_goals go_wp2
      all_goals go_roundw
      all_goals first
        | (show (_ : Nat) < _; simp [intOf]; omega)
        | (obtain ⟨y1, y2, y3⟩ := FIN.out w3 w4 g2 cap2 hbb3 HF2.out HB4.out hg2 _ ((But.refl (fun j => j = r) w4).set1 r 1 rfl _)
           exact ⟨k + 1, some ⟨g2, 0, none⟩, cap2, by go_num, by omega, y1, by rw [World.cell?_setCell_other _ _ _ _ (fun e => by injection e with _ e2; cases e2)]; exact d2, by rw [World.cell?_setCell_same' _ _ _ (by rw [d1]; rfl)], by rw [World.frozen?_setCell]; exact d3, y2, y3⟩)
    · have hkm : k = min n 6 := by omega
      have hq0 : wr.cell? ⟨q, 0, none⟩ = some (.int .i64 0) ∧ wr.cell? ⟨q, 1, none⟩ = some (.slice none 0 0) ∧ wr.frozen? ⟨q, 0, none⟩ = false ∧ wr.frozen? ⟨q, 1, none⟩ = false := by
        have hql : q < W1.heap.size := by omega
        have hqr : ¬ q = r := by omega
        exact ⟨(hB.cell (p := ⟨q, 0, none⟩) hql hqr).trans hbox.2.1.1, (hB.cell (p := ⟨q, 1, none⟩) hql hqr).trans hbox.2.1.2.1, (hB.frozen (p := ⟨q, 0, none⟩) hql hqr).trans hbox.2.1.2.2.1, (hB.frozen (p := ⟨q, 1, none⟩) hql hqr).trans hbox.2.1.2.2.2⟩
      obtain ⟨c0, c1, z0, z1⟩ := hq0
      have hql : q < wr.heap.size := by omega
      have FIN := hidq (fun W (hW : But (fun j => j = q) wr W) => (show SlAt 2 W a' cap' k (flatR (rawL K V k)) ∧ (∀ j, inB a' j → w.heap.size ≤ j) ∧ Below w.heap.size w W from by
        refine ⟨?_, fun j hj => by have := hF j hj; omega, ?_⟩
        · exact hS.but hW (fun j hj e => by have := hF j hj; omega)
        · refine (hb1.trans (hB.below hb1.size (fun j e => by omega))).trans (hW.below (by omega) (fun j e => by omega))))
      have HKM := hidq hkm
      have hlf : decide ((k : Int) < (n : Int)) = false ∨ decide ((k : Int) < 6) = false := by
        by_cases e : k < n
        · exact .inr (decide_eq_false (by omega))
        · exact .inl (decide_eq_false (by omega))
      by_cases e : (k : Int) < (n : Int)
      · have hl6 : decide ((k : Int) < 6) = false := decide_eq_false (by omega)
        clear hS hF hB hbox hp hq hr hz1 hkm hlf hlt
        go_wp2
        refine bodyPost_ret (v := .agg #[.int .i64 x, .slice a' k cap']) (by simp [results, Try.results55, go_sem, c0, c1]) rfl ⟨k, a', cap', HKM.out, rfl, FIN.out _ ?_⟩
        exact ((But.refl (fun j => j = q) wr).set1 _ _ rfl _).set1 _ _ rfl _
      · have hln : decide ((k : Int) < (n : Int)) = false := decide_eq_false e
        clear hS hF hB hbox hp hq hr hz1 hkm hlf hlt
        go_wp2
        refine bodyPost_ret (v := .agg #[.int .i64 x, .slice a' k cap']) (by simp [results, Try.results55, go_sem, c0, c1]) rfl ⟨k, a', cap', HKM.out, rfl, FIN.out _ ?_⟩
        exact ((But.refl (fun j => j = q) wr).set1 _ _ rfl _).set1 _ _ rfl _
end Go.Proofs.Ytepigofpcjmddaa

namespace Go.Proofs.Ytepigofpcjmddaa
open Go.RowKit Go.Sort

theorem isV_eq (x : KI) : isV x.b x.v (ni x.b) x.v = 0 := if_pos ⟨rfl, rfl⟩
set_option maxHeartbeats 1000000 in
theorem are5_any (a1 a2 : Option Addr) (c1 c2 n : Nat) (L : List KI) (w : World) (hL : L.length = n) (h1 : SlAt 2 w a1 c1 n (flatI (kts L))) (h2 : SlAt 2 w a2 c2 n (flatR L)) (hn : n ≤ 1000000) :
    Calls Try.prog 18 #[.slice a1 n c1, .slice a2 n c2] w fun e w' => e = .returned (.int .i64 0) ∧ Below w.heap.size w w' := by
  have hn1 : (n : Int) ≤ 1000000 := by omega
  go_enter Try.func18, Try.ntmps18
  go_wp2
  go_loopw [13] (fun c wr => ∃ (k : Nat), c = .int .i64 (k : Int) ∧ k ≤ n ∧ Below w.heap.size w wr) (fun c _ => n - (intOf c).toNat)
  case atStart => exact ⟨0, rfl, Nat.zero_le _, Below.refl _ _⟩
  case round =>
    obtain ⟨k, rfl, hk, hB⟩ := hrel
    by_cases hlt : k < n
    · have hkl : k < L.length := by omega
      have hkl2 : k < (kts L).length := by rw [kts_length]; exact hkl
      obtain ⟨g1, rfl, hl1, e0⟩ := h1.cell (flatI_get (kts L) k hkl2).1
      obtain ⟨g1', q1, _, e1⟩ := h1.cell (flatI_get (kts L) k hkl2).2
      cases q1
      obtain ⟨g2, rfl, hl2, f0⟩ := h2.cell (flatR_get L k hkl).1
      obtain ⟨g2', q2, _, f1⟩ := h2.cell (flatR_get L k hkl).2
      cases q2
      have hx : (kts L)[k] = (L[k].b, L[k].v) := by simp [kts, kt]
      rw [hx] at e0 e1
      have e0' := (hB.cell (p := ⟨g1, k * 2, none⟩) hl1).trans e0
      have e1' := (hB.cell (p := ⟨g1, k * 2 + 1, none⟩) hl1).trans e1
      have f0' := (hB.cell (p := ⟨g2, k * 2, none⟩) hl2).trans f0
      have f1' := (hB.cell (p := ⟨g2, k * 2 + 1, none⟩) hl2).trans f1
      have hle1 := h1.le
      have hle2 := h2.le
      generalize L[k] = x at *
      have his := hidd (fun w => is_any x.b x.v (ni x.b) x.v w)
      rw [isV_eq] at his
      have k1 : (k : Int) < (n : Int) := by omega
      clear hx e0 e1 f0 f1 hL
      go_wp2
      go_region_with (go_at_call 15; refine (his.out _).mono ?_; rintro e w3 ⟨rfl, hb3⟩)
      all_goals go_wp2
      all_goals exact ⟨⟨k + 1, rfl, by omega, hB.trans ((((But.refl (fun _ => False) wr).drew).trans (But.of_below hb3)).below hB.size (fun _ e => e.elim))⟩, by simp [intOf]; omega⟩
    · have hkn : k = n := by omega
      subst hkn
      clear hL
      go_wp2
      go_ret
      exact ⟨rfl, hB⟩

theorem is5_any (x : Int) (a1 a2 : Option Addr) (c1 c2 n : Nat) (L : List KI) (w : World) (hL : L.length = n) (h1 : SlAt 2 w a1 c1 n (flatI (kts L))) (h2 : SlAt 2 w a2 c2 n (flatR L)) (hn : n ≤ 1000000) :
    Calls Try.prog 24 #[.agg #[.int .i64 x, .slice a1 n c1], .agg #[.int .i64 x, .slice a2 n c2]] w fun e w' => e = .returned (.int .i64 0) ∧ Below w.heap.size w w' := by
  have hb : But (fun _ => False) w ((w.alloc (boxV x (.slice a1 n c1))).alloc (boxR x (.slice a2 n c2))) := ((But.refl _ _).alloc _).alloc _
  have hA := hidq (are5_any a1 a2 c1 c2 n L _ hL (h1.but hb (fun _ _ e => e)) (h2.but hb (fun _ _ e => e)) hn)
  clear h1 h2 hL hb
  go_enter Try.func24, Try.ntmps24
  go_wp2_with (go_at_call 18; refine hA.out.mono ?_; rintro e w1 ⟨rfl, hb1⟩)
  go_ret
  exact ⟨rfl, (((Below.refl _ _).alloc (Nat.le_refl _) _).alloc (by simp) _).trans (hb1.mono (by simp; omega))⟩
end Go.Proofs.Ytepigofpcjmddaa

namespace Go.Proofs.Ytepigofpcjmddaa
open Go.RowKit Go.Sort

/-- A write: which cell, a number, items. -/
abbrev RP := Int × Int × List KI
def RP.c (p : RP) : Int := p.1
def RP.x (p : RP) : Int := p.2.1
def RP.L (p : RP) : List KI := p.2.2
def cellP (ps : List RP) (A : Nat → Option Addr) (C : Nat → Nat) (t : Nat) : Value :=
  if t % 3 = 0 then .int .i64 ps[t / 3]!.c else if t % 3 = 1 then .int .i64 ps[t / 3]!.x else .slice (A (t / 3)) ps[t / 3]!.L.length (C (t / 3))
def flatP (ps : List RP) (A : Nat → Option Addr) (C : Nat → Nat) : List Value := (List.range (ps.length * 3)).map (cellP ps A C)
theorem flatP_length (ps : List RP) (A : Nat → Option Addr) (C : Nat → Nat) : (flatP ps A C).length = ps.length * 3 := by simp [flatP]
theorem flatP_get (ps : List RP) (A : Nat → Option Addr) (C : Nat → Nat) (t : Nat) (h : t < ps.length * 3) : (flatP ps A C)[t]? = some (cellP ps A C t) := by simp [flatP, h]
theorem flatP_0 (ps : List RP) (A : Nat → Option Addr) (C : Nat → Nat) (i : Nat) (h : i < ps.length) : (flatP ps A C)[i * 3]? = some (.int .i64 ps[i]!.c) := by
  rw [flatP_get ps A C _ (by omega)]; unfold cellP; rw [if_pos (by omega), show i * 3 / 3 = i by omega]
theorem flatP_1 (ps : List RP) (A : Nat → Option Addr) (C : Nat → Nat) (i : Nat) (h : i < ps.length) : (flatP ps A C)[i * 3 + 1]? = some (.int .i64 ps[i]!.x) := by
  rw [flatP_get ps A C _ (by omega)]; unfold cellP; rw [if_neg (by omega), if_pos (by omega), show (i * 3 + 1) / 3 = i by omega]
theorem flatP_2 (ps : List RP) (A : Nat → Option Addr) (C : Nat → Nat) (i : Nat) (h : i < ps.length) : (flatP ps A C)[i * 3 + 2]? = some (.slice (A i) ps[i]!.L.length (C i)) := by
  rw [flatP_get ps A C _ (by omega)]; unfold cellP; rw [if_neg (by omega), if_neg (by omega), show (i * 3 + 2) / 3 = i by omega]

/-- The document's memory as a slice of writes. -/
def RefAt (w : World) (a : Option Addr) (cap : Nat) (ps : List RP) : Prop :=
  ∃ A C, SlAt 3 w a cap ps.length (flatP ps A C) ∧ ∀ i, i < ps.length → SlAt 2 w (A i) (C i) ps[i]!.L.length (flatR ps[i]!.L)
theorem RefAt.but {S : Nat → Prop} {w w' : World} {a : Option Addr} {cap : Nat} {ps : List RP} (h : RefAt w a cap ps) (hb : But S w w') (hS : ∀ j, j < w.heap.size → ¬ S j) : RefAt w' a cap ps := by
  obtain ⟨A, C, h1, h2⟩ := h
  exact ⟨A, C, h1.but hb (fun j hj => hS j (h1.lt j hj)), fun i hi => (h2 i hi).but hb (fun j hj => hS j ((h2 i hi).lt j hj))⟩
theorem RefAt.below {w w' : World} {a : Option Addr} {cap : Nat} {ps : List RP} (h : RefAt w a cap ps) (hb : Below w.heap.size w w') : RefAt w' a cap ps := h.but (S := fun _ => False) (But.of_below hb) (fun _ _ e => e)
/-- One write. -/
theorem RefAt.at {w : World} {a : Option Addr} {cap : Nat} {ps : List RP} (h : RefAt w a cap ps) {i : Nat} (hi : i < ps.length) : ∃ g s c, a = some ⟨g, 0, none⟩ ∧ g < w.heap.size ∧ ps.length ≤ cap ∧ (w.cell? ⟨g, i * 3, none⟩ = some (.int .i64 ps[i]!.c) ∧ w.cell? ⟨g, i * 3 + 1, none⟩ = some (.int .i64 ps[i]!.x) ∧ w.cell? ⟨g, i * 3 + 2, none⟩ = some (.slice s ps[i]!.L.length c)) ∧ SlAt 2 w s c ps[i]!.L.length (flatR ps[i]!.L) := by
  obtain ⟨A, C, h1, h2⟩ := h
  obtain ⟨g, hg, hl, c0⟩ := h1.cell (flatP_0 ps A C i hi)
  obtain ⟨g', q1, _, c1⟩ := h1.cell (flatP_1 ps A C i hi)
  obtain ⟨g'', q2, _, c2⟩ := h1.cell (flatP_2 ps A C i hi)
  rw [hg] at q1 q2
  cases q1; cases q2
  exact ⟨g, A i, C i, hg, hl, h1.le, ⟨c0, c1, c2⟩, h2 i hi⟩

/-- How many cells. -/
def rlen (ps : List RP) (k : Nat) : Int := (ps.take k).foldl (fun n p => max n (p.c + 1)) 0
theorem rlen_succ (ps : List RP) (k : Nat) (h : k < ps.length) : rlen ps (k + 1) = max (rlen ps k) (ps[k]!.c + 1) := by
  unfold rlen
  rw [List.take_add_one, List.foldl_append, List.getElem?_eq_getElem h, getElem!_pos ps k h]
  rfl
theorem rlen_rng (ps : List RP) (hc : ∀ k, k < ps.length → 0 ≤ ps[k]!.c ∧ ps[k]!.c < 1000) : ∀ k, k ≤ ps.length → 0 ≤ rlen ps k ∧ rlen ps k ≤ 1000
  | 0, _ => by unfold rlen; simp
  | k + 1, h => by
    rw [rlen_succ ps k (by omega)]
    have := rlen_rng ps hc k (by omega)
    have := hc k (by omega)
    omega

set_option maxHeartbeats 1000000 in
theorem rlen5_any (a : Option Addr) (cap n : Nat) (ps : List RP) (w : World) (h : RefAt w a cap ps) (hn : ps.length = n) (hn2 : n ≤ 1000000) (hc : ∀ k, k < ps.length → 0 ≤ ps[k]!.c ∧ ps[k]!.c < 1000) :
    Calls Try.prog 58 #[.agg #[.slice a n cap]] w fun e w' => e = .returned (.int .i64 (rlen ps n)) ∧ Below w.heap.size w w' := by
  have HH := hidq h
  have HN := hidq hn
  have HC := hidq hc
  have hn1 : (n : Int) ≤ 1000000 := by omega
  clear h hn hc
  go_enter Try.func58, Try.ntmps58
  go_wp2_with fail
  go_loopw [3, 9] (fun s3 s9 wr => ∃ (k : Nat), s9 = .int .i64 (k : Int) ∧ k ≤ n ∧ s3 = .int .i64 (rlen ps k) ∧ Below w.heap.size w wr) (fun _ s9 _ => n - (intOf s9).toNat)
  case atStart => exact ⟨0, rfl, Nat.zero_le _, rfl, (Below.refl _ _).alloc (Nat.le_refl _) _⟩
  case round =>
    obtain ⟨k, rfl, hk, rfl, hB⟩ := hrel
    by_cases hlt : k < n
    · have hkl : k < ps.length := by rw [HN.out]; exact hlt
      obtain ⟨g, s, c, rfl, hg, hle, ⟨c0, c1, c2⟩, _⟩ := (HH.out.below (hB.mono (Nat.le_refl _))).at hkl
      rw [HN.out] at hle
      have k1 : (k : Int) < (n : Int) := by omega
      have hr1 := rlen_rng ps HC.out k (by omega)
      have hr2 := HC.out k hkl
      have hs := rlen_succ ps k hkl
      generalize ps[k]! = pt at *
      by_cases hm : rlen ps k ≤ pt.c + 1
      · have HS := hidq (show rlen ps (k + 1) = pt.c + 1 by rw [hs]; omega)
        generalize rlen ps k = r at *
        clear hs
        go_wp2
        refine ⟨⟨k + 1, rfl, by omega, ?_, hB.trans ((Below.refl _ _).alloc hB.size _)⟩, by simp [intOf]; omega⟩
        rw [HS.out]
        refine congrArg (Value.int .i64) ?_
        first | rfl | (split <;> omega)
      · have HS := hidq (show rlen ps (k + 1) = rlen ps k by rw [hs]; omega)
        have hm2 : pt.c + 1 ≤ rlen ps k := by omega
        generalize rlen ps k = r at *
        clear hs
        go_wp2
        refine ⟨⟨k + 1, rfl, by omega, ?_, hB.trans ((Below.refl _ _).alloc hB.size _)⟩, by simp [intOf]; omega⟩
        first | (rw [HS.out]; done) | (rw [HS.out]; exact congrArg (Value.int .i64) (by split <;> omega))
    · have hdl : decide ((k : Int) < (n : Int)) = false := decide_eq_false (by omega)
      have hdn : decide (k < n) = false := decide_eq_false hlt
      have hkn : k = n := by omega
      have HK := hidq hkn
      clear hkn
      go_wp2
      go_ret
      exact ⟨by rw [← HK.out]; rfl, hB⟩
end Go.Proofs.Ytepigofpcjmddaa

namespace Go.Proofs.Ytepigofpcjmddaa
open Go.RowKit Go.Sort

/-- The version, and the write. -/
def rread (ps : List RP) (i : Int) : Nat → Nat × RP
  | 0 => (0, ⟨0, 0, []⟩)
  | k + 1 => if ps[k]!.c = i then (k + 1, ps[k]!) else rread ps i k
theorem rread_hit {ps : List RP} {i : Int} {k : Nat} (h : ps[k]!.c = i) : rread ps i (k + 1) = (k + 1, ps[k]!) := if_pos h
theorem rread_miss {ps : List RP} {i : Int} {k : Nat} (h : ¬ ps[k]!.c = i) : rread ps i (k + 1) = rread ps i k := if_neg h

theorem two2 (w : World) (b : Nat) (o : Obj) (v0 v1 u0 u1 : Value) (h0 : w.cell? ⟨b, 0, none⟩ = some u0) (h1 : w.cell? ⟨b, 1, none⟩ = some u1) (f0 : w.frozen? ⟨b, 0, none⟩ = false) (f1 : w.frozen? ⟨b, 1, none⟩ = false) (hb : b < w.heap.size) :
    ((((w.setCell ⟨b, 0, none⟩ v0).setCell ⟨b, 1, none⟩ v1).alloc o).drew.cell? ⟨b, 0, none⟩ = some v0 ∧ (((w.setCell ⟨b, 0, none⟩ v0).setCell ⟨b, 1, none⟩ v1).alloc o).drew.cell? ⟨b, 1, none⟩ = some v1) ∧
    (((w.setCell ⟨b, 0, none⟩ v0).setCell ⟨b, 1, none⟩ v1).alloc o).drew.frozen? ⟨b, 0, none⟩ = false ∧ (((w.setCell ⟨b, 0, none⟩ v0).setCell ⟨b, 1, none⟩ v1).alloc o).drew.frozen? ⟨b, 1, none⟩ = false := by
  have hb2 : But (fun _ => False) ((w.setCell ⟨b, 0, none⟩ v0).setCell ⟨b, 1, none⟩ v1) (((w.setCell ⟨b, 0, none⟩ v0).setCell ⟨b, 1, none⟩ v1).alloc o).drew := ((But.refl _ _).alloc o).drew
  have hl : b < ((w.setCell ⟨b, 0, none⟩ v0).setCell ⟨b, 1, none⟩ v1).heap.size := by rw [World.size_setCell, World.size_setCell]; exact hb
  have n01 : (⟨b, 0, none⟩ : Addr) ≠ ⟨b, 1, none⟩ := fun e => by injection e with _ e2; cases e2
  refine ⟨⟨?_, ?_⟩, ?_, ?_⟩
  · rw [hb2.cell (p := ⟨b, 0, none⟩) hl id, World.cell?_setCell_other _ _ _ _ n01.symm, World.cell?_setCell_same' _ _ _ (by rw [h0]; rfl)]
  · rw [hb2.cell (p := ⟨b, 1, none⟩) hl id, World.cell?_setCell_same' _ _ _ (by rw [World.cell?_setCell_other _ _ _ _ n01, h1]; rfl)]
  · rw [hb2.frozen (p := ⟨b, 0, none⟩) hl id, World.frozen?_setCell, World.frozen?_setCell]; exact f0
  · rw [hb2.frozen (p := ⟨b, 1, none⟩) hl id, World.frozen?_setCell, World.frozen?_setCell]; exact f1

set_option maxHeartbeats 2000000 in
theorem rread5_any (a : Option Addr) (cap n : Nat) (ps : List RP) (i : Int) (w : World) (h : RefAt w a cap ps) (hn : ps.length = n) (hn2 : n ≤ 1000000) :
    Calls Try.prog 22 #[.agg #[.slice a n cap], .int .i64 i] w fun e w' => ∃ s c, e = .returned (.tuple #[.int .i64 ((rread ps i n).1 : Int), .agg #[.int .i64 (rread ps i n).2.x, .slice s (rread ps i n).2.L.length c]]) ∧ SlAt 2 w' s c (rread ps i n).2.L.length (flatR (rread ps i n).2.L) ∧ Below w.heap.size w w' := by
  have HH := hidq h
  have HN := hidq hn
  have hn1 : (n : Int) ≤ 1000000 := by omega
  clear h hn
  go_enter Try.func22, Try.ntmps22
  go_wp2_with fail
  obtain ⟨W1, hW1⟩ : ∃ W1, ((w.alloc (.cells #[.slice a n cap] 53)).alloc (boxR 0 (.slice none 0 0))).alloc (boxR 0 (.slice none 0 0)) = W1 := ⟨_, rfl⟩
  have hb1 : Below w.heap.size w W1 := by rw [← hW1]; exact (((Below.refl _ _).alloc (Nat.le_refl _) _).alloc (by simp) _).alloc (by simp; omega) _
  have hz1 : W1.heap.size = w.heap.size + 3 := by rw [← hW1]; simp
  obtain ⟨q, hq⟩ : ∃ q, w.heap.size + 1 = q := ⟨_, rfl⟩
  obtain ⟨r, hr⟩ : ∃ r, w.heap.size + 1 + 1 = r := ⟨_, rfl⟩
  have hbox : (W1.cell? ⟨q, 0, none⟩ = some (.int .i64 0) ∧ W1.cell? ⟨q, 1, none⟩ = some (.slice none 0 0) ∧ W1.frozen? ⟨q, 0, none⟩ = false ∧ W1.frozen? ⟨q, 1, none⟩ = false) ∧
      (W1.cell? ⟨r, 0, none⟩ = some (.int .i64 0) ∧ W1.cell? ⟨r, 1, none⟩ = some (.slice none 0 0) ∧ W1.frozen? ⟨r, 0, none⟩ = false ∧ W1.frozen? ⟨r, 1, none⟩ = false) := by
    have s1 : (w.alloc (.cells #[.slice a n cap] 53)).heap.size = w.heap.size + 1 := World.size_alloc _ _
    have s2 : ((w.alloc (.cells #[.slice a n cap] 53)).alloc (boxR 0 (.slice none 0 0))).heap.size = w.heap.size + 1 + 1 := by rw [World.size_alloc, s1]
    have b3 : But (fun _ => False) ((w.alloc (.cells #[.slice a n cap] 53)).alloc (boxR 0 (.slice none 0 0))) W1 := by rw [← hW1]; exact (But.refl _ _).alloc _
    refine ⟨⟨?_, ?_, ?_, ?_⟩, ?_, ?_, ?_, ?_⟩
    · rw [b3.cell (p := ⟨q, 0, none⟩) (by show q < _; omega) id, ← hq, ← s1]; exact (World.cell?_alloc_new _ _ _ 0).trans rfl
    · rw [b3.cell (p := ⟨q, 1, none⟩) (by show q < _; omega) id, ← hq, ← s1]; exact (World.cell?_alloc_new _ _ _ 1).trans rfl
    · rw [b3.frozen (p := ⟨q, 0, none⟩) (by show q < _; omega) id, ← hq, ← s1]; exact World.frozen?_alloc_new _ _ _ _
    · rw [b3.frozen (p := ⟨q, 1, none⟩) (by show q < _; omega) id, ← hq, ← s1]; exact World.frozen?_alloc_new _ _ _ _
    · rw [← hW1, ← hr, ← s2]; exact (World.cell?_alloc_new _ _ _ 0).trans rfl
    · rw [← hW1, ← hr, ← s2]; exact (World.cell?_alloc_new _ _ _ 1).trans rfl
    · rw [← hW1, ← hr, ← s2]; exact World.frozen?_alloc_new _ _ _ _
    · rw [← hW1, ← hr, ← s2]; exact World.frozen?_alloc_new _ _ _ _
  have HL := hidq (And.intro hq (And.intro hr hz1))
  try rw [hW1]
  rw [hr, hq]
  clear hW1 hq hr hz1
  go_loopw [6, 14] (fun s6 s14 wr => ∃ (k : Nat) (s : Option Addr) (c : Nat), s14 = .int .i64 (k : Int) ∧ k ≤ n ∧ s6 = .int .i64 ((rread ps i k).1 : Int) ∧ But (fun j => j = r) W1 wr ∧ (wr.cell? ⟨r, 0, none⟩ = some (.int .i64 (rread ps i k).2.x) ∧ wr.cell? ⟨r, 1, none⟩ = some (.slice s (rread ps i k).2.L.length c) ∧ wr.frozen? ⟨r, 0, none⟩ = false ∧ wr.frozen? ⟨r, 1, none⟩ = false) ∧ SlAt 2 wr s c (rread ps i k).2.L.length (flatR (rread ps i k).2.L) ∧ ∀ j, inB s j → j < w.heap.size) (fun _ s14 _ => n - (intOf s14).toNat)
  case atStart => exact ⟨0, none, 0, rfl, Nat.zero_le _, rfl, But.refl _ _, hbox.2, SlAt.nil _ _, (fun j hj => by obtain ⟨y, hy, _⟩ := hj; cases hy)⟩
  case round =>
    obtain ⟨k, s, c, rfl, hk, rfl, hB, ⟨v0, v1, f0, f1⟩, hS, hF⟩ := hrel
    obtain ⟨hq, hr, hz1⟩ := HL.out
    have hsz := hB.size
    have hrl : r < wr.heap.size := by omega
    have hBw : Below w.heap.size w wr := hb1.trans (hB.below hb1.size (fun j e => by omega))
    by_cases hlt : k < n
    · have hkl : k < ps.length := by rw [HN.out]; exact hlt
      obtain ⟨g, s2, c2, rfl, hg, hle, ⟨c0, c1, c3⟩, hS2⟩ := (HH.out.below hBw).at hkl
      have hgw : g < w.heap.size := by
        obtain ⟨g', _, _, e, hg', _⟩ := HH.out.at hkl
        cases e; exact hg'
      have hS2lt : ∀ j, inB s2 j → j < w.heap.size := by
        obtain ⟨g', s3, c4, e, _, _, ⟨_, _, d3⟩, hS3⟩ := HH.out.at hkl
        cases e
        have d3' := (hBw.cell (p := ⟨g, k * 3 + 2, none⟩) hgw).trans d3
        rw [c3] at d3'
        injection d3' with d3'
        injection d3' with d4 d5 d6
        intro j hj
        rw [d4] at hj
        exact hS3.lt j hj
      rw [HN.out] at hle
      have k1 : (k : Int) < (n : Int) := by omega
      by_cases he : ps[k]!.c = i
      · have hn := rread_hit he
        have HX := hidq hn
        have FIN := hidq (fun W (hW : But (fun j => j = r) wr W) (d0 : W.cell? ⟨r, 0, none⟩ = some (.int .i64 ps[k]!.x)) (d1 : W.cell? ⟨r, 1, none⟩ = some (.slice s2 ps[k]!.L.length c2)) (z0 : W.frozen? ⟨r, 0, none⟩ = false) (z1 : W.frozen? ⟨r, 1, none⟩ = false) =>
          (show But (fun j => j = r) W1 W ∧ (W.cell? ⟨r, 0, none⟩ = some (.int .i64 (rread ps i (k + 1)).2.x) ∧ W.cell? ⟨r, 1, none⟩ = some (.slice s2 (rread ps i (k + 1)).2.L.length c2) ∧ W.frozen? ⟨r, 0, none⟩ = false ∧ W.frozen? ⟨r, 1, none⟩ = false) ∧ SlAt 2 W s2 c2 (rread ps i (k + 1)).2.L.length (flatR (rread ps i (k + 1)).2.L) ∧ ∀ j, inB s2 j → j < w.heap.size from by
            rw [hn]
            exact ⟨hB.trans hW, ⟨d0, d1, z0, z1⟩, hS2.but hW (fun j hj e => by have := hS2lt j hj; omega), hS2lt⟩))
        have HV := hidq (show ((rread ps i (k + 1)).1 : Int) = (k : Int) + 1 by rw [hn]; show ((k + 1 : Nat) : Int) = _; omega)
        rw [he] at c0
        generalize ps[k]!.x = px at *
        generalize ps[k]!.L = pL at *
        generalize (rread ps i k).2.x = ox at *
        generalize (rread ps i k).2.L = oL at *
        clear hS hF hS2 hS2lt hB hBw hn he hq hr hz1 hbox
        go_wp2
        go_region
        all_goals go_wp2
        all_goals (
          obtain ⟨⟨y0, y1⟩, y2, y3⟩ := two2 wr r (.cells #[.int .i64 i, .int .i64 px, .slice s2 pL.length c2] 130) (.int .i64 px) (.slice s2 pL.length c2) _ _ v0 v1 f0 f1 hrl
          obtain ⟨t1, t2, t3, t4⟩ := FIN.out _ ((((But.refl (fun j => j = r) wr).set1 _ _ rfl _).set1 _ _ rfl _).alloc _).drew y0 y1 y2 y3
          refine ⟨⟨k + 1, s2, c2, rfl, by omega, ?_, t1, t2, t3, t4⟩, by simp [intOf]; omega⟩
          rw [HV.out])
      · have hn := rread_miss he
        have HX := hidq (show ∀ W, But (fun _ => False) wr W → But (fun j => j = r) W1 W ∧ (W.cell? ⟨r, 0, none⟩ = some (.int .i64 (rread ps i (k + 1)).2.x) ∧ W.cell? ⟨r, 1, none⟩ = some (.slice s (rread ps i (k + 1)).2.L.length c) ∧ W.frozen? ⟨r, 0, none⟩ = false ∧ W.frozen? ⟨r, 1, none⟩ = false) ∧ SlAt 2 W s c (rread ps i (k + 1)).2.L.length (flatR (rread ps i (k + 1)).2.L) ∧ ∀ j, inB s j → j < w.heap.size from fun W hW => by
          rw [hn]
          exact ⟨hB.trans (hW.mono (fun _ _ e => e.elim)), ⟨(hW.cell (p := ⟨r, 0, none⟩) hrl id).trans v0, (hW.cell (p := ⟨r, 1, none⟩) hrl id).trans v1, (hW.frozen (p := ⟨r, 0, none⟩) hrl id).trans f0, (hW.frozen (p := ⟨r, 1, none⟩) hrl id).trans f1⟩, hS.but hW (fun _ _ e => e), hF⟩)
        have HV := hidq (show (rread ps i (k + 1)).1 = (rread ps i k).1 by rw [hn])
        have heb : (ps[k]!.c == i) = false := by simpa using he
        generalize ps[k]!.c = pc at *
        generalize ps[k]!.x = px at *
        generalize ps[k]!.L = pL at *
        generalize (rread ps i k).2.x = ox at *
        generalize (rread ps i k).2.L = oL at *
        clear hS hF hS2 hS2lt hB hBw hn he hq hr hz1 hbox
        go_wp2
        obtain ⟨t1, t2, t3, t4⟩ := HX.out _ ((But.refl _ wr).alloc _)
        refine ⟨⟨k + 1, s, c, rfl, by omega, ?_, t1, t2, t3, t4⟩, by simp [intOf]; omega⟩
        rw [HV.out]
    · have hdl : decide ((k : Int) < (n : Int)) = false := decide_eq_false (by omega)
      have hdn : decide (k < n) = false := decide_eq_false hlt
      have hkn : k = n := by omega
      subst hkn
      have hql : q < wr.heap.size := by omega
      have hqr : ¬ q = r := by omega
      have hqW : q < W1.heap.size := by omega
      have d0 := (hB.cell (p := ⟨q, 0, none⟩) hqW hqr).trans hbox.1.1
      have d1 := (hB.cell (p := ⟨q, 1, none⟩) hqW hqr).trans hbox.1.2.1
      have z0 := (hB.frozen (p := ⟨q, 0, none⟩) hqW hqr).trans hbox.1.2.2.1
      have z1 := (hB.frozen (p := ⟨q, 1, none⟩) hqW hqr).trans hbox.1.2.2.2
      have FIN := hidq (fun W (hW : But (fun j => j = q) wr W) => (show SlAt 2 W s c (rread ps i k).2.L.length (flatR (rread ps i k).2.L) ∧ Below w.heap.size w W from
        ⟨hS.but hW (fun j hj e => by have := hF j hj; omega), hBw.trans (hW.below hBw.size (fun j e => by omega))⟩))
      obtain ⟨RR, hRR⟩ : ∃ R, rread ps i k = R := ⟨_, rfl⟩
      rw [hRR] at FIN v0 v1
      have HRR := hidq hRR
      have HV := hidq (show (rread ps i k).1 = RR.1 by rw [hRR])
      clear hS hF hB hBw hq hr hz1 hbox hb1 hRR
      rw [HV.out]
      go_wp2
      go_region
      all_goals go_wp2
      all_goals refine bodyPost_ret (v := .tuple #[.int .i64 (RR.1 : Int), .agg #[.int .i64 RR.2.x, .slice s RR.2.L.length c]]) (by simp [results, Try.results22, go_sem, d0, d1]) rfl ?_
      all_goals rw [HRR.out]
      all_goals exact ⟨s, c, rfl, FIN.out _ (((But.refl (fun j => j = q) wr).set1 _ _ rfl _).set1 _ _ rfl _).drew⟩
end Go.Proofs.Ytepigofpcjmddaa

namespace Go.Proofs.Ytepigofpcjmddaa
open Go.RowKit Go.Sort

theorem fresh_append {P : Program} {k : Nat} {T E : TypeId} (hp : PlainK P k T E) (ty : TypeId) (w : World) (g : Nat) (h : Flat k w g 0 0 []) (x : Value) (m : Nat) (ys : List Value) (hs : Src P k T x m ys w) (hb : m ≤ 1099511627776) :
    ∃ g' cap' w', (Builtin.append_ #[T, T] ty #[.slice (some ⟨g, 0, none⟩) 0 0, x]).run P w = .ok (.slice (some ⟨g', 0, none⟩) m cap') w' ∧ Flat k w' g' cap' m ys ∧ Below w.heap.size w w' ∧ (g' = g ∨ w.heap.size ≤ g') := by
  obtain ⟨i, z, hT, hi, hz, hsz, hzc, hby⟩ := hp
  subst hsz
  have hyl := hs.newsLen
  by_cases hm : m = 0
  · subst hm
    have hy : ys = [] := List.length_eq_zero_iff.1 (by rw [hyl]; omega)
    subst hy
    have hr := run_append_room_src (P := P) w T T ty E i hT hi g 0 0 0 x 0 [] hs (Nat.le_refl _) (fun j hj => absurd hj (Nat.not_lt_zero _)) (fun j hj => absurd hj (Nat.not_lt_zero _))
    exact ⟨g, 0, w, hr, h, Below.refl _ _, .inl rfl⟩
  · have hold : (Builtin.firstCells i.size 0 (.slice (some ⟨g, 0, none⟩) 0 0)).run P w.drew = .ok ([] : List Value).toArray w.drew :=
      run_firstCells_some w.drew i.size 0 ⟨g, 0, none⟩ 0 0 [] (by simp) (fun j u hu => by simp at hu)
    have h63 : ((0 + m : Nat) : Int) ≤ 9223372036854775807 := by omega
    have hmx : m ≤ maxLen := by unfold maxLen; omega
    have hr := run_append_grow_src (P := P) w T T ty E i z hT hi hz (some ⟨g, 0, none⟩) 0 0 [] hold x m ys hs (by omega) h63 (growslice_fits (by omega) (by rw [Nat.zero_add]; exact Nat.le_trans (Nat.mul_le_mul hb hby) (by decide)))
    rw [Nat.zero_add] at hr
    have hge := grownCap_ge w m 0 E
    have hcm := grownCap_le_maxLen w m 0 E hmx
    generalize grownCap w m 0 E = C at hr hge hcm
    rw [List.nil_append] at hr
    have hc : ∀ j, (w.drew.alloc (.cells (ys.toArray ++ Builtin.zeroCells z.cells (C - m)) E)).cell? ⟨w.heap.size, j, none⟩ = (ys.toArray ++ Builtin.zeroCells z.cells (C - m))[j]? := fun j => World.cell?_alloc_new w.drew _ _ j
    refine ⟨w.heap.size, C, _, hr, ?_, ⟨rfl, rfl, rfl, by simp, fun j hj => Below.heap_alloc w.drew _ j hj⟩, .inr (Nat.le_refl _)⟩
    refine ⟨by simp, hyl, hge, hcm, ?_, hs.one, ?_⟩
    · intro t u hu
      have ht : t < ys.length := (List.getElem?_eq_some_iff.1 hu).1
      rw [hc, Array.getElem?_append_left (by simpa using ht), List.getElem?_toArray]
      exact hu
    · intro j hj
      refine ⟨?_, World.frozen?_alloc_new w.drew _ _ _⟩
      rw [hc]
      have : j < (ys.toArray ++ Builtin.zeroCells z.cells (C - m)).size := by
        rw [Array.size_append, size_zeroCells, List.size_toArray, hyl]
        have e2 : m * i.size + (C - m) * i.size = C * i.size := by rw [← Nat.add_mul]; congr 1; omega
        rw [hzc]
        first | omega | (rw [Nat.mul_comm] at e2; omega)
      rw [Array.getElem?_eq_getElem this]; rfl
end Go.Proofs.Ytepigofpcjmddaa

namespace Go.Proofs.Ytepigofpcjmddaa
open Go.RowKit Go.Sort

/-- Block b begins with these cells, none of them frozen. -/
structure BoxAt (w : World) (b : Nat) (l : List Value) : Prop where
  lt : b < w.heap.size
  cell : ∀ i u, l[i]? = some u → w.cell? ⟨b, i, none⟩ = some u
  fz : ∀ i, i < l.length → w.frozen? ⟨b, i, none⟩ = false

section
variable {w w' : World} {b : Nat} {l : List Value} {S : Nat → Prop}
theorem BoxAt.but (h : BoxAt w b l) (hb : But S w w') (hS : ¬ S b) : BoxAt w' b l :=
  ⟨Nat.lt_of_lt_of_le h.lt hb.size, fun i u hu => (hb.cell (p := ⟨b, i, none⟩) h.lt hS).trans (h.cell i u hu), fun i hi => (hb.frozen (p := ⟨b, i, none⟩) h.lt hS).trans (h.fz i hi)⟩
theorem BoxAt.below (h : BoxAt w b l) (hb : Below w.heap.size w w') : BoxAt w' b l := h.but (S := fun _ => False) (But.of_below hb) id
theorem BoxAt.new (w : World) (l : List Value) (t : TypeId) : BoxAt (w.alloc (.cells l.toArray t)) w.heap.size l :=
  ⟨by simp, fun i u hu => by rw [World.cell?_alloc_new, List.getElem?_toArray]; exact hu, fun i _ => World.frozen?_alloc_new _ _ _ _⟩
theorem BoxAt.set (h : BoxAt w b l) (i : Nat) (v : Value) : BoxAt (w.setCell ⟨b, i, none⟩ v) b (l.set i v) := by
  refine ⟨by rw [World.size_setCell]; exact h.lt, fun j u hu => ?_, fun j hj => ?_⟩
  · rw [List.getElem?_set] at hu
    by_cases e : i = j
    · subst e
      rw [if_pos rfl] at hu
      split at hu
      case isTrue hl =>
        rw [World.cell?_setCell_same' _ _ _ (by rw [h.cell i _ (List.getElem?_eq_getElem hl)]; rfl)]
        exact hu
      case isFalse hl => cases hu
    · rw [if_neg e] at hu
      rw [World.cell?_setCell_other _ _ _ _ (fun q => e (by injection q))]
      exact h.cell j u hu
  · rw [World.frozen?_setCell]
    exact h.fz j (by simpa using hj)
theorem BoxAt.same (h : BoxAt w b l) {l' : List Value} (e : l = l') : BoxAt w b l' := e ▸ h
theorem BoxAt.drew (h : BoxAt w b l) : BoxAt w.drew b l := ⟨h.lt, h.cell, h.fz⟩
theorem BoxAt.get (h : BoxAt w b l) (i : Nat) (u : Value) (e : l[i]? = some u) : w.cell? ⟨b, i, none⟩ = some u ∧ w.frozen? ⟨b, i, none⟩ = false :=
  ⟨h.cell i u e, h.fz i (List.getElem?_eq_some_iff.1 e).1⟩
end

theorem BoxAt.drewN {w : World} {b : Nat} {l : List Value} (h : BoxAt w b l) (n : Nat) : BoxAt (w.drewN n) b l := ⟨h.lt, h.cell, h.fz⟩
/-- Two new boxes, one behind the other. -/
theorem two_new (w : World) (l1 l2 : List Value) (t1 t2 : TypeId) (n : Nat) : ∃ W, ((w.alloc (.cells l1.toArray t1)).alloc (.cells l2.toArray t2)).drewN n = W ∧ Below w.heap.size w W ∧ W.heap.size = w.heap.size + 2 ∧ BoxAt W w.heap.size l1 ∧ BoxAt W (w.heap.size + 1) l2 := by
  have h1 := BoxAt.new w l1 t1
  have h2 := BoxAt.new (w.alloc (.cells l1.toArray t1)) l2 t2
  rw [World.size_alloc] at h2
  refine ⟨_, rfl, below_drewN (((Below.refl _ _).alloc (Nat.le_refl _) _).alloc (by simp) _) n, by simp, (h1.below ((Below.refl _ _).alloc (Nat.le_refl _) _)).drewN n, h2.drewN n⟩
theorem drewN_zero (w : World) : w.drewN 0 = w := rfl
/-- All of a box laid anew. -/
theorem box_cells {w : World} {b : Nat} {l cs : List Value} (h : BoxAt w b l) (hl : l.length = cs.length) : BoxAt (w.setCells b 0 cs) b cs := by
  have hc : ∀ j, j < cs.length → (w.cell? ⟨b, 0 + j, none⟩).isSome = true := fun j hj => by rw [Nat.zero_add, h.cell j _ (List.getElem?_eq_getElem (by omega))]; rfl
  refine ⟨Nat.lt_of_lt_of_le h.lt (but_setCells b cs 0 w w (But.refl _ w)).size, fun i u hu => ?_, fun i hi => ?_⟩
  · obtain ⟨hj, hv⟩ := List.getElem?_eq_some_iff.1 hu
    have := World.cell?_setCells_in b cs 0 w hc i hj
    rw [Nat.zero_add] at this
    rw [this, hv]
  · rw [World.frozen?_setCells]; exact h.fz i (by omega)

end Go.Proofs.Ytepigofpcjmddaa

namespace Go.Proofs.Ytepigofpcjmddaa
open Go.RowKit Go.Sort

theorem own'_mono {O : Nat → Prop} {w w1 w2 : World} (h1 : w.heap.size ≤ w1.heap.size) (h2 : w1.heap.size ≤ w2.heap.size) {k : Nat} (h : own' (own' O w w1) w1 w2 k) : own' O w w2 k := by
  rcases h with (h | h) | h
  · exact .inl h
  · exact .inr ⟨h.1, by omega⟩
  · exact .inr ⟨by omega, h.2⟩
theorem MemAt.own {w : World} {b : Nat} {O O' : Nat → Prop} {M : Mem} (h : MemAt w b O M) (hi : ∀ k, O k → O' k) (hl : ∀ k, O' k → k < w.heap.size) : MemAt w b O' M := by
  obtain ⟨a, cap, A, C, hr⟩ := h.row
  exact ⟨hi _ h.ob, hl, ⟨a, cap, A, C, hr.hd, hr.sl, fun j hj => ⟨hi _ (hr.own j hj).1, (hr.own j hj).2⟩, hr.its, fun i hi' j hj => ⟨hi _ (hr.ito i hi' j hj).1, (hr.ito i hi' j hj).2⟩⟩, h.clk, h.fz0, h.fz1, h.max, h.rest, h.few⟩

theorem reach_max (M : Mem) (n : Nat) (h : n ≤ M.len) : M.reach n = M := by
  unfold Mem.reach; rw [Nat.max_eq_left h]
theorem reach_twice (M : Mem) (m n : Nat) (h : m ≤ n) : (M.reach m).reach n = M.reach n := by
  unfold Mem.reach; simp only [Mem.mk.injEq, and_true]; omega

/-- A row that was moved or grown in place, with one cell more. -/
theorem mem_grown {w w1 : World} {b g cap' : Nat} {O : Nat → Prop} {M : Mem} {a : Option Addr} {cap : Nat} {A : Nat → Option Addr} {C : Nat → Nat}
    (h : MemAt w b O M) (hr : RowC w b O M a cap A C) (hl : M.len < 1000)
    (hF : Flat 3 w1 g cap' (M.len + 1) (flatC M A C ++ [.int .u64 0, .int .i64 0, .slice none 0 0])) (hb : But (inB a) w w1) (hg : inB a g ∨ w.heap.size ≤ g) :
    MemAt (w1.setCell ⟨b, 0, none⟩ (.slice (some ⟨g, 0, none⟩) (M.len + 1) cap')) b (own' O w w1) (M.reach (M.len + 1)) ∧ But O w (w1.setCell ⟨b, 0, none⟩ (.slice (some ⟨g, 0, none⟩) (M.len + 1) cap')) := by
  have hbl := h.lt b h.ob
  have hnb : ¬ inB a b := fun e => (hr.own b e).2 rfl
  have hm : (M.reach (M.len + 1)).len = M.len + 1 := by show max M.len (M.len + 1) = _; omega
  have c0 : w1.cell? ⟨b, 0, none⟩ = some (.slice a M.len cap) := by rw [hb.cell (p := ⟨b, 0, none⟩) hbl hnb]; exact hr.hd
  have hgo : own' O w w1 g ∧ g ≠ b := by
    rcases hg with hg | hg
    · exact ⟨.inl (hr.own g hg).1, (hr.own g hg).2⟩
    · exact ⟨.inr ⟨hg, hF.lt⟩, by omega⟩
  have hset : But (fun k => k = b) w1 (w1.setCell ⟨b, 0, none⟩ (.slice (some ⟨g, 0, none⟩) (M.len + 1) cap')) := (But.refl (fun k => k = b) w1).set1 b 0 rfl _
  refine ⟨⟨.inl h.ob, ?_, ⟨some ⟨g, 0, none⟩, cap', fun i => if i = M.len then none else A i, fun i => if i = M.len then 0 else C i, ?_⟩, ?_, ?_, ?_, by rw [hm]; omega, ?_, h.few⟩, ?_⟩
  · intro k hk
    rw [World.size_setCell]
    rcases hk with hk | hk
    · exact Nat.lt_of_lt_of_le (h.lt k hk) hb.size
    · exact hk.2
  · refine ⟨by rw [World.cell?_setCell_same' _ _ _ (by rw [c0]; rfl), hm], .inr ⟨g, rfl, ?_⟩, ?_, ?_, ?_⟩
    · rw [hm, flatC_snoc M A C (h.rest _ (Nat.le_refl _))]
      exact hF.but hset hgo.2
    · rintro j ⟨x, hx, rfl⟩; cases hx; exact hgo
    · intro i hi
      rw [hm] at hi
      by_cases e : i = M.len
      · subst e
        show SlAt 2 _ (if M.len = M.len then none else A M.len) (if M.len = M.len then 0 else C M.len) (M.cell M.len).L.length (flatI (M.cell M.len).L)
        rw [if_pos rfl, if_pos rfl, h.rest _ (Nat.le_refl _)]
        exact SlAt.nil _ _
      · show SlAt 2 _ (if i = M.len then none else A i) (if i = M.len then 0 else C i) (M.cell i).L.length (flatI (M.cell i).L)
        rw [if_neg e, if_neg e]
        have hi' : i < M.len := by omega
        exact ((hr.its i hi').but hb (fun j hj => (hr.ito i hi' j hj).2.2)).but hset (fun j hj => (hr.ito i hi' j hj).2.1)
    · intro i hi j hj
      rw [hm] at hi
      by_cases e : i = M.len
      · rw [if_pos e] at hj; obtain ⟨x, hx, _⟩ := hj; cases hx
      · rw [if_neg e] at hj
        have hi' : i < M.len := by omega
        have h1 := hr.ito i hi' j hj
        refine ⟨.inl h1.1, h1.2.1, ?_⟩
        rintro ⟨x, hx, hxj⟩
        cases hx
        have hxj' : g = j := hxj
        rcases hg with hg | hg
        · rw [hxj'] at hg; exact h1.2.2 hg
        · have := h.lt j h1.1; omega
  · rw [World.cell?_setCell_other _ _ _ _ (fun e => by injection e with _ e2; cases e2), hb.cell (p := ⟨b, 1, none⟩) hbl hnb]
    exact h.clk
  · rw [World.frozen?_setCell, hb.frozen (p := ⟨b, 0, none⟩) hbl hnb]; exact h.fz0
  · rw [World.frozen?_setCell, hb.frozen (p := ⟨b, 1, none⟩) hbl hnb]; exact h.fz1
  · intro i hi
    rw [hm] at hi
    exact h.rest i (by omega)
  · exact (hb.mono (fun k _ e => (hr.own k e).1)).trans (hset.mono (fun k _ e => by rw [e]; exact h.ob))

theorem add1 (n : Nat) : ((n + 1 : Nat) : Int) = (n : Int) + 1 := by omega
set_option maxHeartbeats 1000000 in
theorem reach_any (b i : Nat) (O : Nat → Prop) (M : Mem) (w : World) (h : MemAt w b O M) (hi : i < 1000) :
    Calls Try.prog 92 #[.pointer (some ⟨b, 0, none⟩), .int .i64 (i : Int)] w fun e w' => e = .returned (.tuple #[]) ∧ MemAt w' b (own' O w w') (M.reach (i + 1)) ∧ But O w w' := by
  have hi1 : (i : Int) < 1000 := by omega
  go_enter Try.func92, Try.ntmps92
  go_wp2_with fail
  go_loopw [] (fun wr => ∃ n, n ≤ max M.len (i + 1) ∧ MemAt wr b (own' O w wr) (M.reach n) ∧ But O w wr) (fun wr => i + 1 - lenIn wr b)
  case atStart => exact ⟨M.len, by omega, by rw [reach_max M _ (Nat.le_refl _)]; exact h.own (fun k hk => .inl hk) (fun k hk => hk.elim (h.lt k) (fun e => e.2)), But.refl _ _⟩
  case round =>
    obtain ⟨n, hn, hM, hB⟩ := hrel
    obtain ⟨a, cap, A, C, hr⟩ := hM.row
    obtain ⟨m, hm⟩ : ∃ m, (M.reach n).len = m := ⟨_, rfl⟩
    have hmm : m = max M.len n := hm.symm
    have hd := hr.hd
    rw [hm] at hd
    have hfz := hM.fz0
    have hbl := hM.lt b hM.ob
    have hmx := hM.max
    rw [hm] at hmx
    have hmx1 : (m : Int) ≤ 1000 := by omega
    by_cases hlt : m ≤ i
    · have hl1 : (m : Int) ≤ (i : Int) := by omega
      have hsr : Src Try.prog 3 131 (.slice (some ⟨wr.heap.size, 0, none⟩) 1 1) 1 [.int .u64 0, .int .i64 0, .slice none 0 0] (wr.alloc (boxC 0 0 (.slice none 0 0))) :=
        src_new 3 _ Try.underlying131 _ _ rfl (fun j u hu => by rw [World.cell?_alloc_new]; rcases j with _ | _ | _ | j <;> first | exact hu | (simp at hu)) (fun u hu => by simp at hu; rcases hu with rfl | rfl | rfl <;> rfl)
      have hM1 : MemAt (wr.alloc (boxC 0 0 (.slice none 0 0))) b (own' O w wr) (M.reach n) := hM.but (S := fun _ => False) ((But.refl _ _).alloc _) (fun _ _ e => e)
      have hr1 := hr.but (S := fun _ => False) hbl ((But.refl _ wr).alloc (boxC 0 0 (.slice none 0 0))) (fun _ _ e => e) hM.ob
      have hsl := hr1.sl
      rw [hm] at hsl
      have hc1 := hr1.hd
      rw [hm] at hc1
      have hz1 := hM1.fz0
      have hnb : ¬ inB a b := fun e => (hr.own b e).2 rfl
      have hbl1 : b < (wr.alloc (boxC 0 0 (.slice none 0 0))).heap.size := by simp; omega
      have FIN := hidq (fun g' cap' w' (hF : Flat 3 w' g' cap' (m + 1) (flatC (M.reach n) A C ++ [.int .u64 0, .int .i64 0, .slice none 0 0])) (hb' : But (inB a) (wr.alloc (boxC 0 0 (.slice none 0 0))) w') (hg' : inB a g' ∨ (wr.alloc (boxC 0 0 (.slice none 0 0))).heap.size ≤ g') =>
        mem_grown hM1 hr1 (by rw [hm]; omega) (by rw [hm]; exact hF) hb' hg')
      rw [hm] at FIN
      have FC := hidq (fun w' (hb' : But (inB a) (wr.alloc (boxC 0 0 (.slice none 0 0))) w') => (show w'.cell? ⟨b, 0, none⟩ = some (.slice a m cap) ∧ w'.frozen? ⟨b, 0, none⟩ = false ∧ b < w'.heap.size from
        ⟨(hb'.cell (p := ⟨b, 0, none⟩) hbl1 hnb).trans hc1, (hb'.frozen (p := ⟨b, 0, none⟩) hbl1 hnb).trans hz1, Nat.lt_of_lt_of_le hbl1 hb'.size⟩))
      have HSL := hidq hsl
      have HSR := hidq hsr
      have HMM := hidq hmm
      have HM := hidq hM
      have HM1 := hidq hm
      clear hM1 hr1 hr hsl hsr hmm hM hm hnb hbl1
      go_wp2_with (at_builtin; refine wpList_sl plainC _ rfl (.tmp 15) (.tmp 17) rfl a cap m _ rfl HSL.out _ rfl 1 _ HSR.out (by omega) (by omega) ?_; intro g' cap' w' hF hb' hg'; obtain ⟨fc1, fc2, fc3⟩ := FC.out w' hb'; have HF := hidq hF; have HB := hidq hb'; clear hF hb')
      have hgr := FIN.out g' cap' w' HF.out HB.out hg'
      have hsz := HB.out.size
      rw [World.size_alloc] at hsz
      have hmn : m = max M.len n := HMM.out
      have hB2 : But O w (w'.setCell ⟨b, 0, none⟩ (.slice (some ⟨g', 0, none⟩) (m + 1) cap')) := by
        refine hB.then (T := own' O w wr) (((But.refl _ wr).alloc _).trans hgr.2) (fun k hk e => ?_)
        rcases e with e | e
        · exact e
        · omega
      have hM2 : MemAt (w'.setCell ⟨b, 0, none⟩ (.slice (some ⟨g', 0, none⟩) (m + 1) cap')) b (own' O w (w'.setCell ⟨b, 0, none⟩ (.slice (some ⟨g', 0, none⟩) (m + 1) cap'))) (M.reach (m + 1)) := by
        have h1 := hgr.1
        rw [reach_twice M n (m + 1) (by omega)] at h1
        refine h1.own (fun k hk => ?_) (fun k hk => ?_)
        · rcases hk with (e | e) | e
          · exact .inl e
          · exact .inr ⟨e.1, by rw [World.size_setCell]; omega⟩
          · rw [World.size_alloc] at e; exact .inr ⟨by have := hB.size; omega, by rw [World.size_setCell]; omega⟩
        · rcases hk with e | e
          · exact h1.lt k (.inl (.inl e))
          · exact e.2
      have HM2 := hidq hM2
      have HB2 := hidq hB2
      have hl2 : lenIn (w'.setCell ⟨b, 0, none⟩ (.slice (some ⟨g', 0, none⟩) (m + 1) cap')) b = m + 1 := by rw [lenIn_at hM2]; show max M.len (m + 1) = m + 1; omega
      have hl1' : lenIn wr b = m := by rw [lenIn_at HM.out]; exact HM1.out
      have HL := hidq (And.intro hl2 hl1')
      clear hgr hM2 hB2 hl2 hl1'
      go_wp2
      go_roundw
      case rel => exact ⟨m + 1, by have := HMM.out; omega, HM2.out, HB2.out⟩
      case measure => rw [HL.out.1, HL.out.2]; omega
    · have hl1 : decide ((m : Int) ≤ (i : Int)) = false := decide_eq_false (by omega)
      have hM2 : MemAt wr b (own' O w wr) (M.reach (i + 1)) := by
        have e : M.reach n = M.reach (i + 1) := by unfold Mem.reach; simp only [Mem.mk.injEq, and_true]; omega
        rw [← e]; exact hM
      have HM2 := hidq hM2
      clear hM2 hM hr hmm hm hn
      go_wp2
      go_end0
      exact ⟨rfl, HM2.out, hB⟩
end Go.Proofs.Ytepigofpcjmddaa

namespace Go.Proofs.Ytepigofpcjmddaa
open Go.RowKit Go.Sort

/-- One cell of a row is laid anew. -/
theorem Flat.set {k g cap n t : Nat} {w : World} {l : List Value} {v : Value} (h : Flat k w g cap n l) (ht : t < l.length) (hv : v.oneCell' = true) : Flat k (w.setCell ⟨g, t, none⟩ v) g cap n (l.set t v) := by
  have hc : (w.cell? ⟨g, t, none⟩).isSome = true := by rw [h.cell t _ (List.getElem?_eq_getElem ht)]; rfl
  refine ⟨by rw [World.size_setCell]; exact h.lt, by rw [List.length_set]; exact h.len, h.le, h.cmax, ?_, ?_, ?_⟩
  · intro s u hu
    rw [List.getElem?_set] at hu
    by_cases e : t = s
    · subst e
      rw [if_pos rfl, if_pos ht] at hu
      cases hu
      rw [World.cell?_setCell_same' _ _ _ hc]
    · rw [if_neg e] at hu
      rw [World.cell?_setCell_other _ _ _ _ (fun q => e (by injection q))]
      exact h.cell s u hu
  · intro u hu
    rcases List.mem_or_eq_of_mem_set hu with hu | rfl
    · exact h.one u hu
    · exact hv
  · intro j hj
    refine ⟨?_, by rw [World.frozen?_setCell]; exact (h.there j hj).2⟩
    by_cases e : t = j
    · subst e; rw [World.cell?_setCell_same' _ _ _ hc]; rfl
    · rw [World.cell?_setCell_other _ _ _ _ (fun q => e (by injection q))]; exact (h.there j hj).1

theorem flatC_set (M : Mem) (A : Nat → Option Addr) (C : Nat → Nat) (i : Nat) (v x : Int) (L : List It) (a' : Option Addr) (cap' : Nat) (M' : Mem) (hl : M'.len = M.len) (hc : ∀ j, M'.cell j = if j = i then ⟨v, x, L⟩ else M.cell j) :
    (((flatC M A C).set (i * 3) (.int .u64 v)).set (i * 3 + 1) (.int .i64 x)).set (i * 3 + 2) (.slice a' L.length cap') = flatC M' (fun j => if j = i then a' else A j) (fun j => if j = i then cap' else C j) := by
  apply List.ext_getElem?
  intro t
  by_cases ht : t < M.len * 3
  · rw [List.getElem?_set, List.getElem?_set, List.getElem?_set, flatC_get M' _ _ t (by rw [hl]; exact ht), flatC_get M A C t ht]
    simp only [List.length_set, flatC_length]
    unfold cellC
    dsimp only
    rw [hc]
    by_cases e : t / 3 = i
    · have : t = i * 3 ∨ t = i * 3 + 1 ∨ t = i * 3 + 2 := by omega
      rw [if_pos e, if_pos e, if_pos e]
      rcases this with rfl | rfl | rfl
      · rw [if_neg (by omega), if_neg (by omega), if_pos rfl, if_pos (by omega), if_pos (by omega)]
      · rw [if_neg (by omega), if_pos rfl, if_pos (by omega), if_neg (by omega), if_pos (by omega)]
      · rw [if_pos rfl, if_pos (by omega), if_neg (by omega), if_neg (by omega)]
    · rw [if_neg e, if_neg e, if_neg e, if_neg (by omega), if_neg (by omega), if_neg (by omega)]
  · rw [List.getElem?_eq_none (by simp [flatC_length]; omega), List.getElem?_eq_none (by rw [flatC_length, hl]; omega)]

/-- A memory whose clock has gone on and whose cell was laid anew. -/
theorem mem_laid {w w1 : World} {b i : Nat} {O : Nat → Prop} {M : Mem} (h : MemAt w b O M) (hi : i < M.len) (g cap : Nat) (A : Nat → Option Addr) (C : Nat → Nat) (hr : RowC w b O M (some ⟨g, 0, none⟩) cap A C)
    (x : Int) (L : List It) (a' : Option Addr) (cap' : Nat) (hb0 : But (fun _ => False) (w.setCell ⟨b, 1, none⟩ (.int .u64 ((M.clock + 1 : Nat) : Int))) w1) (hS : SlAt 2 w1 a' cap' L.length (flatI L)) (hF : ∀ j, inB a' j → w.heap.size ≤ j) (hL : L.length ≤ 1000000) (w2 : World)
    (hw2 : w2 = ((w1.setCell ⟨g, i * 3, none⟩ (.int .u64 ((M.clock + 1 : Nat) : Int))).setCell ⟨g, i * 3 + 1, none⟩ (.int .i64 x)).setCell ⟨g, i * 3 + 2, none⟩ (.slice a' L.length cap')) :
    MemAt w2 b (own' O w w2) (M.put i x L) ∧ But O w w2 := by
  have hbl := h.lt b h.ob
  have hgo := hr.own g ⟨_, rfl, rfl⟩
  have hgl := h.lt g hgo.1
  have hput : (M.put i x L).len = M.len := by show max M.len (i + 1) = _; omega
  have hbut : But (fun k => k = g) w1 w2 := by
    rw [hw2]
    exact (((But.refl (fun k => k = g) w1).set1 _ _ rfl _).set1 _ _ rfl _).set1 _ _ rfl _
  have hb : But (fun k => k = b) w w1 := ((But.refl (fun k => k = b) w).set1 b 1 rfl _).then hb0 (fun _ _ e => e.elim)
  have hsz : w2.heap.size = w1.heap.size := by rw [hw2]; simp [World.size_setCell]
  have hneb : ∀ (p q : Nat), (⟨g, p, none⟩ : Addr) ≠ ⟨b, q, none⟩ := fun p q e => by injection e with e1; exact hgo.2 e1
  have hc1 : w1.cell? ⟨b, 1, none⟩ = some (.int .u64 ((M.clock + 1 : Nat) : Int)) := by
    rw [hb0.cell (p := ⟨b, 1, none⟩) (by rw [World.size_setCell]; exact hbl) id, World.cell?_setCell_same' _ _ _ (by rw [h.clk]; rfl)]
  have hc0 : w1.cell? ⟨b, 0, none⟩ = some (.slice (some ⟨g, 0, none⟩) M.len cap) := by
    rw [hb0.cell (p := ⟨b, 0, none⟩) (by rw [World.size_setCell]; exact hbl) id, World.cell?_setCell_other _ _ _ _ (fun e => by injection e with _ e2; cases e2)]
    exact hr.hd
  have hB : But O w w2 := (hb.mono (fun k _ e => by rw [e]; exact h.ob)).then hbut (fun k _ e => by rw [e]; exact hgo.1)
  refine ⟨⟨.inl h.ob, ?_, ⟨some ⟨g, 0, none⟩, cap, fun j => if j = i then a' else A j, fun j => if j = i then cap' else C j, ?_⟩, ?_, ?_, ?_, by rw [hput]; exact h.max, ?_, ?_⟩, hB⟩
  · intro k hk
    rcases hk with hk | hk
    · exact Nat.lt_of_lt_of_le (h.lt k hk) hB.size
    · exact hk.2
  · refine ⟨?_, .inr ⟨g, rfl, ?_⟩, ?_, ?_, ?_⟩
    · rw [hput, hw2, World.cell?_setCell_other _ _ _ _ (hneb _ _), World.cell?_setCell_other _ _ _ _ (hneb _ _), World.cell?_setCell_other _ _ _ _ (hneb _ _)]
      exact hc0
    · rcases hr.sl with ⟨e, _⟩ | ⟨g', e, hf⟩
      · cases e
      · cases e
        have hf1 := hf.but hb hgo.2
        have hlen := flatC_length M A C
        have hf2 := ((hf1.set (t := i * 3) (v := .int .u64 ((M.clock + 1 : Nat) : Int)) (by rw [hlen]; omega) rfl).set (t := i * 3 + 1) (v := .int .i64 x) (by rw [List.length_set, hlen]; omega) rfl).set (t := i * 3 + 2) (v := .slice a' L.length cap') (by rw [List.length_set, List.length_set, hlen]; omega) rfl
        rw [flatC_set M A C i ((M.clock + 1 : Nat) : Int) x L a' cap' (M.put i x L) hput (fun j => rfl), ← hw2] at hf2
        rw [hput]
        exact hf2
    · rintro j ⟨y, hy, rfl⟩; cases hy; exact ⟨.inl hgo.1, hgo.2⟩
    · intro j hj
      rw [hput] at hj
      show SlAt 2 w2 (if j = i then a' else A j) (if j = i then cap' else C j) (if j = i then (⟨((M.clock + 1 : Nat) : Int), x, L⟩ : CV) else M.cell j).L.length (flatI (if j = i then (⟨((M.clock + 1 : Nat) : Int), x, L⟩ : CV) else M.cell j).L)
      by_cases e : j = i
      · rw [if_pos e, if_pos e, if_pos e]
        exact hS.but hbut (fun k hk e => by have := hF k hk; omega)
      · rw [if_neg e, if_neg e, if_neg e]
        refine ((hr.its j hj).but hb (fun k hk => (hr.ito j hj k hk).2.1)).but hbut (fun k hk e => ?_)
        exact (hr.ito j hj k hk).2.2 ⟨_, rfl, e.symm⟩
    · intro j hj k hk
      rw [hput] at hj
      have hk' : inB (if j = i then a' else A j) k := hk
      by_cases e : j = i
      · rw [if_pos e] at hk'
        have h1 := hF k hk'
        have h2 := hS.lt k hk'
        refine ⟨.inr ⟨h1, by omega⟩, by omega, ?_⟩
        rintro ⟨y, hy, hyk⟩; cases hy
        have : g = k := hyk
        omega
      · rw [if_neg e] at hk'
        have h1 := hr.ito j hj k hk'
        exact ⟨.inl h1.1, h1.2.1, h1.2.2⟩
  · show w2.cell? ⟨b, 1, none⟩ = some (.int .u64 ((M.clock + 1 : Nat) : Int))
    rw [hw2, World.cell?_setCell_other _ _ _ _ (hneb _ _), World.cell?_setCell_other _ _ _ _ (hneb _ _), World.cell?_setCell_other _ _ _ _ (hneb _ _)]
    exact hc1
  · rw [hw2, World.frozen?_setCell, World.frozen?_setCell, World.frozen?_setCell, hb0.frozen (p := ⟨b, 0, none⟩) (by rw [World.size_setCell]; exact hbl) id, World.frozen?_setCell]; exact h.fz0
  · rw [hw2, World.frozen?_setCell, World.frozen?_setCell, World.frozen?_setCell, hb0.frozen (p := ⟨b, 1, none⟩) (by rw [World.size_setCell]; exact hbl) id, World.frozen?_setCell]; exact h.fz1
  · intro j hj
    rw [hput] at hj
    show (if j = i then _ else M.cell j) = _
    rw [if_neg (by omega)]; exact h.rest j hj
  · intro j
    show (if j = i then (⟨((M.clock + 1 : Nat) : Int), x, L⟩ : CV) else M.cell j).L.length ≤ _
    by_cases e : j = i
    · rw [if_pos e]; exact hL
    · rw [if_neg e]; exact h.few j

theorem force_no (b : Nat) (i : Int) (x : Int) (s : Value) (w : World) (hi : i < 0 ∨ 1000 ≤ i) :
    Calls Try.prog 56 #[.pointer (some ⟨b, 0, none⟩), .int .i64 i, .agg #[.int .i64 x, s]] w fun e w' => e = .returned (.bool false) ∧ Below w.heap.size w w' := by
  by_cases h0 : i < 0
  · clear hi
    go_enter Try.func56, Try.ntmps56
    go_wp2
    go_ret
    exact ⟨rfl, (Below.refl _ _).alloc (Nat.le_refl _) _⟩
  · have h0' : decide (i < 0) = false := decide_eq_false h0
    have h1 : 1000 ≤ i := by omega
    clear hi h0
    go_enter Try.func56, Try.ntmps56
    go_wp2
    go_ret
    exact ⟨rfl, (Below.refl _ _).alloc (Nat.le_refl _) _⟩

theorem put_reach (M : Mem) (i : Nat) (x : Int) (L : List It) : (M.reach (i + 1)).put i x L = M.put i x L := by
  unfold Mem.put Mem.reach
  simp only [Mem.mk.injEq, and_true]
  omega

set_option maxHeartbeats 4000000 in
theorem force_any (b i : Nat) (O : Nat → Prop) (M : Mem) (x : Int) (a : Option Addr) (cap : Nat) (L : List It) (w : World) (h : MemAt w b O M) (hS : SlAt 2 w a cap L.length (flatI L)) (hO : ∀ j, inB a j → ¬ O j) (hL : L.length ≤ 1000000) (hi : i < 1000) (hck : M.clock < 4611686018427387904) :
    Calls Try.prog 56 #[.pointer (some ⟨b, 0, none⟩), .int .i64 (i : Int), .agg #[.int .i64 x, .slice a L.length cap]] w fun e w' => e = .returned (.bool true) ∧ MemAt w' b (own' O w w') (M.put i x L) ∧ But O w w' := by
  have hbl := h.lt b h.ob
  have hB1 : But (fun _ => False) w (w.alloc (boxV x (.slice a L.length cap))) := (But.refl _ _).alloc _
  have hRe := hidq (reach_any b i O M _ (h.but hB1 (fun _ _ e => e)) hi)
  have hi0 : decide ((i : Int) < 0) = false := decide_eq_false (by omega)
  have hi1 : decide ((1000 : Int) ≤ (i : Int)) = false := decide_eq_false (by omega)
  have HH := hidq h
  have HS := hidq hS
  clear h hS
  go_enter Try.func56, Try.ntmps56
  go_wp2_with fail
  refine hRe.out.mono ?_
  rintro e w1 ⟨rfl, hM, hB2⟩
  have hbl1 := hM.lt b hM.ob
  have hwz : w.heap.size < w1.heap.size := by have := hB2.size; simp at this; omega
  have hOw : ¬ O w.heap.size := fun e => by have := HH.out.lt _ e; omega
  have hck1 := hM.clk
  have hf1 := hM.fz1
  obtain ⟨ar, capr, A, C, hr⟩ := hM.row
  have hlen : i < (M.reach (i + 1)).len := by show i < max M.len (i + 1); omega
  obtain ⟨g, rfl, hg, _⟩ := hr.sl.cell (flatC_0 _ A C i hlen)
  have hd := hr.hd
  have hgo := hr.own g ⟨_, rfl, rfl⟩
  have hle := hr.sl.le
  have hmx := hM.max
  have HA := hidq (show SlAt 2 w1 a cap L.length (flatI L) from (HS.out.but hB1 (fun _ _ e => e)).but hB2 hO)
  have hab : ∀ j, inB a j → ¬ j = b := fun j hj e => hO j hj (by rw [e]; exact HH.out.ob)
  obtain ⟨n, hn⟩ : ∃ n, (M.reach (i + 1)).len = n := ⟨_, rfl⟩
  rw [hn] at hd hlen hle hmx
  have hckr : (M.reach (i + 1)).clock = M.clock := rfl
  rw [hckr] at hck1
  have hNI : (i : Int) < (n : Int) := by omega
  have hle2 : n ≤ capr := hle
  obtain ⟨cv, hcv⟩ : ∃ cv : Int, ((M.clock + 1 : Nat) : Int) = cv := ⟨_, rfl⟩
  have hcv1 : (M.clock : Int) + 1 = cv := by omega
  obtain ⟨ck, hckv⟩ : ∃ ck : Int, (M.clock : Int) = ck := ⟨_, rfl⟩
  rw [hckv] at hck1 hcv1
  have hckb : 0 ≤ ck ∧ ck < 4611686018427387904 := by omega
  have hcl : ∀ k, k < n * 3 → (w1.cell? ⟨g, k, none⟩).isSome = true ∧ w1.frozen? ⟨g, k, none⟩ = false := by
    rcases hr.sl with ⟨e, _⟩ | ⟨g', e, hf⟩
    · cases e
    · cases e
      exact fun k hk => hf.there k (by omega)
  have FIN := hidq (fun w3 a' cap' (hb0 : But (fun _ => False) (w1.setCell ⟨b, 1, none⟩ (.int .u64 cv)) w3) (hS3 : SlAt 2 w3 a' cap' L.length (flatI L)) (hF3 : ∀ j, inB a' j → w1.heap.size ≤ j) =>
    mem_laid hM (by rw [hn]; exact hlen) g capr A C hr x L a' cap' (by rw [hckr, hcv]; exact hb0) hS3 hF3 hL _ rfl)
  rw [put_reach, hckr, hcv] at FIN
  have FC := hidq (fun w3 (hb0 : But (fun _ => False) (w1.setCell ⟨b, 1, none⟩ (.int .u64 cv)) w3) => (show (w3.cell? ⟨b, 0, none⟩ = some (.slice (some ⟨g, 0, none⟩) n capr) ∧ w3.cell? ⟨b, 1, none⟩ = some (.int .u64 cv)) ∧ g < w3.heap.size ∧
      (∃ u0, w3.cell? ⟨g, i * 3, none⟩ = some u0) ∧ (∃ u1, w3.cell? ⟨g, i * 3 + 1, none⟩ = some u1) ∧ (∃ u2, w3.cell? ⟨g, i * 3 + 2, none⟩ = some u2) ∧ w3.frozen? ⟨g, i * 3, none⟩ = false ∧ w3.frozen? ⟨g, i * 3 + 1, none⟩ = false ∧ w3.frozen? ⟨g, i * 3 + 2, none⟩ = false from by
    have hb : But (fun k => k = b) w1 w3 := ((But.refl (fun k => k = b) w1).set1 b 1 rfl _).then hb0 (fun _ _ e => e.elim)
    have hc : ∀ k, k < n * 3 → (∃ u, w3.cell? ⟨g, k, none⟩ = some u) ∧ w3.frozen? ⟨g, k, none⟩ = false := fun k hk => by
      rw [hb.cell (p := ⟨g, k, none⟩) hg hgo.2, hb.frozen (p := ⟨g, k, none⟩) hg hgo.2]
      exact ⟨Option.isSome_iff_exists.1 (hcl k hk).1, (hcl k hk).2⟩
    refine ⟨⟨?_, ?_⟩, Nat.lt_of_lt_of_le hg hb.size, (hc _ (by omega)).1, (hc _ (by omega)).1, (hc _ (by omega)).1, (hc _ (by omega)).2, (hc _ (by omega)).2, (hc _ (by omega)).2⟩
    · rw [hb0.cell (p := ⟨b, 0, none⟩) (by rw [World.size_setCell]; exact hbl1) id, World.cell?_setCell_other _ _ _ _ (fun e => by injection e with _ e2; cases e2)]; exact hd
    · rw [hb0.cell (p := ⟨b, 1, none⟩) (by rw [World.size_setCell]; exact hbl1) id, World.cell?_setCell_same' _ _ _ (by rw [hck1]; rfl)]))
  have hC := hidq (fun W (hW : But (fun k => k = b) w1 W) => vclone_any x a cap L.length _ W (HA.out.but hW hab) hL)
  have hnwb : ¬ w.heap.size = b := by omega
  have bx0 : (w1.setCell ⟨b, 1, none⟩ (.int .u64 cv)).drew.cell? ⟨w.heap.size, 0, none⟩ = some (.int .i64 x) := by
    show (w1.setCell ⟨b, 1, none⟩ (.int .u64 cv)).cell? ⟨w.heap.size, 0, none⟩ = _
    rw [World.cell?_setCell_other _ _ _ _ (fun e => by injection e with e1; exact hnwb e1.symm), hB2.cell (p := ⟨w.heap.size, 0, none⟩) (by simp) hOw]; simp
  have bx1 : (w1.setCell ⟨b, 1, none⟩ (.int .u64 cv)).drew.cell? ⟨w.heap.size, 1, none⟩ = some (.slice a L.length cap) := by
    show (w1.setCell ⟨b, 1, none⟩ (.int .u64 cv)).cell? ⟨w.heap.size, 1, none⟩ = _
    rw [World.cell?_setCell_other _ _ _ _ (fun e => by injection e with e1; exact hnwb e1.symm), hB2.cell (p := ⟨w.heap.size, 1, none⟩) (by simp) hOw]; simp
  have hEND := hidq (fun w2 (hM2 : MemAt w2 b (own' (own' O (w.alloc (boxV x (.slice a L.length cap))) w1) w1 w2) (M.put i x L)) (hBx : But (own' O (w.alloc (boxV x (.slice a L.length cap))) w1) w1 w2) => (show MemAt w2 b (own' O w w2) (M.put i x L) ∧ But O w w2 from by
    refine ⟨hM2.own (fun k hk => ?_) (fun k hk => ?_), ((hB1.mono (fun _ _ e => e.elim)).trans hB2).then hBx (fun k hk e => ?_)⟩
    · have hs1 := hB2.size
      rw [World.size_alloc] at hs1
      have hs2 := hBx.size
      rcases hk with (e | e) | e
      · exact .inl e
      · rw [World.size_alloc] at e; exact .inr ⟨by omega, by omega⟩
      · exact .inr ⟨by omega, by omega⟩
    · rcases hk with e | e
      · exact hM2.lt k (.inl (.inl e))
      · exact e.2
    · rcases e with e | e
      · exact e
      · rw [World.size_alloc] at e; omega))
  have HSZ := hidq (show (w1.setCell ⟨b, 1, none⟩ (.int .u64 cv)).drew.heap.size = w1.heap.size from by show (w1.setCell ⟨b, 1, none⟩ (.int .u64 cv)).heap.size = _; rw [World.size_setCell])
  clear hr hM hcl hB2 hB1 hRe hmx hcv hckv hO hab hck hle hn hgo hckr hOw
  go_wp2
  go_region_with (go_at_call 93; refine (hC.out _ ((But.refl (fun k => k = b) w1).set1 b 1 rfl _).drew).mono ?_; rintro e w3 ⟨a', cap', rfl, hS3, hf3, hb3⟩; have HS3 := hidq hS3; rw [HSZ.out] at hf3; have HF3 := hidq hf3; have hbb : But (fun _ => False) (w1.setCell ⟨b, 1, none⟩ (.int .u64 cv)) w3 := ⟨hb3.os, hb3.tape, hb3.output, hb3.size, fun k hk _ => hb3.block k hk⟩; have HBB := hidq hbb; obtain ⟨⟨e0, e1⟩, e2, ⟨u0, e3⟩, ⟨u1, e4⟩, ⟨u2, e5⟩, e6, e7, e8⟩ := FC.out w3 hbb; clear hS3 hf3 hb3 hbb)
  all_goals go_wp2
  all_goals go_ret
  all_goals exact ⟨rfl, hEND.out _ (FIN.out w3 a' cap' HBB.out HS3.out HF3.out).1 (FIN.out w3 a' cap' HBB.out HS3.out HF3.out).2⟩
end Go.Proofs.Ytepigofpcjmddaa

namespace Go.Proofs.Ytepigofpcjmddaa
open Go.RowKit Go.Sort

/-- What Write does. -/
def Mem.can (M : Mem) (i v : Int) : Bool := decide (0 ≤ i ∧ i < 1000) && ((M.look i).ver == v)
theorem can_yes {M : Mem} {i : Nat} {v : Int} (h : i < 1000) (hv : (M.cell i).ver = v) : M.can (i : Int) v = true := by
  unfold Mem.can; rw [look_nat, hv]; simp; omega

theorem write_no (b : Nat) (O : Nat → Prop) (M : Mem) (i v x : Int) (s : Value) (w : World) (h : MemAt w b O M) (hno : M.can i v = false) :
    Calls Try.prog 27 #[.pointer (some ⟨b, 0, none⟩), .int .i64 i, .int .u64 v, .agg #[.int .i64 x, s]] w fun e w' => e = .returned (.bool false) ∧ Below w.heap.size w w' := by
  have hV := hidq (version_any b O M i _ (h.but (S := fun _ => False) ((But.refl _ _).alloc (boxV x s)) (fun _ _ e => e)))
  by_cases hv : (M.look i).ver = v
  · have hi : i < 0 ∨ 1000 ≤ i := by
      unfold Mem.can at hno
      rw [hv] at hno
      simp at hno
      omega
    rw [hv] at hV
    have hF := hidq (fun W => force_no b i x s W hi)
    clear h hno hv hi
    go_enter Try.func27, Try.ntmps27
    go_wp2_with (first
      | (go_at_call 60; refine hV.out.mono ?_; rintro e w1 ⟨rfl, hw⟩; replace hw := hw.symm; subst hw)
      | (go_at_call 56; refine (hF.out _).mono ?_; rintro e w2 ⟨rfl, hb2⟩))
    go_ret
    exact ⟨rfl, ((Below.refl _ _).alloc (Nat.le_refl _) _).trans (hb2.mono (by simp))⟩
  · have hvb : ((M.look i).ver == v) = false := by simpa using hv
    generalize (M.look i).ver = u at *
    clear h hno hv
    go_enter Try.func27, Try.ntmps27
    go_wp2_with (go_at_call 60; refine hV.out.mono ?_; rintro e w1 ⟨rfl, hw⟩; replace hw := hw.symm; subst hw)
    go_ret
    exact ⟨rfl, (Below.refl _ _).alloc (Nat.le_refl _) _⟩

theorem write_yes (b i : Nat) (O : Nat → Prop) (M : Mem) (v x : Int) (a : Option Addr) (cap : Nat) (L : List It) (w : World) (h : MemAt w b O M) (hS : SlAt 2 w a cap L.length (flatI L)) (hO : ∀ j, inB a j → ¬ O j) (hL : L.length ≤ 1000000) (hi : i < 1000) (hck : M.clock < 4611686018427387904) (hv : (M.cell i).ver = v) :
    Calls Try.prog 27 #[.pointer (some ⟨b, 0, none⟩), .int .i64 (i : Int), .int .u64 v, .agg #[.int .i64 x, .slice a L.length cap]] w fun e w' => e = .returned (.bool true) ∧ MemAt w' b (own' O w w') (M.put i x L) ∧ But O w w' := by
  have hB1 : But (fun _ => False) w (w.alloc (boxV x (.slice a L.length cap))) := (But.refl _ _).alloc _
  have hV := hidq (version_any b O M (i : Int) _ (h.but hB1 (fun _ _ e => e)))
  rw [look_nat, hv] at hV
  have hF := hidq (force_any b i O M x a cap L _ (h.but hB1 (fun _ _ e => e)) (hS.but hB1 (fun _ _ e => e)) hO hL hi hck)
  clear h hS hO hv
  go_enter Try.func27, Try.ntmps27
  go_wp2_with (first
    | (go_at_call 60; refine hV.out.mono ?_; rintro e w1 ⟨rfl, hw⟩; replace hw := hw.symm; subst hw)
    | (go_at_call 56; refine hF.out.mono ?_; rintro e w2 ⟨rfl, hM2, hb2⟩))
  go_ret
  refine ⟨rfl, hM2.own (fun k hk => ?_) (fun k hk => ?_), (hB1.mono (fun _ _ e => e.elim)).trans hb2⟩
  · rcases hk with e | e
    · exact .inl e
    · rw [World.size_alloc] at e; exact .inr ⟨by omega, e.2⟩
  · rcases hk with e | e
    · exact hM2.lt k (.inl e)
    · exact e.2

/-- Write, whichever way it goes. -/
def Mem.write (M : Mem) (i v x : Int) (L : List It) : Mem := if M.can i v = true then M.put i.toNat x L else M
theorem write_as {M : Mem} {i v x : Int} {L : List It} : (M.can i v = true ∧ M.write i v x L = M.put i.toNat x L ∧ ∃ k : Nat, i = (k : Int) ∧ k < 1000 ∧ (M.cell k).ver = v) ∨ (M.can i v = false ∧ M.write i v x L = M) := by
  cases h : M.can i v
  · refine .inr ⟨rfl, ?_⟩
    unfold Mem.write; rw [h]; rfl
  · refine .inl ⟨rfl, ?_, ?_⟩
    · unfold Mem.write; rw [h]; rfl
    · unfold Mem.can at h
      simp at h
      refine ⟨i.toNat, by omega, by omega, ?_⟩
      have := h.2
      unfold Mem.look at this
      rw [if_neg (by omega)] at this
      exact this
theorem own'_lt {O : Nat → Prop} {w w' : World} (h : ∀ k, O k → k < w.heap.size) (hs : w.heap.size ≤ w'.heap.size) : ∀ k, own' O w w' k → k < w'.heap.size := fun k hk => by
  rcases hk with e | e
  · exact Nat.lt_of_lt_of_le (h k e) hs
  · exact e.2
theorem write_any (b : Nat) (O : Nat → Prop) (M : Mem) (i v x : Int) (a : Option Addr) (cap : Nat) (L : List It) (w : World) (h : MemAt w b O M) (hS : SlAt 2 w a cap L.length (flatI L)) (hO : ∀ j, inB a j → ¬ O j) (hL : L.length ≤ 1000000) (hck : M.clock < 4611686018427387904) :
    Calls Try.prog 27 #[.pointer (some ⟨b, 0, none⟩), .int .i64 i, .int .u64 v, .agg #[.int .i64 x, .slice a L.length cap]] w fun e w' => e = .returned (.bool (M.can i v)) ∧ MemAt w' b (own' O w w') (M.write i v x L) ∧ But O w w' := by
  rcases write_as (M := M) (i := i) (v := v) (x := x) (L := L) with ⟨h1, h2, k, rfl, hk, hv⟩ | ⟨h1, h2⟩
  · rw [h1, h2]
    exact write_yes b k O M v x a cap L w h hS hO hL hk hck hv
  · rw [h1, h2]
    refine (write_no b O M i v x _ w h h1).mono ?_
    rintro e w' ⟨rfl, hb⟩
    exact ⟨rfl, (h.below hb).own (fun k e => .inl e) (own'_lt h.lt hb.size), But.of_below hb⟩
/-- Force, whichever way it goes. -/
def inRange (i : Int) : Bool := decide (0 ≤ i ∧ i < 1000)
def Mem.force (M : Mem) (i x : Int) (L : List It) : Mem := if inRange i = true then M.put i.toNat x L else M
theorem force_all (b : Nat) (O : Nat → Prop) (M : Mem) (i x : Int) (a : Option Addr) (cap : Nat) (L : List It) (w : World) (h : MemAt w b O M) (hS : SlAt 2 w a cap L.length (flatI L)) (hO : ∀ j, inB a j → ¬ O j) (hL : L.length ≤ 1000000) (hck : M.clock < 4611686018427387904) :
    Calls Try.prog 56 #[.pointer (some ⟨b, 0, none⟩), .int .i64 i, .agg #[.int .i64 x, .slice a L.length cap]] w fun e w' => e = .returned (.bool (inRange i)) ∧ MemAt w' b (own' O w w') (M.force i x L) ∧ But O w w' := by
  by_cases hr : 0 ≤ i ∧ i < 1000
  · have hd : inRange i = true := decide_eq_true hr
    unfold Mem.force
    rw [hd, if_pos rfl]
    obtain ⟨k, rfl⟩ : ∃ k : Nat, i = (k : Int) := ⟨i.toNat, by omega⟩
    exact force_any b k O M x a cap L w h hS hO hL (by omega) hck
  · have hd : inRange i = false := decide_eq_false hr
    unfold Mem.force
    rw [hd, if_neg (by decide)]
    refine (force_no b i x _ w (by omega)).mono ?_
    rintro e w' ⟨rfl, hb⟩
    exact ⟨rfl, (h.below hb).own (fun k e => .inl e) (own'_lt h.lt hb.size), But.of_below hb⟩
end Go.Proofs.Ytepigofpcjmddaa

namespace Go.Proofs.Ytepigofpcjmddaa.Reg
open Go

/-- What an operation comes to: a value, or a call that returns. -/
def Outcome (P : Program) (K : Value → World → Prop) : Result Next → Prop
  | .ok (.value v) w' => K v w'
  | .ok .skip w' => K undef w'
  | .ok (.enter f args) w' => Calls P f args w' fun e w'' => ∃ v, e = .returned v ∧ K v w''
  | _ => False

theorem outcome_value {P : Program} {K : Value → World → Prop} {v : Value} {w : World} (h : K v w) : Outcome P K (.ok (.value v) w) := h

theorem outcome_wp {P : Program} {o : Oper} {a : Act} {w : World} {K : Value → World → Prop} {N : Act → World → Prop} {Q : Exit → Act → World → Prop}
    (h : Outcome P K ((execOp a.eval o).run P w)) (hn : ∀ v w', K v w' → N (a.put o.dst v) w') : o.wp P a w N Q := by
  unfold Oper.wp
  generalize (execOp a.eval o).run P w = r at *
  cases r with
  | ok n w' =>
    cases n <;> simp only [Outcome, Oper.upon] at h ⊢
    case value v => exact hn _ _ h
    case skip => exact hn _ _ h
    case enter f args =>
      refine Calls.mono h ?_
      rintro e w'' ⟨v, rfl, hk⟩
      exact hn _ _ hk
  | halt x w' => simp [Outcome] at h

/-- The edges lead back, and no two operations write one slot; every slot is there. -/
def fineB (ops : Array Oper) (n : Nat) : Bool :=
  (List.range ops.size).all fun i => match ops[i]? with
    | none => true
    | some o => o.after.all (fun e => decide (e.on < i) || !Region.binds .any e) &&
      (match o.dst with
       | none => true
       | some t => decide (t < n) && (List.range ops.size).all fun j => decide (j = i) || ((ops[j]?).bind (·.dst)) != some t)

theorem fine_back {ops : Array Oper} {n i : Nat} {o : Oper} (h : fineB ops n = true) (ho : ops[i]? = some o) : ∀ e ∈ o.after, Region.binds .any e = true → e.on < i := by
  have hi : i < ops.size := by
    rcases Nat.lt_or_ge i ops.size with h' | h'
    · exact h'
    · rw [Array.getElem?_eq_none h'] at ho; cases ho
  have := List.all_eq_true.1 h i (List.mem_range.2 hi)
  simp only [ho, Bool.and_eq_true] at this
  intro e he hb
  have h2 := this.1
  rw [Array.all_eq_true_iff_forall_mem] at h2
  have h3 := h2 e he
  rw [hb] at h3
  simpa using h3

theorem fine_dst {ops : Array Oper} {n i j t : Nat} {o o' : Oper} (h : fineB ops n = true) (ho : ops[i]? = some o) (ho' : ops[j]? = some o') (hd : o.dst = some t) (hd' : o'.dst = some t) : j = i := by
  have hi : i < ops.size := by
    rcases Nat.lt_or_ge i ops.size with h' | h'
    · exact h'
    · rw [Array.getElem?_eq_none h'] at ho; cases ho
  have hj : j < ops.size := by
    rcases Nat.lt_or_ge j ops.size with h' | h'
    · exact h'
    · rw [Array.getElem?_eq_none h'] at ho'; cases ho'
  have := List.all_eq_true.1 h i (List.mem_range.2 hi)
  simp only [ho, hd, Bool.and_eq_true] at this
  have h2 := List.all_eq_true.1 this.2.2 j (List.mem_range.2 hj)
  simp only [ho', Option.bind_some, hd'] at h2
  simpa using h2

theorem fine_lt {ops : Array Oper} {n i t : Nat} {o : Oper} (h : fineB ops n = true) (ho : ops[i]? = some o) (hd : o.dst = some t) : t < n := by
  have hi : i < ops.size := by
    rcases Nat.lt_or_ge i ops.size with h' | h'
    · exact h'
    · rw [Array.getElem?_eq_none h'] at ho; cases ho
  have := List.all_eq_true.1 h i (List.mem_range.2 hi)
  simp only [ho, hd, Bool.and_eq_true] at this
  simpa using this.2.1

section
variable (P : Program) (ops : Array Oper) (a0 : Act) (R : Nat → Value → World → Prop) (Pres : World → World → Prop) (Inv : Array Bool → World → Prop)

/-- Where the operations that are listed have come up: their slots have their properties, the others are as at the start. -/
structure Fits (L : Array Bool) (a : Act) (w : World) : Prop where
  defers : a.defers = a0.defers
  size : a.tmps.size = a0.tmps.size
  lsize : L.size = ops.size
  val : ∀ j o t, ops[j]? = some o → L.getD j false = true → o.dst = some t → R j (a.eval (.tmp t)) w
  old : ∀ t, (∀ j o, ops[j]? = some o → L.getD j false = true → o.dst ≠ some t) → a.eval (.tmp t) = a0.eval (.tmp t)
  closed : ∀ j o, ops[j]? = some o → L.getD j false = true → ∀ e ∈ o.after, Region.binds .any e = true → L.getD e.on false = true

/-- The slots as a plain function. -/
structure At (L : Array Bool) (ev : Operand → Value) (w : World) : Prop where
  val : ∀ j o t, ops[j]? = some o → L.getD j false = true → o.dst = some t → R j (ev (.tmp t)) w
  old : ∀ t, (∀ j o, ops[j]? = some o → L.getD j false = true → o.dst ≠ some t) → ev (.tmp t) = a0.eval (.tmp t)
  closed : ∀ j o, ops[j]? = some o → L.getD j false = true → ∀ e ∈ o.after, Region.binds .any e = true → L.getD e.on false = true
  const : ∀ v, ev (.const v) = v
  func : ∀ f, ev (.func f) = .func (.func f) #[] #[]
  global : ∀ g, ev (.global g) = .pointer (some ⟨g, 0, none⟩)

/-- What is asked of one operation. -/
def StepAt (i : Nat) (o : Oper) : Prop :=
  ∀ (L : Array Bool) (ev : Operand → Value) (w : World), Inv L w → L.getD i true = false → (∀ e ∈ o.after, Region.binds .any e = true → L.getD e.on false = true) → At ops a0 R L ev w →
    match o.guard with
    | none => Outcome P (fun v w' => R i v w' ∧ Pres w w' ∧ Inv (L.setIfInBounds i true) w') ((execOp ev o).run P w)
    | some (g, want) => (∃ og t b, ops[g]? = some og ∧ og.dst = some t ∧ ev (.tmp t) = .bool b ∧
        if b = want then Outcome P (fun v w' => R i v w' ∧ Pres w w' ∧ Inv (L.setIfInBounds i true) w') ((execOp ev o).run P w)
        else R i undef w ∧ Inv (L.setIfInBounds i true) w) ∨
      ∃ og t, ops[g]? = some og ∧ og.dst = some t ∧ ev (.tmp t) = undef ∧ R i undef w ∧ Inv (L.setIfInBounds i true) w

def AllSteps : Nat → List Oper → Prop
  | _, [] => True
  | k, o :: l => StepAt P ops a0 R Pres Inv k o ∧ AllSteps (k + 1) l
end

section
variable {P : Program} {ops : Array Oper} {a0 : Act} {R : Nat → Value → World → Prop} {Pres : World → World → Prop} {Inv : Array Bool → World → Prop}

theorem StepAt.plain {i : Nat} {o : Oper} (hg : o.guard = none)
    (h : ∀ (L : Array Bool) (ev : Operand → Value) (w : World), Inv L w → L.getD i true = false → (∀ e ∈ o.after, Region.binds .any e = true → L.getD e.on false = true) → At ops a0 R L ev w →
      Outcome P (fun v w' => R i v w' ∧ Pres w w' ∧ Inv (L.setIfInBounds i true) w') ((execOp ev o).run P w)) : StepAt P ops a0 R Pres Inv i o := by
  intro L ev w hI hk hp hA
  rw [hg]; exact h L ev w hI hk hp hA
theorem StepAt.guarded {i g : Nat} {want : Bool} {o : Oper} (hg : o.guard = some (g, want))
    (h : ∀ (L : Array Bool) (ev : Operand → Value) (w : World), Inv L w → L.getD i true = false → (∀ e ∈ o.after, Region.binds .any e = true → L.getD e.on false = true) → At ops a0 R L ev w →
      ∃ og t b, ops[g]? = some og ∧ og.dst = some t ∧ ev (.tmp t) = .bool b ∧
        if b = want then Outcome P (fun v w' => R i v w' ∧ Pres w w' ∧ Inv (L.setIfInBounds i true) w') ((execOp ev o).run P w)
        else R i undef w ∧ Inv (L.setIfInBounds i true) w) : StepAt P ops a0 R Pres Inv i o := by
  intro L ev w hI hk hp hA
  rw [hg]; exact .inl (h L ev w hI hk hp hA)
/-- A guard that is not reached itself. -/
theorem StepAt.unreached {i g : Nat} {want : Bool} {o : Oper} (hg : o.guard = some (g, want))
    (h : ∀ (L : Array Bool) (ev : Operand → Value) (w : World), Inv L w → L.getD i true = false → (∀ e ∈ o.after, Region.binds .any e = true → L.getD e.on false = true) → At ops a0 R L ev w →
      ∃ og t, ops[g]? = some og ∧ og.dst = some t ∧ ev (.tmp t) = undef ∧ R i undef w ∧ Inv (L.setIfInBounds i true) w) : StepAt P ops a0 R Pres Inv i o := by
  intro L ev w hI hk hp hA
  rw [hg]; exact .inr (h L ev w hI hk hp hA)
/-- What is not there says neither yes nor no. -/
theorem yielded_undef {ops : Array Oper} {tmps : Array Value} {g t : Nat} {og : Oper} (hog : ops[g]? = some og) (hd : og.dst = some t) (h : tmps.getD t undef = undef) : yielded ops tmps g = none := by
  unfold yielded
  rw [hog]
  simp only [Option.bind_some, hd]
  rw [Array.getD_eq_getD_getElem?] at h
  cases hx : tmps[t]? with
  | none => rfl
  | some x => rw [hx] at h; simp only [Option.getD_some] at h; subst h; rfl

theorem AllSteps.at : ∀ (l : List Oper) (k : Nat), AllSteps P ops a0 R Pres Inv k l → ∀ (i : Nat) (o : Oper), l[i]? = some o → StepAt P ops a0 R Pres Inv (k + i) o
  | [], _, _, i, o, h => by simp at h
  | x :: l, k, hs, 0, o, h => by simp at h; subst h; exact hs.1
  | x :: l, k, hs, i + 1, o, h => by
    have := AllSteps.at l (k + 1) hs.2 i o (by simpa using h)
    rw [show k + (i + 1) = k + 1 + i by omega]; exact this

theorem Fits.at {L : Array Bool} {a : Act} {w : World} (h : Fits ops a0 R L a w) : At ops a0 R L a.eval w :=
  ⟨h.val, h.old, h.closed, fun _ => rfl, fun _ => rfl, fun _ => rfl⟩

theorem eval_put_same {a : Act} {t : Nat} {v : Value} (h : t < a.tmps.size) : (a.put (some t) v).eval (.tmp t) = v := by
  simp [Act.put, Act.eval, h]
theorem eval_put_other {a : Act} {t u : Nat} {v : Value} (h : t ≠ u) : (a.put (some t) v).eval (.tmp u) = a.eval (.tmp u) := by
  simp [Act.put, Act.eval, Array.getElem?_setIfInBounds_ne h]
theorem size_put {a : Act} {d : Option Tmp} {v : Value} : (a.put d v).tmps.size = a.tmps.size := by
  cases d <;> simp [Act.put]
theorem defers_put {a : Act} {d : Option Tmp} {v : Value} : (a.put d v).defers = a.defers := by
  cases d <;> simp [Act.put]

theorem getD_set_of {L : Array Bool} {i j : Nat} (h : (L.setIfInBounds i true).getD j false = true) : j = i ∨ L.getD j false = true := by
  by_cases e : i = j
  · exact .inl e.symm
  · rw [getD_set_ne false e] at h; exact .inr h

theorem Fits.put {L : Array Bool} {a : Act} {w w' : World} {i : Nat} {o : Oper} {v : Value} (hf : fineB ops a0.tmps.size = true) (ho : ops[i]? = some o)
    (hall : ∀ e ∈ o.after, Region.binds .any e = true → L.getD e.on false = true)
    (hR : ∀ j v, R j v w → R j v w') (h : Fits ops a0 R L a w) (hv : o.dst.isSome → R i v w') : Fits ops a0 R (L.setIfInBounds i true) (a.put o.dst v) w' where
  defers := by rw [defers_put]; exact h.defers
  size := by rw [size_put]; exact h.size
  lsize := by rw [Array.size_setIfInBounds]; exact h.lsize
  val := by
    intro j oj t hj hL hd
    rcases getD_set_of hL with rfl | hL'
    · rw [ho] at hj; injection hj with hj; subst hj
      rw [hd, eval_put_same (by rw [h.size]; exact fine_lt hf ho hd)]
      exact hv (by rw [hd]; rfl)
    · by_cases e : j = i
      · subst e; rw [ho] at hj; injection hj with hj; subst hj
        rw [hd, eval_put_same (by rw [h.size]; exact fine_lt hf ho hd)]
        exact hv (by rw [hd]; rfl)
      · cases hd' : o.dst with
        | none => exact hR _ _ (h.val j oj t hj hL' hd)
        | some u =>
          have hne : u ≠ t := fun e2 => e (fine_dst hf ho hj (e2 ▸ hd') hd)
          rw [eval_put_other hne]; exact hR _ _ (h.val j oj t hj hL' hd)
  old := by
    intro t hno
    have h1 : a.eval (.tmp t) = a0.eval (.tmp t) := h.old t (fun j oj hj hL => hno j oj hj (getD_set_true hL))
    cases hd' : o.dst with
    | none => exact h1
    | some u =>
      have hlt : i < L.size := by
        rcases Nat.lt_or_ge i ops.size with h' | h'
        · rw [h.lsize]; exact h'
        · rw [Array.getElem?_eq_none h'] at ho; cases ho
      have hne : u ≠ t := fun e2 => hno i o ho (by simp [hlt]) (e2 ▸ hd')
      rw [eval_put_other hne]; exact h1
  closed := by
    intro j oj hj hL e he hb
    rcases getD_set_of hL with rfl | hL'
    · rw [ho] at hj; injection hj with hj; subst hj
      exact getD_set_true (hall e he hb)
    · exact getD_set_true (h.closed j oj hj hL' e he hb)

/-- Nothing may come up: all have. -/
theorem all_listed {n : Nat} {L : Array Bool} (hf : fineB ops n = true) (hl : L.size = ops.size) (hr : Region.ready .any ops L = []) : ∀ i, i < ops.size → L.getD i false = true := by
  intro i
  induction i using Nat.strongRecOn with
  | ind i ih =>
    intro hi
    have ho : ops[i]? = some ops[i] := Array.getElem?_eq_getElem hi
    cases hL : L.getD i false with
    | true => rfl
    | false =>
      have hm : i ∈ Region.ready .any ops L := by
        rw [mem_ready]
        refine ⟨?_, ops[i], ho, fun e he hb => ih e.on (fine_back hf ho e he hb) (Nat.lt_trans (fine_back hf ho e he hb) hi)⟩
        have hlt : i < L.size := by omega
        simp [hlt] at hL ⊢; exact hL
      rw [hr] at hm; cases hm

theorem count_set {L : Array Bool} {i : Nat} (h : L.getD i true = false) : (L.setIfInBounds i true).toList.countP (! ·) + 1 = L.toList.countP (! ·) := by
  have hlt : i < L.size := by
    rcases Nat.lt_or_ge i L.size with h' | h'
    · exact h'
    · simp [Array.getElem?_eq_none h'] at h
  have hv : L[i] = false := by simpa [hlt] using h
  have hp : 0 < L.toList.countP (! ·) := List.countP_pos_iff.2 ⟨L[i], by simp, by simp [hv]⟩
  rw [Array.toList_setIfInBounds, List.countP_set (by simpa using hlt)]
  have e : (L.toList)[i]'(by simpa using hlt) = false := by simpa using hv
  rw [e]
  show L.toList.countP (! ·) - 1 + 0 + 1 = _
  omega

/-- The rule, from any stage on. -/
theorem wpAny_of_steps {Q : Exit → Act → World → Prop} (hf : fineB ops a0.tmps.size = true) (hR : ∀ j v w w', Pres w w' → R j v w → R j v w')
    (hs : ∀ i o, ops[i]? = some o → StepAt P ops a0 R Pres Inv i o) (hrefl : ∀ w, Pres w w)
    (hend : ∀ L a w, (∀ i, i < ops.size → L.getD i false = true) → Inv L w → Fits ops a0 R L a w → Q .normal a w) :
    ∀ (fuel : Nat) (L : Array Bool) (a : Act) (w : World), L.toList.countP (! ·) = fuel → Inv L w → Fits ops a0 R L a w → wpAny P .any ops Q fuel L a w := by
  intro fuel
  induction fuel with
  | zero =>
    intro L a w hc hI hF
    have hr : Region.ready .any ops L = [] := by
      cases h : Region.ready .any ops L with
      | nil => rfl
      | cons x xs =>
        have hx : x ∈ Region.ready .any ops L := by rw [h]; simp
        have := count_set (mem_ready.1 hx).1
        omega
    exact ⟨hr, hend L a w (all_listed hf hF.lsize hr) hI hF⟩
  | succ fuel ih =>
    intro L a w hc hI hF
    refine ⟨fun hr => hend L a w (all_listed hf hF.lsize hr) hI hF, fun i hi => ?_⟩
    obtain ⟨h0, o, ho, hall⟩ := mem_ready.1 hi
    have hst := hs i o ho L a.eval w hI h0 hall hF.at
    have hcs := count_set h0
    unfold wpOp
    simp only [ho]
    have go : Outcome P (fun v w' => R i v w' ∧ Pres w w' ∧ Inv (L.setIfInBounds i true) w') ((execOp a.eval o).run P w) →
        o.wp P a w (wpAny P .any ops Q fuel (L.setIfInBounds i true)) Q := fun h =>
      outcome_wp h fun v w' ⟨h1, h2, h3⟩ => ih _ _ _ (by omega) h3 (hF.put hf ho hall (fun j v => hR j v w w' h2) (fun _ => h1))
    cases hg : o.guard with
    | none =>
      rw [hg] at hst
      rw [if_pos (by simp [Region.wanted, hg])]
      exact .inl (go hst)
    | some gw =>
      obtain ⟨g, want⟩ := gw
      rw [hg] at hst
      rcases hst with ⟨og, t, b, hog, hd, hev, hcase⟩ | ⟨og, t, hog, hd, hev, hcase⟩
      case inr =>
        have hy : yielded ops a.tmps g = none := yielded_undef hog hd hev
        rw [if_neg (by simp [Region.wanted, hg, hy])]
        exact ih _ _ _ (by omega) hcase.2 (hF.put hf ho hall (fun j v => hR j v w w (hrefl w)) (fun _ => hcase.1))
      have hy : yielded ops a.tmps g = some b := by
        have hb : a.tmps[t]? = some (.bool b) := by
          have : a.tmps.getD t undef = .bool b := hev
          rw [Array.getD_eq_getD_getElem?] at this
          cases h : a.tmps[t]? with
          | none => rw [h] at this; cases this
          | some x => rw [h] at this; simpa using this
        simp [yielded, hog, hd, hb]
      by_cases hbw : b = want
      · rw [if_pos hbw] at hcase
        rw [if_pos (by simp [Region.wanted, hg, hy, hbw])]
        exact .inl (go hcase)
      · rw [if_neg hbw] at hcase
        rw [if_neg (by simp [Region.wanted, hg, hy, hbw])]
        exact ih _ _ _ (by omega) hcase.2 (hF.put hf ho hall (fun j v => hR j v w w (hrefl w)) (fun _ => hcase.1))

/-- No operation writes slot t. -/
def noneWrites (ops : Array Oper) (t : Nat) : Bool := ops.all fun o => o.dst != some t
/-- None but number j writes slot t. -/
def onlyWrites (ops : Array Oper) (t j : Nat) : Bool := (List.range ops.size).all fun i => decide (i = j) || ((ops[i]?).bind (·.dst)) != some t

theorem At.oldNone {L : Array Bool} {ev : Operand → Value} {w : World} (h : At ops a0 R L ev w) (t : Nat) (hb : noneWrites ops t = true) : ev (.tmp t) = a0.eval (.tmp t) := by
  refine h.old t fun j o ho _ hd => ?_
  have := (Array.all_eq_true_iff_forall_mem.1 hb) o (Array.mem_of_getElem? ho)
  simp [hd] at this

theorem At.oldBut {L : Array Bool} {ev : Operand → Value} {w : World} {i : Nat} (h : At ops a0 R L ev w) (j : Nat) (oj : Oper) (t : Nat) (hb : onlyWrites ops t j = true) (hj : ops[j]? = some oj)
    (e : Edge) (he : e ∈ oj.after) (hbi : Region.binds .any e = true) (hi : L.getD i true = false) (hei : e.on = i := by rfl) : ev (.tmp t) = a0.eval (.tmp t) := by
  refine h.old t fun k o ho hL hd => ?_
  have hk : k < ops.size := by
    rcases Nat.lt_or_ge k ops.size with h' | h'
    · exact h'
    · rw [Array.getElem?_eq_none h'] at ho; cases ho
  have h1 := List.all_eq_true.1 hb k (List.mem_range.2 hk)
  simp only [ho, Option.bind_some, hd] at h1
  have hkj : k = j := by simpa using h1
  subst hkj
  have h2 := h.closed k oj hj hL e he hbi
  rw [hei] at h2
  rcases Nat.lt_or_ge i L.size with h' | h'
  · simp [h'] at h2 hi; rw [hi] at h2; cases h2
  · simp [Array.getElem?_eq_none h'] at h2

/-- Properties by a list. -/
def ofList (l : List (Value → World → Prop)) : Nat → Value → World → Prop := fun j => l.getD j (fun _ _ => True)

/-- Each of them is kept. -/
def AllKept (Pres : World → World → Prop) : List (Value → World → Prop) → Prop
  | [] => True
  | p :: l => (∀ v w w', Pres w w' → p v w → p v w') ∧ AllKept Pres l

theorem AllKept.at {Pres : World → World → Prop} : ∀ (l : List (Value → World → Prop)), AllKept Pres l → ∀ j v w w', Pres w w' → ofList l j v w → ofList l j v w'
  | [], _, _, _, _, _, _, _ => trivial
  | _ :: _, h, 0, v, w, w', hp, hv => h.1 v w w' hp hv
  | _ :: l, h, j + 1, v, w, w', hp, hv => AllKept.at l h.2 j v w w' hp hv

theorem out_new {K : Value → World → Prop} {ev : Operand → Value} {o : Oper} {w w' : World} {v : Value} (hrun : (execOp ev o).run P w = .ok (.value v) w') (hk : K v w') :
    Outcome P K ((execOp ev o).run P w) := by
  rw [hrun]; exact hk
theorem out_value {K : Value → World → Prop} {ev : Operand → Value} {o : Oper} {w : World} {v : Value} (hrun : (execOp ev o).run P w = .ok (.value v) w) (hk : K v w) :
    Outcome P K ((execOp ev o).run P w) := by
  rw [hrun]; exact hk
theorem out_call {f : Nat} {K : Value → World → Prop} {ev : Operand → Value} {o : Oper} {w w0 : World} {args : Array Value} (hrun : (execOp ev o).run P w = .ok (.enter f args) w0)
    (hc : Calls P f args w0 fun e w'' => ∃ v, e = .returned v ∧ K v w'') : Outcome P K ((execOp ev o).run P w) := by
  rw [hrun]; exact hc

/-- THE RULE. -/
theorem wp_region_props {id : Nat} {l : List Oper} {Q : Exit → Act → World → Prop} {w : World} (R : Nat → Value → World → Prop) (Pres : World → World → Prop) (Inv : Array Bool → World → Prop)
    (hm : P.follows .mixedOrders = true) (hf : fineB l.toArray a0.tmps.size = true) (hR : ∀ j v w w', Pres w w' → R j v w → R j v w') (hrefl : ∀ w, Pres w w)
    (hI : Inv (Array.replicate l.length false) w.drew)
    (hs : AllSteps P l.toArray a0 R Pres Inv 0 l)
    (hend : ∀ L a w, (∀ i, i < l.length → L.getD i false = true) → Inv L w → Fits l.toArray a0 R L a w → Q .normal a w) : (Code.region id l.toArray true).wp P Q a0 w := by
  refine wp_region_any hm ?_
  refine wpAny_of_steps (Pres := Pres) (Inv := Inv) (R := R) (a0 := a0) hf hR ?_ hrefl (by simpa using hend) _ _ _ _ ?_ (by simpa using hI) ?_
  · intro i o ho
    have := hs.at l 0 i o (by simpa using ho)
    simpa using this
  · simp [List.countP_replicate]
  · refine ⟨rfl, rfl, by simp, ?_, fun _ _ => rfl, ?_⟩
    · intro j o t ho hL
      exfalso
      rw [Array.getD_eq_getD_getElem?] at hL
      by_cases hj : j < l.toArray.size
      · simp at hj; simp [hj] at hL
      · simp at hj; simp [hj] at hL
    · intro j o ho hL
      exfalso
      rw [Array.getD_eq_getD_getElem?] at hL
      by_cases hj : j < l.toArray.size
      · simp at hj; simp [hj] at hL
      · simp at hj; simp [hj] at hL
end

/-- A slice of just these values, in a block of its own. -/
def OwnSl (l : List Value) (v : Value) (w : World) : Prop :=
  ∃ sb, v = .slice (some ⟨sb, 0, none⟩) l.length l.length ∧ sb < w.heap.size ∧ ∀ i (h : i < l.length), w.cell? ⟨sb, i, none⟩ = some l[i]
/-- Nothing that was there is another one. -/
def Keeps (w w' : World) : Prop := RowKit.Below w.heap.size w w'
theorem Keeps.refl (w : World) : Keeps w w := RowKit.Below.refl _ _
theorem Keeps.drewN {w w' : World} (h : Keeps w w') (n : Nat) : Keeps w (w'.drewN n) := ⟨h.os, h.tape, h.output, h.size, h.block⟩
theorem Keeps.alloc {w w' : World} (h : Keeps w w') (o : Obj) : Keeps w (w'.alloc o) := RowKit.Below.alloc h h.size o
theorem Keeps.trans {w w' w'' : World} (h : Keeps w w') (k : Keeps w' w'') : Keeps w w'' := RowKit.Below.trans h (RowKit.Below.mono k h.size)
theorem OwnSl.keeps {l : List Value} {v : Value} {w w' : World} (hk : Keeps w w') (h : OwnSl l v w) : OwnSl l v w' := by
  obtain ⟨sb, hv, hs, hc⟩ := h
  refine ⟨sb, hv, Nat.lt_of_lt_of_le hs hk.size, fun i hi => ?_⟩
  rw [hk.cell (p := ⟨sb, i, none⟩) hs]; exact hc i hi
theorem OwnSl.new (l : List Value) (w : World) (t : TypeId) (n : Nat) (hn : n = l.length) : OwnSl l (.slice (some ⟨w.heap.size, 0, none⟩) n n) (w.alloc (.cells l.toArray t)) := by
  subst hn
  refine ⟨w.heap.size, rfl, by simp, fun i hi => ?_⟩
  rw [World.cell?_alloc_new]; simp [hi]
end Go.Proofs.Ytepigofpcjmddaa.Reg

namespace Go.Proofs.Ytepigofpcjmddaa.Reg
open Go

section
variable {γ : Type} (P : Program) (ops : Array Oper) (a0 : Act) (R : Nat → Value → γ → World → Prop) (Pres : γ → World → γ → World → Prop) (Inv : γ → Array Bool → World → Prop)

/-- What is asked of one operation. -/
def GStepAt (i : Nat) (o : Oper) : Prop :=
  ∀ (x : γ) (L : Array Bool) (ev : Operand → Value) (w : World), Inv x L w → L.getD i true = false → (∀ e ∈ o.after, Region.binds .any e = true → L.getD e.on false = true) → At ops a0 (fun j v w => R j v x w) L ev w →
    match o.guard with
    | none => Outcome P (fun v w' => ∃ x', R i v x' w' ∧ Pres x w x' w' ∧ Inv x' (L.setIfInBounds i true) w') ((execOp ev o).run P w)
    | some (g, want) => ∃ og t b, ops[g]? = some og ∧ og.dst = some t ∧ ev (.tmp t) = .bool b ∧
        if b = want then Outcome P (fun v w' => ∃ x', R i v x' w' ∧ Pres x w x' w' ∧ Inv x' (L.setIfInBounds i true) w') ((execOp ev o).run P w)
        else R i undef x w ∧ Inv x (L.setIfInBounds i true) w

def GAllSteps : Nat → List Oper → Prop
  | _, [] => True
  | k, o :: l => GStepAt P ops a0 R Pres Inv k o ∧ GAllSteps (k + 1) l
end

section
variable {γ : Type} {P : Program} {ops : Array Oper} {a0 : Act} {R : Nat → Value → γ → World → Prop} {Pres : γ → World → γ → World → Prop} {Inv : γ → Array Bool → World → Prop}

theorem GStepAt.plain {i : Nat} {o : Oper} (hg : o.guard = none)
    (h : ∀ (x : γ) (L : Array Bool) (ev : Operand → Value) (w : World), Inv x L w → L.getD i true = false → (∀ e ∈ o.after, Region.binds .any e = true → L.getD e.on false = true) → At ops a0 (fun j v w => R j v x w) L ev w →
      Outcome P (fun v w' => ∃ x', R i v x' w' ∧ Pres x w x' w' ∧ Inv x' (L.setIfInBounds i true) w') ((execOp ev o).run P w)) : GStepAt P ops a0 R Pres Inv i o := by
  intro x L ev w hI hk hp hA
  rw [hg]; exact h x L ev w hI hk hp hA
theorem GStepAt.guarded {i g : Nat} {want : Bool} {o : Oper} (hg : o.guard = some (g, want))
    (h : ∀ (x : γ) (L : Array Bool) (ev : Operand → Value) (w : World), Inv x L w → L.getD i true = false → (∀ e ∈ o.after, Region.binds .any e = true → L.getD e.on false = true) → At ops a0 (fun j v w => R j v x w) L ev w →
      ∃ og t, ops[g]? = some og ∧ og.dst = some t ∧ ev (.tmp t) = .bool want ∧
        Outcome P (fun v w' => ∃ x', R i v x' w' ∧ Pres x w x' w' ∧ Inv x' (L.setIfInBounds i true) w') ((execOp ev o).run P w)) : GStepAt P ops a0 R Pres Inv i o := by
  intro x L ev w hI hk hp hA
  rw [hg]
  obtain ⟨og, t, h1, h2, h3, h4⟩ := h x L ev w hI hk hp hA
  exact ⟨og, t, want, h1, h2, h3, by rw [if_pos rfl]; exact h4⟩

theorem GAllSteps.at : ∀ (l : List Oper) (k : Nat), GAllSteps P ops a0 R Pres Inv k l → ∀ (i : Nat) (o : Oper), l[i]? = some o → GStepAt P ops a0 R Pres Inv (k + i) o
  | [], _, _, i, o, h => by simp at h
  | x :: l, k, hs, 0, o, h => by simp at h; subst h; exact hs.1
  | x :: l, k, hs, i + 1, o, h => by
    have := GAllSteps.at l (k + 1) hs.2 i o (by simpa using h)
    rw [show k + (i + 1) = k + 1 + i by omega]; exact this

/-- The properties turned, all at once. -/
theorem Fits.turn {R R' : Nat → Value → World → Prop} {L : Array Bool} {a : Act} {w w' : World} (h : Fits ops a0 R L a w) (hR : ∀ j v, R j v w → R' j v w') : Fits ops a0 R' L a w' :=
  ⟨h.defers, h.size, h.lsize, fun j o t h1 h2 h3 => hR _ _ (h.val j o t h1 h2 h3), h.old, h.closed⟩

theorem gwpAny_of_steps {Q : Exit → Act → World → Prop} (hf : fineB ops a0.tmps.size = true) (hR : ∀ j v x w x' w', Pres x w x' w' → R j v x w → R j v x' w')
    (hs : ∀ i o, ops[i]? = some o → GStepAt P ops a0 R Pres Inv i o)
    (hend : ∀ x L a w, (∀ i, i < ops.size → L.getD i false = true) → Inv x L w → Fits ops a0 (fun j v w => R j v x w) L a w → Q .normal a w) :
    ∀ (fuel : Nat) (x : γ) (L : Array Bool) (a : Act) (w : World), L.toList.countP (! ·) = fuel → Inv x L w → Fits ops a0 (fun j v w => R j v x w) L a w → wpAny P .any ops Q fuel L a w := by
  intro fuel
  induction fuel with
  | zero =>
    intro x L a w hc hI hF
    have hr : Region.ready .any ops L = [] := by
      cases h : Region.ready .any ops L with
      | nil => rfl
      | cons y ys =>
        have hx : y ∈ Region.ready .any ops L := by rw [h]; simp
        have := count_set (mem_ready.1 hx).1
        omega
    exact ⟨hr, hend x L a w (all_listed hf hF.lsize hr) hI hF⟩
  | succ fuel ih =>
    intro x L a w hc hI hF
    refine ⟨fun hr => hend x L a w (all_listed hf hF.lsize hr) hI hF, fun i hi => ?_⟩
    obtain ⟨h0, o, ho, hall⟩ := mem_ready.1 hi
    have hst := hs i o ho x L a.eval w hI h0 hall hF.at
    have hcs := count_set h0
    unfold wpOp
    simp only [ho]
    have go : Outcome P (fun v w' => ∃ x', R i v x' w' ∧ Pres x w x' w' ∧ Inv x' (L.setIfInBounds i true) w') ((execOp a.eval o).run P w) →
        o.wp P a w (wpAny P .any ops Q fuel (L.setIfInBounds i true)) Q := fun h =>
      outcome_wp h fun v w' ⟨x', h1, h2, h3⟩ => ih x' _ _ _ (by omega) h3 ((hF.turn (R' := fun j v w => R j v x' w) (w' := w') (fun j v => hR j v x w x' w' h2)).put hf ho hall (fun _ _ h => h) (fun _ => h1))
    cases hg : o.guard with
    | none =>
      rw [hg] at hst
      rw [if_pos (by simp [Region.wanted, hg])]
      exact .inl (go hst)
    | some gw =>
      obtain ⟨g, want⟩ := gw
      rw [hg] at hst
      obtain ⟨og, t, b, hog, hd, hev, hcase⟩ := hst
      have hy : yielded ops a.tmps g = some b := by
        have hb : a.tmps[t]? = some (.bool b) := by
          have : a.tmps.getD t undef = .bool b := hev
          rw [Array.getD_eq_getD_getElem?] at this
          cases h : a.tmps[t]? with
          | none => rw [h] at this; cases this
          | some y => rw [h] at this; simpa using this
        simp [yielded, hog, hd, hb]
      by_cases hbw : b = want
      · rw [if_pos hbw] at hcase
        rw [if_pos (by simp [Region.wanted, hg, hy, hbw])]
        exact .inl (go hcase)
      · rw [if_neg hbw] at hcase
        rw [if_neg (by simp [Region.wanted, hg, hy, hbw])]
        exact ih x _ _ _ (by omega) hcase.2 (hF.put hf ho hall (fun _ _ h => h) (fun _ => hcase.1))

/-- THE RULE, with a ghost. -/
theorem wp_region_ghost {id : Nat} {l : List Oper} {Q : Exit → Act → World → Prop} {w : World} (R : Nat → Value → γ → World → Prop) (Pres : γ → World → γ → World → Prop) (Inv : γ → Array Bool → World → Prop) (x0 : γ)
    (hm : P.follows .mixedOrders = true) (hf : fineB l.toArray a0.tmps.size = true) (hR : ∀ j v x w x' w', Pres x w x' w' → R j v x w → R j v x' w')
    (hI : Inv x0 (Array.replicate l.length false) w.drew)
    (hs : GAllSteps P l.toArray a0 R Pres Inv 0 l)
    (hend : ∀ x L a w, (∀ i, i < l.length → L.getD i false = true) → Inv x L w → Fits l.toArray a0 (fun j v w => R j v x w) L a w → Q .normal a w) : (Code.region id l.toArray true).wp P Q a0 w := by
  refine wp_region_any hm ?_
  refine gwpAny_of_steps (Pres := Pres) (Inv := Inv) (R := R) (a0 := a0) hf hR ?_ (by simpa using hend) _ x0 _ _ _ ?_ (by simpa using hI) ?_
  · intro i o ho
    have := hs.at l 0 i o (by simpa using ho)
    simpa using this
  · simp [List.countP_replicate]
  · refine ⟨rfl, rfl, by simp, ?_, fun _ _ => rfl, ?_⟩
    · intro j o t ho hL
      exfalso
      rw [Array.getD_eq_getD_getElem?] at hL
      by_cases hj : j < l.toArray.size
      · simp at hj; simp [hj] at hL
      · simp at hj; simp [hj] at hL
    · intro j o ho hL
      exfalso
      rw [Array.getD_eq_getD_getElem?] at hL
      by_cases hj : j < l.toArray.size
      · simp at hj; simp [hj] at hL
      · simp at hj; simp [hj] at hL

/-- Properties by a list. -/
def gofList (l : List (Value → γ → World → Prop)) : Nat → Value → γ → World → Prop := fun j => l.getD j (fun _ _ _ => True)
def GAllKept (Pres : γ → World → γ → World → Prop) : List (Value → γ → World → Prop) → Prop
  | [] => True
  | p :: l => (∀ v x w x' w', Pres x w x' w' → p v x w → p v x' w') ∧ GAllKept Pres l
theorem GAllKept.at {Pres : γ → World → γ → World → Prop} : ∀ (l : List (Value → γ → World → Prop)), GAllKept Pres l → ∀ j v x w x' w', Pres x w x' w' → gofList l j v x w → gofList l j v x' w'
  | [], _, _, _, _, _, _, _, _, _ => trivial
  | _ :: _, h, 0, v, x, w, x', w', hp, hv => h.1 v x w x' w' hp hv
  | _ :: l, h, j + 1, v, x, w, x', w', hp, hv => GAllKept.at l h.2 j v x w x' w' hp hv
end
end Go.Proofs.Ytepigofpcjmddaa.Reg

namespace Go.Proofs.Ytepigofpcjmddaa
open Go.RowKit
namespace Reg

theorem fold_size (f : Nat → Value) : ∀ (ds : List Nat) (T : Array Value), (ds.foldl (fun T t => T.setIfInBounds t (f t)) T).size = T.size
  | [], _ => rfl
  | d :: ds, T => by rw [List.foldl_cons, fold_size f ds]; simp
theorem fold_get (f : Nat → Value) : ∀ (ds : List Nat) (T : Array Value) (i : Nat), i < T.size → (ds.foldl (fun T t => T.setIfInBounds t (f t)) T)[i]? = if ds.contains i = true then some (f i) else T[i]?
  | [], T, i, _ => by simp
  | d :: ds, T, i, h => by
    rw [List.foldl_cons, fold_get f ds _ i (by simpa using h), Array.getElem?_setIfInBounds]
    by_cases e : ds.contains i = true
    · rw [if_pos e, if_pos (by simp at e ⊢; exact .inr e)]
    · rw [if_neg e]
      by_cases e2 : d = i
      · subst e2; rw [if_pos rfl, if_pos h, if_pos (by simp)]
      · rw [if_neg e2, if_neg (by simp at e ⊢; exact ⟨fun q => e2 q.symm, e⟩)]

def coversB (ops : Array Oper) (ds : List Nat) : Bool := (List.range ops.size).all fun j => match (ops[j]?).bind (·.dst) with | none => true | some t => ds.contains t
theorem covers_at {ops : Array Oper} {ds : List Nat} (h : coversB ops ds = true) {j t : Nat} {o : Oper} (ho : ops[j]? = some o) (hd : o.dst = some t) : ds.contains t = true := by
  have hj : j < ops.size := by
    rcases Nat.lt_or_ge j ops.size with h' | h'
    · exact h'
    · rw [Array.getElem?_eq_none h'] at ho; cases ho
  have := List.all_eq_true.1 h j (List.mem_range.2 hj)
  simp only [ho, Option.bind_some, hd] at this
  exact this

theorem Fits.act {ops : Array Oper} {a0 : Act} {R : Nat → Value → World → Prop} {L : Array Bool} {a : Act} {w : World} (hF : Fits ops a0 R L a w) (ds : List Nat) (hc : coversB ops ds = true) :
    a = ⟨ds.foldl (fun T t => T.setIfInBounds t (a.eval (.tmp t))) a0.tmps, a0.defers⟩ := by
  have hsz := hF.size
  have hdf := hF.defers
  have hold : ∀ t, ds.contains t = false → a.eval (.tmp t) = a0.eval (.tmp t) := fun t ht => hF.old t (fun j o ho _ hd => by rw [covers_at hc ho hd] at ht; cases ht)
  have hev : ∀ t, a.eval (.tmp t) = a.tmps.getD t undef := fun _ => rfl
  have hev0 : ∀ t, a0.eval (.tmp t) = a0.tmps.getD t undef := fun _ => rfl
  have ht : a.tmps = ds.foldl (fun T t => T.setIfInBounds t (a.eval (.tmp t))) a0.tmps := by
    apply Array.ext_getElem?
    intro i
    by_cases hi : i < a0.tmps.size
    · rw [fold_get (fun t => a.eval (.tmp t)) ds a0.tmps i hi]
      have hia : i < a.tmps.size := by rw [hsz]; exact hi
      cases e : ds.contains i
      · rw [if_neg (by decide)]
        have := hold i e
        rw [hev, hev0, Array.getD_eq_getD_getElem?, Array.getD_eq_getD_getElem?, Array.getElem?_eq_getElem hia, Array.getElem?_eq_getElem hi] at this
        rw [Array.getElem?_eq_getElem hia, Array.getElem?_eq_getElem hi]
        exact congrArg some this
      · rw [if_pos rfl, hev, Array.getD_eq_getD_getElem?, Array.getElem?_eq_getElem hia]
        rfl
    · rw [Array.getElem?_eq_none (by rw [hsz]; omega), Array.getElem?_eq_none (by rw [fold_size]; omega)]
  obtain ⟨t, d⟩ := a
  simp only at hdf
  subst hdf
  exact congrArg (fun q => (⟨q, a0.defers⟩ : Act)) ht
end Reg
end Go.Proofs.Ytepigofpcjmddaa
