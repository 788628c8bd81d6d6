/-
  Layer 5: Force, Write: contracts.
  Layer 5: Write: contracts.
  Layer 5: how many cells, the clock: contracts.
  Layer 5's law of versions: what its map says, and its memory: mathematics.
  The low bits of an int.
  Layer 5: what the laws ask first: contract.
  Layer 5's laws: a cell's number, most of the first ten: contract.
-/
import Derived.Test.YtepigofpcjmddaaMem5bAll
import Derived.Maps.OwnSet
import Derived.Maps.OwnOps
import Derived.Maps.Views
import Derived.Test.YtepigofpcjmddaaChecked
import Derived.WalkKit
import Derived.Laws.Bits128
namespace Go.Proofs.Ytepigofpcjmddaa
open Go.RowKit Go.Sort

/-- One cell of a row is laid anew. -/
theorem Flat.set {k g cap n t : Nat} {w : World} {l : List Value} {v : Value} (h : Flat k w g cap n l) (ht : t < l.length) (hv : v.oneCell' = true) : Flat k (w.setCell ⟨g, t, none⟩ v) g cap n (l.set t v) := by
  have hc : (w.cell? ⟨g, t, none⟩).isSome = true := by rw [h.cell t _ (List.getElem?_eq_getElem ht)]; rfl
  refine ⟨by rw [World.size_setCell]; exact h.lt, by rw [List.length_set]; exact h.len, h.le, h.cmax, ?_, ?_, ?_⟩
  · intro s u hu
    rw [List.getElem?_set] at hu
    by_cases e : t = s
    · subst e
      rw [if_pos rfl, if_pos ht] at hu
      cases hu
      rw [World.cell?_setCell_same' _ _ _ hc]
    · rw [if_neg e] at hu
      rw [World.cell?_setCell_other _ _ _ _ (fun q => e (by injection q))]
      exact h.cell s u hu
  · intro u hu
    rcases List.mem_or_eq_of_mem_set hu with hu | rfl
    · exact h.one u hu
    · exact hv
  · intro j hj
    refine ⟨?_, by rw [World.frozen?_setCell]; exact (h.there j hj).2⟩
    by_cases e : t = j
    · subst e; rw [World.cell?_setCell_same' _ _ _ hc]; rfl
    · rw [World.cell?_setCell_other _ _ _ _ (fun q => e (by injection q))]; exact (h.there j hj).1

theorem flatC_set (M : Mem) (A : Nat → Option Addr) (C : Nat → Nat) (i : Nat) (v x : Int) (L : List It) (a' : Option Addr) (cap' : Nat) (M' : Mem) (hl : M'.len = M.len) (hc : ∀ j, M'.cell j = if j = i then ⟨v, x, L⟩ else M.cell j) :
    (((flatC M A C).set (i * 3) (.int .u64 v)).set (i * 3 + 1) (.int .i64 x)).set (i * 3 + 2) (.slice a' L.length cap') = flatC M' (fun j => if j = i then a' else A j) (fun j => if j = i then cap' else C j) := by
  apply List.ext_getElem?
  intro t
  by_cases ht : t < M.len * 3
  · rw [List.getElem?_set, List.getElem?_set, List.getElem?_set, flatC_get M' _ _ t (by rw [hl]; exact ht), flatC_get M A C t ht]
    simp only [List.length_set, flatC_length]
    unfold cellC
    dsimp only
    rw [hc]
    by_cases e : t / 3 = i
    · have : t = i * 3 ∨ t = i * 3 + 1 ∨ t = i * 3 + 2 := by omega
      rw [if_pos e, if_pos e, if_pos e]
      rcases this with rfl | rfl | rfl
      · rw [if_neg (by omega), if_neg (by omega), if_pos rfl, if_pos (by omega), if_pos (by omega)]
      · rw [if_neg (by omega), if_pos rfl, if_pos (by omega), if_neg (by omega), if_pos (by omega)]
      · rw [if_pos rfl, if_pos (by omega), if_neg (by omega), if_neg (by omega)]
    · rw [if_neg e, if_neg e, if_neg e, if_neg (by omega), if_neg (by omega), if_neg (by omega)]
  · rw [List.getElem?_eq_none (by simp [flatC_length]; omega), List.getElem?_eq_none (by rw [flatC_length, hl]; omega)]

/-- A memory whose clock has gone on and whose cell was laid anew. -/
theorem mem_laid {w w1 : World} {b i : Nat} {O : Nat → Prop} {M : Mem} (h : MemAt w b O M) (hi : i < M.len) (g cap : Nat) (A : Nat → Option Addr) (C : Nat → Nat) (hr : RowC w b O M (some ⟨g, 0, none⟩) cap A C)
    (x : Int) (L : List It) (a' : Option Addr) (cap' : Nat) (hb0 : But (fun _ => False) (w.setCell ⟨b, 1, none⟩ (.int .u64 ((M.clock + 1 : Nat) : Int))) w1) (hS : SlAt 2 w1 a' cap' L.length (flatI L)) (hF : ∀ j, inB a' j → w.heap.size ≤ j) (hL : L.length ≤ 1000000) (w2 : World)
    (hw2 : w2 = ((w1.setCell ⟨g, i * 3, none⟩ (.int .u64 ((M.clock + 1 : Nat) : Int))).setCell ⟨g, i * 3 + 1, none⟩ (.int .i64 x)).setCell ⟨g, i * 3 + 2, none⟩ (.slice a' L.length cap')) :
    MemAt w2 b (own' O w w2) (M.put i x L) ∧ But O w w2 := by
  have hbl := h.lt b h.ob
  have hgo := hr.own g ⟨_, rfl, rfl⟩
  have hgl := h.lt g hgo.1
  have hput : (M.put i x L).len = M.len := by show max M.len (i + 1) = _; omega
  have hbut : But (fun k => k = g) w1 w2 := by
    rw [hw2]
    exact (((But.refl (fun k => k = g) w1).set1 _ _ rfl _).set1 _ _ rfl _).set1 _ _ rfl _
  have hb : But (fun k => k = b) w w1 := ((But.refl (fun k => k = b) w).set1 b 1 rfl _).then hb0 (fun _ _ e => e.elim)
  have hsz : w2.heap.size = w1.heap.size := by rw [hw2]; simp [World.size_setCell]
  have hneb : ∀ (p q : Nat), (⟨g, p, none⟩ : Addr) ≠ ⟨b, q, none⟩ := fun p q e => by injection e with e1; exact hgo.2 e1
  have hc1 : w1.cell? ⟨b, 1, none⟩ = some (.int .u64 ((M.clock + 1 : Nat) : Int)) := by
    rw [hb0.cell (p := ⟨b, 1, none⟩) (by rw [World.size_setCell]; exact hbl) id, World.cell?_setCell_same' _ _ _ (by rw [h.clk]; rfl)]
  have hc0 : w1.cell? ⟨b, 0, none⟩ = some (.slice (some ⟨g, 0, none⟩) M.len cap) := by
    rw [hb0.cell (p := ⟨b, 0, none⟩) (by rw [World.size_setCell]; exact hbl) id, World.cell?_setCell_other _ _ _ _ (fun e => by injection e with _ e2; cases e2)]
    exact hr.hd
  have hB : But O w w2 := (hb.mono (fun k _ e => by rw [e]; exact h.ob)).then hbut (fun k _ e => by rw [e]; exact hgo.1)
  refine ⟨⟨.inl h.ob, ?_, ⟨some ⟨g, 0, none⟩, cap, fun j => if j = i then a' else A j, fun j => if j = i then cap' else C j, ?_⟩, ?_, ?_, ?_, by rw [hput]; exact h.max, ?_, ?_⟩, hB⟩
  · intro k hk
    rcases hk with hk | hk
    · exact Nat.lt_of_lt_of_le (h.lt k hk) hB.size
    · exact hk.2
  · refine ⟨?_, .inr ⟨g, rfl, ?_⟩, ?_, ?_, ?_⟩
    · rw [hput, hw2, World.cell?_setCell_other _ _ _ _ (hneb _ _), World.cell?_setCell_other _ _ _ _ (hneb _ _), World.cell?_setCell_other _ _ _ _ (hneb _ _)]
      exact hc0
    · rcases hr.sl with ⟨e, _⟩ | ⟨g', e, hf⟩
      · cases e
      · cases e
        have hf1 := hf.but hb hgo.2
        have hlen := flatC_length M A C
        have hf2 := ((hf1.set (t := i * 3) (v := .int .u64 ((M.clock + 1 : Nat) : Int)) (by rw [hlen]; omega) rfl).set (t := i * 3 + 1) (v := .int .i64 x) (by rw [List.length_set, hlen]; omega) rfl).set (t := i * 3 + 2) (v := .slice a' L.length cap') (by rw [List.length_set, List.length_set, hlen]; omega) rfl
        rw [flatC_set M A C i ((M.clock + 1 : Nat) : Int) x L a' cap' (M.put i x L) hput (fun j => rfl), ← hw2] at hf2
        rw [hput]
        exact hf2
    · rintro j ⟨y, hy, rfl⟩; cases hy; exact ⟨.inl hgo.1, hgo.2⟩
    · intro j hj
      rw [hput] at hj
      show SlAt 2 w2 (if j = i then a' else A j) (if j = i then cap' else C j) (if j = i then (⟨((M.clock + 1 : Nat) : Int), x, L⟩ : CV) else M.cell j).L.length (flatI (if j = i then (⟨((M.clock + 1 : Nat) : Int), x, L⟩ : CV) else M.cell j).L)
      by_cases e : j = i
      · rw [if_pos e, if_pos e, if_pos e]
        exact hS.but hbut (fun k hk e => by have := hF k hk; omega)
      · rw [if_neg e, if_neg e, if_neg e]
        refine ((hr.its j hj).but hb (fun k hk => (hr.ito j hj k hk).2.1)).but hbut (fun k hk e => ?_)
        exact (hr.ito j hj k hk).2.2 ⟨_, rfl, e.symm⟩
    · intro j hj k hk
      rw [hput] at hj
      have hk' : inB (if j = i then a' else A j) k := hk
      by_cases e : j = i
      · rw [if_pos e] at hk'
        have h1 := hF k hk'
        have h2 := hS.lt k hk'
        refine ⟨.inr ⟨h1, by omega⟩, by omega, ?_⟩
        rintro ⟨y, hy, hyk⟩; cases hy
        have : g = k := hyk
        omega
      · rw [if_neg e] at hk'
        have h1 := hr.ito j hj k hk'
        exact ⟨.inl h1.1, h1.2.1, h1.2.2⟩
  · show w2.cell? ⟨b, 1, none⟩ = some (.int .u64 ((M.clock + 1 : Nat) : Int))
    rw [hw2, World.cell?_setCell_other _ _ _ _ (hneb _ _), World.cell?_setCell_other _ _ _ _ (hneb _ _), World.cell?_setCell_other _ _ _ _ (hneb _ _)]
    exact hc1
  · rw [hw2, World.frozen?_setCell, World.frozen?_setCell, World.frozen?_setCell, hb0.frozen (p := ⟨b, 0, none⟩) (by rw [World.size_setCell]; exact hbl) id, World.frozen?_setCell]; exact h.fz0
  · rw [hw2, World.frozen?_setCell, World.frozen?_setCell, World.frozen?_setCell, hb0.frozen (p := ⟨b, 1, none⟩) (by rw [World.size_setCell]; exact hbl) id, World.frozen?_setCell]; exact h.fz1
  · intro j hj
    rw [hput] at hj
    show (if j = i then _ else M.cell j) = _
    rw [if_neg (by omega)]; exact h.rest j hj
  · intro j
    show (if j = i then (⟨((M.clock + 1 : Nat) : Int), x, L⟩ : CV) else M.cell j).L.length ≤ _
    by_cases e : j = i
    · rw [if_pos e]; exact hL
    · rw [if_neg e]; exact h.few j

theorem force_no (b : Nat) (i : Int) (x : Int) (s : Value) (w : World) (hi : i < 0 ∨ 1000 ≤ i) :
    Calls Try.prog 56 #[.pointer (some ⟨b, 0, none⟩), .int .i64 i, .agg #[.int .i64 x, s]] w fun e w' => e = .returned (.bool false) ∧ Below w.heap.size w w' := by
  by_cases h0 : i < 0
  · clear hi
    go_enter Try.func56, Try.ntmps56
    go_wp2
    go_ret
    exact ⟨rfl, (Below.refl _ _).alloc (Nat.le_refl _) _⟩
  · have h0' : decide (i < 0) = false := decide_eq_false h0
    have h1 : 1000 ≤ i := by omega
    clear hi h0
    go_enter Try.func56, Try.ntmps56
    go_wp2
    go_ret
    exact ⟨rfl, (Below.refl _ _).alloc (Nat.le_refl _) _⟩

theorem put_reach (M : Mem) (i : Nat) (x : Int) (L : List It) : (M.reach (i + 1)).put i x L = M.put i x L := by
  unfold Mem.put Mem.reach
  simp only [Mem.mk.injEq, and_true]
  omega

set_option maxHeartbeats 4000000 in
theorem force_any (b i : Nat) (O : Nat → Prop) (M : Mem) (x : Int) (a : Option Addr) (cap : Nat) (L : List It) (w : World) (h : MemAt w b O M) (hS : SlAt 2 w a cap L.length (flatI L)) (hO : ∀ j, inB a j → ¬ O j) (hL : L.length ≤ 1000000) (hi : i < 1000) (hck : M.clock < 4611686018427387904) :
    Calls Try.prog 56 #[.pointer (some ⟨b, 0, none⟩), .int .i64 (i : Int), .agg #[.int .i64 x, .slice a L.length cap]] w fun e w' => e = .returned (.bool true) ∧ MemAt w' b (own' O w w') (M.put i x L) ∧ But O w w' := by
  have hbl := h.lt b h.ob
  have hB1 : But (fun _ => False) w (w.alloc (boxV x (.slice a L.length cap))) := (But.refl _ _).alloc _
  have hRe := hidq (reach_any b i O M _ (h.but hB1 (fun _ _ e => e)) hi)
  have hi0 : decide ((i : Int) < 0) = false := decide_eq_false (by omega)
  have hi1 : decide ((1000 : Int) ≤ (i : Int)) = false := decide_eq_false (by omega)
  have HH := hidq h
  have HS := hidq hS
  clear h hS
  go_enter Try.func56, Try.ntmps56
  go_wp2_with fail
  refine hRe.out.mono ?_
  rintro e w1 ⟨rfl, hM, hB2⟩
  have hbl1 := hM.lt b hM.ob
  have hwz : w.heap.size < w1.heap.size := by have := hB2.size; simp at this; omega
  have hOw : ¬ O w.heap.size := fun e => by have := HH.out.lt _ e; omega
  have hck1 := hM.clk
  have hf1 := hM.fz1
  obtain ⟨ar, capr, A, C, hr⟩ := hM.row
  have hlen : i < (M.reach (i + 1)).len := by show i < max M.len (i + 1); omega
  obtain ⟨g, rfl, hg, _⟩ := hr.sl.cell (flatC_0 _ A C i hlen)
  have hd := hr.hd
  have hgo := hr.own g ⟨_, rfl, rfl⟩
  have hle := hr.sl.le
  have hmx := hM.max
  have HA := hidq (show SlAt 2 w1 a cap L.length (flatI L) from (HS.out.but hB1 (fun _ _ e => e)).but hB2 hO)
  have hab : ∀ j, inB a j → ¬ j = b := fun j hj e => hO j hj (by rw [e]; exact HH.out.ob)
  obtain ⟨n, hn⟩ : ∃ n, (M.reach (i + 1)).len = n := ⟨_, rfl⟩
  rw [hn] at hd hlen hle hmx
  have hckr : (M.reach (i + 1)).clock = M.clock := rfl
  rw [hckr] at hck1
  have hNI : (i : Int) < (n : Int) := by omega
  have hle2 : n ≤ capr := hle
  obtain ⟨cv, hcv⟩ : ∃ cv : Int, ((M.clock + 1 : Nat) : Int) = cv := ⟨_, rfl⟩
  have hcv1 : (M.clock : Int) + 1 = cv := by omega
  obtain ⟨ck, hckv⟩ : ∃ ck : Int, (M.clock : Int) = ck := ⟨_, rfl⟩
  rw [hckv] at hck1 hcv1
  have hckb : 0 ≤ ck ∧ ck < 4611686018427387904 := by omega
  have hcl : ∀ k, k < n * 3 → (w1.cell? ⟨g, k, none⟩).isSome = true ∧ w1.frozen? ⟨g, k, none⟩ = false := by
    rcases hr.sl with ⟨e, _⟩ | ⟨g', e, hf⟩
    · cases e
    · cases e
      exact fun k hk => hf.there k (by omega)
  have FIN := hidq (fun w3 a' cap' (hb0 : But (fun _ => False) (w1.setCell ⟨b, 1, none⟩ (.int .u64 cv)) w3) (hS3 : SlAt 2 w3 a' cap' L.length (flatI L)) (hF3 : ∀ j, inB a' j → w1.heap.size ≤ j) =>
    mem_laid hM (by rw [hn]; exact hlen) g capr A C hr x L a' cap' (by rw [hckr, hcv]; exact hb0) hS3 hF3 hL _ rfl)
  rw [put_reach, hckr, hcv] at FIN
  have FC := hidq (fun w3 (hb0 : But (fun _ => False) (w1.setCell ⟨b, 1, none⟩ (.int .u64 cv)) w3) => (show (w3.cell? ⟨b, 0, none⟩ = some (.slice (some ⟨g, 0, none⟩) n capr) ∧ w3.cell? ⟨b, 1, none⟩ = some (.int .u64 cv)) ∧ g < w3.heap.size ∧
      (∃ u0, w3.cell? ⟨g, i * 3, none⟩ = some u0) ∧ (∃ u1, w3.cell? ⟨g, i * 3 + 1, none⟩ = some u1) ∧ (∃ u2, w3.cell? ⟨g, i * 3 + 2, none⟩ = some u2) ∧ w3.frozen? ⟨g, i * 3, none⟩ = false ∧ w3.frozen? ⟨g, i * 3 + 1, none⟩ = false ∧ w3.frozen? ⟨g, i * 3 + 2, none⟩ = false from by
    have hb : But (fun k => k = b) w1 w3 := ((But.refl (fun k => k = b) w1).set1 b 1 rfl _).then hb0 (fun _ _ e => e.elim)
    have hc : ∀ k, k < n * 3 → (∃ u, w3.cell? ⟨g, k, none⟩ = some u) ∧ w3.frozen? ⟨g, k, none⟩ = false := fun k hk => by
      rw [hb.cell (p := ⟨g, k, none⟩) hg hgo.2, hb.frozen (p := ⟨g, k, none⟩) hg hgo.2]
      exact ⟨Option.isSome_iff_exists.1 (hcl k hk).1, (hcl k hk).2⟩
    refine ⟨⟨?_, ?_⟩, Nat.lt_of_lt_of_le hg hb.size, (hc _ (by omega)).1, (hc _ (by omega)).1, (hc _ (by omega)).1, (hc _ (by omega)).2, (hc _ (by omega)).2, (hc _ (by omega)).2⟩
    · rw [hb0.cell (p := ⟨b, 0, none⟩) (by rw [World.size_setCell]; exact hbl1) id, World.cell?_setCell_other _ _ _ _ (fun e => by injection e with _ e2; cases e2)]; exact hd
    · rw [hb0.cell (p := ⟨b, 1, none⟩) (by rw [World.size_setCell]; exact hbl1) id, World.cell?_setCell_same' _ _ _ (by rw [hck1]; rfl)]))
  have hC := hidq (fun W (hW : But (fun k => k = b) w1 W) => vclone_any x a cap L.length _ W (HA.out.but hW hab) hL)
  have hnwb : ¬ w.heap.size = b := by omega
  have bx0 : (w1.setCell ⟨b, 1, none⟩ (.int .u64 cv)).drew.cell? ⟨w.heap.size, 0, none⟩ = some (.int .i64 x) := by
    show (w1.setCell ⟨b, 1, none⟩ (.int .u64 cv)).cell? ⟨w.heap.size, 0, none⟩ = _
    rw [World.cell?_setCell_other _ _ _ _ (fun e => by injection e with e1; exact hnwb e1.symm), hB2.cell (p := ⟨w.heap.size, 0, none⟩) (by simp) hOw]; simp
  have bx1 : (w1.setCell ⟨b, 1, none⟩ (.int .u64 cv)).drew.cell? ⟨w.heap.size, 1, none⟩ = some (.slice a L.length cap) := by
    show (w1.setCell ⟨b, 1, none⟩ (.int .u64 cv)).cell? ⟨w.heap.size, 1, none⟩ = _
    rw [World.cell?_setCell_other _ _ _ _ (fun e => by injection e with e1; exact hnwb e1.symm), hB2.cell (p := ⟨w.heap.size, 1, none⟩) (by simp) hOw]; simp
  have hEND := hidq (fun w2 (hM2 : MemAt w2 b (own' (own' O (w.alloc (boxV x (.slice a L.length cap))) w1) w1 w2) (M.put i x L)) (hBx : But (own' O (w.alloc (boxV x (.slice a L.length cap))) w1) w1 w2) => (show MemAt w2 b (own' O w w2) (M.put i x L) ∧ But O w w2 from by
    refine ⟨hM2.own (fun k hk => ?_) (fun k hk => ?_), ((hB1.mono (fun _ _ e => e.elim)).trans hB2).then hBx (fun k hk e => ?_)⟩
    · have hs1 := hB2.size
      rw [World.size_alloc] at hs1
      have hs2 := hBx.size
      rcases hk with (e | e) | e
      · exact .inl e
      · rw [World.size_alloc] at e; exact .inr ⟨by omega, by omega⟩
      · exact .inr ⟨by omega, by omega⟩
    · rcases hk with e | e
      · exact hM2.lt k (.inl (.inl e))
      · exact e.2
    · rcases e with e | e
      · exact e
      · rw [World.size_alloc] at e; omega))
  have HSZ := hidq (show (w1.setCell ⟨b, 1, none⟩ (.int .u64 cv)).drew.heap.size = w1.heap.size from by show (w1.setCell ⟨b, 1, none⟩ (.int .u64 cv)).heap.size = _; rw [World.size_setCell])
  clear hr hM hcl hB2 hB1 hRe hmx hcv hckv hO hab hck hle hn hgo hckr hOw
  go_wp2
  go_region_with (go_at_call 93; refine (hC.out _ ((But.refl (fun k => k = b) w1).set1 b 1 rfl _).drew).mono ?_; rintro e w3 ⟨a', cap', rfl, hS3, hf3, hb3⟩; have HS3 := hidq hS3; rw [HSZ.out] at hf3; have HF3 := hidq hf3; have hbb : But (fun _ => False) (w1.setCell ⟨b, 1, none⟩ (.int .u64 cv)) w3 := ⟨hb3.os, hb3.tape, hb3.output, hb3.size, fun k hk _ => hb3.block k hk⟩; have HBB := hidq hbb; obtain ⟨⟨e0, e1⟩, e2, ⟨u0, e3⟩, ⟨u1, e4⟩, ⟨u2, e5⟩, e6, e7, e8⟩ := FC.out w3 hbb; clear hS3 hf3 hb3 hbb)
  all_goals go_wp2
  all_goals go_ret
  all_goals exact ⟨rfl, hEND.out _ (FIN.out w3 a' cap' HBB.out HS3.out HF3.out).1 (FIN.out w3 a' cap' HBB.out HS3.out HF3.out).2⟩
end Go.Proofs.Ytepigofpcjmddaa

namespace Go.Proofs.Ytepigofpcjmddaa
open Go.RowKit Go.Sort

/-- What Write does. -/
def Mem.can (M : Mem) (i v : Int) : Bool := decide (0 ≤ i ∧ i < 1000) && ((M.look i).ver == v)
theorem can_yes {M : Mem} {i : Nat} {v : Int} (h : i < 1000) (hv : (M.cell i).ver = v) : M.can (i : Int) v = true := by
  unfold Mem.can; rw [look_nat, hv]; simp; omega

theorem write_no (b : Nat) (O : Nat → Prop) (M : Mem) (i v x : Int) (s : Value) (w : World) (h : MemAt w b O M) (hno : M.can i v = false) :
    Calls Try.prog 27 #[.pointer (some ⟨b, 0, none⟩), .int .i64 i, .int .u64 v, .agg #[.int .i64 x, s]] w fun e w' => e = .returned (.bool false) ∧ Below w.heap.size w w' := by
  have hV := hidq (version_any b O M i _ (h.but (S := fun _ => False) ((But.refl _ _).alloc (boxV x s)) (fun _ _ e => e)))
  by_cases hv : (M.look i).ver = v
  · have hi : i < 0 ∨ 1000 ≤ i := by
      unfold Mem.can at hno
      rw [hv] at hno
      simp at hno
      omega
    rw [hv] at hV
    have hF := hidq (fun W => force_no b i x s W hi)
    clear h hno hv hi
    go_enter Try.func27, Try.ntmps27
    go_wp2_with (first
      | (go_at_call 60; refine hV.out.mono ?_; rintro e w1 ⟨rfl, hw⟩; replace hw := hw.symm; subst hw)
      | (go_at_call 56; refine (hF.out _).mono ?_; rintro e w2 ⟨rfl, hb2⟩))
    go_ret
    exact ⟨rfl, ((Below.refl _ _).alloc (Nat.le_refl _) _).trans (hb2.mono (by simp))⟩
  · have hvb : ((M.look i).ver == v) = false := by simpa using hv
    generalize (M.look i).ver = u at *
    clear h hno hv
    go_enter Try.func27, Try.ntmps27
    go_wp2_with (go_at_call 60; refine hV.out.mono ?_; rintro e w1 ⟨rfl, hw⟩; replace hw := hw.symm; subst hw)
    go_ret
    exact ⟨rfl, (Below.refl _ _).alloc (Nat.le_refl _) _⟩

theorem write_yes (b i : Nat) (O : Nat → Prop) (M : Mem) (v x : Int) (a : Option Addr) (cap : Nat) (L : List It) (w : World) (h : MemAt w b O M) (hS : SlAt 2 w a cap L.length (flatI L)) (hO : ∀ j, inB a j → ¬ O j) (hL : L.length ≤ 1000000) (hi : i < 1000) (hck : M.clock < 4611686018427387904) (hv : (M.cell i).ver = v) :
    Calls Try.prog 27 #[.pointer (some ⟨b, 0, none⟩), .int .i64 (i : Int), .int .u64 v, .agg #[.int .i64 x, .slice a L.length cap]] w fun e w' => e = .returned (.bool true) ∧ MemAt w' b (own' O w w') (M.put i x L) ∧ But O w w' := by
  have hB1 : But (fun _ => False) w (w.alloc (boxV x (.slice a L.length cap))) := (But.refl _ _).alloc _
  have hV := hidq (version_any b O M (i : Int) _ (h.but hB1 (fun _ _ e => e)))
  rw [look_nat, hv] at hV
  have hF := hidq (force_any b i O M x a cap L _ (h.but hB1 (fun _ _ e => e)) (hS.but hB1 (fun _ _ e => e)) hO hL hi hck)
  clear h hS hO hv
  go_enter Try.func27, Try.ntmps27
  go_wp2_with (first
    | (go_at_call 60; refine hV.out.mono ?_; rintro e w1 ⟨rfl, hw⟩; replace hw := hw.symm; subst hw)
    | (go_at_call 56; refine hF.out.mono ?_; rintro e w2 ⟨rfl, hM2, hb2⟩))
  go_ret
  refine ⟨rfl, hM2.own (fun k hk => ?_) (fun k hk => ?_), (hB1.mono (fun _ _ e => e.elim)).trans hb2⟩
  · rcases hk with e | e
    · exact .inl e
    · rw [World.size_alloc] at e; exact .inr ⟨by omega, e.2⟩
  · rcases hk with e | e
    · exact hM2.lt k (.inl e)
    · exact e.2

/-- Write, whichever way it goes. -/
def Mem.write (M : Mem) (i v x : Int) (L : List It) : Mem := if M.can i v = true then M.put i.toNat x L else M
theorem write_as {M : Mem} {i v x : Int} {L : List It} : (M.can i v = true ∧ M.write i v x L = M.put i.toNat x L ∧ ∃ k : Nat, i = (k : Int) ∧ k < 1000 ∧ (M.cell k).ver = v) ∨ (M.can i v = false ∧ M.write i v x L = M) := by
  cases h : M.can i v
  · refine .inr ⟨rfl, ?_⟩
    unfold Mem.write; rw [h]; rfl
  · refine .inl ⟨rfl, ?_, ?_⟩
    · unfold Mem.write; rw [h]; rfl
    · unfold Mem.can at h
      simp at h
      refine ⟨i.toNat, by omega, by omega, ?_⟩
      have := h.2
      unfold Mem.look at this
      rw [if_neg (by omega)] at this
      exact this
theorem own'_lt {O : Nat → Prop} {w w' : World} (h : ∀ k, O k → k < w.heap.size) (hs : w.heap.size ≤ w'.heap.size) : ∀ k, own' O w w' k → k < w'.heap.size := fun k hk => by
  rcases hk with e | e
  · exact Nat.lt_of_lt_of_le (h k e) hs
  · exact e.2
theorem write_any (b : Nat) (O : Nat → Prop) (M : Mem) (i v x : Int) (a : Option Addr) (cap : Nat) (L : List It) (w : World) (h : MemAt w b O M) (hS : SlAt 2 w a cap L.length (flatI L)) (hO : ∀ j, inB a j → ¬ O j) (hL : L.length ≤ 1000000) (hck : M.clock < 4611686018427387904) :
    Calls Try.prog 27 #[.pointer (some ⟨b, 0, none⟩), .int .i64 i, .int .u64 v, .agg #[.int .i64 x, .slice a L.length cap]] w fun e w' => e = .returned (.bool (M.can i v)) ∧ MemAt w' b (own' O w w') (M.write i v x L) ∧ But O w w' := by
  rcases write_as (M := M) (i := i) (v := v) (x := x) (L := L) with ⟨h1, h2, k, rfl, hk, hv⟩ | ⟨h1, h2⟩
  · rw [h1, h2]
    exact write_yes b k O M v x a cap L w h hS hO hL hk hck hv
  · rw [h1, h2]
    refine (write_no b O M i v x _ w h h1).mono ?_
    rintro e w' ⟨rfl, hb⟩
    exact ⟨rfl, (h.below hb).own (fun k e => .inl e) (own'_lt h.lt hb.size), But.of_below hb⟩
/-- Force, whichever way it goes. -/
def inRange (i : Int) : Bool := decide (0 ≤ i ∧ i < 1000)
def Mem.force (M : Mem) (i x : Int) (L : List It) : Mem := if inRange i = true then M.put i.toNat x L else M
theorem force_all (b : Nat) (O : Nat → Prop) (M : Mem) (i x : Int) (a : Option Addr) (cap : Nat) (L : List It) (w : World) (h : MemAt w b O M) (hS : SlAt 2 w a cap L.length (flatI L)) (hO : ∀ j, inB a j → ¬ O j) (hL : L.length ≤ 1000000) (hck : M.clock < 4611686018427387904) :
    Calls Try.prog 56 #[.pointer (some ⟨b, 0, none⟩), .int .i64 i, .agg #[.int .i64 x, .slice a L.length cap]] w fun e w' => e = .returned (.bool (inRange i)) ∧ MemAt w' b (own' O w w') (M.force i x L) ∧ But O w w' := by
  by_cases hr : 0 ≤ i ∧ i < 1000
  · have hd : inRange i = true := decide_eq_true hr
    unfold Mem.force
    rw [hd, if_pos rfl]
    obtain ⟨k, rfl⟩ : ∃ k : Nat, i = (k : Int) := ⟨i.toNat, by omega⟩
    exact force_any b k O M x a cap L w h hS hO hL (by omega) hck
  · have hd : inRange i = false := decide_eq_false hr
    unfold Mem.force
    rw [hd, if_neg (by decide)]
    refine (force_no b i x _ w (by omega)).mono ?_
    rintro e w' ⟨rfl, hb⟩
    exact ⟨rfl, (h.below hb).own (fun k e => .inl e) (own'_lt h.lt hb.size), But.of_below hb⟩
end Go.Proofs.Ytepigofpcjmddaa

namespace Go.Proofs.Ytepigofpcjmddaa
open Go.RowKit Go.Sort

theorem len5_any (b : Nat) (O : Nat → Prop) (M : Mem) (w : World) (h : MemAt w b O M) : Calls Try.prog 53 #[.pointer (some ⟨b, 0, none⟩)] w fun e w' => e = .returned (.int .i64 (M.len : Int)) ∧ w' = w := by
  obtain ⟨a, cap, A, C, hr⟩ := h.row
  have hd := hr.hd
  clear hr h
  go_enter Try.func53, Try.ntmps53
  go_wp2
  go_ret
  exact ⟨rfl, rfl⟩
theorem clock5_any (b : Nat) (O : Nat → Prop) (M : Mem) (w : World) (h : MemAt w b O M) : Calls Try.prog 30 #[.pointer (some ⟨b, 0, none⟩)] w fun e w' => e = .returned (.int .u64 (M.clock : Int)) ∧ w' = w := by
  have hd := h.clk
  clear h
  go_enter Try.func30, Try.ntmps30
  go_wp2
  go_ret
  exact ⟨rfl, rfl⟩
end Go.Proofs.Ytepigofpcjmddaa

namespace Go.Proofs.Ytepigofpcjmddaa
open Go.RowKit Go.Sort Go.Maps

theorem lawU : Keyed Try.prog 31 := int_keyed Try.underlying31
theorem zeroI (w : World) : (zeroValue 3).run Try.prog w = .ok (.int .i64 0) w := by kernel_rfl
/-- The map behind n writes: each version once. -/
def Dm : Nat → DataW Unit
  | 0 => .map []
  | n + 1 => (Dm n).put (.int .u64 ((n + 1 : Nat) : Int)) (.lit (.int .i64 1))
theorem keyU (n : Int) : WideAt.IsKeyLit (.int .u64 n) := by simp [WideAt.IsKeyLit]
theorem dm_tidy : ∀ n, Tidy (Dm n)
  | 0 => tidy_empty
  | n + 1 => (dm_tidy n).put (keyU _) _
theorem dm_new : ∀ n j : Nat, n < j → ∀ z, (Dm n).atKey (.int .u64 (j : Int)) z = z
  | 0, _, _, _ => rfl
  | n + 1, j, h, z => by
    show ((Dm n).put _ _).atKey _ _ = _
    rw [atKey_put_other (by intro e; injection e with _ e; omega)]
    exact dm_new n j (by omega) z
theorem dm_at (n : Nat) (z : DataW Unit) : (Dm (n + 1)).atKey (.int .u64 ((n + 1 : Nat) : Int)) z = .lit (.int .i64 1) :=
  atKey_put_same (dm_tidy n).isMap (keyU _) _ _
theorem dm_size : ∀ n, Maps.size (Dm n) = n
  | 0 => rfl
  | n + 1 => by
    show Maps.size ((Dm n).put _ _) = _
    rw [size_put (dm_tidy n), has_false_of_atKey (fun z => dm_new n (n + 1) (by omega) z), dm_size n]
    rfl
theorem wfU {n : Nat} (h : n < 1000000) : (Lit.int .u64 (n : Int)).wf = true := by
  simp [Lit.wf, IntKind.min, IntKind.max, IntKind.signed, IntKind.bits]
  omega
/-- What holds of a memory between calls: no version is above the clock; the items are canonical. -/
def VOk (M : Mem) : Prop := (∀ i, 0 ≤ (M.look i).ver ∧ (M.look i).ver ≤ (M.clock : Int)) ∧ ∀ i, ∃ L : List KI, (M.look i).L = kts L
theorem VOk.empty : VOk Mem.empty := ⟨fun i => by unfold Mem.look; split <;> simp [Mem.empty, CV.zero], fun i => ⟨[], by unfold Mem.look; split <;> rfl⟩⟩
theorem look_put {M : Mem} (k : Nat) (x : Int) (L : List It) (i : Int) : (M.put k x L).look i = if i = (k : Int) then ⟨((M.clock + 1 : Nat) : Int), x, L⟩ else M.look i := by
  unfold Mem.look Mem.put
  by_cases h : i < 0
  · rw [if_pos h, if_neg (by omega), if_pos h]
  · rw [if_neg h, if_neg h]
    by_cases hk : i = (k : Int)
    · subst hk; simp
    · rw [if_neg hk]
      exact if_neg (by omega)
theorem VOk.put {M : Mem} (h : VOk M) (k : Nat) (x : Int) (L : List KI) : VOk (M.put k x (kts L)) := by
  refine ⟨fun i => ?_, fun i => ?_⟩
  · rw [look_put]
    have := h.1 i
    split
    · simp only [Mem.put]; omega
    · simp only [Mem.put]; omega
  · rw [look_put]
    split
    · exact ⟨L, rfl⟩
    · exact h.2 i
/-- What a round's write comes to. -/
theorem can_as {M : Mem} (k v x : Int) (L : List It) : (M.can k v = true ∧ M.write k v x L = M.put k.toNat x L ∧ (M.look k).ver = v ∧ (M.write k v x L).look k = ⟨((M.clock + 1 : Nat) : Int), x, L⟩ ∧ (M.write k v x L).clock = M.clock + 1) ∨ (M.can k v = false ∧ M.write k v x L = M) := by
  rcases write_as (M := M) (i := k) (v := v) (x := x) (L := L) with ⟨h1, h2, j, rfl, h3, h4⟩ | h
  · refine .inl ⟨h1, h2, by rw [look_nat]; exact h4, ?_, by rw [h2]; rfl⟩
    rw [h2, look_put]
    simp
  · exact .inr h
end Go.Proofs.Ytepigofpcjmddaa

namespace Go.Proofs.Ytepigofpcjmddaa
open Go.RowKit

theorem i64_and255 (n : Int) : bits .and .i64 n 255 = n % 256 := by
  have h : (BitVec.ofInt 64 255).toNat = 2 ^ 8 - 1 := by decide
  have key : (BitVec.ofInt 64 n &&& BitVec.ofInt 64 255).toNat = (n % ((2 ^ 64 : Nat) : Int)).toNat % 2 ^ 8 := by
    rw [BitVec.toNat_and, BitVec.toNat_ofInt, h, Nat.and_two_pow_sub_one_eq_mod]
  show IntKind.i64.wrap ((BitVec.ofInt 64 n &&& BitVec.ofInt 64 255).toNat : Nat) = n % 256
  rw [key, IntKind.wrap_i64]
  omega
theorem i64_and1 (n : Int) : bits .and .i64 n 1 = n % 2 := by
  have h : (BitVec.ofInt 64 1).toNat = 2 ^ 1 - 1 := by decide
  have key : (BitVec.ofInt 64 n &&& BitVec.ofInt 64 1).toNat = (n % ((2 ^ 64 : Nat) : Int)).toNat % 2 ^ 1 := by
    rw [BitVec.toNat_and, BitVec.toNat_ofInt, h, Nat.and_two_pow_sub_one_eq_mod]
  show IntKind.i64.wrap ((BitVec.ofInt 64 n &&& BitVec.ofInt 64 1).toNat : Nat) = n % 2
  rw [key, IntKind.wrap_i64]
  omega
end Go.Proofs.Ytepigofpcjmddaa

namespace Go.Proofs.Ytepigofpcjmddaa
open Go.RowKit Go.Sort

set_option maxRecDepth 10000 in
theorem awake5_any (w : World) : Calls Try.prog 20 #[] w fun e w' => e = .returned (.bool true) ∧ Below w.heap.size w w' := by
  go_enter Try.func20, Try.ntmps20
  go_wp2_with (go_at_call 25; refine (new5_any _).mono ?_; rintro e w1 ⟨rfl, hM, hb⟩)
  have hW1 : Calls Try.prog 27 #[.pointer (some ⟨w.heap.size, 0, none⟩), .int .i64 3, .int .u64 0, .agg #[.int .i64 5, .slice none 0 0]] w1 _ :=
    write_yes w.heap.size 3 _ _ 0 5 none 0 [] w1 hM (SlAt.nil _ _) (fun j hj => by obtain ⟨x, hx, _⟩ := hj; cases hx) (Nat.zero_le _) (by decide) (by decide) rfl
  clear hM
  refine hW1.mono ?_
  rintro e w2 ⟨rfl, hM2, hb2⟩
  have hW2 : Calls Try.prog 27 #[.pointer (some ⟨w.heap.size, 0, none⟩), .int .i64 3, .int .u64 0, .agg #[.int .i64 0, .slice none 0 0]] w2 _ :=
    write_no w.heap.size _ _ 3 0 0 (.slice none 0 0) w2 hM2 (by decide)
  clear hW1
  go_wp2_with fail
  refine hW2.mono ?_
  rintro e w3 ⟨rfl, hb3⟩
  have hM3 := hM2.below hb3
  have hbb : Below w.heap.size w w3 := (hb.trans (hb2.below hb.size (fun k e => by omega))).trans (hb3.mono (by have := hb.size; have := hb2.size; omega))
  have hL := len5_any _ _ _ _ hM3
  have hC := clock5_any _ _ _ _ hM3
  have hR := hidq (fun W (hW : But (fun _ => False) w3 W) => read5_any _ _ _ 3 _ (hM3.but hW (fun _ _ e => e)))
  rw [show ((Mem.put Mem.empty 3 5 []).len : Int) = 4 from rfl] at hL
  rw [show ((Mem.put Mem.empty 3 5 []).clock : Int) = 1 from rfl] at hC
  rw [show (Mem.put Mem.empty 3 5 []).look 3 = ⟨1, 5, []⟩ from rfl] at hR
  clear hW2 hM2 hM3 hb hb2 hb3
  have hf0 := fldC_0
  have hf1 := fldC_1
  have hf2 := fldV_0
  go_wp2_with (first
    | (go_at_call 53; refine hL.mono ?_; rintro e w4 ⟨rfl, hw⟩; replace hw := hw.symm; subst hw)
    | (go_at_call 30; refine hC.mono ?_; rintro e w4 ⟨rfl, hw⟩; replace hw := hw.symm; subst hw))
  refine (hR.out _ (But.refl _ _)).mono ?_
  rintro e w4 ⟨a4, c4, rfl, _, _, hb4⟩
  go_wp2_with fail
  refine (hR.out _ (But.of_below hb4)).mono ?_
  rintro e w5 ⟨a5, c5, rfl, _, _, hb5⟩
  go_wp2
  go_ret
  exact ⟨rfl, (hbb.trans (hb4.mono hbb.size)).trans (hb5.mono (by have := hbb.size; have := hb4.size; omega))⟩
end Go.Proofs.Ytepigofpcjmddaa

namespace Go.Proofs.Ytepigofpcjmddaa
open Go.RowKit

/-- A cell's number. -/
def at5 (n : Int) : Int := if 0 ≤ n ∧ n < 40 then n % 10 else n
theorem at5_in {n : Int} (h : 0 ≤ n ∧ n < 40) : at5 n = n % 10 := if_pos h
theorem at5_out {n : Int} (h : ¬ (0 ≤ n ∧ n < 40)) : at5 n = n := if_neg h
theorem at5_any (n : Int) (w : World) : Calls Try.prog 26 #[.int .i64 n] w fun e w' => e = .returned (.int .i64 (at5 n)) ∧ w' = w := by
  by_cases h0 : 0 ≤ n
  · by_cases h1 : n < 40
    · rw [at5_in ⟨h0, h1⟩]
      have ht : n.tmod 10 = n % 10 := Int.tmod_eq_emod_of_nonneg h0
      have HT : Hid (∀ _ : Unit, n.tmod 10 = n % 10) := fun _ => ht
      clear ht
      go_enter Try.func26, Try.ntmps26
      go_wp2
      go_ret
      exact ⟨by first | rfl | (rw [← HT ()]; rfl), rfl⟩
    · rw [at5_out (fun e => h1 e.2)]
      have h1' : decide (n < 40) = false := decide_eq_false h1
      go_enter Try.func26, Try.ntmps26
      go_wp2
      go_ret
      exact ⟨rfl, rfl⟩
  · rw [at5_out (fun e => h0 e.1)]
    have h0' : decide (0 ≤ n) = false := decide_eq_false h0
    go_enter Try.func26, Try.ntmps26
    go_wp2
    go_ret
    exact ⟨rfl, rfl⟩
end Go.Proofs.Ytepigofpcjmddaa
