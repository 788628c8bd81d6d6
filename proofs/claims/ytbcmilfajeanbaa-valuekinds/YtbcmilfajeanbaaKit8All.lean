/-
  Layer 12: behind a Deq: contract.
  Layer 5: a memory is written: contracts.
  Layer 6: parameters: contracts.
  Layer 12: what a structure of no legal kind holds; what the laws ask first: contracts.
  append, of anything, of nothing too.
  Layer 5: Force, Write: contracts.
  Layer 5: Write: contracts.
  An operation under way, as it lies in memory; what a step of a machine comes to.
  Layer 12: the numbers of so many cells together: contract.
  Layer 4: the library's heap over a pile's items: contracts.
  Calls through the heap's interface of a pile's items: which function is met, with which receiver.
  Layer 4: the library's heap, sifting: contracts.
  Layer 4: the library's heap, sifting up: contract.
  Layer 4: one more item, one less: contracts.
  Layer 4: the library's heap: Init, Push, Pop: contracts.
  Layer 4: items made canonical, a pile of them: contracts.
  Layer 4: its calls: contracts.
  Canonical items, as a cell has them.
-/
import Derived.Test.YtbcmilfajeanbaaDel12All
import Derived.Test.YtbcmilfajeanbaaWo12All
import Derived.Deep.CutBlock
import Derived.Test.YtbcmilfajeanbaaOp6All
import Derived.Test.YtbcmilfajeanbaaPhaseAll
import Derived.Test.YtbcmilfajeanbaaBoxGAll
import Derived.Deep.RegionWith
import Derived.Deep.AppendSrc
import Derived.Deep.Upon
import Derived.Laws.IdiomStrings
import Derived.Deep.RegionLaw
namespace Go.Proofs.Ytbcmilfajeanbaa
open Go.RowKit Go.Sort

set_option maxRecDepth 20000 in
set_option maxHeartbeats 8000000 in
theorem after_deq (N v d0 d1 an p : Int) (f : Nat) (L : List KI) (x : KI) (i : Nat) (a : Option Addr) (cap n : Nat) (w : World) (h : SlAt 2 w a cap n (flatI (kts L))) (hn : n ≤ 1000000) (hL : L.length = n) (hi : idxK L x = (i : Int)) (hin : i < n) (hp : (i : Int) < p) :
    Calls Try.prog 11 #[.agg #[.int .i64 2, .slice a n cap, .int .i64 N], .agg #[.int .i64 4, .float .f64 f, .int .i64 v, .int .i64 d0, .int .i64 d1], .agg #[.bool true, .float .f64 x.b, .int .i64 x.v, .int .i64 an], .int .i64 p] w
      (AftEnd 2 N (n - 1) (flatI (kts (L.eraseIdx i))) true w) := by
  have hsf := run_store_float (P := Try.prog)
  obtain ⟨W1, hW1, hb1, hs1, hX4, hX5, hX6, hX8⟩ := four_new w (v12 2 a n cap N) (o12 4 f v d0 d1) (a12 true x.b x.v an) [.int .i64 0, .slice none 0 0, .int .i64 0] 28 42 44 28
  obtain ⟨b4, hb4⟩ : ∃ b4, w.heap.size = b4 := ⟨_, rfl⟩
  rw [hb4] at hX4 hX5 hX6 hX8 hs1
  have H1 := hidq (And.intro hb1 (And.intro hX4 (And.intro hX5 (And.intro hX6 (And.intro hX8 hs1)))))
  have hCl := hidq (sclone_any a cap n _ W1 (h.below hb1) hn)
  have m41 := hX4.get 1 _ rfl
  obtain ⟨y41, z41⟩ := m41
  clear h hb1 hX4 hX5 hX6 hX8 hs1
  go_enter Try.func11, Try.ntmps11
  go_upto_region 1 with fail
  try rw [hb4]
  dsimp only [v12, o12, a12] at hW1
  try rw [hW1]
  go_wp2_with fail
  refine hCl.out.mono ?_
  rintro e w2 ⟨a', cap', rfl, hS2, hf2, hb2⟩
  obtain ⟨W3, hW3⟩ : ∃ W3, w2.setCell ⟨b4, 1, none⟩ (.slice a' n cap') = W3 := ⟨_, rfl⟩
  have hw4 := hidq hb4
  have H3 := hidq (show (But (fun j => j = b4) W1 W3 ∧ SlAt 2 W3 a' cap' n (flatI (kts L)) ∧ ∀ j, inB a' j → b4 + 4 ≤ j) ∧ BoxAt W3 b4 (v12 2 a' n cap' N) ∧ BoxAt W3 (b4 + 1) (o12 4 f v d0 d1) ∧ BoxAt W3 (b4 + 1 + 1) (a12 true x.b x.v an) ∧ BoxAt W3 (b4 + 1 + 1 + 1) [.int .i64 0, .slice none 0 0, .int .i64 0] from by
    obtain ⟨h1, h2, h3, h4, h5, h6⟩ := H1.out
    have hb : But (fun j => j = b4) w2 W3 := by rw [← hW3]; exact (But.refl (fun j => j = b4) w2).set1 b4 1 rfl _
    refine ⟨⟨(But.of_below hb2).trans hb, hS2.but hb (fun j hj e => by have := hf2 j hj; omega), fun j hj => by have := hf2 j hj; omega⟩, ?_, (h3.below hb2).but hb (by omega), (h4.below hb2).but hb (by omega), (h5.below hb2).but hb (by omega)⟩
    rw [← hW3]
    exact (h2.below hb2).set 1 _)
  have q41 : w2.cell? ⟨b4, 1, none⟩ = some (.slice a n cap) := ((H1.out.2.1.below hb2).get 1 _ rfl).1
  have q42 : w2.frozen? ⟨b4, 1, none⟩ = false := ((H1.out.2.1.below hb2).get 1 _ rfl).2
  clear hS2 hf2 hb2 y41 z41 hCl
  have HCk := hidq (check_any 2 4 v d0 d1 f W3)
  rw [show chk 2 4 v = 0 from chk0 (by decide) (by omega)] at HCk
  go_upto_region 2 with fail
  try rw [hW3]
  clear hW3 q41 q42 hW1
  have x40 := (H3.out.2.1.get 0 _ rfl).1
  have x50 := (H3.out.2.2.1.get 0 _ rfl).1
  have x51 := (H3.out.2.2.1.get 1 _ rfl).1
  have x52 := (H3.out.2.2.1.get 2 _ rfl).1
  have x53 := (H3.out.2.2.1.get 3 _ rfl).1
  have x54 := (H3.out.2.2.1.get 4 _ rfl).1
  go_wp2_with fail
  refine HCk.out.mono ?_
  rintro e w4 ⟨rfl, hb34⟩
  have H4 := hidq (show (SlAt 2 w4 a' cap' n (flatI (kts L)) ∧ (∀ j, inB a' j → b4 + 4 ≤ j) ∧ Below w.heap.size w w4 ∧ b4 + 4 ≤ w4.heap.size) ∧ BoxAt w4 b4 (v12 2 a' n cap' N) ∧ BoxAt w4 (b4 + 1) (o12 4 f v d0 d1) ∧ BoxAt w4 (b4 + 1 + 1) (a12 true x.b x.v an) ∧ BoxAt w4 (b4 + 1 + 1 + 1) [.int .i64 0, .slice none 0 0, .int .i64 0] from by
    obtain ⟨⟨h1, h2, h3⟩, h4, h5, h6, h7⟩ := H3.out
    obtain ⟨g1, g2, g3, g4, g5, g6⟩ := H1.out
    have z1 := g1.size
    have z2 := h1.size
    have z3 := hb34.size
    have e := hw4.out
    exact ⟨⟨h2.below hb34, h3, (g1.trans (h1.below z1 (fun k hk => by omega))).trans (hb34.mono (by omega)), by omega⟩, h4.below hb34, h5.below hb34, h6.below hb34, h7.below hb34⟩)
  clear x40 x50 x51 x52 x53 x54 hb34 HCk H1 H3
  have hHi := hidq (And.intro hL (And.intro hi (And.intro hin (And.intro hp hn))))
  obtain ⟨g, rfl, hF⟩ : ∃ g, a' = some ⟨g, 0, none⟩ ∧ Flat 2 w4 g cap' n (flatI (kts L)) := by
    rcases H4.out.1.1 with ⟨_, _, hz, _⟩ | ⟨g, e, hf⟩
    · omega
    · exact ⟨g, e, hf⟩
  have hg := H4.out.1.2.1 g ⟨_, rfl, rfl⟩
  have hWo := hidq (wo_yes 2 N p g cap' n i L x w4 hF hL hi hin hp hn)
  have x60 := (H4.out.2.2.2.1.get 0 _ rfl).1
  have x61 := (H4.out.2.2.2.1.get 1 _ rfl).1
  have x62 := (H4.out.2.2.2.1.get 2 _ rfl).1
  have x50 := (H4.out.2.2.1.get 0 _ rfl).1
  have x40 := (H4.out.2.1.get 0 _ rfl).1
  have x41 := (H4.out.2.1.get 1 _ rfl).1
  have x42 := (H4.out.2.1.get 2 _ rfl).1
  have HGB := hidq (And.intro hg H4.out.1)
  have X8 := hidq H4.out.2.2.2.2
  have xl8 := H4.out.1.2.2.2
  clear hF hL hi hin hp hn hg H4
  go_wp2_with fail
  refine hWo.out.mono ?_
  rintro e w5 ⟨rfl, hF5, hbt⟩
  have hX8 := X8.out.but hbt (fun e => by have e' : b4 + 1 + 1 + 1 = g := e; have := HGB.out.1; omega)
  obtain ⟨x80, z80⟩ := hX8.get 0 _ rfl
  obtain ⟨x81, z81⟩ := hX8.get 1 _ rfl
  obtain ⟨x82, z82⟩ := hX8.get 2 _ rfl
  have hxl := hX8.lt
  obtain ⟨hX, hB⟩ := box_set3 hX8 (.int .i64 2) (.slice (some ⟨g, 0, none⟩) (n - 1) cap') (.int .i64 N)
  have t0 := (hX.get 0 _ rfl).1
  have t1 := (hX.get 1 _ rfl).1
  have t2 := (hX.get 2 _ rfl).1
  have HT := hidq (And.intro t0 (And.intro t1 (And.intro t2 (And.intro hB (And.intro hF5 hbt)))))
  clear hX hB t0 t1 t2 hX8 x60 x61 x62 x50 x40 x41 x42 hF5 hbt X8 hWo xl8
  go_wp2_with fail
  obtain ⟨t0, t1, t2, hB, hF5, hbt⟩ := HT.out
  refine bodyPost_ret (v := .tuple #[.agg #[.int .i64 2, .slice (some ⟨g, 0, none⟩) (n - 1) cap', .int .i64 N], .bool true]) (by simp [results, Try.results11, go_sem, t0, t1, t2]) rfl ?_
  obtain ⟨hg, h1, h2, h3, h4⟩ := HGB.out
  have e := hw4.out
  have q1 := h3.size
  have q2 := hbt.size
  refine ⟨_, cap', rfl, .inr ⟨g, rfl, hF5.but hB (fun e => by have e' : g = b4 + 1 + 1 + 1 := e; omega)⟩, fun j hj => by have := h2 j hj; omega, (h3.trans (hbt.below q1 (fun k hk => by have hk' : k = g := hk; omega))).trans (hB.below (by omega) (fun k hk => by omega))⟩
end Go.Proofs.Ytbcmilfajeanbaa

namespace Go.Proofs.Ytbcmilfajeanbaa
open Go.RowKit Go.Sort

theorem own'_mono {O : Nat → Prop} {w w1 w2 : World} (h1 : w.heap.size ≤ w1.heap.size) (h2 : w1.heap.size ≤ w2.heap.size) {k : Nat} (h : own' (own' O w w1) w1 w2 k) : own' O w w2 k := by
  rcases h with (h | h) | h
  · exact .inl h
  · exact .inr ⟨h.1, by omega⟩
  · exact .inr ⟨by omega, h.2⟩
theorem MemAt.own {w : World} {b : Nat} {O O' : Nat → Prop} {M : Mem} (h : MemAt w b O M) (hi : ∀ k, O k → O' k) (hl : ∀ k, O' k → k < w.heap.size) : MemAt w b O' M := by
  obtain ⟨a, cap, A, C, hr⟩ := h.row
  exact ⟨hi _ h.ob, hl, ⟨a, cap, A, C, hr.hd, hr.sl, fun j hj => ⟨hi _ (hr.own j hj).1, (hr.own j hj).2⟩, hr.its, fun i hi' j hj => ⟨hi _ (hr.ito i hi' j hj).1, (hr.ito i hi' j hj).2⟩⟩, h.clk, h.fz0, h.fz1, h.max, h.rest, h.few⟩

theorem reach_max (M : Mem) (n : Nat) (h : n ≤ M.len) : M.reach n = M := by
  unfold Mem.reach; rw [Nat.max_eq_left h]
theorem reach_twice (M : Mem) (m n : Nat) (h : m ≤ n) : (M.reach m).reach n = M.reach n := by
  unfold Mem.reach; simp only [Mem.mk.injEq, and_true]; omega

/-- A row that was moved or grown in place, with one cell more. -/
theorem mem_grown {w w1 : World} {b g cap' : Nat} {O : Nat → Prop} {M : Mem} {a : Option Addr} {cap : Nat} {A : Nat → Option Addr} {C : Nat → Nat}
    (h : MemAt w b O M) (hr : RowC w b O M a cap A C) (hl : M.len < 1000)
    (hF : Flat 3 w1 g cap' (M.len + 1) (flatC M A C ++ [.int .u64 0, .int .i64 0, .slice none 0 0])) (hb : But (inB a) w w1) (hg : inB a g ∨ w.heap.size ≤ g) :
    MemAt (w1.setCell ⟨b, 0, none⟩ (.slice (some ⟨g, 0, none⟩) (M.len + 1) cap')) b (own' O w w1) (M.reach (M.len + 1)) ∧ But O w (w1.setCell ⟨b, 0, none⟩ (.slice (some ⟨g, 0, none⟩) (M.len + 1) cap')) := by
  have hbl := h.lt b h.ob
  have hnb : ¬ inB a b := fun e => (hr.own b e).2 rfl
  have hm : (M.reach (M.len + 1)).len = M.len + 1 := by show max M.len (M.len + 1) = _; omega
  have c0 : w1.cell? ⟨b, 0, none⟩ = some (.slice a M.len cap) := by rw [hb.cell (p := ⟨b, 0, none⟩) hbl hnb]; exact hr.hd
  have hgo : own' O w w1 g ∧ g ≠ b := by
    rcases hg with hg | hg
    · exact ⟨.inl (hr.own g hg).1, (hr.own g hg).2⟩
    · exact ⟨.inr ⟨hg, hF.lt⟩, by omega⟩
  have hset : But (fun k => k = b) w1 (w1.setCell ⟨b, 0, none⟩ (.slice (some ⟨g, 0, none⟩) (M.len + 1) cap')) := (But.refl (fun k => k = b) w1).set1 b 0 rfl _
  refine ⟨⟨.inl h.ob, ?_, ⟨some ⟨g, 0, none⟩, cap', fun i => if i = M.len then none else A i, fun i => if i = M.len then 0 else C i, ?_⟩, ?_, ?_, ?_, by rw [hm]; omega, ?_, h.few⟩, ?_⟩
  · intro k hk
    rw [World.size_setCell]
    rcases hk with hk | hk
    · exact Nat.lt_of_lt_of_le (h.lt k hk) hb.size
    · exact hk.2
  · refine ⟨by rw [World.cell?_setCell_same' _ _ _ (by rw [c0]; rfl), hm], .inr ⟨g, rfl, ?_⟩, ?_, ?_, ?_⟩
    · rw [hm, flatC_snoc M A C (h.rest _ (Nat.le_refl _))]
      exact hF.but hset hgo.2
    · rintro j ⟨x, hx, rfl⟩; cases hx; exact hgo
    · intro i hi
      rw [hm] at hi
      by_cases e : i = M.len
      · subst e
        show SlAt 2 _ (if M.len = M.len then none else A M.len) (if M.len = M.len then 0 else C M.len) (M.cell M.len).L.length (flatI (M.cell M.len).L)
        rw [if_pos rfl, if_pos rfl, h.rest _ (Nat.le_refl _)]
        exact SlAt.nil _ _
      · show SlAt 2 _ (if i = M.len then none else A i) (if i = M.len then 0 else C i) (M.cell i).L.length (flatI (M.cell i).L)
        rw [if_neg e, if_neg e]
        have hi' : i < M.len := by omega
        exact ((hr.its i hi').but hb (fun j hj => (hr.ito i hi' j hj).2.2)).but hset (fun j hj => (hr.ito i hi' j hj).2.1)
    · intro i hi j hj
      rw [hm] at hi
      by_cases e : i = M.len
      · rw [if_pos e] at hj; obtain ⟨x, hx, _⟩ := hj; cases hx
      · rw [if_neg e] at hj
        have hi' : i < M.len := by omega
        have h1 := hr.ito i hi' j hj
        refine ⟨.inl h1.1, h1.2.1, ?_⟩
        rintro ⟨x, hx, hxj⟩
        cases hx
        have hxj' : g = j := hxj
        rcases hg with hg | hg
        · rw [hxj'] at hg; exact h1.2.2 hg
        · have := h.lt j h1.1; omega
  · rw [World.cell?_setCell_other _ _ _ _ (fun e => by injection e with _ e2; cases e2), hb.cell (p := ⟨b, 1, none⟩) hbl hnb]
    exact h.clk
  · rw [World.frozen?_setCell, hb.frozen (p := ⟨b, 0, none⟩) hbl hnb]; exact h.fz0
  · rw [World.frozen?_setCell, hb.frozen (p := ⟨b, 1, none⟩) hbl hnb]; exact h.fz1
  · intro i hi
    rw [hm] at hi
    exact h.rest i (by omega)
  · exact (hb.mono (fun k _ e => (hr.own k e).1)).trans (hset.mono (fun k _ e => by rw [e]; exact h.ob))

theorem add1 (n : Nat) : ((n + 1 : Nat) : Int) = (n : Int) + 1 := by omega
end Go.Proofs.Ytbcmilfajeanbaa

namespace Go.Proofs.Ytbcmilfajeanbaa
open Go.RowKit

/-- A draw among so many. -/
def into (d n : Int) : Int := if n < 1 then 0 else d % n
theorem into_lo {d n : Int} (h : n < 1) : into d n = 0 := if_pos h
theorem into_hi {d n : Int} (h : ¬ n < 1) : into d n = d % n := if_neg h
theorem tmod_emod_nonneg {d n : Int} (hn : 1 ≤ n) (h : 0 ≤ d.tmod n) : d.tmod n = d % n := by
  have h1 := Int.tmod_add_mul_tdiv d n
  have h2 := Int.tmod_lt_of_pos d (show 0 < n by omega)
  have h3 : d.tmod n % n = d.tmod n := Int.emod_eq_of_lt h h2
  have h4 : d % n = (d.tmod n + n * d.tdiv n) % n := by rw [h1]
  rw [h4, Int.add_mul_emod_self_left, h3]
theorem tmod_emod_neg {d n : Int} (hn : 1 ≤ n) (h : d.tmod n < 0) : d.tmod n + n = d % n := by
  have h1 := Int.tmod_add_mul_tdiv d n
  have h2 := Int.lt_tmod_of_pos d (show 0 < n by omega)
  have h3 : (d.tmod n + n) % n = d.tmod n + n := Int.emod_eq_of_lt (by omega) (by omega)
  have h4 : d % n = (d.tmod n + n * d.tdiv n) % n := by rw [h1]
  rw [h4, Int.add_mul_emod_self_left, ← h3, Int.add_emod_right]
theorem into_rng {d n : Int} (hn : 1 ≤ n) : 0 ≤ into d n ∧ into d n < n := by
  rw [into_hi (by omega)]
  exact ⟨Int.emod_nonneg _ (by omega), Int.emod_lt_of_pos _ (by omega)⟩

def pow2 (p : Int) : Bool := decide (p = 1 ∨ p = 2 ∨ p = 4 ∨ p = 8 ∨ p = 16)
theorem pow2_any (p : Int) (w : World) (h : 1 ≤ p ∧ p ≤ 16) : Calls Try.prog 62 #[.int .i64 p] w fun e w' => e = .returned (.bool (pow2 p)) ∧ w' = w := by
  have hp : bits .and .i64 p (p - 1) = 0 ↔ pow2 p = true := by
    have : p = 1 ∨ p = 2 ∨ p = 3 ∨ p = 4 ∨ p = 5 ∨ p = 6 ∨ p = 7 ∨ p = 8 ∨ p = 9 ∨ p = 10 ∨ p = 11 ∨ p = 12 ∨ p = 13 ∨ p = 14 ∨ p = 15 ∨ p = 16 := by omega
    rcases this with rfl | rfl | rfl | rfl | rfl | rfl | rfl | rfl | rfl | rfl | rfl | rfl | rfl | rfl | rfl | rfl <;> decide
  cases hq : pow2 p
  · have hb : (bits .and .i64 p (p - 1) == 0) = false := by
      cases he : (bits .and .i64 p (p - 1) == 0)
      · rfl
      · rw [hp.1 (by simpa using he)] at hq; cases hq
    clear hp hq
    go_enter Try.func62, Try.ntmps62
    go_wp2
    go_ret
    exact ⟨rfl, rfl⟩
  · have hb := hp.2 hq
    clear hp hq
    go_enter Try.func62, Try.ntmps62
    go_wp2
    go_ret
    exact ⟨rfl, rfl⟩

/-- May a structure of a kind have this parameter? -/
def legal (k p : Int) : Int := if ¬ (1 ≤ k ∧ k ≤ 4) then 6 else if ¬ (1 ≤ p ∧ p ≤ 16) then 5 else if k = 4 ∧ pow2 p = false then 5 else 0
theorem legal_kind {k p : Int} (h : ¬ (1 ≤ k ∧ k ≤ 4)) : legal k p = 6 := if_pos h
theorem legal_par {k p : Int} (h : 1 ≤ k ∧ k ≤ 4) (hp : ¬ (1 ≤ p ∧ p ≤ 16)) : legal k p = 5 := by unfold legal; rw [if_neg (fun e => e h), if_pos hp]
theorem legal_net {k p : Int} (h : 1 ≤ k ∧ k ≤ 4) (hp : 1 ≤ p ∧ p ≤ 16) (hq : k = 4 ∧ pow2 p = false) : legal k p = 5 := by unfold legal; rw [if_neg (fun e => e h), if_neg (fun e => e hp), if_pos hq]
theorem legal_ok {k p : Int} (h : 1 ≤ k ∧ k ≤ 4) (hp : 1 ≤ p ∧ p ≤ 16) (hq : ¬ (k = 4 ∧ pow2 p = false)) : legal k p = 0 := by unfold legal; rw [if_neg (fun e => e h), if_neg (fun e => e hp), if_neg hq]
theorem opl_pos (k : Int) : ((opl k).length = 0 ↔ ¬ (1 ≤ k ∧ k ≤ 4)) := by
  rcases kinds k with rfl | rfl | rfl | rfl | h
  · decide
  · decide
  · decide
  · decide
  · rw [(opl_none h).1]; simp; omega

set_option maxHeartbeats 2000000 in
theorem legal_any (k p : Int) (w : World) : Calls Try.prog 30 #[.int .i64 k, .int .i64 p] w fun e w' => e = .returned (.int .i64 (legal k p)) ∧ Below w.heap.size w w' := by
  have hO := of_any k w
  have hl := opl_pos k
  have hl2 := (opl_length k).2
  generalize opl k = l at *
  by_cases hk : 1 ≤ k ∧ k ≤ 4
  · have hn : ((l.length : Int) == 0) = false := by
      have : ¬ l.length = 0 := fun e => hl.1 e hk
      simp; intro e; exact this (by simp [e])
    generalize l.length = n at *
    clear hl hl2
    by_cases hp : p < 1
    · rw [legal_par hk (by omega)]
      clear hk
      go_enter Try.func30, Try.ntmps30
      go_wp2_with (go_at_call 61; refine hO.mono ?_; rintro e w1 ⟨a, rfl, hi, hb⟩)
      go_ret
      exact ⟨rfl, hb⟩
    · have hp1 : decide (p < 1) = false := decide_eq_false hp
      by_cases hq : 16 < p
      · rw [legal_par hk (by omega)]
        clear hk hp
        go_enter Try.func30, Try.ntmps30
        go_wp2_with (go_at_call 61; refine hO.mono ?_; rintro e w1 ⟨a, rfl, hi, hb⟩)
        go_ret
        exact ⟨rfl, hb⟩
      · have hq1 : decide (16 < p) = false := decide_eq_false hq
        have hpp : 1 ≤ p ∧ p ≤ 16 := by omega
        have hP := fun w => pow2_any p w hpp
        by_cases h4 : k = 4
        · cases hz : pow2 p
          · rw [legal_net hk hpp ⟨h4, hz⟩]
            rw [hz] at hP
            subst h4
            clear hk hp hpp hz hq
            go_enter Try.func30, Try.ntmps30
            go_wp2_with (first | (go_at_call 61; refine hO.mono ?_; rintro e w1 ⟨a, rfl, hi, hb⟩) | (go_at_call 62; refine (hP _).mono ?_; rintro e w2 ⟨rfl, hw⟩; replace hw := hw.symm; subst hw))
            go_ret
            exact ⟨rfl, hb⟩
          · rw [legal_ok hk hpp (fun e => by rw [hz] at e; cases e.2)]
            rw [hz] at hP
            subst h4
            clear hk hp hpp hz hq
            go_enter Try.func30, Try.ntmps30
            go_wp2_with (first | (go_at_call 61; refine hO.mono ?_; rintro e w1 ⟨a, rfl, hi, hb⟩) | (go_at_call 62; refine (hP _).mono ?_; rintro e w2 ⟨rfl, hw⟩; replace hw := hw.symm; subst hw))
            go_ret
            exact ⟨rfl, hb⟩
        · rw [legal_ok hk hpp (fun e => h4 e.1)]
          have h41 : (k == 4) = false := by simpa using h4
          clear hk hp hpp hq h4 hP
          go_enter Try.func30, Try.ntmps30
          go_wp2_with (go_at_call 61; refine hO.mono ?_; rintro e w1 ⟨a, rfl, hi, hb⟩)
          go_ret
          exact ⟨rfl, hb⟩
  · rw [legal_kind hk]
    have hn : l.length = 0 := hl.2 hk
    rw [hn] at hO
    clear hl hl2 hn hk
    go_enter Try.func30, Try.ntmps30
    go_wp2_with (go_at_call 61; refine hO.mono ?_; rintro e w1 ⟨a, rfl, hi, hb⟩)
    go_ret
    exact ⟨rfl, hb⟩

end Go.Proofs.Ytbcmilfajeanbaa

namespace Go.Proofs.Ytbcmilfajeanbaa
open Go.RowKit Go.Sort

set_option maxRecDepth 20000 in
set_option maxHeartbeats 4000000 in
theorem ofno_any (kd p : Int) (b : Nat) (w : World) (hL : ¬ legal kd p = 0) :
    Calls Try.prog 8 #[.int .i64 kd, .int .i64 p, .pointer (some ⟨b, 0, none⟩)] w fun e w' => e = .returned (.tuple #[.agg #[.int .i64 0, .slice none 0 0, .int .i64 0], .int .i64 (legal kd p)]) ∧ Below w.heap.size w w' := by
  have hG := fun w => legal_any kd p w
  obtain ⟨r, hr⟩ : ∃ r, legal kd p = r := ⟨_, rfl⟩
  rw [hr] at hG hL ⊢
  have n1 : (r != 0) = true := by simpa using hL
  have n2 : (r == 0) = false := by simpa using hL
  obtain ⟨b0, hb0⟩ : ∃ b0, w.heap.size = b0 := ⟨_, rfl⟩
  clear hr
  go_enter Try.func8, Try.ntmps8
  go_wp2_with fail
  try rw [hb0]
  have h0 := BoxAt.new w [.int .i64 0, .slice none 0 0, .int .i64 0] 28
  have ha0 := (Below.refl w.heap.size w).alloc (Nat.le_refl _) (.cells #[.int .i64 0, .slice none 0 0, .int .i64 0] 28)
  rw [hb0] at h0
  refine (hG _).mono ?_
  rintro e w1 ⟨rfl, hb1⟩
  have hX := h0.below hb1
  have hall := ha0.trans (hb1.mono ha0.size)
  obtain ⟨⟨x0, y0⟩, ⟨x1, y1⟩, ⟨x2, y2⟩⟩ := three_at hX
  have hxl := hX.lt
  have HE := hidq hall
  have HB := hidq hb0
  clear h0 ha0 hb1 hG hall hb0 hX
  go_wp2_with fail
  refine bodyPost_ret (v := .tuple #[.agg #[.int .i64 0, .slice none 0 0, .int .i64 0], .int .i64 r]) (by simp [results, Try.results8, go_sem, x0, x1, x2]) rfl ⟨rfl, ?_⟩
  have e := HB.out
  exact ((HE.out.setCell (p := ⟨b0, 0, none⟩) (by show w.heap.size ≤ b0; omega) _).setCell (p := ⟨b0, 1, none⟩) (by show w.heap.size ≤ b0; omega) _).setCell (p := ⟨b0, 2, none⟩) (by show w.heap.size ≤ b0; omega) _

def one12 : KI := KI.of 0 1 (by decide)
def two12 : KI := KI.of 0 2 (by decide)
def aw12R (_b4 _b5 b6 g5 g6 c6 : Nat) : List (Value → World → Prop) :=
  [fun v _ => v = .int .i64 5,
   fun v _ => v = .bool true,
   fun v _ => v = .bool true,
   fun v _ => v = .bool true,
   fun v _ => v = .bool true,
   fun v _ => v = .bool true,
   fun v _ => v = .pointer (some ⟨b6, 1, none⟩),
   fun v _ => v = .slice (some ⟨g6, 0, none⟩) 2 c6,
   fun v _ => v = .int .i64 2,
   fun v _ => v = .bool true,
   fun v _ => v = .bool true,
   fun v _ => v = .bool true,
   fun v _ => v = .pointer (some ⟨b6, 1, none⟩),
   fun v _ => v = .slice (some ⟨g6, 0, none⟩) 2 c6,
   fun v _ => v = .pointer (some ⟨g6, 0, none⟩),
   fun v _ => v = .agg #[.float .f64 0, .int .i64 2],
   fun v _ => v = .agg #[.float .f64 0, .int .i64 2],
   fun v _ => v = .bool true,
   fun v _ => v = .bool true,
   fun v _ => v = .bool true,
   fun v _ => v = .agg #[.int .i64 2, .slice (some ⟨g5, 0, none⟩) 3 3, .int .i64 0],
   fun v _ => v = .agg #[.int .i64 2, .slice (some ⟨g6, 0, none⟩) 2 c6, .int .i64 0],
   fun v _ => v = .bool false,
   fun v _ => v = .bool true,
   fun v _ => v = .bool true,
   fun v _ => v = .bool true]
theorem aw12R_kept (b4 b5 b6 g5 g6 c6 : Nat) : Reg.AllKept Reg.Keeps (aw12R b4 b5 b6 g5 g6 c6) :=
  ⟨(fun _ _ _ _ h => h), (fun _ _ _ _ h => h), (fun _ _ _ _ h => h), (fun _ _ _ _ h => h), (fun _ _ _ _ h => h), (fun _ _ _ _ h => h), (fun _ _ _ _ h => h), (fun _ _ _ _ h => h), (fun _ _ _ _ h => h), (fun _ _ _ _ h => h), (fun _ _ _ _ h => h), (fun _ _ _ _ h => h), (fun _ _ _ _ h => h), (fun _ _ _ _ h => h), (fun _ _ _ _ h => h), (fun _ _ _ _ h => h), (fun _ _ _ _ h => h), (fun _ _ _ _ h => h), (fun _ _ _ _ h => h), (fun _ _ _ _ h => h), (fun _ _ _ _ h => h), (fun _ _ _ _ h => h), (fun _ _ _ _ h => h), (fun _ _ _ _ h => h), (fun _ _ _ _ h => h), (fun _ _ _ _ h => h), trivial⟩

set_option maxRecDepth 20000 in
set_option maxHeartbeats 8000000 in
theorem awake12_any (w : World) : Calls Try.prog 7 #[] w fun e w' => e = .returned (.bool true) ∧ Below w.heap.size w w' := by
  have hsf := run_store_float (P := Try.prog)
  have o1 : one12.b = 0 := KI.of_b _ _ _
  have o2 : one12.v = 1 := KI.of_v _ _ _
  have t1 : two12.b = 0 := KI.of_b _ _ _
  have t2 : two12.v = 2 := KI.of_v _ _ _
  have hOf := fun b w => ofno_any 4 5 b w (by decide)
  rw [show legal 4 5 = 5 by decide] at hOf
  go_enter Try.func7, Try.ntmps7
  go_wp2_with fail
  refine (new5_any w).mono ?_
  rintro e w1 ⟨rfl, _, hb1⟩
  have HA := hidq hb1
  clear hb1
  go_wp2_with fail
  refine (hOf _ _).mono ?_
  rintro e w2 ⟨rfl, hb2⟩
  have HB := hidq (HA.out.trans (hb2.mono HA.out.size))
  clear hb2 hOf HA
  obtain ⟨b0, hb0⟩ : ∃ b0, w2.heap.size = b0 := ⟨_, rfl⟩
  go_upto_region 4 with fail
  obtain ⟨W5, hW5⟩ : ∃ W5, (((((w2.alloc (.cells #[.int .i64 0, .slice none 0 0, .int .i64 0] 28)).alloc (.cells #[.float .f64 0, .int .i64 1] 39)).alloc (.cells #[.float .f64 0, .int .i64 2] 39)).alloc (.cells #[.float .f64 0, .int .i64 1, .float .f64 0, .int .i64 2, .float .f64 0, .int .i64 1] 39)).alloc (.cells #[.int .i64 2, .slice (some ⟨b0 + 1 + 1 + 1, 0, none⟩) 3 3, .int .i64 0] 28)) = W5 := ⟨_, rfl⟩
  rw [hW5]
  have H5 := hidq (show Below w2.heap.size w2 W5 ∧ BoxAt W5 (b0 + 1) [.float .f64 0, .int .i64 1] ∧ BoxAt W5 (b0 + 1 + 1) [.float .f64 0, .int .i64 2] ∧ Flat 2 W5 (b0 + 1 + 1 + 1) 3 3 (flatI (kts [one12, two12, one12])) ∧ BoxAt W5 (b0 + 1 + 1 + 1 + 1) [.int .i64 2, .slice (some ⟨b0 + 1 + 1 + 1, 0, none⟩) 3 3, .int .i64 0] ∧ W5.heap.size = b0 + 5 from by
    have al : ∀ (w : World) (o : Obj), Below w.heap.size w (w.alloc o) := fun w o => (Below.refl _ _).alloc (Nat.le_refl _) _
    have e : flatI (kts [one12, two12, one12]) = [.float .f64 0, .int .i64 1, .float .f64 0, .int .i64 2, .float .f64 0, .int .i64 1] := by
      simp only [kts, flatI, List.map_cons, List.map_nil, List.flatMap_cons, List.flatMap_nil, kt, encI, o1, o2, t1, t2]; rfl
    rw [e, ← hW5, ← hb0]
    clear hW5
    generalize hA : w2.alloc (.cells #[.int .i64 0, .slice none 0 0, .int .i64 0] 28) = A
    have sA : A.heap.size = w2.heap.size + 1 := by rw [← hA]; simp
    have lA : Below w2.heap.size w2 A := by rw [← hA]; exact al _ _
    clear hA
    have x3 := BoxAt.new A [.float .f64 0, .int .i64 1] 39
    generalize hB : A.alloc (.cells [.float .f64 0, .int .i64 1].toArray 39) = B at x3
    have sB : B.heap.size = w2.heap.size + 1 + 1 := by rw [← hB]; simp [sA]
    have lB : Below A.heap.size A B := by rw [← hB]; exact al _ _
    try rw [show A.alloc (.cells #[.float .f64 0, .int .i64 1] 39) = B from hB]
    clear hB
    have x4 := BoxAt.new B [.float .f64 0, .int .i64 2] 39
    generalize hC : B.alloc (.cells [.float .f64 0, .int .i64 2].toArray 39) = C at x4
    have sC : C.heap.size = w2.heap.size + 1 + 1 + 1 := by rw [← hC]; simp [sB]
    have lC : Below B.heap.size B C := by rw [← hC]; exact al _ _
    try rw [show B.alloc (.cells #[.float .f64 0, .int .i64 2] 39) = C from hC]
    clear hC
    have x5 := Flat.new C [.float .f64 0, .int .i64 1, .float .f64 0, .int .i64 2, .float .f64 0, .int .i64 1] 39 2 3 rfl (by decide) (fun u hu => by simp at hu; rcases hu with rfl | rfl | rfl | rfl | rfl | rfl <;> rfl)
    generalize hD : C.alloc (.cells [.float .f64 0, .int .i64 1, .float .f64 0, .int .i64 2, .float .f64 0, .int .i64 1].toArray 39) = D at x5
    have sD : D.heap.size = w2.heap.size + 1 + 1 + 1 + 1 := by rw [← hD]; simp [sC]
    have lD : Below C.heap.size C D := by rw [← hD]; exact al _ _
    try rw [show C.alloc (.cells #[.float .f64 0, .int .i64 1, .float .f64 0, .int .i64 2, .float .f64 0, .int .i64 1] 39) = D from hD]
    clear hD
    have x6 := BoxAt.new D [.int .i64 2, .slice (some ⟨w2.heap.size + 1 + 1 + 1, 0, none⟩) 3 3, .int .i64 0] 28
    generalize hE : D.alloc (.cells [.int .i64 2, .slice (some ⟨w2.heap.size + 1 + 1 + 1, 0, none⟩) 3 3, .int .i64 0].toArray 28) = E at x6
    have sE : E.heap.size = w2.heap.size + 5 := by rw [← hE]; simp [sD]
    have lE : Below D.heap.size D E := by rw [← hE]; exact al _ _
    try rw [show D.alloc (.cells #[.int .i64 2, .slice (some ⟨w2.heap.size + 1 + 1 + 1, 0, none⟩) 3 3, .int .i64 0] 28) = E from hE]
    rw [sA] at x3
    rw [sB] at x4
    rw [sC] at x5
    rw [sD] at x6
    exact ⟨(((lA.trans (lB.mono (by omega))).trans (lC.mono (by omega))).trans (lD.mono (by omega))).trans (lE.mono (by omega)), ((x3.below lC).below lD).below lE, (x4.below lD).below lE, flat_below x5 lE, x6, sE⟩)
  obtain ⟨b3, hb3⟩ : ∃ b3, b0 + 1 = b3 := ⟨_, rfl⟩
  obtain ⟨b4, hb4⟩ : ∃ b4, b3 + 1 = b4 := ⟨_, rfl⟩
  obtain ⟨g5, hg5⟩ : ∃ g5, b4 + 1 = g5 := ⟨_, rfl⟩
  obtain ⟨b5, hb5⟩ : ∃ b5, g5 + 1 = b5 := ⟨_, rfl⟩
  rw [hb3, hb4, hg5, hb5] at H5 ⊢
  have HN := hidq (And.intro hb0 (And.intro hb3 (And.intro hb4 (And.intro hg5 hb5))))
  clear hW5 hb0 hb3 hb4 hg5 hb5
  obtain ⟨⟨u0, v0⟩, ⟨u1, v1⟩⟩ := (show (W5.cell? ⟨b3, 0, none⟩ = some (.float .f64 0) ∧ W5.frozen? ⟨b3, 0, none⟩ = false) ∧ (W5.cell? ⟨b3, 1, none⟩ = some (.int .i64 1) ∧ W5.frozen? ⟨b3, 1, none⟩ = false) from ⟨H5.out.2.1.get 0 _ rfl, H5.out.2.1.get 1 _ rfl⟩)
  obtain ⟨⟨y0, z0⟩, ⟨y1, z1⟩, ⟨y2, z2⟩⟩ := three_at H5.out.2.2.2.2.1
  have hAf := hidq (after_deq 0 0 0 0 0 2 0 [one12, two12, one12] one12 0 (some ⟨g5, 0, none⟩) 3 3 W5 (.inr ⟨g5, rfl, H5.out.2.2.2.1⟩) (by decide) rfl (by decide) (by decide) (by decide))
  rw [o1, o2] at hAf
  go_wp2_with fail
  refine hAf.out.mono ?_
  rintro e w6 ⟨a6, c6, rfl, hS6, hf6, hb6⟩
  rw [show (3 : Nat) - 1 = 2 from rfl] at hS6
  obtain ⟨g6, rfl, hF6⟩ : ∃ g, a6 = some ⟨g, 0, none⟩ ∧ Flat 2 w6 g c6 2 (flatI (kts [two12, one12])) := by
    rcases hS6 with ⟨_, _, hz, _⟩ | ⟨g, e, hf⟩
    · omega
    · exact ⟨g, e, hf⟩
  have hg6 := hf6 g6 ⟨_, rfl, rfl⟩
  obtain ⟨b6, hb6'⟩ : ∃ b6, w6.heap.size = b6 := ⟨_, rfl⟩
  have H6 := hidq (show Below W5.heap.size W5 w6 ∧ Flat 2 w6 g6 c6 2 (flatI (kts [two12, one12])) ∧ w6.heap.size = b6 from ⟨hb6, hF6, hb6'⟩)
  clear hS6 hF6 hf6 hb6 hAf u0 v0 u1 v1 y0 y1 y2 z0 z1 z2 hg6
  go_upto_region 5 with fail
  try rw [hb6']
  obtain ⟨W1, hW1⟩ : ∃ W1, w6.alloc (.cells #[.int .i64 2, .slice (some ⟨g6, 0, none⟩) 2 c6, .int .i64 0] 28) = W1 := ⟨_, rfl⟩
  rw [hW1]
  have hX6 : Below w6.heap.size w6 W1 ∧ BoxAt W1 b6 [.int .i64 2, .slice (some ⟨g6, 0, none⟩) 2 c6, .int .i64 0] := by
    rw [← hW1, ← hb6']
    exact ⟨(Below.refl _ _).alloc (Nat.le_refl _) _, BoxAt.new w6 _ _⟩
  have HH := hidq (show BoxAt W1 b4 [.float .f64 0, .int .i64 2] ∧ BoxAt W1 b5 [.int .i64 2, .slice (some ⟨g5, 0, none⟩) 3 3, .int .i64 0] ∧ BoxAt W1 b6 [.int .i64 2, .slice (some ⟨g6, 0, none⟩) 2 c6, .int .i64 0] ∧ Flat 2 W1 g5 3 3 (flatI (kts [one12, two12, one12])) ∧ Flat 2 W1 g6 c6 2 (flatI (kts [two12, one12])) ∧ Below w.heap.size w W1 from by
    obtain ⟨q1, q2, q3⟩ := H6.out
    obtain ⟨p1, p2, p3, p4, p5, p6⟩ := H5.out
    have z1 := HB.out.size
    have z2 := p1.size
    have z3 := q1.size
    exact ⟨(p3.below q1).below hX6.1, (p5.below q1).below hX6.1, hX6.2, flat_below (flat_below p4 q1) hX6.1, flat_below q2 hX6.1, ((HB.out.trans (p1.mono z1)).trans (q1.mono (by omega))).trans (hX6.1.mono (by omega))⟩)
  clear hX6 hW1 H6 H5 HN hb6'
  have HS := hidq (fun W (hW : Below W1.heap.size W1 W) => wsame_any 2 2 0 0 (some ⟨g5, 0, none⟩) (some ⟨g6, 0, none⟩) 3 c6 3 2 [one12, two12, one12] [two12, one12] W rfl rfl (.inr ⟨g5, rfl, flat_below HH.out.2.2.2.1 hW⟩) (.inr ⟨g6, rfl, flat_below HH.out.2.2.2.2.1 hW⟩) (by decide))
  rw [show sameW 2 2 0 0 [one12, two12, one12] [two12, one12] = false by unfold sameW sameK; simp] at HS
  have FC := hidq (fun W (hW : Below W1.heap.size W1 W) => (show W.cell? ⟨b4, 0, none⟩ = some (.float .f64 0) ∧ W.cell? ⟨b4, 1, none⟩ = some (.int .i64 2) ∧ W.cell? ⟨b5, 0, none⟩ = some (.int .i64 2) ∧ W.cell? ⟨b5, 1, none⟩ = some (.slice (some ⟨g5, 0, none⟩) 3 3) ∧ W.cell? ⟨b5, 2, none⟩ = some (.int .i64 0) ∧ W.cell? ⟨b6, 0, none⟩ = some (.int .i64 2) ∧ W.cell? ⟨b6, 1, none⟩ = some (.slice (some ⟨g6, 0, none⟩) 2 c6) ∧ W.cell? ⟨b6, 2, none⟩ = some (.int .i64 0) ∧ W.cell? ⟨g6, 0, none⟩ = some (.float .f64 0) ∧ W.cell? ⟨g6, 1, none⟩ = some (.int .i64 2) from by
    obtain ⟨p4, p5, p6, _, p7, _⟩ := HH.out
    have p4 := p4.below hW
    have p5 := p5.below hW
    have p6 := p6.below hW
    obtain ⟨g, e, _, c0⟩ := item_at (.inr ⟨g6, rfl, flat_below p7 hW⟩) (show (kts [two12, one12]).length = 2 from rfl) (k := 0) (by decide)
    cases e
    have e0 : (kts [two12, one12])[0]! = kt two12 := rfl
    rw [e0, kt, t1, t2] at c0
    exact ⟨(p4.get 0 _ rfl).1, (p4.get 1 _ rfl).1, (p5.get 0 _ rfl).1, (p5.get 1 _ rfl).1, (p5.get 2 _ rfl).1, (p6.get 0 _ rfl).1, (p6.get 1 _ rfl).1, (p6.get 2 _ rfl).1, c0.1, c0.2⟩))
  have hrefl : ∀ w : World, Reg.Keeps w w := Reg.Keeps.refl
  refine Reg.wp_region_props (Reg.ofList (aw12R b4 b5 b6 g5 g6 c6)) Reg.Keeps (fun _ w => Reg.Keeps W1 w) (by kernel_rfl) (by kernel_rfl) (Reg.AllKept.at _ (aw12R_kept b4 b5 b6 g5 g6 c6)) hrefl (Reg.Keeps.drewN (Reg.Keeps.refl _) 1) ⟨?_, ?_, ?_, ?_, ?_, ?_, ?_, ?_, ?_, ?_, ?_, ?_, ?_, ?_, ?_, ?_, ?_, ?_, ?_, ?_, ?_, ?_, ?_, ?_, ?_, ?_, trivial⟩ ?_
  · refine Reg.StepAt.plain (i := 0) rfl ?_
    intro L ev w hI hk hp hA
    have e2 : ev (.tmp 2) = .int .i64 5 := hA.oldNone 2 (by kernel_rfl)
    have hcc := hA.const
    clear hA hp
    refine Reg.out_value (v := .int .i64 5) ?_ ⟨rfl, hrefl _, hI⟩
    go_simp
  · refine Reg.StepAt.plain (i := 1) rfl ?_
    intro L ev w hI hk hp hA
    have e28 : ev (.tmp 28) = .int .i64 5 := hA.val 0 _ 28 rfl (hp ⟨0, .data⟩ (by simp) rfl) rfl
    have hcc := hA.const
    clear hA hp
    refine Reg.out_value (v := .bool true) ?_ ⟨rfl, hrefl _, hI⟩
    go_simp
  · refine Reg.StepAt.plain (i := 2) rfl ?_
    intro L ev w hI hk hp hA
    have e29 : ev (.tmp 29) = .bool true := hA.val 1 _ 29 rfl (hp ⟨1, .data⟩ (by simp) rfl) rfl
    have hcc := hA.const
    clear hA hp
    refine Reg.out_value (v := .bool true) ?_ ⟨rfl, hrefl _, hI⟩
    go_simp
  · refine Reg.StepAt.guarded (i := 3) rfl ?_
    intro L ev w hI hk hp hA
    have e7 : ev (.tmp 7) = .bool true := hA.oldNone 7 (by kernel_rfl)
    have eg : ev (.tmp 30) = .bool true := hA.val 2 _ 30 rfl (hp ⟨2, .guard⟩ (by simp) rfl) rfl
    refine ⟨_, 30, true, rfl, rfl, eg, ?_⟩
    rw [if_pos rfl]
    have hcc := hA.const
    clear hA hp
    refine Reg.out_value (v := .bool true) ?_ ⟨rfl, hrefl _, hI⟩
    go_simp
  · refine Reg.StepAt.plain (i := 4) rfl ?_
    intro L ev w hI hk hp hA
    have e30 : ev (.tmp 30) = .bool true := hA.val 2 _ 30 rfl (hp ⟨2, .data⟩ (by simp) rfl) rfl
    have e31 : ev (.tmp 31) = .bool true := hA.val 3 _ 31 rfl (hp ⟨3, .data⟩ (by simp) rfl) rfl
    have hcc := hA.const
    clear hA hp
    refine Reg.out_value (v := .bool true) ?_ ⟨rfl, hrefl _, hI⟩
    go_simp
  · refine Reg.StepAt.plain (i := 5) rfl ?_
    intro L ev w hI hk hp hA
    have e32 : ev (.tmp 32) = .bool true := hA.val 4 _ 32 rfl (hp ⟨4, .data⟩ (by simp) rfl) rfl
    have hcc := hA.const
    clear hA hp
    refine Reg.out_value (v := .bool true) ?_ ⟨rfl, hrefl _, hI⟩
    go_simp
  · refine Reg.StepAt.guarded (i := 6) rfl ?_
    intro L ev w hI hk hp hA
    have e6 : ev (.tmp 6) = .pointer (some ⟨b6, 0, none⟩) := hA.oldNone 6 (by kernel_rfl)
    have eg : ev (.tmp 33) = .bool true := hA.val 5 _ 33 rfl (hp ⟨5, .guard⟩ (by simp) rfl) rfl
    refine ⟨_, 33, true, rfl, rfl, eg, ?_⟩
    rw [if_pos rfl]
    have hcc := hA.const
    clear hA hp
    refine Reg.out_value (v := .pointer (some ⟨b6, 1, none⟩)) ?_ ⟨rfl, hrefl _, hI⟩
    go_simp
  · refine Reg.StepAt.guarded (i := 7) rfl ?_
    intro L ev w hI hk hp hA
    have e34 : ev (.tmp 34) = .pointer (some ⟨b6, 1, none⟩) := hA.val 6 _ 34 rfl (hp ⟨6, .data⟩ (by simp) rfl) rfl
    have eg : ev (.tmp 33) = .bool true := hA.val 5 _ 33 rfl (hp ⟨5, .guard⟩ (by simp) rfl) rfl
    refine ⟨_, 33, true, rfl, rfl, eg, ?_⟩
    rw [if_pos rfl]
    have hcc := hA.const
    clear hA hp
    obtain ⟨f0, f1, f2, f3, f4, f5, f6, f7, f8, f9⟩ := FC.out w hI
    refine Reg.out_value (v := .slice (some ⟨g6, 0, none⟩) 2 c6) ?_ ⟨rfl, hrefl _, hI⟩
    go_simp
  · refine Reg.StepAt.guarded (i := 8) rfl ?_
    intro L ev w hI hk hp hA
    have e35 : ev (.tmp 35) = .slice (some ⟨g6, 0, none⟩) 2 c6 := hA.val 7 _ 35 rfl (hp ⟨7, .data⟩ (by simp) rfl) rfl
    have eg : ev (.tmp 33) = .bool true := hA.val 5 _ 33 rfl (hp ⟨5, .guard⟩ (by simp) rfl) rfl
    refine ⟨_, 33, true, rfl, rfl, eg, ?_⟩
    rw [if_pos rfl]
    have hcc := hA.const
    clear hA hp
    refine Reg.out_value (v := .int .i64 2) ?_ ⟨rfl, hrefl _, hI⟩
    go_simp
  · refine Reg.StepAt.guarded (i := 9) rfl ?_
    intro L ev w hI hk hp hA
    have e36 : ev (.tmp 36) = .int .i64 2 := hA.val 8 _ 36 rfl (hp ⟨8, .data⟩ (by simp) rfl) rfl
    have eg : ev (.tmp 33) = .bool true := hA.val 5 _ 33 rfl (hp ⟨5, .guard⟩ (by simp) rfl) rfl
    refine ⟨_, 33, true, rfl, rfl, eg, ?_⟩
    rw [if_pos rfl]
    have hcc := hA.const
    clear hA hp
    refine Reg.out_value (v := .bool true) ?_ ⟨rfl, hrefl _, hI⟩
    go_simp
  · refine Reg.StepAt.plain (i := 10) rfl ?_
    intro L ev w hI hk hp hA
    have e33 : ev (.tmp 33) = .bool true := hA.val 5 _ 33 rfl (hp ⟨5, .data⟩ (by simp) rfl) rfl
    have e37 : ev (.tmp 37) = .bool true := hA.val 9 _ 37 rfl (hp ⟨9, .data⟩ (by simp) rfl) rfl
    have hcc := hA.const
    clear hA hp
    refine Reg.out_value (v := .bool true) ?_ ⟨rfl, hrefl _, hI⟩
    go_simp
  · refine Reg.StepAt.plain (i := 11) rfl ?_
    intro L ev w hI hk hp hA
    have e38 : ev (.tmp 38) = .bool true := hA.val 10 _ 38 rfl (hp ⟨10, .data⟩ (by simp) rfl) rfl
    have hcc := hA.const
    clear hA hp
    refine Reg.out_value (v := .bool true) ?_ ⟨rfl, hrefl _, hI⟩
    go_simp
  · refine Reg.StepAt.guarded (i := 12) rfl ?_
    intro L ev w hI hk hp hA
    have e6 : ev (.tmp 6) = .pointer (some ⟨b6, 0, none⟩) := hA.oldNone 6 (by kernel_rfl)
    have eg : ev (.tmp 39) = .bool true := hA.val 11 _ 39 rfl (hp ⟨11, .guard⟩ (by simp) rfl) rfl
    refine ⟨_, 39, true, rfl, rfl, eg, ?_⟩
    rw [if_pos rfl]
    have hcc := hA.const
    clear hA hp
    refine Reg.out_value (v := .pointer (some ⟨b6, 1, none⟩)) ?_ ⟨rfl, hrefl _, hI⟩
    go_simp
  · refine Reg.StepAt.guarded (i := 13) rfl ?_
    intro L ev w hI hk hp hA
    have e40 : ev (.tmp 40) = .pointer (some ⟨b6, 1, none⟩) := hA.val 12 _ 40 rfl (hp ⟨12, .data⟩ (by simp) rfl) rfl
    have eg : ev (.tmp 39) = .bool true := hA.val 11 _ 39 rfl (hp ⟨11, .guard⟩ (by simp) rfl) rfl
    refine ⟨_, 39, true, rfl, rfl, eg, ?_⟩
    rw [if_pos rfl]
    have hcc := hA.const
    clear hA hp
    obtain ⟨f0, f1, f2, f3, f4, f5, f6, f7, f8, f9⟩ := FC.out w hI
    refine Reg.out_value (v := .slice (some ⟨g6, 0, none⟩) 2 c6) ?_ ⟨rfl, hrefl _, hI⟩
    go_simp
  · refine Reg.StepAt.guarded (i := 14) rfl ?_
    intro L ev w hI hk hp hA
    have e41 : ev (.tmp 41) = .slice (some ⟨g6, 0, none⟩) 2 c6 := hA.val 13 _ 41 rfl (hp ⟨13, .data⟩ (by simp) rfl) rfl
    have eg : ev (.tmp 39) = .bool true := hA.val 11 _ 39 rfl (hp ⟨11, .guard⟩ (by simp) rfl) rfl
    refine ⟨_, 39, true, rfl, rfl, eg, ?_⟩
    rw [if_pos rfl]
    have hcc := hA.const
    clear hA hp
    refine Reg.out_value (v := .pointer (some ⟨g6, 0, none⟩)) ?_ ⟨rfl, hrefl _, hI⟩
    go_simp
  · refine Reg.StepAt.guarded (i := 15) rfl ?_
    intro L ev w hI hk hp hA
    have e42 : ev (.tmp 42) = .pointer (some ⟨g6, 0, none⟩) := hA.val 14 _ 42 rfl (hp ⟨14, .data⟩ (by simp) rfl) rfl
    have eg : ev (.tmp 39) = .bool true := hA.val 11 _ 39 rfl (hp ⟨11, .guard⟩ (by simp) rfl) rfl
    refine ⟨_, 39, true, rfl, rfl, eg, ?_⟩
    rw [if_pos rfl]
    have hcc := hA.const
    clear hA hp
    obtain ⟨f0, f1, f2, f3, f4, f5, f6, f7, f8, f9⟩ := FC.out w hI
    refine Reg.out_value (v := .agg #[.float .f64 0, .int .i64 2]) ?_ ⟨rfl, hrefl _, hI⟩
    go_simp
  · refine Reg.StepAt.guarded (i := 16) rfl ?_
    intro L ev w hI hk hp hA
    have e4 : ev (.tmp 4) = .pointer (some ⟨b4, 0, none⟩) := hA.oldNone 4 (by kernel_rfl)
    have eg : ev (.tmp 39) = .bool true := hA.val 11 _ 39 rfl (hp ⟨11, .guard⟩ (by simp) rfl) rfl
    refine ⟨_, 39, true, rfl, rfl, eg, ?_⟩
    rw [if_pos rfl]
    have hcc := hA.const
    clear hA hp
    obtain ⟨f0, f1, f2, f3, f4, f5, f6, f7, f8, f9⟩ := FC.out w hI
    refine Reg.out_value (v := .agg #[.float .f64 0, .int .i64 2]) ?_ ⟨rfl, hrefl _, hI⟩
    go_simp
  · refine Reg.StepAt.guarded (i := 17) rfl ?_
    intro L ev w hI hk hp hA
    have e43 : ev (.tmp 43) = .agg #[.float .f64 0, .int .i64 2] := hA.val 15 _ 43 rfl (hp ⟨15, .data⟩ (by simp) rfl) rfl
    have e44 : ev (.tmp 44) = .agg #[.float .f64 0, .int .i64 2] := hA.val 16 _ 44 rfl (hp ⟨16, .data⟩ (by simp) rfl) rfl
    have eg : ev (.tmp 39) = .bool true := hA.val 11 _ 39 rfl (hp ⟨11, .guard⟩ (by simp) rfl) rfl
    refine ⟨_, 39, true, rfl, rfl, eg, ?_⟩
    rw [if_pos rfl]
    have hcc := hA.const
    clear hA hp
    refine Reg.out_value (v := .bool true) ?_ ⟨rfl, hrefl _, hI⟩
    (have hef := fun d a b w => run_equalIn_float (P := Try.prog) d 37 a b w Try.underlying37; have hfe : Op.floatEq .f64 0 0 = true := (by decide); go_simp)
  · refine Reg.StepAt.plain (i := 18) rfl ?_
    intro L ev w hI hk hp hA
    have e39 : ev (.tmp 39) = .bool true := hA.val 11 _ 39 rfl (hp ⟨11, .data⟩ (by simp) rfl) rfl
    have e45 : ev (.tmp 45) = .bool true := hA.val 17 _ 45 rfl (hp ⟨17, .data⟩ (by simp) rfl) rfl
    have hcc := hA.const
    clear hA hp
    refine Reg.out_value (v := .bool true) ?_ ⟨rfl, hrefl _, hI⟩
    go_simp
  · refine Reg.StepAt.plain (i := 19) rfl ?_
    intro L ev w hI hk hp hA
    have e46 : ev (.tmp 46) = .bool true := hA.val 18 _ 46 rfl (hp ⟨18, .data⟩ (by simp) rfl) rfl
    have hcc := hA.const
    clear hA hp
    refine Reg.out_value (v := .bool true) ?_ ⟨rfl, hrefl _, hI⟩
    go_simp
  · refine Reg.StepAt.guarded (i := 20) rfl ?_
    intro L ev w hI hk hp hA
    have e5 : ev (.tmp 5) = .pointer (some ⟨b5, 0, none⟩) := hA.oldNone 5 (by kernel_rfl)
    have eg : ev (.tmp 47) = .bool true := hA.val 19 _ 47 rfl (hp ⟨19, .guard⟩ (by simp) rfl) rfl
    refine ⟨_, 47, true, rfl, rfl, eg, ?_⟩
    rw [if_pos rfl]
    have hcc := hA.const
    clear hA hp
    obtain ⟨f0, f1, f2, f3, f4, f5, f6, f7, f8, f9⟩ := FC.out w hI
    refine Reg.out_value (v := .agg #[.int .i64 2, .slice (some ⟨g5, 0, none⟩) 3 3, .int .i64 0]) ?_ ⟨rfl, hrefl _, hI⟩
    go_simp
  · refine Reg.StepAt.guarded (i := 21) rfl ?_
    intro L ev w hI hk hp hA
    have e6 : ev (.tmp 6) = .pointer (some ⟨b6, 0, none⟩) := hA.oldNone 6 (by kernel_rfl)
    have eg : ev (.tmp 47) = .bool true := hA.val 19 _ 47 rfl (hp ⟨19, .guard⟩ (by simp) rfl) rfl
    refine ⟨_, 47, true, rfl, rfl, eg, ?_⟩
    rw [if_pos rfl]
    have hcc := hA.const
    clear hA hp
    obtain ⟨f0, f1, f2, f3, f4, f5, f6, f7, f8, f9⟩ := FC.out w hI
    refine Reg.out_value (v := .agg #[.int .i64 2, .slice (some ⟨g6, 0, none⟩) 2 c6, .int .i64 0]) ?_ ⟨rfl, hrefl _, hI⟩
    go_simp
  · refine Reg.StepAt.guarded (i := 22) rfl ?_
    intro L ev w hI hk hp hA
    have e48 : ev (.tmp 48) = .agg #[.int .i64 2, .slice (some ⟨g5, 0, none⟩) 3 3, .int .i64 0] := hA.val 20 _ 48 rfl (hp ⟨20, .data⟩ (by simp) rfl) rfl
    have e49 : ev (.tmp 49) = .agg #[.int .i64 2, .slice (some ⟨g6, 0, none⟩) 2 c6, .int .i64 0] := hA.val 21 _ 49 rfl (hp ⟨21, .data⟩ (by simp) rfl) rfl
    have eg : ev (.tmp 47) = .bool true := hA.val 19 _ 47 rfl (hp ⟨19, .chain⟩ (by simp) rfl) rfl
    refine ⟨_, 47, true, rfl, rfl, eg, ?_⟩
    rw [if_pos rfl]
    have hcc := hA.const
    have hcf := hA.func
    clear hA hp
    refine Reg.out_call (f := 12) (args := #[.agg #[.int .i64 2, .slice (some ⟨g5, 0, none⟩) 3 3, .int .i64 0], .agg #[.int .i64 2, .slice (some ⟨g6, 0, none⟩) 2 c6, .int .i64 0]]) (w0 := w) ?_ ?_
    · go_simp
    refine (HS.out w hI).mono ?_
    rintro e w' ⟨rfl, hb'⟩
    exact ⟨_, rfl, rfl, hb', Reg.Keeps.trans hI hb'⟩
  · refine Reg.StepAt.guarded (i := 23) rfl ?_
    intro L ev w hI hk hp hA
    have e50 : ev (.tmp 50) = .bool false := hA.val 22 _ 50 rfl (hp ⟨22, .data⟩ (by simp) rfl) rfl
    have eg : ev (.tmp 47) = .bool true := hA.val 19 _ 47 rfl (hp ⟨19, .guard⟩ (by simp) rfl) rfl
    refine ⟨_, 47, true, rfl, rfl, eg, ?_⟩
    rw [if_pos rfl]
    have hcc := hA.const
    clear hA hp
    refine Reg.out_value (v := .bool true) ?_ ⟨rfl, hrefl _, hI⟩
    go_simp
  · refine Reg.StepAt.plain (i := 24) rfl ?_
    intro L ev w hI hk hp hA
    have e47 : ev (.tmp 47) = .bool true := hA.val 19 _ 47 rfl (hp ⟨19, .data⟩ (by simp) rfl) rfl
    have e51 : ev (.tmp 51) = .bool true := hA.val 23 _ 51 rfl (hp ⟨23, .data⟩ (by simp) rfl) rfl
    have hcc := hA.const
    clear hA hp
    refine Reg.out_value (v := .bool true) ?_ ⟨rfl, hrefl _, hI⟩
    go_simp
  · refine Reg.StepAt.plain (i := 25) rfl ?_
    intro L ev w hI hk hp hA
    have e52 : ev (.tmp 52) = .bool true := hA.val 24 _ 52 rfl (hp ⟨24, .data⟩ (by simp) rfl) rfl
    have hcc := hA.const
    clear hA hp
    refine Reg.out_value (v := .bool true) ?_ ⟨rfl, hrefl _, hI⟩
    go_simp
  intro L act wz hall hI hF
  have g28 : act.eval (.tmp 28) = .int .i64 5 := hF.val 0 _ 28 rfl (hall 0 (by simp)) rfl
  have g29 : act.eval (.tmp 29) = .bool true := hF.val 1 _ 29 rfl (hall 1 (by simp)) rfl
  have g30 : act.eval (.tmp 30) = .bool true := hF.val 2 _ 30 rfl (hall 2 (by simp)) rfl
  have g31 : act.eval (.tmp 31) = .bool true := hF.val 3 _ 31 rfl (hall 3 (by simp)) rfl
  have g32 : act.eval (.tmp 32) = .bool true := hF.val 4 _ 32 rfl (hall 4 (by simp)) rfl
  have g33 : act.eval (.tmp 33) = .bool true := hF.val 5 _ 33 rfl (hall 5 (by simp)) rfl
  have g34 : act.eval (.tmp 34) = .pointer (some ⟨b6, 1, none⟩) := hF.val 6 _ 34 rfl (hall 6 (by simp)) rfl
  have g35 : act.eval (.tmp 35) = .slice (some ⟨g6, 0, none⟩) 2 c6 := hF.val 7 _ 35 rfl (hall 7 (by simp)) rfl
  have g36 : act.eval (.tmp 36) = .int .i64 2 := hF.val 8 _ 36 rfl (hall 8 (by simp)) rfl
  have g37 : act.eval (.tmp 37) = .bool true := hF.val 9 _ 37 rfl (hall 9 (by simp)) rfl
  have g38 : act.eval (.tmp 38) = .bool true := hF.val 10 _ 38 rfl (hall 10 (by simp)) rfl
  have g39 : act.eval (.tmp 39) = .bool true := hF.val 11 _ 39 rfl (hall 11 (by simp)) rfl
  have g40 : act.eval (.tmp 40) = .pointer (some ⟨b6, 1, none⟩) := hF.val 12 _ 40 rfl (hall 12 (by simp)) rfl
  have g41 : act.eval (.tmp 41) = .slice (some ⟨g6, 0, none⟩) 2 c6 := hF.val 13 _ 41 rfl (hall 13 (by simp)) rfl
  have g42 : act.eval (.tmp 42) = .pointer (some ⟨g6, 0, none⟩) := hF.val 14 _ 42 rfl (hall 14 (by simp)) rfl
  have g43 : act.eval (.tmp 43) = .agg #[.float .f64 0, .int .i64 2] := hF.val 15 _ 43 rfl (hall 15 (by simp)) rfl
  have g44 : act.eval (.tmp 44) = .agg #[.float .f64 0, .int .i64 2] := hF.val 16 _ 44 rfl (hall 16 (by simp)) rfl
  have g45 : act.eval (.tmp 45) = .bool true := hF.val 17 _ 45 rfl (hall 17 (by simp)) rfl
  have g46 : act.eval (.tmp 46) = .bool true := hF.val 18 _ 46 rfl (hall 18 (by simp)) rfl
  have g47 : act.eval (.tmp 47) = .bool true := hF.val 19 _ 47 rfl (hall 19 (by simp)) rfl
  have g48 : act.eval (.tmp 48) = .agg #[.int .i64 2, .slice (some ⟨g5, 0, none⟩) 3 3, .int .i64 0] := hF.val 20 _ 48 rfl (hall 20 (by simp)) rfl
  have g49 : act.eval (.tmp 49) = .agg #[.int .i64 2, .slice (some ⟨g6, 0, none⟩) 2 c6, .int .i64 0] := hF.val 21 _ 49 rfl (hall 21 (by simp)) rfl
  have g50 : act.eval (.tmp 50) = .bool false := hF.val 22 _ 50 rfl (hall 22 (by simp)) rfl
  have g51 : act.eval (.tmp 51) = .bool true := hF.val 23 _ 51 rfl (hall 23 (by simp)) rfl
  have g52 : act.eval (.tmp 52) = .bool true := hF.val 24 _ 52 rfl (hall 24 (by simp)) rfl
  have g0 : act.eval (.tmp 0) = .bool true := hF.val 25 _ 0 rfl (hall 25 (by simp)) rfl
  have hact := hF.act [28, 29, 30, 31, 32, 33, 34, 35, 36, 37, 38, 39, 40, 41, 42, 43, 44, 45, 46, 47, 48, 49, 50, 51, 52, 0] (by kernel_rfl)
  clear hF hall
  simp only [List.foldl_cons, List.foldl_nil] at hact
  rw [g28, g29, g30, g31, g32, g33, g34, g35, g36, g37, g38, g39, g40, g41, g42, g43, g44, g45, g46, g47, g48, g49, g50, g51, g52, g0] at hact
  clear g28 g29 g30 g31 g32 g33 g34 g35 g36 g37 g38 g39 g40 g41 g42 g43 g44 g45 g46 g47 g48 g49 g50 g51 g52 g0
  simp only [List.setIfInBounds_toArray, List.set_cons_succ, List.set_cons_zero] at hact
  subst hact
  have HE := hidq (HH.out.2.2.2.2.2.trans (Below.mono hI HH.out.2.2.2.2.2.size))
  clear hI HH FC HS
  go_wp2_with fail
  go_ret
  exact ⟨rfl, HE.out⟩
end Go.Proofs.Ytbcmilfajeanbaa

namespace Go.Proofs.Ytbcmilfajeanbaa
open Go.RowKit Go.Sort

theorem nil_append0 {P : Program} {k : Nat} {T E : TypeId} (hp : PlainK P k T E) (ty : TypeId) (w : World) (x : Value) (ys : List Value) (hs : Src P k T x 0 ys w) :
    (Builtin.append_ #[T, T] ty #[.slice none 0 0, x]).run P w = .ok (.slice none 0 0) w := by
  obtain ⟨i, z, hT, hi, hz, hsz, hzc, hby⟩ := hp
  subst hsz
  simp [Builtin.append_, run_underlying hT, sizeOf, typeInfo, hi, hs.len, hs.cells]
theorem sl_append_any {P : Program} {k : Nat} {T E : TypeId} (hp : PlainK P k T E) (ty : TypeId) (w : World) (a : Option Addr) (cap n : Nat) (l : List Value) (h : SlAt k w a cap n l) (x : Value) (m : Nat) (ys : List Value)
    (hs : Src P k T x m ys w) (hb : n + m ≤ 1099511627776) :
    ∃ a' cap' w', (Builtin.append_ #[T, T] ty #[.slice a n cap, x]).run P w = .ok (.slice a' (n + m) cap') w' ∧
      SlAt k w' a' cap' (n + m) (l ++ ys) ∧ But (inB a) w w' ∧ ∀ j, inB a' j → inB a j ∨ w.heap.size ≤ j := by
  by_cases hm : 0 < m
  · obtain ⟨g', cap', w', h1, h2, h3, h4⟩ := sl_append hp ty w a cap n l h x m ys hs hm hb
    refine ⟨_, cap', w', h1, .inr ⟨g', rfl, h2⟩, h3, fun j hj => ?_⟩
    obtain ⟨q, e, e2⟩ := hj
    cases e
    exact e2 ▸ h4
  · have hm0 : m = 0 := by omega
    subst hm0
    rcases h with ⟨rfl, rfl, rfl, rfl⟩ | ⟨g, rfl, hf⟩
    · have hy : ys = [] := by have := hs.newsLen; simpa using this
      subst hy
      exact ⟨none, 0, w, nil_append0 hp ty w x [] hs, SlAt.nil _ _, But.refl _ _, fun j hj => .inl hj⟩
    · obtain ⟨i, z, hT, hi, hz, hsz, hzc, hby⟩ := hp
      obtain ⟨g', cap', w', h1, h2, h3, h4⟩ := flat_append k T E ty i z hT hi hz hsz hzc w g cap n l hf x 0 ys hs (by unfold maxLen; omega) (Nat.le_trans (Nat.mul_le_mul hb hby) (by decide))
      refine ⟨_, cap', w', h1, .inr ⟨g', rfl, h2⟩, h3.mono (fun j _ e => ⟨_, rfl, e.symm⟩), fun j hj => ?_⟩
      obtain ⟨q, e, e2⟩ := hj
      cases e
      exact e2 ▸ h4.imp (fun e => ⟨_, rfl, e.symm⟩) id
theorem wpList_sla {P : Program} {k : Nat} {T E : TypeId} (hp : PlainK P k T E) (w : World) {ops : Array Oper} {rest : List Oper} {o : Oper} {a : Act} {Q : Exit → Act → World → Prop}
    (hg : o.guard = none) (s x : Operand) (hop : o.op = Op.call { callee := Callee.builtin Builtin.append, args := #[s, x], argTypes := #[T, T] })
    (b : Option Addr) (cap n : Nat) (l : List Value) (hs : a.eval s = .slice b n cap) (hF : SlAt k w b cap n l) (xv : Value) (hx : a.eval x = xv) (m : Nat) (ys : List Value)
    (hsrc : Src P k T xv m ys w) (hb : n + m ≤ 1099511627776)
    (hK : ∀ a' cap' w', SlAt k w' a' cap' (n + m) (l ++ ys) → But (inB b) w w' → (∀ j, inB a' j → inB b j ∨ w.heap.size ≤ j) → wpList P ops Q rest (a.put o.dst (.slice a' (n + m) cap')) w') : wpList P ops Q (o :: rest) a w := by
  refine wpList_plain hg fun K hK' => ?_
  obtain ⟨a', cap', w', hrun, r1, r2, r3⟩ := sl_append_any hp o.type w b cap n l hF xv m ys hsrc hb
  unfold Oper.wp
  simp [execOp, hop, resolve, invoke, builtin, hs, hx, hrun, Result.andThen]
  exact hK' _ _ (hK a' cap' w' r1 r2 r3)
end Go.Proofs.Ytbcmilfajeanbaa

namespace Go.Proofs.Ytbcmilfajeanbaa
open Go.RowKit Go.Sort

/-- One cell of a row is laid anew. -/
theorem Flat.set {k g cap n t : Nat} {w : World} {l : List Value} {v : Value} (h : Flat k w g cap n l) (ht : t < l.length) (hv : v.oneCell' = true) : Flat k (w.setCell ⟨g, t, none⟩ v) g cap n (l.set t v) := by
  have hc : (w.cell? ⟨g, t, none⟩).isSome = true := by rw [h.cell t _ (List.getElem?_eq_getElem ht)]; rfl
  refine ⟨by rw [World.size_setCell]; exact h.lt, by rw [List.length_set]; exact h.len, h.le, h.cmax, ?_, ?_, ?_⟩
  · intro s u hu
    rw [List.getElem?_set] at hu
    by_cases e : t = s
    · subst e
      rw [if_pos rfl, if_pos ht] at hu
      cases hu
      rw [World.cell?_setCell_same' _ _ _ hc]
    · rw [if_neg e] at hu
      rw [World.cell?_setCell_other _ _ _ _ (fun q => e (by injection q))]
      exact h.cell s u hu
  · intro u hu
    rcases List.mem_or_eq_of_mem_set hu with hu | rfl
    · exact h.one u hu
    · exact hv
  · intro j hj
    refine ⟨?_, by rw [World.frozen?_setCell]; exact (h.there j hj).2⟩
    by_cases e : t = j
    · subst e; rw [World.cell?_setCell_same' _ _ _ hc]; rfl
    · rw [World.cell?_setCell_other _ _ _ _ (fun q => e (by injection q))]; exact (h.there j hj).1

theorem flatC_set (M : Mem) (A : Nat → Option Addr) (C : Nat → Nat) (i : Nat) (v x : Int) (L : List It) (a' : Option Addr) (cap' : Nat) (M' : Mem) (hl : M'.len = M.len) (hc : ∀ j, M'.cell j = if j = i then ⟨v, x, L⟩ else M.cell j) :
    (((flatC M A C).set (i * 3) (.int .u64 v)).set (i * 3 + 1) (.int .i64 x)).set (i * 3 + 2) (.slice a' L.length cap') = flatC M' (fun j => if j = i then a' else A j) (fun j => if j = i then cap' else C j) := by
  apply List.ext_getElem?
  intro t
  by_cases ht : t < M.len * 3
  · rw [List.getElem?_set, List.getElem?_set, List.getElem?_set, flatC_get M' _ _ t (by rw [hl]; exact ht), flatC_get M A C t ht]
    simp only [List.length_set, flatC_length]
    unfold cellC
    dsimp only
    rw [hc]
    by_cases e : t / 3 = i
    · have : t = i * 3 ∨ t = i * 3 + 1 ∨ t = i * 3 + 2 := by omega
      rw [if_pos e, if_pos e, if_pos e]
      rcases this with rfl | rfl | rfl
      · rw [if_neg (by omega), if_neg (by omega), if_pos rfl, if_pos (by omega), if_pos (by omega)]
      · rw [if_neg (by omega), if_pos rfl, if_pos (by omega), if_neg (by omega), if_pos (by omega)]
      · rw [if_pos rfl, if_pos (by omega), if_neg (by omega), if_neg (by omega)]
    · rw [if_neg e, if_neg e, if_neg e, if_neg (by omega), if_neg (by omega), if_neg (by omega)]
  · rw [List.getElem?_eq_none (by simp [flatC_length]; omega), List.getElem?_eq_none (by rw [flatC_length, hl]; omega)]

/-- A memory whose clock has gone on and whose cell was laid anew. -/
theorem mem_laid {w w1 : World} {b i : Nat} {O : Nat → Prop} {M : Mem} (h : MemAt w b O M) (hi : i < M.len) (g cap : Nat) (A : Nat → Option Addr) (C : Nat → Nat) (hr : RowC w b O M (some ⟨g, 0, none⟩) cap A C)
    (x : Int) (L : List It) (a' : Option Addr) (cap' : Nat) (hb0 : But (fun _ => False) (w.setCell ⟨b, 1, none⟩ (.int .u64 ((M.clock + 1 : Nat) : Int))) w1) (hS : SlAt 2 w1 a' cap' L.length (flatI L)) (hF : ∀ j, inB a' j → w.heap.size ≤ j) (hL : L.length ≤ 1000000) (w2 : World)
    (hw2 : w2 = ((w1.setCell ⟨g, i * 3, none⟩ (.int .u64 ((M.clock + 1 : Nat) : Int))).setCell ⟨g, i * 3 + 1, none⟩ (.int .i64 x)).setCell ⟨g, i * 3 + 2, none⟩ (.slice a' L.length cap')) :
    MemAt w2 b (own' O w w2) (M.put i x L) ∧ But O w w2 := by
  have hbl := h.lt b h.ob
  have hgo := hr.own g ⟨_, rfl, rfl⟩
  have hgl := h.lt g hgo.1
  have hput : (M.put i x L).len = M.len := by show max M.len (i + 1) = _; omega
  have hbut : But (fun k => k = g) w1 w2 := by
    rw [hw2]
    exact (((But.refl (fun k => k = g) w1).set1 _ _ rfl _).set1 _ _ rfl _).set1 _ _ rfl _
  have hb : But (fun k => k = b) w w1 := ((But.refl (fun k => k = b) w).set1 b 1 rfl _).then hb0 (fun _ _ e => e.elim)
  have hsz : w2.heap.size = w1.heap.size := by rw [hw2]; simp [World.size_setCell]
  have hneb : ∀ (p q : Nat), (⟨g, p, none⟩ : Addr) ≠ ⟨b, q, none⟩ := fun p q e => by injection e with e1; exact hgo.2 e1
  have hc1 : w1.cell? ⟨b, 1, none⟩ = some (.int .u64 ((M.clock + 1 : Nat) : Int)) := by
    rw [hb0.cell (p := ⟨b, 1, none⟩) (by rw [World.size_setCell]; exact hbl) id, World.cell?_setCell_same' _ _ _ (by rw [h.clk]; rfl)]
  have hc0 : w1.cell? ⟨b, 0, none⟩ = some (.slice (some ⟨g, 0, none⟩) M.len cap) := by
    rw [hb0.cell (p := ⟨b, 0, none⟩) (by rw [World.size_setCell]; exact hbl) id, World.cell?_setCell_other _ _ _ _ (fun e => by injection e with _ e2; cases e2)]
    exact hr.hd
  have hB : But O w w2 := (hb.mono (fun k _ e => by rw [e]; exact h.ob)).then hbut (fun k _ e => by rw [e]; exact hgo.1)
  refine ⟨⟨.inl h.ob, ?_, ⟨some ⟨g, 0, none⟩, cap, fun j => if j = i then a' else A j, fun j => if j = i then cap' else C j, ?_⟩, ?_, ?_, ?_, by rw [hput]; exact h.max, ?_, ?_⟩, hB⟩
  · intro k hk
    rcases hk with hk | hk
    · exact Nat.lt_of_lt_of_le (h.lt k hk) hB.size
    · exact hk.2
  · refine ⟨?_, .inr ⟨g, rfl, ?_⟩, ?_, ?_, ?_⟩
    · rw [hput, hw2, World.cell?_setCell_other _ _ _ _ (hneb _ _), World.cell?_setCell_other _ _ _ _ (hneb _ _), World.cell?_setCell_other _ _ _ _ (hneb _ _)]
      exact hc0
    · rcases hr.sl with ⟨e, _⟩ | ⟨g', e, hf⟩
      · cases e
      · cases e
        have hf1 := hf.but hb hgo.2
        have hlen := flatC_length M A C
        have hf2 := ((hf1.set (t := i * 3) (v := .int .u64 ((M.clock + 1 : Nat) : Int)) (by rw [hlen]; omega) rfl).set (t := i * 3 + 1) (v := .int .i64 x) (by rw [List.length_set, hlen]; omega) rfl).set (t := i * 3 + 2) (v := .slice a' L.length cap') (by rw [List.length_set, List.length_set, hlen]; omega) rfl
        rw [flatC_set M A C i ((M.clock + 1 : Nat) : Int) x L a' cap' (M.put i x L) hput (fun j => rfl), ← hw2] at hf2
        rw [hput]
        exact hf2
    · rintro j ⟨y, hy, rfl⟩; cases hy; exact ⟨.inl hgo.1, hgo.2⟩
    · intro j hj
      rw [hput] at hj
      show SlAt 2 w2 (if j = i then a' else A j) (if j = i then cap' else C j) (if j = i then (⟨((M.clock + 1 : Nat) : Int), x, L⟩ : CV) else M.cell j).L.length (flatI (if j = i then (⟨((M.clock + 1 : Nat) : Int), x, L⟩ : CV) else M.cell j).L)
      by_cases e : j = i
      · rw [if_pos e, if_pos e, if_pos e]
        exact hS.but hbut (fun k hk e => by have := hF k hk; omega)
      · rw [if_neg e, if_neg e, if_neg e]
        refine ((hr.its j hj).but hb (fun k hk => (hr.ito j hj k hk).2.1)).but hbut (fun k hk e => ?_)
        exact (hr.ito j hj k hk).2.2 ⟨_, rfl, e.symm⟩
    · intro j hj k hk
      rw [hput] at hj
      have hk' : inB (if j = i then a' else A j) k := hk
      by_cases e : j = i
      · rw [if_pos e] at hk'
        have h1 := hF k hk'
        have h2 := hS.lt k hk'
        refine ⟨.inr ⟨h1, by omega⟩, by omega, ?_⟩
        rintro ⟨y, hy, hyk⟩; cases hy
        have : g = k := hyk
        omega
      · rw [if_neg e] at hk'
        have h1 := hr.ito j hj k hk'
        exact ⟨.inl h1.1, h1.2.1, h1.2.2⟩
  · show w2.cell? ⟨b, 1, none⟩ = some (.int .u64 ((M.clock + 1 : Nat) : Int))
    rw [hw2, World.cell?_setCell_other _ _ _ _ (hneb _ _), World.cell?_setCell_other _ _ _ _ (hneb _ _), World.cell?_setCell_other _ _ _ _ (hneb _ _)]
    exact hc1
  · rw [hw2, World.frozen?_setCell, World.frozen?_setCell, World.frozen?_setCell, hb0.frozen (p := ⟨b, 0, none⟩) (by rw [World.size_setCell]; exact hbl) id, World.frozen?_setCell]; exact h.fz0
  · rw [hw2, World.frozen?_setCell, World.frozen?_setCell, World.frozen?_setCell, hb0.frozen (p := ⟨b, 1, none⟩) (by rw [World.size_setCell]; exact hbl) id, World.frozen?_setCell]; exact h.fz1
  · intro j hj
    rw [hput] at hj
    show (if j = i then _ else M.cell j) = _
    rw [if_neg (by omega)]; exact h.rest j hj
  · intro j
    show (if j = i then (⟨((M.clock + 1 : Nat) : Int), x, L⟩ : CV) else M.cell j).L.length ≤ _
    by_cases e : j = i
    · rw [if_pos e]; exact hL
    · rw [if_neg e]; exact h.few j

theorem put_reach (M : Mem) (i : Nat) (x : Int) (L : List It) : (M.reach (i + 1)).put i x L = M.put i x L := by
  unfold Mem.put Mem.reach
  simp only [Mem.mk.injEq, and_true]
  omega

end Go.Proofs.Ytbcmilfajeanbaa

namespace Go.Proofs.Ytbcmilfajeanbaa
open Go.RowKit Go.Sort

/-- What Write does. -/
def Mem.can (M : Mem) (i v : Int) : Bool := decide (0 ≤ i ∧ i < 1000) && ((M.look i).ver == v)
theorem can_yes {M : Mem} {i : Nat} {v : Int} (h : i < 1000) (hv : (M.cell i).ver = v) : M.can (i : Int) v = true := by
  unfold Mem.can; rw [look_nat, hv]; simp; omega

/-- Write, whichever way it goes. -/
def Mem.write (M : Mem) (i v x : Int) (L : List It) : Mem := if M.can i v = true then M.put i.toNat x L else M
theorem write_as {M : Mem} {i v x : Int} {L : List It} : (M.can i v = true ∧ M.write i v x L = M.put i.toNat x L ∧ ∃ k : Nat, i = (k : Int) ∧ k < 1000 ∧ (M.cell k).ver = v) ∨ (M.can i v = false ∧ M.write i v x L = M) := by
  cases h : M.can i v
  · refine .inr ⟨rfl, ?_⟩
    unfold Mem.write; rw [h]; rfl
  · refine .inl ⟨rfl, ?_, ?_⟩
    · unfold Mem.write; rw [h]; rfl
    · unfold Mem.can at h
      simp at h
      refine ⟨i.toNat, by omega, by omega, ?_⟩
      have := h.2
      unfold Mem.look at this
      rw [if_neg (by omega)] at this
      exact this
theorem own'_lt {O : Nat → Prop} {w w' : World} (h : ∀ k, O k → k < w.heap.size) (hs : w.heap.size ≤ w'.heap.size) : ∀ k, own' O w w' k → k < w'.heap.size := fun k hk => by
  rcases hk with e | e
  · exact Nat.lt_of_lt_of_le (h k e) hs
  · exact e.2
/-- Force, whichever way it goes. -/
def inRange (i : Int) : Bool := decide (0 ≤ i ∧ i < 1000)
def Mem.force (M : Mem) (i x : Int) (L : List It) : Mem := if inRange i = true then M.put i.toNat x L else M
end Go.Proofs.Ytbcmilfajeanbaa

namespace Go.Proofs.Ytbcmilfajeanbaa
open Go.RowKit Go.Sort

/-- An answer. -/
structure Ans where
  ok : Bool
  pri : Nat
  val : Int
  n : Int
def Ans.zero : Ans := ⟨false, 0, 0, 0⟩
abbrev Ans.l (a : Ans) : List Value := [.bool a.ok, .float .f64 a.pri, .int .i64 a.val, .int .i64 a.n]
abbrev Ans.v (a : Ans) : Value := .agg #[.bool a.ok, .float .f64 a.pri, .int .i64 a.val, .int .i64 a.n]

/-- An operation under way. -/
structure Fr where
  kind : Int
  pri : Nat
  val : Int
  d0 : Int
  d1 : Int
  pc : Int
  at_ : Int
  seen : Int
  seg : Int
  total : Int
  empty : Bool
  c0 : CV
  c1 : CV
/-- One that begins. -/
def Fr.of (kind : Int) (pri : Nat) (val d0 d1 : Int) : Fr := ⟨kind, pri, val, d0, d1, 0, 0, 0, 0, 0, false, CV.zero, CV.zero⟩
abbrev Fr.l (F : Fr) (a0 : Option Addr) (k0 : Nat) (a1 : Option Addr) (k1 : Nat) : List Value :=
  [.int .i64 F.kind, .float .f64 F.pri, .int .i64 F.val, .int .i64 F.d0, .int .i64 F.d1, .int .i64 F.pc, .int .i64 F.at_, .int .i64 F.seen, .int .i64 F.seg, .int .i64 F.total, .bool F.empty,
    .int .u64 F.c0.ver, .int .i64 F.c0.n, .slice a0 F.c0.L.length k0, .int .u64 F.c1.ver, .int .i64 F.c1.n, .slice a1 F.c1.L.length k1]
/-- It lies at block fb; P: the blocks that it owns. -/
structure FrAt (w : World) (fb : Nat) (P : Nat → Prop) (F : Fr) : Prop where
  ob : P fb
  lt : ∀ k, P k → k < w.heap.size
  box : ∃ a0 k0 a1 k1, BoxAt w fb (F.l a0 k0 a1 k1) ∧ SlAt 2 w a0 k0 F.c0.L.length (flatI F.c0.L) ∧ SlAt 2 w a1 k1 F.c1.L.length (flatI F.c1.L) ∧ (∀ j, inB a0 j → P j ∧ j ≠ fb) ∧ (∀ j, inB a1 j → P j ∧ j ≠ fb)
theorem FrAt.but {w w' : World} {fb : Nat} {P S : Nat → Prop} {F : Fr} (h : FrAt w fb P F) (hb : But S w w') (hS : ∀ k, P k → ¬ S k) : FrAt w' fb P F := by
  obtain ⟨a0, k0, a1, k1, h1, h2, h3, h4, h5⟩ := h.box
  exact ⟨h.ob, fun k hk => Nat.lt_of_lt_of_le (h.lt k hk) hb.size, a0, k0, a1, k1, h1.but hb (hS fb h.ob), h2.but hb (fun j hj => hS j (h4 j hj).1), h3.but hb (fun j hj => hS j (h5 j hj).1), h4, h5⟩
theorem FrAt.below {w w' : World} {fb : Nat} {P : Nat → Prop} {F : Fr} (h : FrAt w fb P F) (hb : Below w.heap.size w w') : FrAt w' fb P F := h.but (S := fun _ => False) (But.of_below hb) (fun _ _ e => e)

/-- What a machine's step does: the memory, the operation, the answer, is it done? -/
abbrev StepFn := Mem → Fr → Mem × Fr × Ans × Bool
/-- Some blocks, and new ones. -/
def Grown (O : Nat → Prop) (w w' : World) (O' : Nat → Prop) : Prop := ∀ k, O' k → O k ∨ (w.heap.size ≤ k ∧ k < w'.heap.size)
theorem Grown.refl (O : Nat → Prop) (w w' : World) : Grown O w w' O := fun _ h => .inl h
theorem Grown.trans {O O' O2 : Nat → Prop} {w w1 w2 : World} (h : Grown O w w1 O') (k : Grown O' w1 w2 O2) (h1 : w.heap.size ≤ w1.heap.size) (h2 : w1.heap.size ≤ w2.heap.size) : Grown O w w2 O2 := fun j hj => by
  rcases k j hj with e | e
  · rcases h j e with e | e
    · exact .inl e
    · exact .inr ⟨e.1, by omega⟩
  · exact .inr ⟨by omega, e.2⟩
theorem Grown.own' (O : Nat → Prop) (w w' : World) : Grown O w w' (own' O w w') := fun _ h => h
/-- How a step ends. -/
def StepEnd (b fb : Nat) (O P : Nat → Prop) (r : Mem × Fr × Ans × Bool) (w : World) (e : Ending) (w' : World) : Prop :=
  e = .returned (.tuple #[r.2.2.1.v, .bool r.2.2.2]) ∧ ∃ O' P', MemAt w' b O' r.1 ∧ FrAt w' fb P' r.2.1 ∧ (∀ k, O' k → ¬ P' k) ∧ Grown O w w' O' ∧ Grown P w w' P' ∧ But (fun k => O k ∨ P k) w w'
/-- Function f is a machine's step. -/
def IsStep (f : FuncId) (recv : Value) (G : Mem → Fr → Prop) (st : StepFn) : Prop :=
  ∀ (w : World) (b fb : Nat) (O P : Nat → Prop) (M : Mem) (F : Fr), MemAt w b O M → FrAt w fb P F → (∀ k, O k → ¬ P k) → G M F → M.clock < 4611686018427387904 →
    Calls Try.prog f #[recv, .pointer (some ⟨b, 0, none⟩), .pointer (some ⟨fb, 0, none⟩)] w (StepEnd b fb O P (st M F) w)
end Go.Proofs.Ytbcmilfajeanbaa

namespace Go.Proofs.Ytbcmilfajeanbaa
open Go.RowKit Go.Sort

/-- The N of so many cells, from one on. -/
def totA (M : Mem) (f : Int) : Nat → Int
  | 0 => 0
  | k + 1 => wrap64 (totA M f k + (M.look (f + (k : Int))).n)

/-- A cell's value. -/
theorem cell_value (x y z : Value) (w : World) : (Instr.field 114 (.agg #[x, y, z]) 1).run Try.prog w = .ok (.agg #[y, z]) w := by kernel_rfl
theorem value_n (x y : Value) (w : World) : (Instr.field 112 (.agg #[x, y]) 0).run Try.prog w = .ok x w := by kernel_rfl
theorem value_l (x y : Value) (w : World) : (Instr.field 112 (.agg #[x, y]) 1).run Try.prog w = .ok y w := by kernel_rfl
set_option maxRecDepth 10000 in
set_option maxHeartbeats 2000000 in
theorem together_any (b : Nat) (O : Nat → Prop) (M : Mem) (f : Int) (c : Nat) (hf : 0 ≤ f ∧ f ≤ 1000) (hc : c ≤ 1000) (w : World) (h : MemAt w b O M) :
    Calls Try.prog 33 #[.pointer (some ⟨b, 0, none⟩), .int .i64 f, .int .i64 (c : Int)] w fun e w' => e = .returned (.int .i64 (totA M f c)) ∧ Below w.heap.size w w' := by
  have HM := hidq h
  have hfd := cell_value
  have hfn := value_n
  clear h
  go_enter Try.func33, Try.ntmps33
  go_wp2
  go_loopw [7, 10] (fun n i wr => ∃ k : Nat, n = .int .i64 (totA M f k) ∧ i = .int .i64 (k : Int) ∧ k ≤ c ∧ Below w.heap.size w wr) (fun _ i _ => c - (intOf i).toNat)
  case atStart => exact ⟨0, rfl, rfl, Nat.zero_le _, Below.refl _ _⟩
  case round =>
    obtain ⟨k, rfl, rfl, hk, hB⟩ := hrel
    by_cases hlt : k < c
    · have hR := hidq (read5_any b O M (f + (k : Int)) wr (HM.out.below hB))
      have hd : (k : Int) < (c : Int) := by omega
      have hfk : IntKind.i64.wrap (f + (k : Int)) = f + (k : Int) := by rw [IntKind.wrap_i64]; omega
      have hT : wrap64 (totA M f k + (M.look (f + (k : Int))).n) = totA M f (k + 1) := rfl
      have HT := hidq hT
      have HB := hidq hB
      clear hT hB
      go_wp2_with fail
      try rw [hfk]
      refine hR.out.mono ?_
      rintro e w1 ⟨a', cap', rfl, _, _, hb1⟩
      have HB1 := hidq hb1
      clear hb1 hR
      go_wp2
      refine ⟨⟨k + 1, ?_, by first | rfl | (congr 1; omega), by omega, HB.out.trans (HB1.out.mono HB.out.size)⟩, by simp [intOf]; omega⟩
      show Value.int .i64 (wrap64 (totA M f k + (M.look (f + (k : Int))).n)) = _
      rw [HT.out]
    · have hd : decide ((k : Int) < (c : Int)) = false := decide_eq_false (by omega)
      have hkc : k = c := by omega
      subst hkc
      have HB := hidq hB
      clear hB
      go_wp2
      go_ret
      exact ⟨rfl, HB.out⟩
end Go.Proofs.Ytbcmilfajeanbaa

namespace Go.Proofs.Ytbcmilfajeanbaa
open Go.RowKit Go.Sort

/-- Block g holds a row of items with room for cap. -/
structure Row (w : World) (g cap : Nat) (d : Array KI) : Prop where
  lt : g < w.heap.size
  le : d.size ≤ cap
  max : d.size ≤ 1099511627776
  cmax : cap ≤ maxLen
  flt : ∀ i, i < d.size → w.cell? ⟨g, i * 2, none⟩ = some (.float .f64 d[i]!.b)
  val : ∀ i, i < d.size → w.cell? ⟨g, i * 2 + 1, none⟩ = some (.int .i64 d[i]!.v)
  there : ∀ j, j < cap * 2 → (w.cell? ⟨g, j, none⟩).isSome = true ∧ w.frozen? ⟨g, j, none⟩ = false

theorem Row.but {S : Nat → Prop} {w w' : World} {g cap : Nat} {d : Array KI} (h : Row w g cap d) (hb : But S w w') (hS : ¬ S g) : Row w' g cap d :=
  ⟨Nat.lt_of_lt_of_le h.lt hb.size, h.le, h.max, h.cmax, fun i hi => by rw [hb.cell (p := ⟨g, i * 2, none⟩) h.lt hS]; exact h.flt i hi,
   fun i hi => by rw [hb.cell (p := ⟨g, i * 2 + 1, none⟩) h.lt hS]; exact h.val i hi,
   fun j hj => by rw [hb.cell (p := ⟨g, j, none⟩) h.lt hS, hb.frozen (p := ⟨g, j, none⟩) h.lt hS]; exact h.there j hj⟩

/-- One item is laid over another one. -/
theorem Row.set {w : World} {g cap : Nat} {d : Array KI} (h : Row w g cap d) (i : Nat) (hi : i < d.size) (x : KI) :
    Row ((w.setCell ⟨g, i * 2, none⟩ (.float .f64 x.b)).setCell ⟨g, i * 2 + 1, none⟩ (.int .i64 x.v)) g cap (d.setIfInBounds i x) := by
  have s1 : (w.cell? ⟨g, i * 2, none⟩).isSome = true := by rw [h.flt i hi]; rfl
  have hne : ∀ a b : Nat, a ≠ b → (⟨g, a, none⟩ : Addr) ≠ ⟨g, b, none⟩ := fun a b hab e => by injection e; omega
  have s2 : ((w.setCell ⟨g, i * 2, none⟩ (.float .f64 x.b)).cell? ⟨g, i * 2 + 1, none⟩).isSome = true := by
    rw [World.cell?_setCell_other _ _ _ _ (hne _ _ (by omega)), h.val i hi]; rfl
  have gx : ∀ k, k < d.size → (d.setIfInBounds i x)[k]! = if k = i then x else d[k]! := fun k hk => by
    rw [getElem!_pos (d.setIfInBounds i x) k (by simpa using hk), getElem!_pos d k hk, Array.getElem_setIfInBounds (by simpa using hk)]
    by_cases e : i = k
    · subst e; simp
    · rw [if_neg e, if_neg (Ne.symm e)]
  refine ⟨by rw [World.size_setCell, World.size_setCell]; exact h.lt, by simpa using h.le, by simpa using h.max, h.cmax, fun k hk => ?_, fun k hk => ?_, fun j hj => ⟨?_, ?_⟩⟩
  · have hk' : k < d.size := by simpa using hk
    rw [gx k hk', World.cell?_setCell_other _ _ _ _ (hne _ _ (by omega))]
    by_cases e : k = i
    · subst e; rw [if_pos rfl, World.cell?_setCell_same' _ _ _ s1]
    · rw [if_neg e, World.cell?_setCell_other _ _ _ _ (hne _ _ (by omega))]; exact h.flt k hk'
  · have hk' : k < d.size := by simpa using hk
    rw [gx k hk']
    by_cases e : k = i
    · subst e; rw [if_pos rfl, World.cell?_setCell_same' _ _ _ s2]
    · rw [if_neg e, World.cell?_setCell_other _ _ _ _ (hne _ _ (by omega)), World.cell?_setCell_other _ _ _ _ (hne _ _ (by omega))]; exact h.val k hk'
  · by_cases e2 : j = i * 2 + 1
    · subst e2; rw [World.cell?_setCell_same' _ _ _ s2]; rfl
    · rw [World.cell?_setCell_other _ _ _ _ (hne _ _ (Ne.symm e2))]
      by_cases e1 : j = i * 2
      · subst e1; rw [World.cell?_setCell_same' _ _ _ s1]; rfl
      · rw [World.cell?_setCell_other _ _ _ _ (hne _ _ (Ne.symm e1))]; exact (h.there j hj).1
  · rw [World.frozen?_setCell, World.frozen?_setCell]; exact (h.there j hj).2

theorem but4 (w : World) (g a b c e : Nat) (v1 v2 v3 v4 : Value) : But (fun k => k = g) w (((((w.setCell ⟨g, a, none⟩ v1).setCell ⟨g, b, none⟩ v2).setCell ⟨g, c, none⟩ v3).setCell ⟨g, e, none⟩ v4).drew) :=
  (((((But.refl (fun k => k = g) w).set1 g a rfl v1).set1 g b rfl v2).set1 g c rfl v3).set1 g e rfl v4).drew

end Go.Proofs.Ytbcmilfajeanbaa

namespace Go.Proofs.Ytbcmilfajeanbaa
open Go.RowKit Go.Sort

end Go.Proofs.Ytbcmilfajeanbaa

namespace Go.Proofs.Ytbcmilfajeanbaa
open Go.RowKit Go.Sort

/-- Block b is a pile whose items lie in block g. -/
structure PileAt (w : World) (b g cap : Nat) (d : Array KI) : Prop where
  hd : w.cell? ⟨b, 0, none⟩ = some (.slice (some ⟨g, 0, none⟩) d.size cap)
  fz : w.frozen? ⟨b, 0, none⟩ = false
  ne : b ≠ g
  blt : b < w.heap.size
  row : Row w g cap d
theorem PileAt.but {S : Nat → Prop} {w w' : World} {b g cap : Nat} {d : Array KI} (h : PileAt w b g cap d) (hb : But S w w') (h1 : ¬ S b) (h2 : ¬ S g) : PileAt w' b g cap d :=
  ⟨by rw [hb.cell (p := ⟨b, 0, none⟩) h.blt h1]; exact h.hd, by rw [hb.frozen (p := ⟨b, 0, none⟩) h.blt h1]; exact h.fz, h.ne, Nat.lt_of_lt_of_le h.blt hb.size, h.row.but hb h2⟩
theorem PileAt.rows {w w' : World} {b g cap : Nat} {d d' : Array KI} (h : PileAt w b g cap d) (hb : But (fun k => k = g) w w') (hr : Row w' g cap d') (hs : d'.size = d.size) : PileAt w' b g cap d' :=
  ⟨by rw [hb.cell (p := ⟨b, 0, none⟩) h.blt h.ne, hs]; exact h.hd, by rw [hb.frozen (p := ⟨b, 0, none⟩) h.blt h.ne]; exact h.fz, h.ne, Nat.lt_of_lt_of_le h.blt hb.size, hr⟩

/-- What sifting down leaves. -/
structure Sift (w w' : World) (b g cap n : Nat) (d d' : Array KI) : Prop where
  pile : PileAt w' b g cap d'
  but : But (fun k => k = g) w w'
  perm : d'.toList.Perm d.toList
  rest : ∀ x, n ≤ x → d'[x]! = d[x]!
theorem Sift.size {w w' : World} {b g cap n : Nat} {d d' : Array KI} (h : Sift w w' b g cap n d d') : d'.size = d.size := by
  have := h.perm.length_eq; simpa using this

end Go.Proofs.Ytbcmilfajeanbaa

namespace Go.Proofs.Ytbcmilfajeanbaa
open Go.RowKit Go.Sort

end Go.Proofs.Ytbcmilfajeanbaa

namespace Go.Proofs.Ytbcmilfajeanbaa
open Go.RowKit Go.Sort

/-- A row's cells, one behind the other. -/
def cellOf (d : Array KI) (t : Nat) : Value := if t % 2 = 0 then .float .f64 d[t / 2]!.b else .int .i64 d[t / 2]!.v
def flat (d : Array KI) : List Value := (List.range (d.size * 2)).map (cellOf d)
theorem flat_length (d : Array KI) : (flat d).length = d.size * 2 := by simp [flat]
theorem flat_get (d : Array KI) {t : Nat} {u : Value} (h : (flat d)[t]? = some u) : t < d.size * 2 ∧ u = cellOf d t := by
  have ht : t < (flat d).length := (List.getElem?_eq_some_iff.1 h).1
  rw [flat_length] at ht
  refine ⟨ht, ?_⟩
  simp [flat, ht] at h
  exact h.symm
theorem Row.cell {w : World} {g cap : Nat} {d : Array KI} (h : Row w g cap d) {t : Nat} (ht : t < d.size * 2) : w.cell? ⟨g, t, none⟩ = some (cellOf d t) := by
  unfold cellOf
  by_cases e : t % 2 = 0
  · have := h.flt (t / 2) (by omega)
    rw [show t / 2 * 2 = t by omega] at this
    rw [if_pos e]; exact this
  · have := h.val (t / 2) (by omega)
    rw [show t / 2 * 2 + 1 = t by omega] at this
    rw [if_neg e]; exact this
theorem Row.ofCells {w : World} {g cap : Nat} {d : Array KI} (h1 : g < w.heap.size) (h2 : d.size ≤ cap) (h3 : d.size ≤ 1099511627776) (h4 : cap ≤ maxLen) (h5 : ∀ t, t < d.size * 2 → w.cell? ⟨g, t, none⟩ = some (cellOf d t))
    (h6 : ∀ j, j < cap * 2 → (w.cell? ⟨g, j, none⟩).isSome = true ∧ w.frozen? ⟨g, j, none⟩ = false) : Row w g cap d :=
  ⟨h1, h2, h3, h4, fun i hi => by rw [h5 (i * 2) (by omega)]; unfold cellOf; rw [if_pos (by omega), show i * 2 / 2 = i by omega],
   fun i hi => by rw [h5 (i * 2 + 1) (by omega)]; unfold cellOf; rw [if_neg (by omega), show (i * 2 + 1) / 2 = i by omega], h6⟩
theorem push_get (d : Array KI) (x : KI) {i : Nat} (h : i < d.size) : (d.push x)[i]! = d[i]! := by
  rw [getElem!_pos (d.push x) i (by simp; omega), getElem!_pos d i h, Array.getElem_push_lt h]
theorem push_last (d : Array KI) (x : KI) : (d.push x)[d.size]! = x := by
  rw [getElem!_pos (d.push x) d.size (by simp), Array.getElem_push_eq]
theorem cellOf_push (d : Array KI) (x : KI) {t : Nat} (h : t < d.size * 2) : cellOf (d.push x) t = cellOf d t := by
  unfold cellOf; rw [push_get d x (by omega)]
theorem cellOf_last (d : Array KI) (x : KI) : cellOf (d.push x) (d.size * 2) = .float .f64 x.b ∧ cellOf (d.push x) (d.size * 2 + 1) = .int .i64 x.v := by
  unfold cellOf
  rw [if_pos (by omega), if_neg (by omega), show d.size * 2 / 2 = d.size by omega, show (d.size * 2 + 1) / 2 = d.size by omega, push_last]
  exact ⟨rfl, rfl⟩

theorem info_item : ∃ i : TypeInfo, Try.prog.info? 39 = some i ∧ i.zero = some (.agg #[.float .f64 0, .int .i64 0]) ∧ i.size = 2 ∧ i.bytes = 16 := by
  have h : (Try.prog.info? 39).map (fun i => (i.zero, i.size, i.bytes)) = some (some (.agg #[.float .f64 0, .int .i64 0]), 2, 16) := by kernel_rfl
  obtain ⟨i, hi, he⟩ := Option.map_eq_some_iff.1 h
  simp only [Prod.mk.injEq] at he
  exact ⟨i, hi, he.1, he.2.1, he.2.2⟩

theorem assert_item (v : Value) (w : World) : (Instr.typeAssert (.iface 39 v) 20 39 false).run Try.prog w = .ok v w := by kernel_rfl

theorem pop_get (d : Array KI) {i : Nat} (h : i + 1 < d.size) : d.pop[i]! = d[i]! := by
  rw [getElem!_pos d.pop i (by simp; omega), getElem!_pos d i (by omega), Array.getElem_pop]
theorem Row.pop {w : World} {g cap : Nat} {d : Array KI} (h : Row w g cap d) : Row w g cap d.pop :=
  ⟨h.lt, by have := h.le; simp; omega, by have := h.max; simp; omega, h.cmax, fun i hi => by simp at hi; rw [pop_get d (by omega)]; exact h.flt i (by omega), fun i hi => by simp at hi; rw [pop_get d (by omega)]; exact h.val i (by omega), h.there⟩

end Go.Proofs.Ytbcmilfajeanbaa

namespace Go.Proofs.Ytbcmilfajeanbaa
open Go.RowKit Go.Sort

theorem swp_self (d : Array KI) (i : Nat) (hi : i < d.size) : swp d i i = d := by
  apply Array.ext
  · simp [swp]
  · intro k h1 h2
    have e := swp_get d hi hi k
    rw [getElem!_pos _ k h1, getElem!_pos d k h2] at e
    rw [e]
    by_cases hk : k = i
    · subst hk; simp [h2]
    · simp [hk]
theorem pop_push (d : Array KI) (n : Nat) (hn : d.size = n + 1) : d.pop.push d[n]! = d := by
  apply Array.ext
  · simp [hn]
  · intro k h1 h2
    rw [Array.getElem_push]
    split
    · rw [Array.getElem_pop]
    · rename_i e
      have hk : k = n := by simp at e; omega
      subst hk
      exact getElem!_pos d k h2

end Go.Proofs.Ytbcmilfajeanbaa

namespace Go.Proofs.Ytbcmilfajeanbaa
open Go.RowKit Go.Sort

/-- Items that are handed over: their bits and values. -/
def Items (w : World) (a : Option Addr) (n : Nat) (P : Nat → Nat) (V : Nat → Int) : Prop :=
  ∀ i, i < n → ∃ g, a = some ⟨g, 0, none⟩ ∧ g < w.heap.size ∧ w.cell? ⟨g, i * 2, none⟩ = some (.float .f64 (P i)) ∧ w.cell? ⟨g, i * 2 + 1, none⟩ = some (.int .i64 (V i)) ∧ P i < 18446744073709551616
theorem Items.below {w w' : World} {a : Option Addr} {n : Nat} {P : Nat → Nat} {V : Nat → Int} (h : Items w a n P V) (hb : Below w.heap.size w w') : Items w' a n P V := fun i hi => by
  obtain ⟨g, h1, h2, h3, h4, h5⟩ := h i hi
  exact ⟨g, h1, Nat.lt_of_lt_of_le h2 hb.size, by rw [hb.cell (p := ⟨g, i * 2, none⟩) h2]; exact h3, by rw [hb.cell (p := ⟨g, i * 2 + 1, none⟩) h2]; exact h4, h5⟩
def canArr (P : Nat → Nat) (V : Nat → Int) (n k : Nat) : Array KI := (Array.range n).map fun i => if i < k then mkKI (P i) (V i) else default
theorem canArr_size (P : Nat → Nat) (V : Nat → Int) (n k : Nat) : (canArr P V n k).size = n := by simp [canArr]
theorem canArr_get (P : Nat → Nat) (V : Nat → Int) (n k i : Nat) (h : i < n) : (canArr P V n k)[i]! = if i < k then mkKI (P i) (V i) else default := by
  rw [getElem!_pos _ i (by rw [canArr_size]; exact h)]; simp [canArr]
theorem canArr_step (P : Nat → Nat) (V : Nat → Int) (n k : Nat) : (canArr P V n k).setIfInBounds k (mkKI (P k) (V k)) = canArr P V n (k + 1) := by
  apply Array.ext
  · simp [canArr]
  · intro i h1 h2
    rw [Array.getElem_setIfInBounds (by simpa using h1)]
    simp only [canArr, Array.getElem_map, Array.getElem_range]
    by_cases e : k = i
    · subst e; simp
    · rw [if_neg e]
      by_cases e2 : i < k
      · rw [if_pos e2, if_pos (by omega)]
      · rw [if_neg e2, if_neg (by omega)]

theorem made (n : Nat) (hn : n ≤ 1099511627776) (P : Nat → Nat) (V : Nat → Int) (w : World) : ∃ w0, (Instr.makeSlice 26 (.int .i64 (n : Int)) (.int .i64 (n : Int))).run Try.prog w = .ok (.slice (some ⟨w.heap.size, 0, none⟩) n n) w0 ∧ Row w0 w.heap.size n (canArr P V n 0) ∧ Below w.heap.size w w0 ∧ w0.heap.size = w.heap.size + 1 := by
  obtain ⟨i, hi, hz, hsz, hby⟩ := info_item
  have hr := run_make (P := Try.prog) w 26 39 i _ Try.underlying26 hi hz .i64 .i64 (n : Int) (n : Int) (by omega) (Int.le_refl _) (by rw [hby]; omega) (by omega)
  rw [Int.toNat_natCast, hsz] at hr
  refine ⟨_, hr, ?_, (Below.refl _ _).alloc (Nat.le_refl _) _, by simp⟩
  have hc : ∀ j, (w.alloc (.cells (madeCells (Value.agg #[.float .f64 0, .int .i64 0]).cells (n * 2)) 39)).cell? ⟨w.heap.size, j, none⟩ = (madeCells (Value.agg #[.float .f64 0, .int .i64 0]).cells (n * 2))[j]? := fun j => World.cell?_alloc_new w _ _ j
  refine Row.ofCells (by simp) (by rw [canArr_size]; exact Nat.le_refl _) (by rw [canArr_size]; exact hn) (by unfold maxLen; omega) (fun t ht => ?_) (fun j hj => ⟨?_, World.frozen?_alloc_new w _ _ _⟩)
  · rw [canArr_size] at ht
    rw [hc, Array.getElem?_eq_getElem (by rw [size_madeCells]; exact ht)]
    have e0 : (canArr P V n 0)[t / 2]! = default := by rw [canArr_get P V n 0 (t / 2) (by omega), if_neg (by omega)]
    unfold cellOf
    rw [e0]
    have ez : (Value.agg #[.float .f64 0, .int .i64 0]).cells = #[.float .f64 0, .int .i64 0] := rfl
    simp only [madeCells, Array.getElem_map, Array.getElem_range, ez]
    rcases Nat.mod_two_eq_zero_or_one t with e | e
    · rw [if_pos e]
      show some ((#[Value.float .f64 0, Value.int .i64 0] : Array Value)[t % 2]!) = _
      rw [e]; rfl
    · rw [if_neg (by omega)]
      show some ((#[Value.float .f64 0, Value.int .i64 0] : Array Value)[t % 2]!) = _
      rw [e]; rfl
  · rw [hc, Array.getElem?_eq_getElem (by rw [size_madeCells]; exact hj)]; rfl

set_option maxHeartbeats 1000000 in
theorem canonical_any (a : Option Addr) (n cap : Nat) (P : Nat → Nat) (V : Nat → Int) (w : World) (h : Items w a n P V) (hn : n ≤ 1099511627776) :
    Calls Try.prog 71 #[.slice a n cap] w fun e w' => ∃ g, e = .returned (.slice (some ⟨g, 0, none⟩) n n) ∧ w.heap.size ≤ g ∧ Row w' g n (canArr P V n n) ∧ Below w.heap.size w w' := by
  have hn1 : (n : Int) ≤ 1099511627776 := by omega
  obtain ⟨w0, hmk, hR0, hB0, hs0⟩ := made n hn P V w
  clear hs0
  have hsf := run_store_float (P := Try.prog)
  go_enter Try.func71, Try.ntmps71
  go_wp2
  go_loopw [11] (fun s wr => ∃ k : Nat, s = .int .i64 (k : Int) ∧ k ≤ n ∧ Row wr w.heap.size n (canArr P V n k) ∧ Below w.heap.size w wr) (fun s _ => n - (intOf s).toNat)
  case atStart => exact ⟨0, rfl, Nat.zero_le _, hR0, hB0⟩
  case round =>
    obtain ⟨k, rfl, hk, hR, hB⟩ := hrel
    by_cases hlt : k < n
    · obtain ⟨ga, rfl, hg, hf, hv, hp⟩ := h k hlt
      have hf' : wr.cell? ⟨ga, k * 2, none⟩ = some (.float .f64 (P k)) := by rw [hB.cell (p := ⟨ga, k * 2, none⟩) hg]; exact hf
      have hv' : wr.cell? ⟨ga, k * 2 + 1, none⟩ = some (.int .i64 (V k)) := by rw [hB.cell (p := ⟨ga, k * 2 + 1, none⟩) hg]; exact hv
      have hcn := icanon_any (P k) (V k) (wr.alloc (boxI (P k) (V k)))
      have k1 : (k : Int) < (n : Int) := by omega
      go_wp2_with fail
      refine hcn.mono ?_
      rintro e w2 ⟨rfl, hb2⟩
      have hbb : But (fun _ => False) wr w2 := ((But.refl _ wr).alloc _).trans (But.of_below hb2)
      have hR2 := hR.but hbb id
      have hs := hR2.set k (by rw [canArr_size]; exact hlt) (mkKI (P k) (V k))
      rw [canArr_step, mkKI_b hp, mkKI_v hp] at hs
      have z1 := (hR2.there (k * 2) (by omega)).2
      have z2 := (hR2.there (k * 2 + 1) (by omega)).2
      have c1 := hR2.flt k (by rw [canArr_size]; exact hlt)
      have c2 := hR2.val k (by rw [canArr_size]; exact hlt)
      have hB2 : Below w.heap.size w w2 := hB.trans (hbb.below hB.size (fun _ e => e.elim))
      clear hcn hR2 hR hbb hb2 hf hv hf' hv' hmk
      go_wp2
      go_roundw
      case rel => exact ⟨k + 1, by go_num, by omega, hs, (hB2.setCell (Nat.le_refl _) _).setCell (Nat.le_refl _) _⟩
      case measure => simp [intOf]; omega
    · have hd : decide ((k : Int) < (n : Int)) = false := decide_eq_false (by omega)
      have hkn : k = n := by omega
      have HR : Row wr w.heap.size n (canArr P V n n) := by rw [hkn] at hR; exact hR
      clear hR hmk hkn
      go_wp2
      go_ret
      exact ⟨w.heap.size, rfl, Nat.le_refl _, HR, hB⟩
end Go.Proofs.Ytbcmilfajeanbaa

namespace Go.Proofs.Ytbcmilfajeanbaa
open Go.RowKit Go.Sort

/-- A pile that is a heap. -/
structure HeapAt (w : World) (b g : Nat) (d : Array KI) : Prop where
  pile : ∃ cap, PileAt w b g cap d
  heap : Hp.Heap KI.lt d d.size 0
theorem HeapAt.but {S : Nat → Prop} {w w' : World} {b g : Nat} {d : Array KI} (h : HeapAt w b g d) (hb : But S w w') (h1 : ¬ S b) (h2 : ¬ S g) : HeapAt w' b g d := by
  obtain ⟨cap, hP⟩ := h.pile
  exact ⟨⟨cap, hP.but hb h1 h2⟩, h.heap⟩

end Go.Proofs.Ytbcmilfajeanbaa

namespace Go.Proofs.Ytbcmilfajeanbaa
open Go.RowKit Go.Sort

/-- Items, as a cell has them. -/
def kit (K : List KI) : List It := K.map fun x => (x.b, x.v)
theorem kit_length (K : List KI) : (kit K).length = K.length := by simp [kit]
theorem items_of {w : World} {a : Option Addr} {cap n : Nat} {K : List KI} (hn : n = K.length) (h : SlAt 2 w a cap n (flatI (kit K))) : Items w a n (fun i => K.toArray[i]!.b) (fun i => K.toArray[i]!.v) := by
  intro i hi
  have hk : i < (kit K).length := by rw [kit_length]; omega
  have hk2 : i < K.length := by omega
  obtain ⟨e1, e2⟩ := flatI_get (kit K) i hk
  obtain ⟨g, h1, h2, h3⟩ := h.cell e1
  obtain ⟨g', h1', _, h3'⟩ := h.cell e2
  rw [h1] at h1'
  cases h1'
  have hx : K.toArray[i]! = K[i] := by rw [getElem!_pos K.toArray i (by simpa using hk2)]; rfl
  refine ⟨g, h1, h2, ?_, ?_, ?_⟩
  · rw [h3]; simp only [hx]; simp [kit]
  · rw [h3']; simp only [hx]; simp [kit]
  · exact (K.toArray[i]!).ok.1
theorem canArr_self (d : Array KI) : (canArr (fun i => d[i]!.b) (fun i => d[i]!.v) d.size d.size).toList = d.toList := by
  refine List.ext_getElem (by simp [canArr]) ?_
  intro i h1 h2
  have hi : i < d.size := by simpa using h2
  simp [canArr, hi, mkKI_self]
theorem can_kit (K : List KI) (n : Nat) (hn : n = K.length) : (canArr (fun i => K.toArray[i]!.b) (fun i => K.toArray[i]!.v) n n).toList = K := by
  have := canArr_self K.toArray
  subst hn
  simpa using this
/-- Items as they are, as canonical ones. -/
def kis (L : List It) : List KI := L.map fun q => mkKI q.1 q.2
theorem kis_kit (K : List KI) : kis (kit K) = K := by
  unfold kis kit
  rw [List.map_map]
  conv => rhs; rw [← List.map_id K]
  exact List.map_congr_left (fun x _ => mkKI_self x)
/-- Items in order. -/
def InOrder (L : List KI) : Prop := L.Pairwise fun a b => b.lt a = false
end Go.Proofs.Ytbcmilfajeanbaa
