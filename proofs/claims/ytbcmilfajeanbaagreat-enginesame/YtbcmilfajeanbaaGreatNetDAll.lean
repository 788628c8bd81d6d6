/-
  Layer 10: what holds of the five plans.
  A step whose frame is known as such: its end.
  Layer 11: a plan that lies in memory; what a token's step comes to.
  Layer 11: a new Net; a place's cell; a count; the next gate: contracts.
  Layer 11: the next gate: contract.
  Layer 11: a token passes a gate, or goes out: contracts.
  Layer 11: a token goes out: contract.
-/
import Derived.Test.YtbcmilfajeanbaaGreatWirePl0All
import Derived.Test.YtbcmilfajeanbaaGreatRegionAll
import Derived.Test.YtbcmilfajeanbaaGreatNetMath
namespace Go.Proofs.YtbcmilfajeanbaaGreat
open Go.RowKit Go.Sort

/-- What holds of the five plans. -/
theorem plan_facts (d : Nat) (hd : d ≤ 4) : (∀ g ∈ (Wr.count d (List.range (2 ^ d))).1, g.1 ≠ g.2 ∧ g.1 < 2 ^ d ∧ g.2 < 2 ^ d) ∧ (Wr.count d (List.range (2 ^ d))).2.Nodup ∧ (∀ a ∈ (Wr.count d (List.range (2 ^ d))).2, a < 2 ^ d) ∧ 2 * cg d = 2 ^ d * d * (d + 1) / 2 := by
  have h5 : d = 0 ∨ d = 1 ∨ d = 2 ∨ d = 3 ∨ d = 4 := by omega
  rcases h5 with rfl | rfl | rfl | rfl | rfl <;> decide +kernel
end Go.Proofs.YtbcmilfajeanbaaGreat

namespace Go.Proofs.YtbcmilfajeanbaaGreat
open Go.RowKit Go.Sort

theorem stepEnd_fr {w w2 : World} {b fb ab : Nat} {O P O' P' : Nat → Prop} {M' : Mem} {F1 F' : Fr} {A A0 : Ans} {d : Bool} (s : List (Nat × Value))
    (hM : MemAt w2 b O' M') (hO : Grown O w w2 O') (hF : FrAt w2 fb P' F1) (hPg : Grown P w w2 P') (hD : ∀ k, O' k → ¬ P' k) (hbut : But (fun k => O k ∨ P k) w w2) (hP : P fb)
    (hA : BoxAt w2 ab A0.l) (hab : w.heap.size ≤ ab) (hOa : ¬ O' ab) (hPa : ¬ P' ab)
    (hl : ∀ a0 k0 a1 k1, s.foldl (fun l p => l.set p.1 p.2) (F1.l a0 k0 a1 k1) = F'.l a0 k0 a1 k1) (hc0 : F'.c0 = F1.c0) (hc1 : F'.c1 = F1.c1) :
    BoxAt (setBox (setBox w2 fb s) ab A.s) ab A.l ∧ StepEnd b fb O P (M', F', A, d) w (.returned (.tuple #[A.v, .bool d])) (setBox (setBox w2 fb s) ab A.s) := by
  obtain ⟨a0, k0, a1, k1, hB, hS0, hS1, hi0, hi1⟩ := hF.box
  have hg : ∀ j, P' j → (P j ∨ w.heap.size ≤ j) := fun j hj => (hPg j hj).imp id (fun e => e.1)
  exact stepEnd_of s hM hO hbut hP hB (hl a0 k0 a1 k1) hA hab hOa (fun e => hD _ e hF.ob) (fun e => hPa (e ▸ hF.ob))
    (by rw [hc0]; exact hS0) (fun j hj => ⟨(hi0 j hj).2, fun e => hPa (e ▸ (hi0 j hj).1), fun e => hD _ e (hi0 j hj).1, hg j (hi0 j hj).1⟩)
    (by rw [hc1]; exact hS1) (fun j hj => ⟨(hi1 j hj).2, fun e => hPa (e ▸ (hi1 j hj).1), fun e => hD _ e (hi1 j hj).1, hg j (hi1 j hj).1⟩)

/-- A frame of which a cell that is no list is laid anew. -/
theorem FrAt.turn {w : World} {fb : Nat} {P : Nat → Prop} {F F' : Fr} (h : FrAt w fb P F) (i : Nat) (v : Value) (hl : ∀ a0 k0 a1 k1, (F.l a0 k0 a1 k1).set i v = F'.l a0 k0 a1 k1) (hc0 : F'.c0 = F.c0) (hc1 : F'.c1 = F.c1) : FrAt (w.setCell ⟨fb, i, none⟩ v) fb P F' := by
  obtain ⟨a0, k0, a1, k1, hB, hS0, hS1, hi0, hi1⟩ := h.box
  have hb : But (fun j => j = fb) w (w.setCell ⟨fb, i, none⟩ v) := (But.refl (fun j => j = fb) w).set1 fb i rfl v
  refine ⟨h.ob, fun k hk => by rw [World.size_setCell]; exact h.lt k hk, a0, k0, a1, k1, by rw [← hl]; exact hB.set i v, ?_, ?_, hi0, hi1⟩
  · rw [hc0]; exact hS0.but hb (fun j hj => (hi0 j hj).2)
  · rw [hc1]; exact hS1.but hb (fun j hj => (hi1 j hj).2)
end Go.Proofs.YtbcmilfajeanbaaGreat

namespace Go.Proofs.YtbcmilfajeanbaaGreat
open Go.RowKit Go.Sort

/-- A plan's gates and places; D: the blocks in which they lie. -/
structure NP (w : World) (D : Nat → Prop) (ga : Option Addr) (gc c : Nat) (oa : Option Addr) (n : Nat) (G : List (Nat × Nat)) (Os : List Nat) : Prop where
  sl : SlAt 2 w ga gc c (flatG G)
  ns : NsAt w oa (fun _ => False) Os
  sg : ∀ j, inB ga j → D j
  so : ∀ j, inB oa j → D j
  lt : ∀ j, D j → j < w.heap.size
  gl : G.length = c
  ol : Os.length = n
theorem NP.but {w w' : World} {D S : Nat → Prop} {ga : Option Addr} {gc c : Nat} {oa : Option Addr} {n : Nat} {G : List (Nat × Nat)} {Os : List Nat} (h : NP w D ga gc c oa n G Os) (hb : But S w w') (hS : ∀ k, D k → ¬ S k) : NP w' D ga gc c oa n G Os := by
  refine ⟨h.sl.but hb (fun j hj => hS j (h.sg j hj)), fun i v hv => ?_, h.sg, h.so, fun j hj => Nat.lt_of_lt_of_le (h.lt j hj) hb.size, h.gl, h.ol⟩
  obtain ⟨b, off, h1, h2, _, h4⟩ := h.ns i v hv
  exact ⟨b, off, h1, Nat.lt_of_lt_of_le h2 hb.size, id, by rw [hb.cell (p := ⟨b, off + i, none⟩) h2 (hS b (h.so b ⟨_, h1, rfl⟩))]; exact h4⟩
theorem NP.below {w w' : World} {D : Nat → Prop} {ga : Option Addr} {gc c : Nat} {oa : Option Addr} {n : Nat} {G : List (Nat × Nat)} {Os : List Nat} (h : NP w D ga gc c oa n G Os) (hb : Below w.heap.size w w') : NP w' D ga gc c oa n G Os :=
  h.but (S := fun _ => False) (But.of_below hb) (fun _ _ e => e)
/-- A gate of it. -/
theorem NP.gate {w : World} {D : Nat → Prop} {ga : Option Addr} {gc c : Nat} {oa : Option Addr} {n : Nat} {G : List (Nat × Nat)} {Os : List Nat} (h : NP w D ga gc c oa n G Os) {i : Nat} {g : Nat × Nat} (hg : G[i]? = some g) :
    ∃ gb, ga = some ⟨gb, 0, none⟩ ∧ gb < w.heap.size ∧ D gb ∧ w.cell? ⟨gb, i * 2, none⟩ = some (.int .i64 (g.1 : Int)) ∧ w.cell? ⟨gb, i * 2 + 1, none⟩ = some (.int .i64 (g.2 : Int)) := by
  obtain ⟨f1, f2⟩ := flatG_get G i g hg
  obtain ⟨gb, h1, h2, h3⟩ := h.sl.cell f1
  obtain ⟨gb', h1', _, h3'⟩ := h.sl.cell f2
  subst h1
  cases h1'
  exact ⟨gb, rfl, h2, h.sg gb ⟨_, rfl, rfl⟩, h3, h3'⟩

/-- Function f is a Net's step. -/
def IsStepN (f : FuncId) (n c gc oc : Nat) (ga oa : Option Addr) (D : Nat → Prop) (GG : List (Nat × Nat)) (OO : List Nat) (G : Mem → Fr → Prop) (st : StepFn) : Prop :=
  ∀ (w : World) (b fb : Nat) (O P : Nat → Prop) (M : Mem) (F : Fr), NP w D ga gc c oa n GG OO → (∀ k, D k → ¬ O k ∧ ¬ P k) → MemAt w b O M → FrAt w fb P F → (∀ k, O k → ¬ P k) → G M F → M.clock < 1125899906842624 →
    Calls Tryz.prog f #[.agg #[.int .i64 (n : Int), .slice ga c gc, .slice oa n oc], .pointer (some ⟨b, 0, none⟩), .pointer (some ⟨fb, 0, none⟩)] w (StepEnd b fb O P (st M F) w)
end Go.Proofs.YtbcmilfajeanbaaGreat

namespace Go.Proofs.YtbcmilfajeanbaaGreat
open Go.RowKit Go.Sort

/-- How a count ends. -/
def CntEnd (b : Nat) (O : Nat → Prop) (M' : Mem) (v : Value) (w : World) (e : Ending) (w' : World) : Prop :=
  e = .returned v ∧ ∃ O', MemAt w' b O' M' ∧ Grown O w w' O' ∧ But O w w'

set_option maxRecDepth 20000 in
set_option maxHeartbeats 2000000 in
theorem counton_any (b i : Nat) (O : Nat → Prop) (M : Mem) (w : World) (h : MemAt w b O M) (hi : i < 1000) (hok : NOk M) (hck : M.clock < 1125899906842624) :
    Calls Tryz.prog 158 #[.pointer (some ⟨b, 0, none⟩), .int .i64 (i : Int)] w (CntEnd b O (bump M i) (.int .i64 (M.cell i).n) w) := by
  have hR := read5_any b O M (i : Int) w h
  rw [look_nat] at hR
  obtain ⟨hn0, hn1⟩ := hok i
  unfold bump
  have hW : ∀ (w1 : World), MemAt w1 b O M → Calls Tryz.prog 159 #[.pointer (some ⟨b, 0, none⟩), .int .i64 (i : Int), .int .u64 (M.cell i).ver, .agg #[.int .i64 ((M.cell i).n + 1), .slice none 0 0]] w1 fun e w' => e = .returned (.bool true) ∧ MemAt w' b (own' O w1 w') (M.put i ((M.cell i).n + 1) []) ∧ But O w1 w' :=
    fun w1 h1 => write_yes b i O M (M.cell i).ver ((M.cell i).n + 1) none 0 [] w1 h1 (SlAt.nil _ _) (fun j hj => by obtain ⟨x, hx, _⟩ := hj; cases hx) (Nat.zero_le _) hi (by omega) rfl
  generalize M.put i ((M.cell i).n + 1) [] = M' at *
  generalize (M.cell i).n = x at *
  generalize (M.cell i).ver = v at *
  generalize (M.cell i).L = L at *
  have hx1 : x < 1125899906842624 := by omega
  have HW := hidq hW
  have H := hidq h
  have HR := hidq hR
  clear hW h hR hok hck hn1
  go_enter Tryz.func158, Tryz.ntmps158
  go_wp2_with fail
  refine HR.out.mono ?_
  rintro e w1 ⟨a', cap', rfl, _, _, hb1⟩
  obtain ⟨cb, hcb⟩ : ∃ cb, w1.heap.size = cb := ⟨_, rfl⟩
  obtain ⟨W, hW⟩ : ∃ W, w1.alloc (.cells #[.int .u64 v, .int .i64 x, .slice a' L.length cap'] 94) = W := ⟨_, rfl⟩
  have hB := BoxAt.new w1 [.int .u64 v, .int .i64 x, .slice a' L.length cap'] 94
  rw [show w1.alloc (.cells [.int .u64 v, .int .i64 x, .slice a' L.length cap'].toArray 94) = W from hW, hcb] at hB
  have hbW : Below w1.heap.size w1 W := by rw [← hW]; exact (Below.refl _ _).alloc (Nat.le_refl _) _
  have hb0 : Below w.heap.size w W := hb1.trans (hbW.mono hb1.size)
  have r0 := (hB.get 0 _ rfl).1
  have r1 := (hB.get 1 _ rfl).1
  have hsz : w.heap.size ≤ cb := by rw [← hcb]; exact hb1.size
  have HB := hidq (And.intro hB (And.intro hb0 hsz))
  have hwr := HW.out W (H.out.below hb0)
  have HWR := hidq hwr
  clear hB hbW hb0 hb1 hsz hwr HR HW
  go_wp2_with fail
  refine HWR.out.mono ?_
  rintro e w2 ⟨rfl, hM2, hb2⟩
  obtain ⟨hB, hb0, hsz⟩ := HB.out
  have hB2 := hB.but hb2 (fun e => by have := H.out.lt _ e; omega)
  have q1 := (hB2.get 1 _ rfl).1
  have HF := hidq (show CntEnd b O M' (.int .i64 x) w (.returned (.int .i64 x)) w2 from
    ⟨rfl, _, hM2, (fun k (hk : O k ∨ (W.heap.size ≤ k ∧ k < w2.heap.size)) => hk.imp id (fun e => ⟨Nat.le_trans hb0.size e.1, e.2⟩)), (But.of_below hb0).then hb2 (fun j _ e => e)⟩)
  clear hB hb0 hsz hB2 hM2 hb2 HB HWR H r0 r1 hW
  go_wp2_with fail
  go_ret
  exact HF.out

set_option maxRecDepth 20000 in
theorem nout_any (n c gc oc : Nat) (ga oa : Option Addr) (p : Nat) (hc : c ≤ 100) (hp : p ≤ 100) (w : World) :
    Calls Tryz.prog 71 #[.agg #[.int .i64 (n : Int), .slice ga c gc, .slice oa n oc], .int .i64 (p : Int)] w fun e w' => e = .returned (.int .i64 ((c + p : Nat) : Int)) ∧ Below w.heap.size w w' := by
  have hcI : (c : Int) ≤ 100 := by omega
  have hpI : (p : Int) ≤ 100 := by omega
  rw [show ((c + p : Nat) : Int) = (c : Int) + (p : Int) by omega]
  clear hc hp
  go_enter Tryz.func71, Tryz.ntmps71
  go_wp2_with fail
  go_ret
  exact ⟨rfl, (Below.refl _ _).alloc (Nat.le_refl _) _⟩

theorem idx_ne {a v : Nat} (l : List Nat) (e : a ≠ v) : (a :: l).idxOf v = l.idxOf v + 1 := by
  rw [List.idxOf_cons, show (a == v) = false by simpa using e]; rfl
/-- The place of a number. -/
theorem idx_at : ∀ (l : List Nat) (v : Nat), v ∈ l → l.idxOf v < l.length ∧ l[l.idxOf v]? = some v
  | [], _, h => by cases h
  | a :: l, v, h => by
    by_cases e : a = v
    · subst e; rw [List.idxOf_cons_self]; exact ⟨by simp, rfl⟩
    · rw [idx_ne _ e]
      obtain ⟨h1, h2⟩ := idx_at l v ((List.mem_cons.1 h).resolve_left (fun q => e q.symm))
      exact ⟨by simp; omega, h2⟩
theorem idx_before : ∀ (l : List Nat) (v i : Nat), i < l.idxOf v → i < l.length → ∃ x, l[i]? = some x ∧ x ≠ v
  | [], _, _, _, h => by simp at h
  | a :: l, v, 0, h, _ => ⟨a, rfl, fun e => by subst e; rw [List.idxOf_cons_self] at h; omega⟩
  | a :: l, v, i + 1, h, hl => by
    have e : a ≠ v := fun e => by subst e; rw [List.idxOf_cons_self] at h; omega
    rw [idx_ne _ e] at h
    exact idx_before l v i (by omega) (by simpa using hl)
set_option maxRecDepth 20000 in
theorem index_any (w : World) (a : Option Addr) (cap n v : Nat) (l : List Nat) (h : NsAt w a (fun _ => False) l) (hn : l.length = n) (hn2 : n ≤ 64) (hv : v ∈ l) :
    Calls Tryz.prog 75 #[.slice a n cap, .int .i64 (v : Int)] w fun e w' => e = .returned (.int .i64 ((l.idxOf v : Nat) : Int)) ∧ w' = w := by
  obtain ⟨hlt, hat⟩ := idx_at l v hv
  have hget : ∀ i, i < l.idxOf v → ∃ x, l[i]? = some x ∧ x ≠ v := fun i hi => idx_before l v i hi (by omega)
  rw [hn] at hlt
  generalize l.idxOf v = k at *
  have HH := hidq (And.intro h (And.intro hget hat))
  clear h hn hv hget hat
  go_enter Tryz.func75, Tryz.ntmps75
  go_wp2_with fail
  go_loopw [8] (fun s8 wr => ∃ i : Nat, s8 = .int .i64 (i : Int) ∧ i ≤ k ∧ wr = w) (fun s8 _ => n - (intOf s8).toNat)
  case atStart => exact ⟨0, rfl, Nat.zero_le _, rfl⟩
  case round =>
    obtain ⟨i, rfl, hi, rfl⟩ := hrel
    have hltI : (i : Int) < (n : Int) := by omega
    obtain ⟨h, hget, hat⟩ := HH.out
    by_cases hik : i = k
    · subst hik
      obtain ⟨b, off, rfl, hbl, _, hc⟩ := h _ _ hat
      clear h hget hat
      go_wp2_with fail
      go_ret
      exact ⟨rfl, rfl⟩
    · obtain ⟨x, hx, hne⟩ := hget i (by omega)
      obtain ⟨b, off, rfl, hbl, _, hc⟩ := h _ _ hx
      have t1 : ((v : Int) == (x : Int)) = false := by simp; omega
      have t2 : (v == x) = false := by simp; omega
      clear h hget hat
      go_wp2_with fail
      go_roundw
      case rel => exact ⟨i + 1, by go_num, by omega, trivial⟩
      case measure => simp [intOf]; omega
end Go.Proofs.YtbcmilfajeanbaaGreat

namespace Go.Proofs.YtbcmilfajeanbaaGreat
open Go.RowKit Go.Sort

/-- What is answered of the next gate. -/
def ahI (o : Option Nat) : Int := ((o.getD 0 : Nat) : Int)
/-- What holds between two rounds. -/
def AhR (W1 : World) (G : List (Nat × Nat)) (p v i : Nat) (wr : World) : Prop := nAhead G p v = nAhead G i v ∧ Below W1.heap.size W1 wr

set_option maxRecDepth 20000 in
set_option maxHeartbeats 4000000 in
theorem nahead_any (n c gc oc : Nat) (ga oa : Option Addr) (D : Nat → Prop) (G : List (Nat × Nat)) (Os : List Nat) (w : World) (fb p v : Nat) (hpl : NP w D ga gc c oa n G Os) (hfl : fb < w.heap.size) (c5 : w.cell? ⟨fb, 5, none⟩ = some (.int .i64 (p : Int))) (c6 : w.cell? ⟨fb, 6, none⟩ = some (.int .i64 (v : Int))) (hpc : p ≤ c) (hc : c ≤ 100) :
    Calls Tryz.prog 155 #[.agg #[.int .i64 (n : Int), .slice ga c gc, .slice oa n oc], .pointer (some ⟨fb, 0, none⟩)] w fun e w' => e = .returned (.tuple #[.int .i64 (ahI (nAhead G p v)), .bool (nAhead G p v).isSome]) ∧ Below w.heap.size w w' := by
  obtain ⟨nb, hnb⟩ : ∃ nb, w.heap.size = nb := ⟨_, rfl⟩
  obtain ⟨W1, hW1⟩ : ∃ W1, w.alloc (.cells #[.int .i64 (n : Int), .slice ga c gc, .slice oa n oc] 141) = W1 := ⟨_, rfl⟩
  have hB := BoxAt.new w [.int .i64 (n : Int), .slice ga c gc, .slice oa n oc] 141
  rw [show w.alloc (.cells [.int .i64 (n : Int), .slice ga c gc, .slice oa n oc].toArray 141) = W1 from hW1, hnb] at hB
  have hb1 : Below w.heap.size w W1 := by rw [← hW1]; exact (Below.refl _ _).alloc (Nat.le_refl _) _
  have c51 := (hb1.cell (p := ⟨fb, 5, none⟩) hfl).trans c5
  have c61 := (hb1.cell (p := ⟨fb, 6, none⟩) hfl).trans c6
  have hfl1 : fb < W1.heap.size := Nat.lt_of_lt_of_le hfl hb1.size
  have HX := hidq (And.intro (hpl.below hb1) (And.intro hB (And.intro hb1 (And.intro c61 hfl1))))
  have hcI : (c : Int) ≤ 100 := by omega
  have HP := hidq hpl.gl
  clear hpl hB hb1 c61 c5 c6 hfl
  go_enter Tryz.func155, Tryz.ntmps155
  go_wp2_with fail
  clear c51 hfl1
  go_loopw [6] (fun s6 wr => ∃ i : Nat, s6 = .int .i64 (i : Int) ∧ i ≤ c ∧ Hid (AhR W1 G p v i wr)) (fun s6 _ => c - (intOf s6).toNat)
  case atStart => exact ⟨p, rfl, hpc, hidq ⟨rfl, Below.refl _ _⟩⟩
  case round =>
    obtain ⟨i, rfl, hi, hR⟩ := hrel
    obtain ⟨hpl, hB, hb1, c61, hfl1⟩ := HX.out
    obtain ⟨hA, hbr⟩ := hR.out
    have n1 := ((hB.below hbr).get 1 _ rfl).1
    have hnl := (hB.below hbr).lt
    by_cases hlt : i < c
    · have hltI : (i : Int) < (c : Int) := by omega
      obtain ⟨g, hg⟩ : ∃ g, G[i]? = some g := ⟨_, List.getElem?_eq_getElem (by have := HP.out; omega)⟩
      obtain ⟨gb, rfl, hgl, _, g0, g1⟩ := (hpl.below hbr).gate hg
      obtain ⟨a, a'⟩ := g
      dsimp only at g0 g1
      obtain ⟨X, hX⟩ : ∃ X, wr.alloc (.cells #[.int .i64 (a : Int), .int .i64 (a' : Int)] 213) = X := ⟨_, rfl⟩
      have hbX : Below wr.heap.size wr X := by rw [← hX]; exact (Below.refl _ _).alloc (Nat.le_refl _) _
      have hBX := BoxAt.new wr [.int .i64 (a : Int), .int .i64 (a' : Int)] 213
      rw [show wr.alloc (.cells [.int .i64 (a : Int), .int .i64 (a' : Int)].toArray 213) = X from hX] at hBX
      have x0 := (hBX.get 0 _ rfl).1
      have x1 := (hBX.get 1 _ rfl).1
      have hbX1 : Below W1.heap.size W1 X := hbr.trans (hbX.mono hbr.size)
      have x6 := (hbX1.cell (p := ⟨fb, 6, none⟩) hfl1).trans c61
      have HB := hidq (And.intro hbX1 (And.intro hb1 (And.intro hA hg)))
      have hfx : fb < X.heap.size := Nat.lt_of_lt_of_le hfl1 hbX1.size
      clear hpl hB hb1 c61 hfl1 hA hbr hR hbX hBX hbX1 hg HX HP
      by_cases hau : a = v
      · have HE := hidq (show nAhead G p v = some i from by rw [HB.out.2.2.1]; exact nAhead_hit HB.out.2.2.2 (.inl hau))
        have HL := hidq (fun q => (show Below w.heap.size w (X.drewN q) from below_drewN (HB.out.2.1.trans (HB.out.1.mono HB.out.2.1.size)) q))
        clear HB
        subst hau
        go_wp2_with fail
        go_quiet (fail)
        go_wp2_with fail
        go_ret2
        rw [HE.out]
        exact ⟨rfl, HL.out _⟩
      · have t1 : ((a : Int) == (v : Int)) = false := by simp; omega
        have t2 : (a == v) = false := by simpa using hau
        by_cases hau2 : a' = v
        · have HE := hidq (show nAhead G p v = some i from by rw [HB.out.2.2.1]; exact nAhead_hit HB.out.2.2.2 (.inr hau2))
          have HL := hidq (fun q => (show Below w.heap.size w (X.drewN q) from below_drewN (HB.out.2.1.trans (HB.out.1.mono HB.out.2.1.size)) q))
          clear HB hau
          subst hau2
          go_wp2_with fail
          go_quiet (fail)
          go_wp2_with fail
          go_ret2
          rw [HE.out]
          exact ⟨rfl, HL.out _⟩
        · have t3 : ((a' : Int) == (v : Int)) = false := by simp; omega
          have t4 : (a' == v) = false := by simpa using hau2
          have HE := hidq (show nAhead G p v = nAhead G (i + 1) v from by rw [HB.out.2.2.1]; exact nAhead_miss HB.out.2.2.2 (fun e => e.elim hau hau2))
          have HL := hidq (fun q => (show Below W1.heap.size W1 (X.drewN q) from below_drewN HB.out.1 q))
          clear HB hau hau2
          go_wp2_with fail
          go_quiet (fail)
          go_wp2_with fail
          go_roundw
          case rel => exact ⟨i + 1, by go_num, by omega, hidq ⟨HE.out, HL.out _⟩⟩
          case measure => simp [intOf]; omega
    · have hd : decide ((i : Int) < (c : Int)) = false := decide_eq_false (by omega)
      have hd2 : decide (i < c) = false := decide_eq_false (by omega)
      have hE : nAhead G p v = none := by rw [hA]; exact nAhead_end (by have := HP.out; omega)
      have HE := hidq (And.intro hE (hb1.trans (hbr.mono hb1.size)))
      clear hpl hB hb1 c61 hfl1 hA hbr hR hE HX HP
      go_wp2_with fail
      go_ret2
      rw [HE.out.1]
      exact ⟨rfl, HE.out.2⟩
end Go.Proofs.YtbcmilfajeanbaaGreat

namespace Go.Proofs.YtbcmilfajeanbaaGreat
open Go.RowKit Go.Sort

/-- How a pass ends. -/
def PassEndN (b fb : Nat) (O P : Nat → Prop) (M' : Mem) (F' : Fr) (w : World) (e : Ending) (w' : World) : Prop :=
  e = .returned (.tuple #[]) ∧ ∃ O' P', MemAt w' b O' M' ∧ FrAt w' fb P' F' ∧ (∀ k, O' k → ¬ P' k) ∧ Grown O w w' O' ∧ Grown P w w' P' ∧ But (fun k => O k ∨ P k) w w'

set_option maxRecDepth 20000 in
set_option maxHeartbeats 4000000 in
theorem npass_any (n c gc oc : Nat) (ga oa : Option Addr) (D : Nat → Prop) (G : List (Nat × Nat)) (Os : List Nat) (w : World) (b fb i : Nat) (O P : Nat → Prop) (M : Mem) (F : Fr) (g : Nat × Nat)
    (hpl : NP w D ga gc c oa n G Os) (hdd : ∀ k, D k → ¬ O k ∧ ¬ P k) (h : MemAt w b O M) (hf : FrAt w fb P F) (hd : ∀ k, O k → ¬ P k) (hok : NOk M) (hck : M.clock < 1125899906842624) (hg : G[i]? = some g) (hc : c ≤ 100) :
    Calls Tryz.prog 156 #[.agg #[.int .i64 (n : Int), .slice ga c gc, .slice oa n oc], .pointer (some ⟨b, 0, none⟩), .pointer (some ⟨fb, 0, none⟩), .int .i64 (i : Int)] w
      (PassEndN b fb O P (bump M i) { F with pc := ((i + 1 : Nat) : Int), at_ := (((if (M.cell i).n % 2 = 0 then g.1 else g.2) : Nat) : Int) } w) := by
  obtain ⟨F', hF'⟩ : ∃ F', ({ F with pc := ((i + 1 : Nat) : Int), at_ := (((if (M.cell i).n % 2 = 0 then g.1 else g.2) : Nat) : Int) } : Fr) = F' := ⟨_, rfl⟩
  rw [hF']
  have hic : i < c := by have := (List.getElem?_eq_some_iff.1 hg).1; have := hpl.gl; omega
  obtain ⟨nb, hnb⟩ : ∃ nb, w.heap.size = nb := ⟨_, rfl⟩
  obtain ⟨W1, hW1⟩ : ∃ W1, w.alloc (.cells #[.int .i64 (n : Int), .slice ga c gc, .slice oa n oc] 141) = W1 := ⟨_, rfl⟩
  have hB := BoxAt.new w [.int .i64 (n : Int), .slice ga c gc, .slice oa n oc] 141
  rw [show w.alloc (.cells [.int .i64 (n : Int), .slice ga c gc, .slice oa n oc].toArray 141) = W1 from hW1, hnb] at hB
  have hb1 : Below w.heap.size w W1 := by rw [← hW1]; exact (Below.refl _ _).alloc (Nat.le_refl _) _
  have hpl1 := hpl.below hb1
  obtain ⟨gb, rfl, hgl, hgD, g0, g1⟩ := hpl1.gate hg
  obtain ⟨x, x'⟩ := g
  dsimp only at g0 g1 hF'
  have hM1 := h.below hb1
  have hf1 := hf.below hb1
  have hft := hf1.turn (F' := { F with pc := ((i + 1 : Nat) : Int) }) 5 (.int .i64 ((i : Int) + 1)) (fun _ _ _ _ => rfl) rfl rfl
  have hft2 := hft.turn (F' := { F with pc := ((i + 1 : Nat) : Int), at_ := (x : Int) }) 6 (.int .i64 (x : Int)) (fun _ _ _ _ => rfl) rfl rfl
  have hbut : But (fun j => j = fb) W1 ((W1.setCell ⟨fb, 5, none⟩ (.int .i64 ((i : Int) + 1))).setCell ⟨fb, 6, none⟩ (.int .i64 (x : Int))) := ((But.refl (fun j => j = fb) W1).set1 fb 5 rfl _).set1 fb 6 rfl _
  obtain ⟨a0, k0, a1, k1, hBf, _⟩ := hf1.box
  obtain ⟨f5, z5⟩ := hBf.get 5 _ rfl
  obtain ⟨f6, z6⟩ := hBf.get 6 _ rfl
  have hfl := hBf.lt
  obtain ⟨W2, hW2⟩ : ∃ W2, (W1.setCell ⟨fb, 5, none⟩ (.int .i64 ((i : Int) + 1))).setCell ⟨fb, 6, none⟩ (.int .i64 (x : Int)) = W2 := ⟨_, rfl⟩
  rw [hW2] at hft2 hbut
  have hs2 : W2.heap.size = W1.heap.size := by rw [← hW2, World.size_setCell, World.size_setCell]
  have hfO : ¬ O fb := fun e => hd _ e hf.ob
  have hnO : ¬ O nb := fun e => by have := h.lt _ e; omega
  have hnf : nb ≠ fb := by have := hf.lt _ hf.ob; omega
  have hM2 := hM1.but hbut (fun k hk e => hfO (e ▸ hk))
  have hB2 := hB.but hbut hnf
  have hpl2 := hpl1.but hbut (fun k hk e => (hdd k hk).2 (e ▸ hf.ob))
  have hC := counton_any b i O M W2 hM2 (by omega) hok hck
  have hgO : ¬ O gb := (hdd gb hgD).1
  have hn1 := (hB.get 1 _ rfl).1
  have hnl := hB.lt
  have hw12 : But (fun k => O k ∨ P k) w W2 := (But.of_below hb1).then hbut (fun j _ e => .inr (e ▸ hf.ob))
  obtain ⟨m, hm⟩ : ∃ m : Nat, (M.cell i).n = (m : Int) := ⟨(M.cell i).n.toNat, by have := (hok i).1; omega⟩
  have hmb : m < 1125899906842624 := by have := (hok i).2; omega
  have HX := hidq (And.intro hM2 (And.intro hft2 (And.intro hB2 (And.intro hpl2 (And.intro hw12 (And.intro hs2 (And.intro hd (And.intro hg (And.intro h.lt hf.lt)))))))))
  have hs1 : W1.heap.size = nb + 1 := by rw [← hW1]; simp [hnb]
  have HC := hidq hC
  have HM := hidq hm
  rw [hm] at hF'
  have HF0 := hidq hF'
  clear hF'
  have HW2 := hidq hW2
  have hii : (i : Int) < (c : Int) := by omega
  have hcI : (c : Int) ≤ 100 := by omega
  have HD := hidq (And.intro hgO (And.intro hnO (And.intro hfO (And.intro hnf (And.intro hs1 (And.intro hnb hf.ob))))))
  clear hpl hdd h hf hd hok hck hg hB hb1 hpl1 hM1 hf1 hft hft2 hbut hBf hW2 hs2 hfO hnO hM2 hB2 hpl2 hC hgO hw12 hm hs1 hgD
  go_enter Tryz.func156, Tryz.ntmps156
  go_wp2_with fail
  rw [HW2.out]
  clear g0 g1 f5 f6 z5 z6 hn1 hnl hgl hW1 HW2
  refine HC.out.mono ?_
  rintro e w3 ⟨rfl, O3, hM3, hG3, hb3⟩
  clear HC
  rw [HM.out]
  obtain ⟨hM2, hft2, hB2, hpl2, hw12, hs2, hd, hg, hOl, hPl⟩ := HX.out
  obtain ⟨hgO, hnO, hfO, hnf, hs1, hnb, hPf⟩ := HD.out
  have hs3 := hb3.size
  have hf3 := hft2.but hb3 (fun k hk e => hd k e hk)
  have hw13 : But (fun k => O k ∨ P k) w w3 := hw12.then hb3 (fun j _ e => .inl e)
  have hd3 : ∀ k, O3 k → ¬ P k := fun k hk e => by
    rcases hG3 k hk with q | q
    · exact hd k q e
    · have := hPl k e; omega
  have hG3' : Grown O w w3 O3 := fun k hk => (hG3 k hk).imp id (fun e => ⟨by omega, e.2⟩)
  by_cases hev : m % 2 = 0
  · have hevI : (m : Int) % 2 = 0 := by omega
    have HF := hidq (show PassEndN b fb O P (bump M i) F' w (.returned (.tuple #[])) w3 from
      ⟨rfl, O3, P, hM3, by rw [← HF0.out, if_pos hevI]; exact hf3, hd3, hG3', Grown.refl _ _ _, hw13⟩)
    clear hM2 hft2 hB2 hpl2 hw12 hs2 hd hg hOl hPl hgO hnO hfO hs1 hPf hs3 hf3 hw13 hd3 hG3' hM3 hG3 hb3 HX HD HM hev
    go_wp2_with fail
    go_end0
    exact HF.out
  · have hevI : (m : Int) % 2 = 1 := by omega
    have hn1 := ((hB2.but hb3 hnO).get 1 _ rfl).1
    have hnl := (hB2.but hb3 hnO).lt
    obtain ⟨gb', hgb', hgl, _, _, g1⟩ := hpl2.gate hg
    cases hgb'
    have g1' := (hb3.cell (p := ⟨gb, i * 2 + 1, none⟩) hgl hgO).trans g1
    have hgl3 := Nat.lt_of_lt_of_le hgl hs3
    obtain ⟨a0, k0, a1, k1, hBf, _⟩ := hf3.box
    obtain ⟨f6, z6⟩ := hBf.get 6 _ rfl
    have hfl := hBf.lt
    have hf4 := hf3.turn (F' := { F with pc := ((i + 1 : Nat) : Int), at_ := (x' : Int) }) 6 (.int .i64 (x' : Int)) (fun _ _ _ _ => rfl) rfl rfl
    have hb4 : But (fun j => j = fb) w3 (w3.setCell ⟨fb, 6, none⟩ (.int .i64 (x' : Int))) := (But.refl (fun j => j = fb) w3).set1 fb 6 rfl _
    have HF := hidq (show PassEndN b fb O P (bump M i) F' w (.returned (.tuple #[])) (w3.setCell ⟨fb, 6, none⟩ (.int .i64 (x' : Int))) from
      ⟨rfl, O3, P, hM3.but hb4 (fun k hk e => hd3 k hk (e ▸ hPf)), by rw [← HF0.out, if_neg (by omega)]; exact hf4, hd3, (fun k hk => by rw [World.size_setCell]; exact hG3' k hk), Grown.refl _ _ _, hw13.then hb4 (fun j _ e => .inr (e ▸ hPf))⟩)
    clear hM2 hft2 hB2 hpl2 hw12 hs2 hd hg hOl hPl hgO hnO hfO hs1 hPf hs3 hf3 hw13 hd3 hG3' hM3 hG3 hb3 HX HD HM hev g1 hgl hBf hf4 hb4
    go_wp2_with fail
    go_end0
    exact HF.out
end Go.Proofs.YtbcmilfajeanbaaGreat

namespace Go.Proofs.YtbcmilfajeanbaaGreat
open Go.RowKit Go.Sort

set_option maxRecDepth 20000 in
set_option maxHeartbeats 4000000 in
theorem nleave_any (n c gc oc : Nat) (ga oa : Option Addr) (D : Nat → Prop) (G : List (Nat × Nat)) (Os : List Nat) (w : World) (b fb v pl : Nat) (O : Nat → Prop) (M : Mem)
    (hpl : NP w D ga gc c oa n G Os) (h : MemAt w b O M) (hfl : fb < w.heap.size) (c6 : w.cell? ⟨fb, 6, none⟩ = some (.int .i64 (v : Int))) (hok : NOk M) (hck : M.clock < 1125899906842624) (hc : c ≤ 100) (hn16 : n ≤ 16) (hv : v ∈ Os) (hpv : Os.idxOf v = pl) :
    Calls Tryz.prog 157 #[.agg #[.int .i64 (n : Int), .slice ga c gc, .slice oa n oc], .pointer (some ⟨b, 0, none⟩), .pointer (some ⟨fb, 0, none⟩)] w
      (CntEnd b O (bump M (c + pl)) (.agg #[.bool true, .float .f64 0, .int .i64 0, .int .i64 ((pl : Int) + (n : Int) * (M.cell (c + pl)).n)]) w) := by
  have hpn : pl < n := by rw [← hpv, ← hpl.ol]; exact (idx_at Os v hv).1
  obtain ⟨nb, hnb⟩ : ∃ nb, w.heap.size = nb := ⟨_, rfl⟩
  obtain ⟨W1, hW1, hb1, hs1, hN1, hA1⟩ := two_new w [.int .i64 (n : Int), .slice ga c gc, .slice oa n oc] Ans.zero.l 141 46 0
  have hW1' : (w.alloc (.cells #[.int .i64 (n : Int), .slice ga c gc, .slice oa n oc] 141)).alloc (.cells #[.bool false, .float .f64 0, .int .i64 0, .int .i64 0] 46) = W1 := hW1
  rw [hnb] at hN1 hA1 hs1
  have hsf := run_store_flt (P := Tryz.prog)
  have hpl1 := hpl.below hb1
  have hIx : ∀ q, Calls Tryz.prog 75 #[.slice oa n oc, .int .i64 (v : Int)] (W1.drewN q) fun e w' => e = .returned (.int .i64 (pl : Int)) ∧ w' = W1.drewN q := fun q => by
    have := index_any (W1.drewN q) oa oc n v Os (hpl1.below (below_drewN (Below.refl _ _) q)).ns hpl.ol (by omega) hv
    rw [hpv] at this
    exact this
  have c61 := (hb1.cell (p := ⟨fb, 6, none⟩) hfl).trans c6
  have hfl1 : fb < W1.heap.size := Nat.lt_of_lt_of_le hfl hb1.size
  have n0 := (hN1.get 0 _ rfl).1
  have n1 := (hN1.get 1 _ rfl).1
  have n2 := (hN1.get 2 _ rfl).1
  obtain ⟨m, hm⟩ : ∃ m : Nat, (M.cell (c + pl)).n = (m : Int) := ⟨(M.cell (c + pl)).n.toNat, by have := (hok (c + pl)).1; omega⟩
  have hmb : m < 1125899906842624 := by have := (hok (c + pl)).2; omega
  have hC := hidq (fun (W : World) (hM : MemAt W b O M) => (show Calls Tryz.prog 158 #[.pointer (some ⟨b, 0, none⟩), .int .i64 ((c + pl : Nat) : Int)] W (CntEnd b O (bump M (c + pl)) (.int .i64 (m : Int)) W) from by
    have := counton_any b (c + pl) O M W hM (by omega) hok hck
    rw [hm] at this
    exact this))
  rw [hm]
  have hq0 : 0 ≤ (n : Int) * (m : Int) := Int.mul_nonneg (by omega) (by omega)
  have hq1 : (n : Int) * (m : Int) ≤ 16 * 1125899906842624 := Int.mul_le_mul (by omega) (by omega) (by omega) (by decide)
  obtain ⟨q, hq⟩ : ∃ q, (n : Int) * (m : Int) = q := ⟨_, rfl⟩
  rw [hq] at hq0 hq1 ⊢
  have hplI : (pl : Int) ≤ 16 := by omega
  have hO := hidq (fun (k : Nat) (hk : O k) => (show k < nb from by have := h.lt k hk; omega))
  have HX := hidq (And.intro (h.below hb1) (And.intro hN1 (And.intro hA1 (And.intro hb1 (And.intro hs1 hnb)))))
  have hout := hidq (fun W => nout_any n c gc oc ga oa pl hc (by omega) W)
  clear hpl h hfl c6 hok hck hv hpv hpl1 hb1 hs1 hN1 hA1 hW1 hm hpn
  go_enter Tryz.func157, Tryz.ntmps157
  go_wp2_with fail
  try rw [hW1']
  go_quiet ((go_at_call 75; exact Calls.quiet_of_same (hIx _)))
  clear hIx c61 hW1'
  have n0q : (W1.drewN nq).cell? ⟨nb, 0, none⟩ = some (.int .i64 (n : Int)) := n0
  have n1q : (W1.drewN nq).cell? ⟨nb, 1, none⟩ = some (.slice ga c gc) := n1
  have n2q : (W1.drewN nq).cell? ⟨nb, 2, none⟩ = some (.slice oa n oc) := n2
  obtain ⟨W2, hW2⟩ : ∃ W2, W1.drewN nq = W2 := ⟨_, rfl⟩
  have HQ := hidq (show Below W1.heap.size W1 W2 by rw [← hW2]; exact below_drewN (Below.refl _ _) nq)
  rw [hW2] at n0q n1q n2q
  rw [hW2]
  clear hW2 n0 n1 n2 hfl1
  go_wp2_with fail
  refine (hout.out _).mono ?_
  rintro e w3 ⟨rfl, hb3⟩
  clear hout n0q n1q n2q
  obtain ⟨hM1, hN1, hA1, hb1, hs1, hnb⟩ := HX.out
  have hb13 : Below W1.heap.size W1 w3 := HQ.out.trans (hb3.mono HQ.out.size)
  have hcall := hidq (hC.out w3 (hM1.below hb13))
  have HY := hidq (And.intro (hM1.below hb13) (And.intro (hN1.below hb13) (And.intro (hA1.below hb13) (And.intro (hb1.trans (hb13.mono hb1.size)) (And.intro hb13.size (And.intro hs1 hnb))))))
  clear hM1 hN1 hA1 hb1 hs1 hb3 hb13 HX HQ hC
  go_wp2_with fail
  refine hcall.out.mono ?_
  rintro e w4 ⟨rfl, O4, hM4, hG4, hb4⟩
  obtain ⟨hM3, hN3, hA3, hb03, hs13, hs1, _⟩ := HY.out
  have hnO : ¬ O nb := fun e => by have := hO.out _ e; omega
  have haO : ¬ O (nb + 1) := fun e => by have := hO.out _ e; omega
  have hN4 := hN3.but hb4 hnO
  have hA4 := hA3.but hb4 haO
  have p0 := (hN4.get 0 _ rfl).1
  obtain ⟨g0, x0⟩ := hA4.get 0 _ rfl
  obtain ⟨g1, x1⟩ := hA4.get 1 _ rfl
  obtain ⟨g2, x2⟩ := hA4.get 2 _ rfl
  obtain ⟨g3, x3⟩ := hA4.get 3 _ rfl
  have hnl := hN4.lt
  have hal := hA4.lt
  obtain ⟨A, hA⟩ : ∃ A : Ans, A = ⟨true, 0, 0, (pl : Int) + q⟩ := ⟨_, rfl⟩
  have hAB := setBox_box A.s hA4
  rw [set_ans] at hAB
  have hbs := setBox_but (nb + 1) A.s w4
  have hzs := setBox_size (nb + 1) A.s w4
  have HF := hidq (show CntEnd b O (bump M (c + pl)) (.agg #[.bool true, .float .f64 0, .int .i64 0, .int .i64 ((pl : Int) + q)]) w (.returned (.agg #[.bool true, .float .f64 0, .int .i64 0, .int .i64 ((pl : Int) + q)])) (setBox w4 (nb + 1) A.s) from by
    have hO4 : ¬ O4 (nb + 1) := fun e => by
      rcases hG4 _ e with h | h
      · exact haO h
      · omega
    have hs03 := hb03.size
    refine ⟨rfl, O4, hM4.but hbs (fun k hk e => hO4 (e ▸ hk)), fun k hk => (hG4 k hk).imp id (fun e => ⟨by omega, by omega⟩), ((But.of_below hb03).then hb4 (fun j _ e => e)).then hbs (fun j hj e => by omega)⟩)
  rw [hA] at hAB HF
  dsimp only [setBox, Ans.s] at hAB HF
  have q0 := (hAB.get 0 _ rfl).1
  have q1' := (hAB.get 1 _ rfl).1
  have q2 := (hAB.get 2 _ rfl).1
  have q3 := (hAB.get 3 _ rfl).1
  clear hM3 hN3 hA3 hb03 hs13 hs1 hnO haO hN4 hA4 hM4 hG4 hb4 hAB hbs hzs HY hcall hO hA
  go_wp2_with fail
  exact bodyPost_ret (v := .agg #[.bool true, .float .f64 0, .int .i64 0, .int .i64 ((pl : Int) + q)]) (by simp [results, Tryz.results157, go_sem, q0, q1', q2, q3]) rfl HF.out
end Go.Proofs.YtbcmilfajeanbaaGreat
