/-
  Layer 12's laws: a value told to the document: contract.
  Boxes of two cells made in a region that draws its order: what holds while they are made and filled.
  Two boxes of three cells, made and filled with values of one slice each, in a region that draws its order.
  Layer 6: may a structure be, by the document, at any kind: contract.
  Layer 6: the document's check of an operation: contract.
-/
import Derived.Test.YtbcmilfajeanbaaRSame12All
import Derived.Test.YtbcmilfajeanbaaWo12All
import Derived.Test.YtbcmilfajeanbaaKit8All
import Derived.Deep.CutBlock
import Derived.Test.YtbcmilfajeanbaaPhaseAll
import Derived.Test.YtbcmilfajeanbaaDel12All
import Derived.Test.YtbcmilfajeanbaaOp6All
namespace Go.Proofs.Ytbcmilfajeanbaa
open Go.RowKit Go.Sort

set_option maxHeartbeats 2000000 in
theorem lbits_any (b : Nat) (v : Int) (hb : b < 18446744073709551616) (w : World) : Calls Try.prog 47 #[.agg #[.float .f64 b, .int .i64 v]] w fun e w' => e = .returned (.int .u64 (ni (cbits b))) ∧ Below w.heap.size w w' := by
  have h15 := run_bits
  have hsf := run_store_float (P := Try.prog)
  have r := ni_rng hb
  have hR := hidq (fun w => rbits_any (ni b) w r.1 r.2)
  rw [show nf (ni b) = b from rfl] at hR
  clear r hb
  go_enter Try.func47, Try.ntmps47
  go_wp2_with (go_at_call 81; refine (hR.out _).mono ?_; rintro e w1 ⟨rfl, hw⟩; replace hw := hw.symm; subst hw)
  go_ret
  exact ⟨rfl, (Below.refl _ _).alloc (Nat.le_refl _) _⟩

theorem kis_next (L : List It) (k : Nat) (hk : k < L.length) : kis (L.take (k + 1)) = kis (L.take k) ++ [mkKI L[k]!.1 L[k]!.2] := by
  unfold kis
  rw [List.take_succ_eq_append_getElem hk, List.map_append, getElem!_pos L k hk]
  rfl
/-- How Told ends. -/
def ToldEnd12 (kd N : Int) (n : Nat) (L : List It) (w : World) (e : Ending) (w' : World) : Prop :=
  ∃ a' cap', e = .returned (.agg #[.int .i64 kd, .slice a' n cap', .int .i64 N]) ∧ SlAt 2 w' a' cap' n (flatR (kis L)) ∧ (∀ j, inB a' j → w.heap.size ≤ j) ∧ Below w.heap.size w w'

set_option maxHeartbeats 4000000 in
set_option maxRecDepth 20000 in
theorem told12_any (kd N : Int) (a : Option Addr) (cap n : Nat) (L : List It) (w : World) (hL : L.length = n) (h : SlAt 2 w a cap n (flatI L)) (hn : n ≤ 1000000) (hBt : ∀ k, k < n → L[k]!.1 < 18446744073709551616) :
    Calls Try.prog 16 #[.agg #[.int .i64 kd, .slice a n cap, .int .i64 N]] w (ToldEnd12 kd N n L w) := by
  have hsf := run_store_float (P := Try.prog)
  obtain ⟨W1, hW1, hb1, hs1, hX1, hX2, hX3⟩ := three_new w [.int .i64 kd, .slice a n cap, .int .i64 N] [.int .i64 0, .slice none 0 0, .int .i64 0] [.int .i64 kd, .slice none 0 0, .int .i64 N] 28 51 51
  obtain ⟨p, hp⟩ : ∃ p, w.heap.size = p := ⟨_, rfl⟩
  obtain ⟨q, hq⟩ : ∃ q, p + 1 = q := ⟨_, rfl⟩
  obtain ⟨r, hr⟩ : ∃ r, q + 1 = r := ⟨_, rfl⟩
  rw [hp] at hX1 hX2 hX3 hs1
  rw [show p + 2 = p + 1 + 1 from rfl] at hX3
  rw [hq] at hX2 hX3
  rw [hr] at hX3
  have hn1 : (n : Int) ≤ 1000000 := by omega
  have hle := h.le
  have HL := hidq (And.intro hL (And.intro hBt (And.intro hp (And.intro hq (And.intro hr hs1)))))
  have HW1 := hidq hW1
  have HH := hidq (And.intro h (And.intro hb1 (And.intro hX2 hX3)))
  have HX1 := hidq hX1
  clear hW1 h hb1 hX1 hX2 hX3 hL hBt hp hq hr hs1
  go_enter Try.func16, Try.ntmps16
  go_upto_region 2 with fail
  have hW1 := HW1.out
  rw [show ((w.alloc (.cells #[.int .i64 kd, .slice a n cap, .int .i64 N] 28)).alloc (.cells #[.int .i64 0, .slice none 0 0, .int .i64 0] 51)).alloc (.cells #[.int .i64 kd, .slice none 0 0, .int .i64 N] 51) = W1 from hW1]
  rw [HL.out.2.2.1, HL.out.2.2.2.1, HL.out.2.2.2.2.1]
  have v1 := (HX1.out.get 1 _ rfl).1
  have hpl := HX1.out.lt
  clear hW1 HW1 HX1
  go_wp2
  go_loopw [14] (fun s wr => ∃ (k : Nat) (a' : Option Addr) (cap' : Nat), s = .int .i64 (k : Int) ∧ k ≤ n ∧ But (fun j => j = r) W1 wr ∧ BoxAt wr r [.int .i64 kd, .slice a' k cap', .int .i64 N] ∧ SlAt 2 wr a' cap' k (flatR (kis (L.take k))) ∧ ∀ j, inB a' j → W1.heap.size ≤ j) (fun s _ => n - (intOf s).toNat)
  case atStart => exact ⟨0, none, 0, rfl, Nat.zero_le _, But.refl _ _, HH.out.2.2.2, SlAt.nil _ _, (fun j hj => by obtain ⟨y, hy, _⟩ := hj; cases hy)⟩
  case round =>
    obtain ⟨k, a', cap', rfl, hk, hB, hR, hS, hF⟩ := hrel
    by_cases hlt : k < n
    · have k1 : (k : Int) < (n : Int) := by omega
      obtain ⟨hL, hBt, hp, hq, hr, hs1⟩ := HL.out
      obtain ⟨h, hb1, hX2, hX3⟩ := HH.out
      obtain ⟨g, rfl, hg, c0, c1⟩ := item_at h hL hlt
      have hz1 := hb1.size
      have hgw : g < W1.heap.size := by omega
      have hgr : ¬ g = r := by omega
      have e0 := ((hB.cell (p := ⟨g, k * 2, none⟩) hgw hgr).trans (hb1.cell (p := ⟨g, k * 2, none⟩) hg)).trans c0
      have e1 := ((hB.cell (p := ⟨g, k * 2 + 1, none⟩) hgw hgr).trans (hb1.cell (p := ⟨g, k * 2 + 1, none⟩) hg)).trans c1
      have hgwr : g < wr.heap.size := Nat.lt_of_lt_of_le hgw hB.size
      have hbk := hBt k hlt
      have hnext : flatR (kis (L.take (k + 1))) = flatR (kis (L.take k)) ++ [.int .u64 (ni (cbits L[k]!.1)), .int .i64 L[k]!.2] := by
        rw [kis_next L k (by omega), flatR_append]
        show (_ : List Value) ++ [Value.int .u64 (ni (mkKI L[k]!.1 L[k]!.2).b), Value.int .i64 (mkKI L[k]!.1 L[k]!.2).v] = _
        rw [mkKI_b hbk, mkKI_v hbk]
      have hOw := hidq (fun W => lbits_any L[k]!.1 L[k]!.2 hbk W)
      generalize L[k]!.1 = b at *
      generalize L[k]!.2 = v at *
      obtain ⟨xb, hxb⟩ : ∃ xb, wr.heap.size = xb := ⟨_, rfl⟩
      obtain ⟨wx, hwx⟩ : ∃ wx, wr.alloc (.cells #[.float .f64 b, .int .i64 v] 39) = wx := ⟨_, rfl⟩
      have hxB : BoxAt wx xb [.float .f64 b, .int .i64 v] := by rw [← hwx, ← hxb]; exact BoxAt.new wr _ _
      have hxs : wx.heap.size = xb + 1 := by rw [← hwx]; simp [hxb]
      have hxw : Below wr.heap.size wr wx := by rw [← hwx]; exact (Below.refl _ _).alloc (Nat.le_refl _) _
      clear c0 c1 hbk
      go_upto_region 5 with fail
      try rw [hxb]
      try rw [hwx]
      clear hwx e0 e1 hgwr
      have hRx := hR.below hxw
      have hSx : SlAt 2 wx a' cap' k (flatR (kis (L.take k))) := hS.below hxw
      have hBx : But (fun j => j = r) W1 wx := hB.trans (But.of_below hxw)
      have hrx := hRx.lt
      have hrr : r < W1.heap.size := hX3.lt
      have AP := hidq (fun W (hW : But (fun _ => False) wx W) => sl_append plainR 49 (W.alloc (boxRI (ni (cbits b)) v)) a' cap' k _ (hSx.but (S := fun _ => False) (hW.alloc _) (fun _ _ e => e)) _ 1 _
        (src_two _ Try.underlying49 W.heap.size (.int .u64 (ni (cbits b))) (.int .i64 v) (World.cell?_alloc_new _ _ _ 0) (World.cell?_alloc_new _ _ _ 1) rfl rfl) (by omega) (by omega))
      rw [← hnext] at AP
      have FC := hidq (fun W (hW : But (fun _ => False) wx W) => (show (W.cell? ⟨r, 1, none⟩ = some (.slice a' k cap') ∧ W.cell? ⟨xb, 0, none⟩ = some (.float .f64 b) ∧ W.cell? ⟨xb, 1, none⟩ = some (.int .i64 v)) ∧ r < W.heap.size ∧ xb < W.heap.size from by
        have q1 := hRx.but hW id
        have q2 := hxB.but hW id
        exact ⟨⟨(q1.get 1 _ rfl).1, (q2.get 0 _ rfl).1, (q2.get 1 _ rfl).1⟩, q1.lt, q2.lt⟩))
      have hnr : ¬ inB a' r := fun e => by have := hF r e; omega
      have FD := hidq (fun W W' (hW : But (fun _ => False) wx W) (hW' : But (inB a') (W.alloc (boxRI (ni (cbits b)) v)) W') => (show BoxAt W' r [.int .i64 kd, .slice a' k cap', .int .i64 N] from
        ((hRx.but hW id).but ((But.refl (fun _ => False) W).alloc _) id).but hW' hnr))
      have FIN := hidq (fun W W' g2 cap2 (hW : But (fun _ => False) wx W) (hF2 : Flat 2 W' g2 cap2 (k + 1) (flatR (kis (L.take (k + 1))))) (hW' : But (inB a') (W.alloc (boxRI (ni (cbits b)) v)) W') (hg2 : inB a' g2 ∨ (W.alloc (boxRI (ni (cbits b)) v)).heap.size ≤ g2) W'' (hW'' : But (fun j => j = r) W' W'') =>
        (show But (fun j => j = r) W1 W'' ∧ SlAt 2 W'' (some ⟨g2, 0, none⟩) cap2 (k + 1) (flatR (kis (L.take (k + 1)))) ∧ ∀ j, inB (some ⟨g2, 0, none⟩) j → W1.heap.size ≤ j from by
          have hws := hW.size
          have hxz := hBx.size
          have hg3 : W1.heap.size ≤ g2 := by
            rcases hg2 with e | e
            · exact hF _ e
            · rw [World.size_alloc] at e; omega
          have h1 : But (inB a') wx W' := ((hW.alloc _).mono (fun _ _ e => e.elim)).trans hW'
          refine ⟨(hBx.then h1 (fun j hj e => by have := hF j e; omega)).then hW'' (fun _ _ e => e), .inr ⟨g2, rfl, hF2.but hW'' (by omega)⟩, ?_⟩
          rintro j ⟨y, hy, rfl⟩; cases hy; exact hg3))
      have HX := hidq (And.intro hxB (And.intro hRx hSx))
      obtain ⟨⟨i0, i1, i2⟩, i3, i4⟩ := FC.out wx (But.refl _ _)
      clear hS hF hB hR hnext hL hBt hp hq hr hs1 h hb1 hX2 hX3 hz1 hgw hgr hxB hRx hSx hBx hrx hrr hnr hxw hxs hxb i0 i1 i2 i3 i4
      obtain ⟨⟨i0, i1, i2⟩, i3, i4⟩ := FC.out wx (But.refl _ _)
      generalize ni (cbits b) = c at *
      go_region_law (first
        | (refine step_append rfl (.tmp 19) (.tmp 25) 49 rfl _ _ (by simp [Act.eval]) (by simp [Act.eval]) _ _ HRUN.out ?_)
        | (go_simp; go_wp2_with (go_at_call 47; refine (hOw.out _).mono ?_; rintro e w3 ⟨rfl, hb3⟩; have hbb3 : But (fun _ => False) wx w3 := ((But.refl _ wx).drew).trans (But.of_below hb3); obtain ⟨⟨f4, f5, f6⟩, f7, f8⟩ := FC.out w3 hbb3; obtain ⟨g2, cap2, w4, hrun, hF2, hb4, hg2⟩ := AP.out w3 hbb3; have hd := FD.out w3 w4 hbb3 hb4; obtain ⟨⟨d0, z0⟩, ⟨d1, z1⟩, ⟨d2, z2⟩⟩ := three_at hd; have hdl := hd.lt; have HD := hidq hd; have HF2 := hidq hF2; have HB4 := hidq hb4; have HRUN := hidq hrun; clear hF2 hb4 hrun hd)))
      all_goals go_wp2
      all_goals go_roundw
      all_goals first
        | (show (_ : Nat) < _; simp [intOf]; omega)
        | (obtain ⟨y1, y2, y3⟩ := FIN.out w3 w4 g2 cap2 hbb3 HF2.out HB4.out hg2 _ ((But.refl (fun j => j = r) w4).set1 r 1 rfl _)
           exact ⟨k + 1, some ⟨g2, 0, none⟩, cap2, by go_num, by omega, y1, HD.out.set 1 _, y2, y3⟩)
    · have hkn : k = n := by omega
      subst hkn
      obtain ⟨hL, hBt, hp, hq, hr, hs1⟩ := HL.out
      obtain ⟨h, hb1, hX2, hX3⟩ := HH.out
      have hd : decide ((k : Int) < (k : Int)) = false := decide_eq_false (by omega)
      have hQ := hX2.but hB (fun e => by have e' : q = r := e; omega)
      rw [show L.take k = L by rw [← hL]; exact List.take_length] at hS
      obtain ⟨⟨c0, z0⟩, ⟨c1, z1⟩, ⟨c2, z2⟩⟩ := three_at hQ
      obtain ⟨⟨d0, y0⟩, ⟨d1, y1⟩, ⟨d2, y2⟩⟩ := three_at hR
      have hql := hQ.lt
      have hrl := hR.lt
      have FIN := hidq (fun W (hW : But (fun j => j = q) wr W) => (show SlAt 2 W a' cap' k (flatR (kis L)) ∧ (∀ j, inB a' j → w.heap.size ≤ j) ∧ Below w.heap.size w W from by
        have hz1 := hb1.size
        refine ⟨?_, fun j hj => by have := hF j hj; omega, ?_⟩
        · exact hS.but hW (fun j hj e => by have := hF j hj; omega)
        · refine (hb1.trans (hB.below hb1.size (fun j e => by omega))).trans (hW.below (by have := hB.size; omega) (fun j e => by omega))))
      clear hS hF hB hR hL hBt hp hq hr hs1 h hb1 hX2 hX3 hQ hlt
      go_wp2
      refine bodyPost_ret (v := .agg #[.int .i64 kd, .slice a' k cap', .int .i64 N]) (by simp [results, Try.results16, go_sem, c0, c1, c2]) rfl ⟨a', cap', rfl, FIN.out _ ?_⟩
      exact (((But.refl (fun j => j = q) wr).set1 _ _ rfl _).set1 _ _ rfl _).set1 _ _ rfl _
end Go.Proofs.Ytbcmilfajeanbaa

namespace Go.Proofs.Ytbcmilfajeanbaa
open Go.RowKit Go.Sort
namespace Bx

theorem getD_false {L : Array Bool} {i : Nat} (h : L.getD i true = false) : L.getD i false = false := by
  rw [Array.getD_eq_getD_getElem?] at *
  cases e : L[i]? with
  | none => simp
  | some b => rw [e] at h; simpa using h
theorem getD_set_ne {L : Array Bool} {k j : Nat} (h : j ≠ k) : (L.setIfInBounds k true).getD j false = L.getD j false := by
  rw [Array.getD_eq_getD_getElem?, Array.getD_eq_getD_getElem?, Array.getElem?_setIfInBounds, if_neg (fun e => h e.symm)]
theorem getD_repl (n i : Nat) : (Array.replicate n false).getD i false = false := by
  rw [Array.getD_eq_getD_getElem?, Array.getElem?_replicate]
  split <;> rfl
theorem out_skip {P : Program} {K : Value → World → Prop} {ev : Operand → Value} {o : Oper} {w w' : World} (hrun : (execOp ev o).run P w = .ok .skip w') (hk : K undef w') : Reg.Outcome P K ((execOp ev o).run P w) := by
  rw [hrun]; exact hk
theorem act_list (a : Act) (n : Nat) (h : a.tmps.size = n) (hd : a.defers = []) : a = ⟨((List.range n).map fun k => a.eval (.tmp k)).toArray, []⟩ := by
  obtain ⟨t, d⟩ := a
  simp only at hd h
  subst hd
  congr 1
  refine Array.ext (by simpa using h) ?_
  intro i h1 h2
  simp only [List.getElem_toArray, List.getElem_map, List.getElem_range]
  show _ = t.getD i undef
  rw [Array.getD_eq_getD_getElem?, Array.getElem?_eq_getElem h1]; rfl

/-- Which box lies where. -/
abbrev Gh := Nat → Option Nat
/-- The boxes alone are written; new ones are new. -/
structure Pres (x : Gh) (w : World) (x' : Gh) (w' : World) : Prop where
  old : ∀ i b, x i = some b → x' i = some b
  new : ∀ i b, x' i = some b → x i = some b ∨ w.heap.size ≤ b
  but : But (fun k => ∃ i, x i = some k) w w'
theorem Pres.same {x : Gh} {w w' : World} (hb : But (fun _ => False) w w') : Pres x w x w' := ⟨fun _ _ h => h, fun _ _ h => .inl h, hb.mono (fun _ _ e => e.elim)⟩

/-- A slice that lies in none of the boxes. -/
def Free (k : Nat) (n : Nat) (l : List Value) (s : Value) (x : Gh) (w : World) : Prop := ∃ a c, s = .slice a n c ∧ SlAt k w a c n l ∧ ∀ j, inB a j → ∀ i, x i ≠ some j
theorem Free.kept {k n : Nat} {l : List Value} {s : Value} {x x' : Gh} {w w' : World} (hp : Pres x w x' w') (h : Free k n l s x w) : Free k n l s x' w' := by
  obtain ⟨a, c, h1, h2, h3⟩ := h
  refine ⟨a, c, h1, h2.but hp.but (fun j hj ⟨i, e⟩ => h3 j hj i e), fun j hj i e => ?_⟩
  rcases hp.new i j e with e | e
  · exact h3 j hj i e
  · have := h2.lt j hj; omega

/-- What a box holds in the end: a number and a slice. -/
structure Want where
  k : Nat
  z : Int
  n : Nat
  l : List Value
def Holds (W : Want) (u v : Value) (x : Gh) (w : World) : Prop := u = .int .i64 W.z ∧ Free W.k W.n W.l v x w
theorem Holds.kept {W : Want} {u v : Value} {x x' : Gh} {w w' : World} (hp : Pres x w x' w') (h : Holds W u v x w) : Holds W u v x' w' := ⟨h.1, h.2.kept hp⟩
/-- A value that is to be put. -/
def Val (W : Want) (v : Value) (x : Gh) (w : World) : Prop := ∃ u s, v = .agg #[u, s] ∧ Holds W u s x w
theorem Val.kept {W : Want} {v : Value} {x x' : Gh} {w w' : World} (hp : Pres x w x' w') (h : Val W v x w) : Val W v x' w' := by
  obtain ⟨u, s, h1, h2⟩ := h
  exact ⟨u, s, h1, h2.kept hp⟩

structure Box (w1 w : World) (b : Nat) : Prop where
  lo : w1.heap.size ≤ b
  lt : b < w.heap.size
  c0 : ∃ u, w.cell? ⟨b, 0, none⟩ = some u
  c1 : ∃ u, w.cell? ⟨b, 1, none⟩ = some u
  z0 : w.frozen? ⟨b, 0, none⟩ = false
  z1 : w.frozen? ⟨b, 1, none⟩ = false
theorem Box.but {S : Nat → Prop} {w1 w w' : World} {b : Nat} (h : Box w1 w b) (hb : But S w w') (hS : ¬ S b) : Box w1 w' b :=
  ⟨h.lo, Nat.lt_of_lt_of_le h.lt hb.size, by rw [hb.cell (p := ⟨b, 0, none⟩) h.lt hS]; exact h.c0, by rw [hb.cell (p := ⟨b, 1, none⟩) h.lt hS]; exact h.c1, by rw [hb.frozen (p := ⟨b, 0, none⟩) h.lt hS]; exact h.z0, by rw [hb.frozen (p := ⟨b, 1, none⟩) h.lt hS]; exact h.z1⟩

/-- Two boxes in the making: operations A, A + 1 make them, S, S + 1 fill them. -/
structure BI (w1 : World) (A S : Nat) (W : Nat → Want) (x : Gh) (L : Array Bool) (w : World) : Prop where
  bel : Below w1.heap.size w1 w
  box : ∀ i b, x i = some b → Box w1 w b
  ne : ∀ i j b, x i = some b → x j = some b → i = j
  un : ∀ i, i < 2 → L.getD (A + i) false = false → x i = none
  put : ∀ i, i < 2 → L.getD (S + i) false = true → ∃ b u v, x i = some b ∧ w.cell? ⟨b, 0, none⟩ = some u ∧ w.cell? ⟨b, 1, none⟩ = some v ∧ Holds (W i) u v x w

section
variable {w1 : World} {A S : Nat} {W : Nat → Want} {x : Gh} {L : Array Bool} {w w' : World}
theorem BI.start (w1 : World) (A S n : Nat) (W : Nat → Want) : BI w1 A S W (fun _ => none) (Array.replicate n false) w1.drew :=
  ⟨(Below.refl _ _).drew, fun _ _ h => (by cases h), fun _ _ _ h => (by cases h), fun _ _ _ => rfl, fun i hi h => absurd h (by rw [getD_repl]; decide)⟩
theorem BI.same (h : BI w1 A S W x L w) (k : Nat) (hk : k < A ∨ (A + 2 ≤ k ∧ k < S) ∨ S + 2 ≤ k) (hAS : A + 2 ≤ S) (hb : But (fun _ => False) w w') : BI w1 A S W x (L.setIfInBounds k true) w' := by
  refine ⟨h.bel.trans (hb.below h.bel.size (fun _ e => e.elim)), fun i b hi => (h.box i b hi).but hb id, h.ne, ?_, ?_⟩
  · intro i hi hL
    rw [getD_set_ne (by omega)] at hL
    exact h.un i hi hL
  · intro i hi hL
    rw [getD_set_ne (by omega)] at hL
    obtain ⟨b, u, v, h1, h2, h3, h4⟩ := h.put i hi hL
    have hl := (h.box i b h1).lt
    exact ⟨b, u, v, h1, (hb.cell (p := ⟨b, 0, none⟩) hl id).trans h2, (hb.cell (p := ⟨b, 1, none⟩) hl id).trans h3, h4.kept (Pres.same hb)⟩
theorem BI.new (h : BI w1 A S W x L w) (i : Nat) (hi : i < 2) (hAS : A + 2 ≤ S) (hk : L.getD (A + i) true = false) (u v : Value) (t : TypeId) :
    BI w1 A S W (fun j => if j = i then some w.heap.size else x j) (L.setIfInBounds (A + i) true) (w.alloc (.cells #[u, v] t)) ∧ Pres x w (fun j => if j = i then some w.heap.size else x j) (w.alloc (.cells #[u, v] t)) := by
  have hx : x i = none := h.un i hi (getD_false hk)
  have hb : But (fun _ => False) w (w.alloc (.cells #[u, v] t)) := (But.refl _ _).alloc _
  have hP : Pres x w (fun j => if j = i then some w.heap.size else x j) (w.alloc (.cells #[u, v] t)) := by
    refine ⟨fun j b hj => ?_, fun j b hj => ?_, hb.mono (fun _ _ e => e.elim)⟩
    · by_cases e : j = i
      · rw [e, hx] at hj; cases hj
      · simp only [if_neg e]; exact hj
    · by_cases e : j = i
      · simp only [if_pos e] at hj; injection hj with hj; exact .inr (by omega)
      · simp only [if_neg e] at hj; exact .inl hj
  refine ⟨⟨h.bel.trans (hb.below h.bel.size (fun _ e => e.elim)), ?_, ?_, ?_, ?_⟩, hP⟩
  · intro j b hj
    by_cases e : j = i
    · simp only [if_pos e] at hj
      injection hj with hj
      subst hj
      exact ⟨h.bel.size, by simp, ⟨u, (World.cell?_alloc_new _ _ _ 0).trans rfl⟩, ⟨v, (World.cell?_alloc_new _ _ _ 1).trans rfl⟩, World.frozen?_alloc_new _ _ _ _, World.frozen?_alloc_new _ _ _ _⟩
    · simp only [if_neg e] at hj
      exact (h.box j b hj).but hb id
  · intro j k b hj hk'
    by_cases e : j = i
    · by_cases e' : k = i
      · rw [e, e']
      · simp only [if_pos e] at hj
        simp only [if_neg e'] at hk'
        injection hj with hj
        have := (h.box k b hk').lt
        omega
    · by_cases e' : k = i
      · simp only [if_neg e] at hj
        simp only [if_pos e'] at hk'
        injection hk' with hk'
        have := (h.box j b hj).lt
        omega
      · simp only [if_neg e] at hj
        simp only [if_neg e'] at hk'
        exact h.ne j k b hj hk'
  · intro j hj hL
    by_cases e : j = i
    · subst e
      have hlt : A + j < L.size := by
        rcases Nat.lt_or_ge (A + j) L.size with h' | h'
        · exact h'
        · rw [Array.getD_eq_getD_getElem?, Array.getElem?_eq_none h'] at hk; cases hk
      rw [Array.getD_eq_getD_getElem?, Array.getElem?_setIfInBounds, if_pos rfl, if_pos hlt] at hL
      cases hL
    · rw [getD_set_ne (by omega)] at hL
      simp only [if_neg e]
      exact h.un j hj hL
  · intro j hj hL
    rw [getD_set_ne (by omega)] at hL
    obtain ⟨b, u', v', h1, h2, h3, h4⟩ := h.put j hj hL
    have hl := (h.box j b h1).lt
    exact ⟨b, u', v', hP.old _ _ h1, (hb.cell (p := ⟨b, 0, none⟩) hl id).trans h2, (hb.cell (p := ⟨b, 1, none⟩) hl id).trans h3, h4.kept hP⟩
theorem BI.store (h : BI w1 A S W x L w) (i b : Nat) (hi : i < 2) (hAS : A + 2 ≤ S) (hb : x i = some b) (u v : Value) (hv : Holds (W i) u v x w) :
    BI w1 A S W x (L.setIfInBounds (S + i) true) ((w.setCell ⟨b, 0, none⟩ u).setCell ⟨b, 1, none⟩ v) ∧ Pres x w x ((w.setCell ⟨b, 0, none⟩ u).setCell ⟨b, 1, none⟩ v) := by
  have hB := h.box i b hb
  obtain ⟨u0, hc0⟩ := hB.c0
  obtain ⟨u1, hc1⟩ := hB.c1
  have hbut : But (fun k => k = b) w ((w.setCell ⟨b, 0, none⟩ u).setCell ⟨b, 1, none⟩ v) := ((But.refl (fun k => k = b) w).set1 _ _ rfl _).set1 _ _ rfl _
  have hP : Pres x w x ((w.setCell ⟨b, 0, none⟩ u).setCell ⟨b, 1, none⟩ v) := ⟨fun _ _ e => e, fun _ _ e => .inl e, hbut.mono (fun k _ e => ⟨i, by rw [e]; exact hb⟩)⟩
  have n01 : (⟨b, 0, none⟩ : Addr) ≠ ⟨b, 1, none⟩ := fun e => by injection e with _ e2; cases e2
  have k0 : ((w.setCell ⟨b, 0, none⟩ u).setCell ⟨b, 1, none⟩ v).cell? ⟨b, 0, none⟩ = some u := by
    rw [World.cell?_setCell_other _ _ _ _ n01.symm, World.cell?_setCell_same' _ _ _ (by rw [hc0]; rfl)]
  have k1 : ((w.setCell ⟨b, 0, none⟩ u).setCell ⟨b, 1, none⟩ v).cell? ⟨b, 1, none⟩ = some v := by
    rw [World.cell?_setCell_same' _ _ _ (by rw [World.cell?_setCell_other _ _ _ _ n01, hc1]; rfl)]
  refine ⟨⟨h.bel.trans (hbut.below h.bel.size (fun k e => by rw [e]; exact hB.lo)), ?_, h.ne, ?_, ?_⟩, hP⟩
  · intro j c hj
    by_cases e : c = b
    · subst e
      exact ⟨hB.lo, by rw [World.size_setCell, World.size_setCell]; exact hB.lt, ⟨u, k0⟩, ⟨v, k1⟩, by rw [World.frozen?_setCell, World.frozen?_setCell]; exact hB.z0, by rw [World.frozen?_setCell, World.frozen?_setCell]; exact hB.z1⟩
    · exact (h.box j c hj).but hbut e
  · intro j hj hL
    rw [getD_set_ne (by omega)] at hL
    exact h.un j hj hL
  · intro j hj hL
    by_cases e : j = i
    · subst e
      exact ⟨b, u, v, hb, k0, k1, hv.kept hP⟩
    · rw [getD_set_ne (by omega)] at hL
      obtain ⟨c, u', v', h1, h2, h3, h4⟩ := h.put j hj hL
      have hcb : ¬ c = b := fun e' => e (h.ne j i b (by rw [← e']; exact h1) hb)
      have hl := (h.box j c h1).lt
      exact ⟨c, u', v', h1, (hbut.cell (p := ⟨c, 0, none⟩) hl hcb).trans h2, (hbut.cell (p := ⟨c, 1, none⟩) hl hcb).trans h3, h4.kept hP⟩
end
end Bx
end Go.Proofs.Ytbcmilfajeanbaa

namespace Go.Proofs.Ytbcmilfajeanbaa
open Go.RowKit Go.Sort
namespace Bx

/-- What a box of three cells holds in the end. -/
abbrev agg3 (u : Value) : List Value := [.int .i64 0, u, .int .i64 0]
/-- A value that is to be put. -/
def Val3 (n : Nat) (l : List Value) (v : Value) (x : Gh) (w : World) : Prop := ∃ s, v = .agg #[.int .i64 0, s, .int .i64 0] ∧ Free 2 n l s x w
theorem Val3.kept {n : Nat} {l : List Value} {v : Value} {x x' : Gh} {w w' : World} (hp : Pres x w x' w') (h : Val3 n l v x w) : Val3 n l v x' w' := by
  obtain ⟨s, h1, h2⟩ := h
  exact ⟨s, h1, h2.kept hp⟩
/-- Two boxes in the making: operations A, A + 1 make them, S, S + 1 fill them. -/
structure BI3 (w1 : World) (A S : Nat) (W : Nat → Nat × List Value) (x : Gh) (L : Array Bool) (w : World) : Prop where
  bel : Below w1.heap.size w1 w
  box : ∀ i b, x i = some b → w1.heap.size ≤ b ∧ ∃ u0 u1 u2, BoxAt w b [u0, u1, u2]
  ne : ∀ i j b, x i = some b → x j = some b → i = j
  un : ∀ i, i < 2 → L.getD (A + i) false = false → x i = none
  put : ∀ i, i < 2 → L.getD (S + i) false = true → ∃ b u, x i = some b ∧ BoxAt w b (agg3 u) ∧ Free 2 (W i).1 (W i).2 u x w
section
variable {w1 : World} {A S : Nat} {W : Nat → Nat × List Value} {x : Gh} {L : Array Bool} {w w' : World}
theorem BI3.start (w1 : World) (A S n : Nat) (W : Nat → Nat × List Value) : BI3 w1 A S W (fun _ => none) (Array.replicate n false) w1.drew :=
  ⟨(Below.refl _ _).drew, fun _ _ h => (by cases h), fun _ _ _ h => (by cases h), fun _ _ _ => rfl, fun i hi h => absurd h (by rw [getD_repl]; decide)⟩
theorem BI3.lt (h : BI3 w1 A S W x L w) {i b : Nat} (hi : x i = some b) : b < w.heap.size := by
  obtain ⟨_, _, _, _, hb⟩ := h.box i b hi
  exact hb.lt
theorem BI3.same (h : BI3 w1 A S W x L w) (k : Nat) (hk : k < A ∨ (A + 2 ≤ k ∧ k < S) ∨ S + 2 ≤ k) (hAS : A + 2 ≤ S) (hb : But (fun _ => False) w w') : BI3 w1 A S W x (L.setIfInBounds k true) w' := by
  refine ⟨h.bel.trans (hb.below h.bel.size (fun _ e => e.elim)), fun i b hi => ?_, h.ne, ?_, ?_⟩
  · obtain ⟨q, u0, u1, u2, hB⟩ := h.box i b hi
    exact ⟨q, u0, u1, u2, hB.but hb id⟩
  · intro i hi hL
    rw [getD_set_ne (by omega)] at hL
    exact h.un i hi hL
  · intro i hi hL
    rw [getD_set_ne (by omega)] at hL
    obtain ⟨b, u, h1, h2, h3⟩ := h.put i hi hL
    exact ⟨b, u, h1, h2.but hb id, h3.kept (Pres.same hb)⟩
theorem BI3.new (h : BI3 w1 A S W x L w) (i : Nat) (hi : i < 2) (hAS : A + 2 ≤ S) (hk : L.getD (A + i) true = false) (u0 u1 u2 : Value) (t : TypeId) :
    BI3 w1 A S W (fun j => if j = i then some w.heap.size else x j) (L.setIfInBounds (A + i) true) (w.alloc (.cells #[u0, u1, u2] t)) ∧ Pres x w (fun j => if j = i then some w.heap.size else x j) (w.alloc (.cells #[u0, u1, u2] t)) := by
  have hx : x i = none := h.un i hi (getD_false hk)
  have hb : But (fun _ => False) w (w.alloc (.cells #[u0, u1, u2] t)) := (But.refl _ _).alloc _
  have hP : Pres x w (fun j => if j = i then some w.heap.size else x j) (w.alloc (.cells #[u0, u1, u2] t)) := by
    refine ⟨fun j b hj => ?_, fun j b hj => ?_, hb.mono (fun _ _ e => e.elim)⟩
    · by_cases e : j = i
      · rw [e, hx] at hj; cases hj
      · simp only [if_neg e]; exact hj
    · by_cases e : j = i
      · simp only [if_pos e] at hj; injection hj with hj; exact .inr (by omega)
      · simp only [if_neg e] at hj; exact .inl hj
  refine ⟨⟨h.bel.trans (hb.below h.bel.size (fun _ e => e.elim)), ?_, ?_, ?_, ?_⟩, hP⟩
  · intro j b hj
    by_cases e : j = i
    · simp only [if_pos e] at hj
      injection hj with hj
      subst hj
      exact ⟨h.bel.size, u0, u1, u2, BoxAt.new w [u0, u1, u2] t⟩
    · simp only [if_neg e] at hj
      obtain ⟨q, v0, v1, v2, hB⟩ := h.box j b hj
      exact ⟨q, v0, v1, v2, hB.but hb id⟩
  · intro j k b hj hk'
    by_cases e : j = i
    · by_cases e' : k = i
      · rw [e, e']
      · simp only [if_pos e] at hj
        simp only [if_neg e'] at hk'
        injection hj with hj
        have := h.lt hk'
        omega
    · by_cases e' : k = i
      · simp only [if_neg e] at hj
        simp only [if_pos e'] at hk'
        injection hk' with hk'
        have := h.lt hj
        omega
      · simp only [if_neg e] at hj
        simp only [if_neg e'] at hk'
        exact h.ne j k b hj hk'
  · intro j hj hL
    by_cases e : j = i
    · subst e
      have hlt : A + j < L.size := by
        rcases Nat.lt_or_ge (A + j) L.size with h' | h'
        · exact h'
        · rw [Array.getD_eq_getD_getElem?, Array.getElem?_eq_none h'] at hk; cases hk
      rw [Array.getD_eq_getD_getElem?, Array.getElem?_setIfInBounds, if_pos rfl, if_pos hlt] at hL
      cases hL
    · rw [getD_set_ne (by omega)] at hL
      simp only [if_neg e]
      exact h.un j hj hL
  · intro j hj hL
    rw [getD_set_ne (by omega)] at hL
    obtain ⟨b, u', h1, h2, h3⟩ := h.put j hj hL
    exact ⟨b, u', hP.old _ _ h1, h2.but hb id, h3.kept hP⟩
theorem BI3.store (h : BI3 w1 A S W x L w) (i b : Nat) (hi : i < 2) (hAS : A + 2 ≤ S) (hb : x i = some b) (u : Value) (hv : Free 2 (W i).1 (W i).2 u x w) :
    BI3 w1 A S W x (L.setIfInBounds (S + i) true) (((w.setCell ⟨b, 0, none⟩ (.int .i64 0)).setCell ⟨b, 1, none⟩ u).setCell ⟨b, 2, none⟩ (.int .i64 0)) ∧ Pres x w x (((w.setCell ⟨b, 0, none⟩ (.int .i64 0)).setCell ⟨b, 1, none⟩ u).setCell ⟨b, 2, none⟩ (.int .i64 0)) := by
  obtain ⟨hlo, v0, v1, v2, hB⟩ := h.box i b hb
  obtain ⟨hB', hbut⟩ := box_set3 hB (.int .i64 0) u (.int .i64 0)
  have hP : Pres x w x (((w.setCell ⟨b, 0, none⟩ (.int .i64 0)).setCell ⟨b, 1, none⟩ u).setCell ⟨b, 2, none⟩ (.int .i64 0)) := ⟨fun _ _ e => e, fun _ _ e => .inl e, hbut.mono (fun k _ e => ⟨i, by rw [e]; exact hb⟩)⟩
  refine ⟨⟨h.bel.trans (hbut.below h.bel.size (fun k e => by rw [e]; exact hlo)), ?_, h.ne, ?_, ?_⟩, hP⟩
  · intro j c hj
    by_cases e : c = b
    · subst e
      exact ⟨hlo, _, _, _, hB'⟩
    · obtain ⟨q, y0, y1, y2, hC⟩ := h.box j c hj
      exact ⟨q, y0, y1, y2, hC.but hbut e⟩
  · intro j hj hL
    rw [getD_set_ne (by omega)] at hL
    exact h.un j hj hL
  · intro j hj hL
    by_cases e : j = i
    · subst e
      exact ⟨b, u, hb, hB', hv.kept hP⟩
    · rw [getD_set_ne (by omega)] at hL
      obtain ⟨c, u', h1, h2, h3⟩ := h.put j hj hL
      have hcb : ¬ c = b := fun e' => e (h.ne j i b (by rw [← e']; exact h1) hb)
      exact ⟨c, u', h1, h2.but hbut hcb, h3.kept hP⟩
end
end Bx
end Go.Proofs.Ytbcmilfajeanbaa

namespace Go.Proofs.Ytbcmilfajeanbaa
open Go.RowKit

theorem lgr3_any (k p : Int) (w : World) (hk : 1 ≤ k ∧ k ≤ 3) : Calls Try.prog 10 #[.int .i64 k, .int .i64 p] w fun e w' => e = .returned (.int .i64 (legal k p)) ∧ w' = w := by
  have hk1 : decide (k < 1) = false := decide_eq_false (by omega)
  have hk2 : decide (4 < k) = false := decide_eq_false (by omega)
  have hk4 : (k == 4) = false := by simp; omega
  by_cases hp : p < 1
  · rw [legal_par (by omega) (by omega)]
    clear hk
    go_enter Try.func10, Try.ntmps10
    go_wp2
    go_ret
    exact ⟨rfl, rfl⟩
  · have hp1 : decide (p < 1) = false := decide_eq_false hp
    by_cases hq : 16 < p
    · rw [legal_par (by omega) (by omega)]
      clear hk hp
      go_enter Try.func10, Try.ntmps10
      go_wp2
      go_ret
      exact ⟨rfl, rfl⟩
    · have hq1 : decide (16 < p) = false := decide_eq_false hq
      rw [legal_ok (by omega) (by omega) (by omega)]
      clear hk hp hq
      go_enter Try.func10, Try.ntmps10
      go_wp2
      go_ret
      exact ⟨rfl, rfl⟩
theorem lgr4_any (p : Int) (w : World) : Calls Try.prog 10 #[.int .i64 4, .int .i64 p] w fun e w' => e = .returned (.int .i64 (legal 4 p)) ∧ w' = w := by
  by_cases h : 1 ≤ p ∧ p ≤ 16
  · have h16 : p = 1 ∨ p = 2 ∨ p = 3 ∨ p = 4 ∨ p = 5 ∨ p = 6 ∨ p = 7 ∨ p = 8 ∨ p = 9 ∨ p = 10 ∨ p = 11 ∨ p = 12 ∨ p = 13 ∨ p = 14 ∨ p = 15 ∨ p = 16 := by omega
    rcases h16 with rfl | rfl | rfl | rfl | rfl | rfl | rfl | rfl | rfl | rfl | rfl | rfl | rfl | rfl | rfl | rfl
    all_goals
      first
        | rw [show legal 4 _ = 0 from by decide]
        | rw [show legal 4 _ = 5 from by decide]
      clear h
      go_enter Try.func10, Try.ntmps10
      go_wp2_with fail
      go_ret
      exact ⟨rfl, rfl⟩
  · rw [legal_par (by decide) h]
    by_cases h1 : p < 1
    · clear h
      go_enter Try.func10, Try.ntmps10
      go_wp2_with fail
      go_ret
      exact ⟨rfl, rfl⟩
    · have h2 : 16 < p := by omega
      have h3 : decide (p < 1) = false := decide_eq_false h1
      clear h h1
      go_enter Try.func10, Try.ntmps10
      go_wp2_with fail
      go_ret
      exact ⟨rfl, rfl⟩
set_option maxRecDepth 20000 in
theorem lgr0_any (k p : Int) (hk : ¬ (1 ≤ k ∧ k ≤ 4)) (w : World) : Calls Try.prog 10 #[.int .i64 k, .int .i64 p] w fun e w' => e = .returned (.int .i64 6) ∧ w' = w := by
  by_cases h1 : k < 1
  · clear hk
    go_enter Try.func10, Try.ntmps10
    go_wp2
    go_ret
    exact ⟨rfl, rfl⟩
  · have h2 : 4 < k := by omega
    have h1' : decide (k < 1) = false := decide_eq_false h1
    clear hk
    go_enter Try.func10, Try.ntmps10
    go_wp2
    go_ret
    exact ⟨rfl, rfl⟩
theorem rlegal6_any (k p : Int) (w : World) : Calls Try.prog 10 #[.int .i64 k, .int .i64 p] w fun e w' => e = .returned (.int .i64 (legal k p)) ∧ w' = w := by
  by_cases hk : 1 ≤ k ∧ k ≤ 4
  · by_cases h3 : k ≤ 3
    · exact lgr3_any k p w ⟨hk.1, h3⟩
    · have : k = 4 := by omega
      subst this
      exact lgr4_any p w
  · rw [legal_kind hk]; exact lgr0_any k p hk w
end Go.Proofs.Ytbcmilfajeanbaa

namespace Go.Proofs.Ytbcmilfajeanbaa
open Go.RowKit

set_option maxHeartbeats 2000000 in
theorem rcheck_any (kind k v : Int) (w : World) : Calls Try.prog 13 #[.int .i64 kind, .int .i64 k, .int .i64 v] w fun e w' => e = .returned (.int .i64 (chk kind k v)) ∧ w' = w := by
  have hO := fun w => rof_any kind w
  obtain ⟨fr, hfr⟩ : ∃ x, opFrom kind = x := ⟨_, rfl⟩
  obtain ⟨tq, hto⟩ : ∃ x, opTo kind = x := ⟨_, rfl⟩
  rw [hfr, hto] at hO
  by_cases h1 : k < fr
  · rw [chk6 (by omega)]
    clear hfr hto
    go_enter Try.func13, Try.ntmps13
    go_wp2_with (go_at_call 44; refine (hO _).mono ?_; rintro e w1 ⟨rfl, hw⟩; replace hw := hw.symm; subst hw)
    go_ret
    exact ⟨rfl, rfl⟩
  · have h1' : decide (k < fr) = false := decide_eq_false h1
    by_cases h2 : tq < k
    · rw [chk6 (by omega)]
      clear hfr hto
      go_enter Try.func13, Try.ntmps13
      go_wp2_with (go_at_call 44; refine (hO _).mono ?_; rintro e w1 ⟨rfl, hw⟩; replace hw := hw.symm; subst hw)
      go_ret
      exact ⟨rfl, rfl⟩
    · have h2' : decide (tq < k) = false := decide_eq_false h2
      have hin : opFrom kind ≤ k ∧ k ≤ opTo kind := by omega
      by_cases h5 : k = 5
      · by_cases hv : v < 0
        · rw [chk4 hin ⟨h5, .inl hv⟩]
          subst h5
          clear hin hfr hto h1 h2
          go_enter Try.func13, Try.ntmps13
          go_wp2_with (go_at_call 44; refine (hO _).mono ?_; rintro e w1 ⟨rfl, hw⟩; replace hw := hw.symm; subst hw)
          go_ret
          exact ⟨rfl, rfl⟩
        · have hv0 : decide (v < 0) = false := decide_eq_false hv
          by_cases hv1 : 4294967296 < v
          · rw [chk4 hin ⟨h5, .inr hv1⟩]
            subst h5
            clear hin hfr hto h1 h2 hv
            go_enter Try.func13, Try.ntmps13
            go_wp2_with (go_at_call 44; refine (hO _).mono ?_; rintro e w1 ⟨rfl, hw⟩; replace hw := hw.symm; subst hw)
            go_ret
            exact ⟨rfl, rfl⟩
          · rw [chk0 hin (fun e => e.2.elim hv hv1)]
            have hv2 : decide (4294967296 < v) = false := decide_eq_false hv1
            subst h5
            clear hin hfr hto h1 h2 hv hv1
            go_enter Try.func13, Try.ntmps13
            go_wp2_with (go_at_call 44; refine (hO _).mono ?_; rintro e w1 ⟨rfl, hw⟩; replace hw := hw.symm; subst hw)
            go_ret
            exact ⟨rfl, rfl⟩
      · rw [chk0 hin (fun e => h5 e.1)]
        have hk5 : (k == 5) = false := by simpa using h5
        clear hin hfr hto h1 h2 h5
        go_enter Try.func13, Try.ntmps13
        go_wp2_with (go_at_call 44; refine (hO _).mono ?_; rintro e w1 ⟨rfl, hw⟩; replace hw := hw.symm; subst hw)
        go_ret
        exact ⟨rfl, rfl⟩
end Go.Proofs.Ytbcmilfajeanbaa
