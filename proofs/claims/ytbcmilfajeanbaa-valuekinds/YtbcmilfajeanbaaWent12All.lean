/-
  Layer 11: a new Net: contract.
  Layer 11: a place's cell: contract.
  Layer 12: how many went out of a Net: contract.
-/
import Derived.Test.YtbcmilfajeanbaaWireQAll
import Derived.Test.YtbcmilfajeanbaaBoxGAll
import Derived.Test.YtbcmilfajeanbaaKit8All
namespace Go.Proofs.Ytbcmilfajeanbaa
open Go.RowKit Go.Sort

set_option maxRecDepth 20000 in
set_option maxHeartbeats 4000000 in
theorem nnew_ok (d n : Nat) (hd : d ≤ 4) (hn : n = 2 ^ d) (w : World) : Calls Try.prog 68 #[.int .i64 (n : Int)] w (MakeNew d n w) := by
  obtain ⟨rb, hrb⟩ : ∃ rb, w.heap.size = rb := ⟨_, rfl⟩
  obtain ⟨W0, hW0⟩ : ∃ W0, w.alloc (.cells #[.int .i64 0, .slice none 0 0, .slice none 0 0] 124) = W0 := ⟨_, rfl⟩
  have hB0 := BoxAt.new w [.int .i64 0, .slice none 0 0, .slice none 0 0] 124
  rw [show w.alloc (.cells [.int .i64 0, .slice none 0 0, .slice none 0 0].toArray 124) = W0 from hW0, hrb] at hB0
  have hb0 : Below w.heap.size w W0 := by rw [← hW0]; exact (Below.refl _ _).alloc (Nat.le_refl _) _
  have hM := hidq (make_new d n hd hn W0)
  have H0 := hidq (And.intro hB0 hb0)
  clear hB0 hb0 hd hn
  go_enter Try.func68, Try.ntmps68
  go_wp2_with fail
  refine hM.out.mono ?_
  rintro e w1 ⟨ga, gc, oa, oc, rfl, hS, hN, hf1, hf2, hb1⟩
  obtain ⟨hB0, hb0⟩ := H0.out
  obtain ⟨W2, hW2⟩ : ∃ W2, w1.alloc (.cells #[.int .i64 (n : Int), .slice ga (cg d) gc, .slice oa n oc] 122) = W2 := ⟨_, rfl⟩
  have hB2 := BoxAt.new w1 [.int .i64 (n : Int), .slice ga (cg d) gc, .slice oa n oc] 122
  rw [show w1.alloc (.cells [.int .i64 (n : Int), .slice ga (cg d) gc, .slice oa n oc].toArray 122) = W2 from hW2] at hB2
  have hb2 : Below w1.heap.size w1 W2 := by rw [← hW2]; exact (Below.refl _ _).alloc (Nat.le_refl _) _
  have hR2 := (hB0.below hb1).below hb2
  have hb02 : Below w.heap.size w W2 := (hb0.trans (hb1.mono hb0.size)).trans (hb2.mono (by have := hb0.size; have := hb1.size; omega))
  have p0 := (hB2.get 0 _ rfl).1
  have p1 := (hB2.get 1 _ rfl).1
  have p2 := (hB2.get 2 _ rfl).1
  have hpl := hB2.lt
  obtain ⟨r0, y0⟩ := hR2.get 0 _ rfl
  obtain ⟨r1, y1⟩ := hR2.get 1 _ rfl
  obtain ⟨r2, y2⟩ := hR2.get 2 _ rfl
  have hrl := hR2.lt
  have hR3 := setBox_box [(0, .int .i64 (n : Int)), (1, .slice ga (cg d) gc), (2, .slice oa n oc)] hR2
  have hb3 := setBox_but rb [(0, .int .i64 (n : Int)), (1, .slice ga (cg d) gc), (2, .slice oa n oc)] W2
  have HE := hidq (show MakeNew d n w (.returned (.tuple #[.agg #[.int .i64 (n : Int), .slice ga (cg d) gc, .slice oa n oc], .int .i64 0])) (setBox W2 rb [(0, .int .i64 (n : Int)), (1, .slice ga (cg d) gc), (2, .slice oa n oc)]) from by
    have hs0 := hB0.lt
    have hs01 := hb0.size
    refine ⟨ga, gc, oa, oc, rfl, (hS.below hb2).but hb3 (fun j hj e => ?_), fun i v hv => ?_, fun j hj => ?_, fun j hj => ?_, hb02.trans (hb3.below hb02.size (fun j e => by omega))⟩
    · have := hf1 j hj; omega
    · obtain ⟨b, off, e1, e2, _, e4⟩ := (hN.below hb2) i v hv
      have := hf2 b ⟨_, e1, rfl⟩
      exact ⟨b, off, e1, Nat.lt_of_lt_of_le e2 hb3.size, id, by rw [hb3.cell (p := ⟨b, off + i, none⟩) e2 (show ¬ b = rb by omega)]; exact e4⟩
    · have := hf1 j hj; omega
    · have := hf2 j hj; omega)
  have q0 := (hR3.get 0 _ rfl).1
  have q1 := (hR3.get 1 _ rfl).1
  have q2 := (hR3.get 2 _ rfl).1
  dsimp only [setBox] at q0 q1 q2
  clear hS hN hf1 hf2 hb1 hB0 hb0 hB2 hb2 hR2 hb02 hR3 hb3 H0 hM
  go_wp2_with fail
  exact bodyPost_ret (v := .tuple #[.agg #[.int .i64 (n : Int), .slice ga (cg d) gc, .slice oa n oc], .int .i64 0]) (by simp [results, Try.results68, go_sem, q0, q1, q2]) rfl HE.out

set_option maxRecDepth 20000 in
set_option maxHeartbeats 4000000 in
theorem nnew_no (p : Int) (w : World) (h : legal 4 p = 5) : Calls Try.prog 68 #[.int .i64 p] w fun e w' => e = .returned (.tuple #[.agg #[.int .i64 0, .slice none 0 0, .slice none 0 0], .int .i64 5]) ∧ Below w.heap.size w w' := by
  obtain ⟨rb, hrb⟩ : ∃ rb, w.heap.size = rb := ⟨_, rfl⟩
  obtain ⟨W0, hW0⟩ : ∃ W0, w.alloc (.cells #[.int .i64 0, .slice none 0 0, .slice none 0 0] 124) = W0 := ⟨_, rfl⟩
  have hB0 := BoxAt.new w [.int .i64 0, .slice none 0 0, .slice none 0 0] 124
  rw [show w.alloc (.cells [.int .i64 0, .slice none 0 0, .slice none 0 0].toArray 124) = W0 from hW0, hrb] at hB0
  have hb0 : Below w.heap.size w W0 := by rw [← hW0]; exact (Below.refl _ _).alloc (Nat.le_refl _) _
  have hM := hidq (make_no p W0 h)
  have H0 := hidq (And.intro hB0 hb0)
  clear hB0 hb0 h
  go_enter Try.func68, Try.ntmps68
  go_wp2_with fail
  refine hM.out.mono ?_
  rintro e w1 ⟨rfl, hb1⟩
  obtain ⟨hB0, hb0⟩ := H0.out
  obtain ⟨W2, hW2⟩ : ∃ W2, w1.alloc (.cells #[.int .i64 0, .slice none 0 0, .slice none 0 0] 122) = W2 := ⟨_, rfl⟩
  have hb2 : Below w1.heap.size w1 W2 := by rw [← hW2]; exact (Below.refl _ _).alloc (Nat.le_refl _) _
  have hR2 := (hB0.below hb1).below hb2
  have hb02 : Below w.heap.size w W2 := (hb0.trans (hb1.mono hb0.size)).trans (hb2.mono (by have := hb0.size; have := hb1.size; omega))
  obtain ⟨r0, y0⟩ := hR2.get 0 _ rfl
  obtain ⟨r1, y1⟩ := hR2.get 1 _ rfl
  obtain ⟨r2, y2⟩ := hR2.get 2 _ rfl
  have hrl := hR2.lt
  obtain ⟨W3, hW3⟩ : ∃ W3, W2.setCells rb 0 [.int .i64 0, .slice none 0 0, .slice none 0 0] = W3 := ⟨_, rfl⟩
  have hB3 : BoxAt W3 rb [.int .i64 0, .slice none 0 0, .slice none 0 0] := by rw [← hW3]; exact box_cells (cs := [.int .i64 0, .slice none 0 0, .slice none 0 0]) hR2 rfl
  have hb3 : But (fun j => j = rb) W2 W3 := by rw [← hW3]; exact but_setCells _ _ _ _ _ (But.refl _ _)
  have q0 := (hB3.get 0 _ rfl).1
  have q1 := (hB3.get 1 _ rfl).1
  have q2 := (hB3.get 2 _ rfl).1
  have HE := hidq (hb02.trans (hb3.below hb02.size (fun j e => by omega)))
  subst hW2
  have HW3 := hidq hW3
  clear hb1 hB0 hb0 hb2 hR2 hb02 hB3 hb3 H0 hM hW3
  go_wp2_with fail
  have hW3' := HW3.out
  simp only [World.setCells, Nat.zero_add, Nat.reduceAdd] at hW3'
  rw [hW3']
  exact bodyPost_ret (v := .tuple #[.agg #[.int .i64 0, .slice none 0 0, .slice none 0 0], .int .i64 5]) (by simp [results, Try.results68, go_sem, q0, q1, q2]) rfl ⟨rfl, HE.out⟩

/-- What holds of a plan that is made. -/
theorem net_facts (d n : Nat) (hd : d ≤ 4) (hn : n = 2 ^ d) : (Wr.count d (List.range n)).1.length = cg d ∧ (Wr.count d (List.range n)).2.length = n ∧ (∀ g ∈ (Wr.count d (List.range n)).1, g.1 ≠ g.2 ∧ g.1 < n ∧ g.2 < n) ∧ (Wr.count d (List.range n)).2.Nodup ∧ (∀ v, v < n → v ∈ (Wr.count d (List.range n)).2) ∧ (∀ s, Wr.Ev (Wr.run (Wr.count d (List.range n)).1 s) n (Wr.count d (List.range n)).2 (Wr.sum s (List.range n))) ∧ cg d + 1 ≤ 100 ∧ 1 ≤ n ∧ n ≤ 16 := by
  obtain ⟨_, h1, h16⟩ := legal_pow hd hn
  obtain ⟨pf1, pf2, _, _⟩ := plan_facts d hd
  have hcgl := count_gates d (List.range (2 ^ d)) (by simp)
  have houl := Wr.count_length d (List.range (2 ^ d)) (by simp)
  have hev := fun s => Wr.count_even d (List.range (2 ^ d)) s List.nodup_range (by simp)
  have hpm := Wr.count_perm d (List.range (2 ^ d)) (by simp)
  rw [← hn] at pf1 pf2 hcgl houl hev hpm
  refine ⟨hcgl, houl, pf1, pf2, fun v hv => hpm.mem_iff.2 (List.mem_range.2 hv), hev, ?_, h1, h16⟩
  have : d = 0 ∨ d = 1 ∨ d = 2 ∨ d = 3 ∨ d = 4 := by omega
  rcases this with rfl | rfl | rfl | rfl | rfl <;> decide
end Go.Proofs.Ytbcmilfajeanbaa

namespace Go.Proofs.Ytbcmilfajeanbaa
open Go.RowKit Go.Sort

set_option maxRecDepth 20000 in
theorem nout_any (n c gc oc : Nat) (ga oa : Option Addr) (p : Nat) (hc : c ≤ 100) (hp : p ≤ 100) (w : World) :
    Calls Try.prog 69 #[.agg #[.int .i64 (n : Int), .slice ga c gc, .slice oa n oc], .int .i64 (p : Int)] w fun e w' => e = .returned (.int .i64 ((c + p : Nat) : Int)) ∧ Below w.heap.size w w' := by
  have hcI : (c : Int) ≤ 100 := by omega
  have hpI : (p : Int) ≤ 100 := by omega
  rw [show ((c + p : Nat) : Int) = (c : Int) + (p : Int) by omega]
  clear hc hp
  go_enter Try.func69, Try.ntmps69
  go_wp2_with fail
  go_ret
  exact ⟨rfl, (Below.refl _ _).alloc (Nat.le_refl _) _⟩

end Go.Proofs.Ytbcmilfajeanbaa

namespace Go.Proofs.Ytbcmilfajeanbaa
open Go.RowKit Go.Sort

set_option maxRecDepth 20000 in
set_option maxHeartbeats 2000000 in
theorem wentOut_any (b : Nat) (O : Nat → Prop) (M : Mem) (p : Int) (hp : legal 4 p = 0) (w : World) (h : MemAt w b O M) :
    Calls Try.prog 34 #[.pointer (some ⟨b, 0, none⟩), .int .i64 p] w fun e w' => e = .returned (.int .i64 (totA M (nC p.toNat) p.toNat)) ∧ Below w.heap.size w w' := by
  obtain ⟨d, n, hd, hn, rfl⟩ := pow2_ex hp
  have hl : Nat.log2 (2 ^ d) = d := Nat.log2_two_pow
  have hc : nC n = cg d := by unfold nC; rw [hn, hl]
  rw [show ((n : Int)).toNat = n by omega, hc]
  have hcg : cg d ≤ 100 := by
    have : d = 0 ∨ d = 1 ∨ d = 2 ∨ d = 3 ∨ d = 4 := by omega
    rcases this with rfl | rfl | rfl | rfl | rfl <;> decide
  have hn16 : n ≤ 16 := (legal_pow hd hn).2.2
  obtain ⟨q, hq⟩ : ∃ q, cg d = q := ⟨_, rfl⟩
  have hN : ∀ w, Calls Try.prog 68 #[.int .i64 (n : Int)] w fun e w' => ∃ ga gc oa oc, e = .returned (.tuple #[.agg #[.int .i64 (n : Int), .slice ga q gc, .slice oa n oc], .int .i64 0]) ∧ Below w.heap.size w w' := fun w => by
    refine (nnew_ok d n hd hn w).mono ?_
    rintro e w1 ⟨ga, gc, oa, oc, he, _, _, _, _, hb⟩
    exact ⟨ga, gc, oa, oc, by rw [← hq]; exact he, hb⟩
  rw [hq] at hcg ⊢
  have hO := fun ga gc oa oc w => nout_any n q gc oc ga oa 0 hcg (by decide) w
  have HT := hidq (fun W (hW : Below w.heap.size w W) => together_any b O M (q : Int) n (by omega) (by omega) W (h.below hW))
  clear h hl hc hp hd hn hq hcg hn16
  go_enter Try.func34, Try.ntmps34
  go_wp2_with fail
  refine (hN _).mono ?_
  rintro e w1 ⟨ga, gc, oa, oc, rfl, hb⟩
  have HB := hidq hb
  clear hb hN
  go_wp2_with fail
  refine (hO ga gc oa oc _).mono ?_
  rintro e w2 ⟨rfl, hb2⟩
  have HC := hidq hb2
  clear hb2 hO
  go_wp2_with fail
  have q1 := HB.out.size
  have hba := (Below.refl w1.heap.size w1).alloc (Nat.le_refl _) (.cells #[.int .i64 (n : Int), .slice ga q gc, .slice oa n oc] 124)
  have hall : Below w.heap.size w w2 := (HB.out.trans (hba.mono q1)).trans (HC.out.mono (by have := hba.size; omega))
  refine (HT.out _ hall).mono ?_
  rintro e w3 ⟨rfl, hb3⟩
  have HD := hidq (hall.trans (hb3.mono hall.size))
  clear hb3 hall hba HT HC HB
  go_wp2
  go_ret
  exact ⟨rfl, HD.out⟩
end Go.Proofs.Ytbcmilfajeanbaa
