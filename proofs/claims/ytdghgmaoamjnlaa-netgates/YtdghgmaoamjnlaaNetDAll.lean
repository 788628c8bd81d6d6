/-
  Layer 10: the plan of a width: contract.
  Layer 6's reference: draws, parameters: contracts.
  Layer 10: widths that may not be; the law of plans: the call returns true.
  Layer 10: what holds of the five plans.
  A step whose frame is known as such: its end.
  Layer 11: a plan that lies in memory; what a token's step comes to.
  Layer 6: an operation that nobody disturbs, on one machine: contract.
  Layer 11: a new Net; a place's cell; a count; the next gate: contracts.
  Layer 11: the next gate: contract.
  Layer 11: a token passes a gate, or goes out: contracts.
  Layer 11: a token goes out: contract.
-/
import Derived.Test.YtdghgmaoamjnlaaWireDAll
import Derived.Test.YtdghgmaoamjnlaaAloneG6All
import Derived.Test.YtdghgmaoamjnlaaNetMath
namespace Go.Proofs.Ytdghgmaoamjnlaa
open Go.RowKit Go.Sort

set_option maxRecDepth 20000 in
theorem zeros (T E : TypeId) (n : Nat) (hn : n ≤ 1000) (hu : Try.prog.underlying T = some (.slice E)) (h : (Try.prog.info? E).map (fun i => (i.zero, i.size, i.bytes)) = some (some (.int .i64 0), 1, 8)) (w : World) :
    (Instr.makeSlice T (.int .i64 (n : Int)) (.int .i64 (n : Int))).run Try.prog w = .ok (.slice (some ⟨w.heap.size, 0, none⟩) n n) (w.alloc (.cells (List.replicate n (Value.int .i64 0)).toArray E)) := by
  obtain ⟨i, hi, he⟩ := Option.map_eq_some_iff.1 h
  simp only [Prod.mk.injEq] at he
  have hr := run_make (P := Try.prog) w T E i _ hu hi he.1 .i64 .i64 (n : Int) (n : Int) (by omega) (Int.le_refl _) (by rw [he.2.2]; omega) (by omega)
  rw [hr, he.2.1]
  simp only [Int.toNat_natCast, Nat.mul_one]
  congr 3
  apply Array.ext
  · simp [madeCells]
  · intro i h1 h2
    simp [madeCells, Value.cells, Nat.mod_one]
theorem zerosI (n : Nat) (hn : n ≤ 1000) (w : World) : (Instr.makeSlice 46 (.int .i64 (n : Int)) (.int .i64 (n : Int))).run Try.prog w = .ok (.slice (some ⟨w.heap.size, 0, none⟩) n n) (w.alloc (.cells (List.replicate n (Value.int .i64 0)).toArray 3)) :=
  zeros _ _ n hn Try.underlying46 (by kernel_rfl) w
theorem zerosL (n : Nat) (hn : n ≤ 1000) (w : World) : (Instr.makeSlice 57 (.int .i64 (n : Int)) (.int .i64 (n : Int))).run Try.prog w = .ok (.slice (some ⟨w.heap.size, 0, none⟩) n n) (w.alloc (.cells (List.replicate n (Value.int .i64 0)).toArray 2)) :=
  zeros _ _ n hn Try.underlying57 (by kernel_rfl) w
theorem vals_zero (n : Nat) : vals (List.replicate n 0) = List.replicate n (Value.int .i64 0) := by simp [vals]
theorem vals_set (l : List Nat) (i v : Nat) : (vals l).set i (.int .i64 (v : Int)) = vals (l.set i v) := by simp [vals, List.map_set]
theorem flatG_get : ∀ (G : List (Nat × Nat)) (i : Nat) (g : Nat × Nat), G[i]? = some g → (flatG G)[i * 2]? = some (.int .i64 (g.1 : Int)) ∧ (flatG G)[i * 2 + 1]? = some (.int .i64 (g.2 : Int))
  | [], i, g, h => by simp at h
  | x :: G, 0, g, h => by simp at h; subst h; exact ⟨rfl, rfl⟩
  | x :: G, i + 1, g, h => by
    have := flatG_get G i g (by simpa using h)
    have e : flatG (x :: G) = .int .i64 (x.1 : Int) :: .int .i64 (x.2 : Int) :: flatG G := rfl
    rw [e, show (i + 1) * 2 = i * 2 + 1 + 1 by omega]
    exact this
/-- Numbers in a box. -/
theorem BoxAt.ns {w : World} {b : Nat} {l : List Nat} (h : BoxAt w b (vals l)) (S : Nat → Prop) (hS : ¬ S b) : NsAt w (some ⟨b, 0, none⟩) S l := fun i v hv =>
  ⟨b, 0, rfl, h.lt, hS, by rw [Nat.zero_add]; exact h.cell i _ (by simp [vals, hv])⟩
def upTo (k n : Nat) : List Nat := List.range k ++ List.replicate (n - k) 0
theorem upTo_len {k n : Nat} (h : k ≤ n) : (upTo k n).length = n := by simp [upTo]; omega
theorem upTo_set {k n : Nat} (h : k < n) : (upTo k n).set k k = upTo (k + 1) n := by
  apply List.ext_getElem?
  intro j
  unfold upTo
  rw [List.getElem?_set]
  by_cases e : k = j
  · subst e
    rw [if_pos rfl, if_pos (by simp; omega), List.getElem?_append_left (by simp), List.getElem?_range (by omega)]
  · rw [if_neg e]
    by_cases e2 : j < k
    · rw [List.getElem?_append_left (by simpa using e2), List.getElem?_append_left (by simp; omega), List.getElem?_range e2, List.getElem?_range (by omega)]
    · rw [List.getElem?_append_right (by simp; omega), List.getElem?_append_right (by simp; omega)]
      simp only [List.length_range, List.getElem?_replicate]
      by_cases e3 : j < n
      · rw [if_pos (by omega), if_pos (by omega)]
      · rw [if_neg (by omega), if_neg (by omega)]

/-- How a plan is answered. -/
def MakeEnd (d n : Nat) (w : World) (e : Ending) (w' : World) : Prop :=
  ∃ ga gc oa oc, e = .returned (.tuple #[.agg #[.int .i64 (n : Int), .slice ga (cg d) gc, .slice oa n oc], .int .i64 0]) ∧ SlAt 2 w' ga gc (cg d) (flatG (Wr.count d (List.range n)).1) ∧ NsAt w' oa (fun _ => False) (Wr.count d (List.range n)).2 ∧ Below w.heap.size w w'
/-- The same, and that the plan lies in new blocks. -/
def MakeNew (d n : Nat) (w : World) (e : Ending) (w' : World) : Prop :=
  ∃ ga gc oa oc, e = .returned (.tuple #[.agg #[.int .i64 (n : Int), .slice ga (cg d) gc, .slice oa n oc], .int .i64 0]) ∧ SlAt 2 w' ga gc (cg d) (flatG (Wr.count d (List.range n)).1) ∧ NsAt w' oa (fun _ => False) (Wr.count d (List.range n)).2 ∧ (∀ j, inB ga j → w.heap.size ≤ j) ∧ (∀ j, inB oa j → w.heap.size ≤ j) ∧ Below w.heap.size w w'
theorem plan_start (w : World) (b : Nat) (wd : Int) (h : BoxAt w b [.int .i64 wd, .slice none 0 0, .slice none 0 0]) : PlanAt w b none 0 wd 0 none 0 0 [] :=
  ⟨h, SlAt.nil _ _, rfl, fun e => by obtain ⟨x, hx, _⟩ := e; cases hx⟩
theorem legal_pow {d n : Nat} (hd : d ≤ 4) (hn : n = 2 ^ d) : legal 4 (n : Int) = 0 ∧ 1 ≤ n ∧ n ≤ 16 := by
  have : d = 0 ∨ d = 1 ∨ d = 2 ∨ d = 3 ∨ d = 4 := by omega
  rcases this with rfl | rfl | rfl | rfl | rfl <;> subst hn <;> decide
theorem cg_le {d : Nat} (hd : d ≤ 4) : cg d ≤ 100 := by
  have : d = 0 ∨ d = 1 ∨ d = 2 ∨ d = 3 ∨ d = 4 := by omega
  rcases this with rfl | rfl | rfl | rfl | rfl <;> decide

/-- What holds between two rounds. -/
def MR (w : World) (n rb pb sb k : Nat) (wr : World) : Prop :=
  BoxAt wr rb [.int .i64 0, .slice none 0 0, .slice none 0 0] ∧ BoxAt wr pb [.int .i64 (n : Int), .slice none 0 0, .slice none 0 0] ∧ BoxAt wr sb (vals (upTo k n)) ∧ w.heap.size ≤ rb ∧ rb < pb ∧ pb < sb ∧ Below w.heap.size w wr

set_option maxRecDepth 20000 in
set_option maxHeartbeats 4000000 in
theorem make_new (d n : Nat) (hd : d ≤ 4) (hn : n = 2 ^ d) (w : World) : Calls Try.prog 54 #[.int .i64 (n : Int)] w (MakeNew d n w) := by
  obtain ⟨hl, hn1, hn16⟩ := legal_pow hd hn
  have hcg := cg_le hd
  have HN := hidq (And.intro hd (And.intro hn hcg))
  have hL := legal_any 4 (n : Int) (w.alloc (.cells #[.int .i64 0, .slice none 0 0, .slice none 0 0] 50))
  rw [hl] at hL
  have hB0 := BoxAt.new w [.int .i64 0, .slice none 0 0, .slice none 0 0] 50
  have hb0 : Below w.heap.size w (w.alloc (.cells #[.int .i64 0, .slice none 0 0, .slice none 0 0] 50)) := (Below.refl _ _).alloc (Nat.le_refl _) _
  have H0 := hidq (And.intro hB0 hb0)
  have hmk := zerosI n (by omega)
  clear hd hn hcg hl hB0 hb0
  go_enter Try.func54, Try.ntmps54
  go_wp2_with fail
  refine hL.mono ?_
  rintro e w1 ⟨rfl, hb1⟩
  clear hL
  obtain ⟨rb, hrb⟩ : ∃ rb, w.heap.size = rb := ⟨_, rfl⟩
  obtain ⟨hB0, hb0⟩ := H0.out
  have hB1 := hB0.below hb1
  have hb01 : Below w.heap.size w w1 := hb0.trans (hb1.mono (by simp))
  rw [hrb] at hB1
  obtain ⟨pb, hpb⟩ : ∃ pb, w1.heap.size = pb := ⟨_, rfl⟩
  have hlp : rb < pb := by have := hb1.size; simp at this; omega
  obtain ⟨W2, hW2⟩ : ∃ W2, w1.alloc (.cells #[.int .i64 (n : Int), .slice none 0 0, .slice none 0 0] 50) = W2 := ⟨_, rfl⟩
  have hB2 := BoxAt.new w1 [.int .i64 (n : Int), .slice none 0 0, .slice none 0 0] 50
  have hb12 : Below w1.heap.size w1 W2 := by rw [← hW2]; exact (Below.refl _ _).alloc (Nat.le_refl _) _
  rw [show w1.alloc (.cells [.int .i64 (n : Int), .slice none 0 0, .slice none 0 0].toArray 50) = W2 from hW2, hpb] at hB2
  have hs2 : W2.heap.size = pb + 1 := by rw [← hW2]; simp [hpb]
  obtain ⟨W3, hW3⟩ : ∃ W3, W2.alloc (.cells (List.replicate n (Value.int .i64 0)).toArray 3) = W3 := ⟨_, rfl⟩
  have hB3 := BoxAt.new W2 (List.replicate n (Value.int .i64 0)) 3
  rw [hW3, ← vals_zero, hs2] at hB3
  have hb23 : Below W2.heap.size W2 W3 := by rw [← hW3]; exact (Below.refl _ _).alloc (Nat.le_refl _) _
  have HR := hidq (show MR w n rb pb (pb + 1) 0 W3 from
    ⟨(hB1.below hb12).below hb23, hB2.below hb23, by simpa [upTo] using hB3, by omega, hlp, by omega, (hb01.trans (hb12.mono hb01.size)).trans (hb23.mono (by have := hb01.size; have := hb12.size; omega))⟩)
  have hW3' : W2.alloc (.cells (Array.replicate n (Value.int .i64 0)) 3) = W3 := by rw [← hW3, List.toArray_replicate]
  have HW := hidq (And.intro hW2 hW3')
  clear hB0 hb0 hB1 hb1 hB2 hb12 hB3 hb23 hb01 H0 hW3 hW3' hW2 hs2
  go_wp2_with fail
  rw [HW.out.1]
  rw [HW.out.2]
  clear HW hmk
  go_loopw [20] (fun s20 wr => ∃ k : Nat, s20 = .int .i64 (k : Int) ∧ k ≤ n ∧ Hid (MR w n rb pb (pb + 1) k wr)) (fun s20 _ => n - (intOf s20).toNat)
  case atStart => exact ⟨0, rfl, Nat.zero_le _, HR⟩
  case round =>
    obtain ⟨k, rfl, hk, hR⟩ := hrel
    clear HR
    by_cases hlt : k < n
    · have hltI : (k : Int) < (n : Int) := by omega
      obtain ⟨h1, h2, h3, h4, h5, h6, h7⟩ := hR.out
      obtain ⟨c1, z1⟩ := h3.get k (.int .i64 (((upTo k n)[k]'(by rw [upTo_len hk]; exact hlt) : Nat) : Int)) (by simp [vals, upTo_len hk, hlt])
      have HN2 := hidq (show MR w n rb pb (pb + 1) (k + 1) (wr.setCell ⟨pb + 1, k, none⟩ (.int .i64 (k : Int))) from by
        have hb : But (fun j => j = pb + 1) wr (wr.setCell ⟨pb + 1, k, none⟩ (.int .i64 (k : Int))) := (But.refl (fun j => j = pb + 1) wr).set1 _ _ rfl _
        refine ⟨h1.but hb (by omega), h2.but hb (by omega), ?_, h4, h5, h6, h7.setCell (by show w.heap.size ≤ pb + 1; omega) _⟩
        have := h3.set k (.int .i64 (k : Int))
        rw [vals_set, upTo_set hlt] at this
        exact this)
      clear h1 h2 h3 h4 h5 h6 h7 hR
      go_wp2_with fail
      go_roundw
      case rel => exact ⟨k + 1, by go_num, by omega, HN2⟩
      case measure => simp [intOf]; omega
    · have hd : decide ((k : Int) < (n : Int)) = false := decide_eq_false (by omega)
      have hd2 : decide (k < n) = false := decide_eq_false (by omega)
      have hkn : k = n := by omega
      have hR2 := hR.out
      rw [hkn] at hR2
      obtain ⟨h1, h2, h3, h4, h5, h6, h7⟩ := hR2
      have e0 : upTo n n = List.range n := by simp [upTo]
      rw [e0] at h3
      have k1 := count_any d wr pb none 0 (n : Int) 0 none 0 0 [] (pb + 1) 0 n n (List.range n) (plan_start _ _ _ h2) (h3.ns _ (fun e => e.elim (fun e => by omega) (fun ⟨x, hx, _⟩ => by cases hx))) (by simp) HN.out.2.1 (by omega) (Nat.le_refl _) (by omega) (by have := HN.out.2.2; omega)
      have H1 := hidq (And.intro h1 (And.intro h4 (And.intro h5 (And.intro h6 h7))))
      clear h1 h2 h3 h4 h5 h6 h7 hR hkn e0
      go_wp2_with fail
      refine k1.mono ?_
      rintro e w4 ⟨ga, gc, ra, rc, n', rfl, hn', hP, hE, hR4, hQ4⟩
      clear k1
      have hlen : (List.range n).length = 2 ^ d := by rw [List.length_range]; exact HN.out.2.1
      obtain rfl : n' = n := by rw [← hn', Wr.count_length d _ hlen]; exact HN.out.2.1.symm
      have hcgl := count_gates d _ hlen
      rw [Nat.zero_add, hcgl, List.nil_append] at hP
      obtain ⟨h1, h4, h5, h6, h7⟩ := H1.out
      have hps : ∀ j, pset pb none j → j = pb := by
        rintro j (h | ⟨x, hx, _⟩)
        · exact h
        · cases hx
      have hB1 := h1.but hE.1 (fun e => by have := hps _ e; omega)
      have hb4 : Below w.heap.size w w4 := h7.trans (hE.1.below h7.size (fun j hj => by have := hps _ hj; omega))
      obtain ⟨c0, z0⟩ := hP.box.get 0 _ rfl
      obtain ⟨c1, z1⟩ := hP.box.get 1 _ rfl
      obtain ⟨c2, z2⟩ := hP.box.get 2 _ rfl
      obtain ⟨d0, y0⟩ := hB1.get 0 _ rfl
      obtain ⟨d1, y1⟩ := hB1.get 1 _ rfl
      obtain ⟨d2, y2⟩ := hB1.get 2 _ rfl
      have HK := hidq (And.intro hP (And.intro hE (And.intro hR4 (And.intro hQ4 (And.intro hB1 hb4)))))
      clear hP hE hR4 hQ4 hB1 hb4 h1 h4 h7 hcgl hlen hn'
      have hne : ¬ rb = pb := by omega
      go_wp2_with fail
      obtain ⟨W, hW⟩ : ∃ W, (((w4.setCell ⟨pb, 2, none⟩ (.slice ra n' rc)).setCell ⟨rb, 0, none⟩ (.int .i64 (n' : Int))).setCell ⟨rb, 1, none⟩ (.slice ga (cg d) gc)).setCell ⟨rb, 2, none⟩ (.slice ra n' rc) = W := ⟨_, rfl⟩
      rw [hW]
      obtain ⟨hP, hE, hR4, hQ4, hB1, hb4⟩ := HK.out
      have hrl : rb < wr.heap.size := H1.out.1.lt
      have hb5 : But (fun j => j = pb) w4 (w4.setCell ⟨pb, 2, none⟩ (.slice ra n' rc)) := (But.refl (fun j => j = pb) w4).set1 _ _ rfl _
      have hB5 := (((hB1.but hb5 (by omega)).set 0 (.int .i64 (n' : Int))).set 1 (.slice ga (cg d) gc)).set 2 (.slice ra n' rc)
      have hbW : But (fun j => j = pb ∨ j = rb) w4 W := by
        rw [← hW]
        exact ((((But.refl (fun j => j = pb ∨ j = rb) w4).set1 pb 2 (.inl rfl) _).set1 rb 0 (.inr rfl) _).set1 rb 1 (.inr rfl) _).set1 rb 2 (.inr rfl) _
      rw [hW] at hB5
      have hEnd : MakeNew d n' w (.returned (.tuple #[.agg #[.int .i64 (n' : Int), .slice ga (cg d) gc, .slice ra n' rc], .int .i64 0])) W := by
        have hs4 := hb4.size
        refine ⟨ga, gc, ra, rc, rfl, hP.sl.but hbW ?_, ?_, fun j hj => ?_, fun j hj => ?_, ?_⟩
        · intro j hj e
          rcases e with e | e
          · subst e; exact hP.ne hj
          · subst e
            rcases hE.2 _ (.inr hj) with h | h
            · have := hps _ h; omega
            · omega
        · intro i v hv
          obtain ⟨b, off, e1, e2, e3, e4⟩ := hR4 i v hv
          have hnb : ¬ (b = pb ∨ b = rb) := fun e => by
            rcases e with e | e
            · exact e3 (.inl e)
            · rcases hQ4 b ⟨_, e1, rfl⟩ with ⟨x, hx, hx2⟩ | h
              · cases hx; simp at hx2; omega
              · omega
          exact ⟨b, off, e1, Nat.lt_of_lt_of_le e2 hbW.size, id, by rw [hbW.cell (p := ⟨b, off + i, none⟩) e2 hnb]; exact e4⟩
        · rcases hE.2 _ (.inr hj) with h | h
          · have := hps _ h; omega
          · omega
        · rcases hQ4 j hj with ⟨x, hx, hx2⟩ | h
          · cases hx; simp at hx2; omega
          · omega
        · exact hb4.trans (hbW.below hs4 (fun j hj => by rcases hj with h | h <;> omega))
      have q0 := (hB5.get 0 _ rfl).1
      have q1 := (hB5.get 1 _ rfl).1
      have q2 := (hB5.get 2 _ rfl).1
      have HEnd := hidq hEnd
      clear hB5 hbW hb5 hB1 hP hE hR4 hQ4 hb4 hW HK hEnd hrl c0 c1 c2 z0 z1 z2 d0 d1 d2 y0 y1 y2
      exact bodyPost_ret (v := .tuple #[.agg #[.int .i64 (n' : Int), .slice ga (cg d) gc, .slice ra n' rc], .int .i64 0]) (by simp [results, Try.results54, go_sem, q0, q1, q2]) rfl HEnd.out
theorem make_ok (d n : Nat) (hd : d ≤ 4) (hn : n = 2 ^ d) (w : World) : Calls Try.prog 54 #[.int .i64 (n : Int)] w (MakeEnd d n w) :=
  (make_new d n hd hn w).mono (fun e w' h => by obtain ⟨ga, gc, oa, oc, h1, h2, h3, _, _, h4⟩ := h; exact ⟨ga, gc, oa, oc, h1, h2, h3, h4⟩)
end Go.Proofs.Ytdghgmaoamjnlaa

namespace Go.Proofs.Ytdghgmaoamjnlaa
open Go.RowKit

theorem rinto_any (d n : Int) (w : World) (hn : n ≤ 9223372036854775807) :
    Calls Try.prog 16 #[.int .i64 d, .int .i64 n] w fun e w' => e = .returned (.int .i64 (into d n)) ∧ w' = w := by
  by_cases h : n < 1
  · rw [into_lo h]
    go_enter Try.func16, Try.ntmps16
    go_wp2
    go_ret
    exact ⟨rfl, rfl⟩
  · rw [into_hi h]
    have h1 : decide (n < 1) = false := decide_eq_false h
    have hn0 : (n == 0) = false := by simp; omega
    have hn1 : 1 ≤ n := by omega
    by_cases hm : d.tmod n < 0
    · have e1 := tmod_emod_neg hn1 hm
      have e2 := Int.lt_tmod_of_pos d (show 0 < n by omega)
      have hw : wrap64 (d.tmod n + n) = d % n := by unfold wrap64; omega
      have HW : Hid (∀ _ : Unit, wrap64 (d.tmod n + n) = d % n) := fun _ => hw
      clear e1 hw e2
      go_enter Try.func16, Try.ntmps16
      go_wp2
      go_ret
      exact ⟨by rw [← HW ()]; rfl, rfl⟩
    · have e1 : d.tmod n = d % n := tmod_emod_nonneg hn1 (by omega)
      have HW : Hid (∀ _ : Unit, d.tmod n = d % n) := fun _ => e1
      have hm1 : decide (d.tmod n < 0) = false := decide_eq_false hm
      clear e1
      go_enter Try.func16, Try.ntmps16
      go_wp2
      go_ret
      exact ⟨by rw [← HW ()]; rfl, rfl⟩

/-- The reference's Legal at a kind that is no Net. -/
theorem rlegal_any (k p : Int) (w : World) (hk : 1 ≤ k ∧ k ≤ 3) : Calls Try.prog 10 #[.int .i64 k, .int .i64 p] w fun e w' => e = .returned (.int .i64 (legal k p)) ∧ w' = w := by
  have hk1 : decide (k < 1) = false := decide_eq_false (by omega)
  have hk2 : decide (4 < k) = false := decide_eq_false (by omega)
  have hk4 : (k == 4) = false := by simp; omega
  by_cases hp : p < 1
  · rw [legal_par (by omega) (by omega)]
    clear hk
    go_enter Try.func10, Try.ntmps10
    go_wp2
    go_ret
    exact ⟨rfl, rfl⟩
  · have hp1 : decide (p < 1) = false := decide_eq_false hp
    by_cases hq : 16 < p
    · rw [legal_par (by omega) (by omega)]
      clear hk hp
      go_enter Try.func10, Try.ntmps10
      go_wp2
      go_ret
      exact ⟨rfl, rfl⟩
    · have hq1 : decide (16 < p) = false := decide_eq_false hq
      rw [legal_ok (by omega) (by omega) (by omega)]
      clear hk hp hq
      go_enter Try.func10, Try.ntmps10
      go_wp2
      go_ret
      exact ⟨rfl, rfl⟩
end Go.Proofs.Ytdghgmaoamjnlaa

namespace Go.Proofs.Ytdghgmaoamjnlaa
open Go.RowKit Go.Sort

theorem rlegal4_any (p : Int) (w : World) : Calls Try.prog 10 #[.int .i64 4, .int .i64 p] w fun e w' => e = .returned (.int .i64 (legal 4 p)) ∧ w' = w := by
  by_cases h : 1 ≤ p ∧ p ≤ 16
  · have h16 : p = 1 ∨ p = 2 ∨ p = 3 ∨ p = 4 ∨ p = 5 ∨ p = 6 ∨ p = 7 ∨ p = 8 ∨ p = 9 ∨ p = 10 ∨ p = 11 ∨ p = 12 ∨ p = 13 ∨ p = 14 ∨ p = 15 ∨ p = 16 := by omega
    rcases h16 with rfl | rfl | rfl | rfl | rfl | rfl | rfl | rfl | rfl | rfl | rfl | rfl | rfl | rfl | rfl | rfl
    all_goals
      first
        | rw [show legal 4 _ = 0 from by decide]
        | rw [show legal 4 _ = 5 from by decide]
      clear h
      go_enter Try.func10, Try.ntmps10
      go_wp2_with fail
      go_ret
      exact ⟨rfl, rfl⟩
  · rw [legal_par (by decide) h]
    by_cases h1 : p < 1
    · clear h
      go_enter Try.func10, Try.ntmps10
      go_wp2_with fail
      go_ret
      exact ⟨rfl, rfl⟩
    · have h2 : 16 < p := by omega
      have h3 : decide (p < 1) = false := decide_eq_false h1
      clear h h1
      go_enter Try.func10, Try.ntmps10
      go_wp2_with fail
      go_ret
      exact ⟨rfl, rfl⟩
theorem legal4_cases (p : Int) : legal 4 p = 5 ∨ (legal 4 p = 0 ∧ ∃ d : Nat, d ≤ 4 ∧ p = ((2 ^ d : Nat) : Int)) := by
  by_cases h : 1 ≤ p ∧ p ≤ 16
  · by_cases h2 : pow2 p = false
    · exact .inl (legal_net (by decide) h ⟨rfl, h2⟩)
    · refine .inr ⟨legal_ok (by decide) h (fun e => h2 e.2), ?_⟩
      have h3 : p = 1 ∨ p = 2 ∨ p = 4 ∨ p = 8 ∨ p = 16 := by
        have : pow2 p = true := by cases h4 : pow2 p with | true => rfl | false => exact absurd h4 h2
        exact of_decide_eq_true this
      rcases h3 with rfl | rfl | rfl | rfl | rfl
      · exact ⟨0, by decide, rfl⟩
      · exact ⟨1, by decide, rfl⟩
      · exact ⟨2, by decide, rfl⟩
      · exact ⟨3, by decide, rfl⟩
      · exact ⟨4, by decide, rfl⟩
  · exact .inl (legal_par (by decide) h)

set_option maxRecDepth 20000 in
set_option maxHeartbeats 4000000 in
theorem make_no (p : Int) (w : World) (h : legal 4 p = 5) : Calls Try.prog 54 #[.int .i64 p] w fun e w' => e = .returned (.tuple #[.agg #[.int .i64 0, .slice none 0 0, .slice none 0 0], .int .i64 5]) ∧ Below w.heap.size w w' := by
  have hL := legal_any 4 p (w.alloc (.cells #[.int .i64 0, .slice none 0 0, .slice none 0 0] 50))
  rw [h] at hL
  have hB0 := BoxAt.new w [.int .i64 0, .slice none 0 0, .slice none 0 0] 50
  have hb0 : Below w.heap.size w (w.alloc (.cells #[.int .i64 0, .slice none 0 0, .slice none 0 0] 50)) := (Below.refl _ _).alloc (Nat.le_refl _) _
  have H0 := hidq (And.intro hB0 hb0)
  clear h hB0 hb0
  go_enter Try.func54, Try.ntmps54
  go_wp2_with fail
  refine hL.mono ?_
  rintro e w1 ⟨rfl, hb1⟩
  clear hL
  obtain ⟨rb, hrb⟩ : ∃ rb, w.heap.size = rb := ⟨_, rfl⟩
  obtain ⟨hB0, hb0⟩ := H0.out
  have hB1 := hB0.below hb1
  rw [hrb] at hB1
  have hb01 : Below w.heap.size w w1 := hb0.trans (hb1.mono (by simp))
  obtain ⟨d0, y0⟩ := hB1.get 0 _ rfl
  obtain ⟨d1, y1⟩ := hB1.get 1 _ rfl
  obtain ⟨d2, y2⟩ := hB1.get 2 _ rfl
  have hrl : rb < w1.heap.size := hB1.lt
  obtain ⟨W9, hW9⟩ : ∃ W9, ((w1.setCell ⟨rb, 0, none⟩ (.int .i64 0)).setCell ⟨rb, 1, none⟩ (.slice none 0 0)).setCell ⟨rb, 2, none⟩ (.slice none 0 0) = W9 := ⟨_, rfl⟩
  have hB9 : BoxAt W9 rb [.int .i64 0, .slice none 0 0, .slice none 0 0] := by rw [← hW9]; exact box_cells (cs := [.int .i64 0, .slice none 0 0, .slice none 0 0]) hB1 rfl
  have hb9 : But (fun j => j = rb) w1 W9 := by rw [← hW9]; exact but_setCells rb [.int .i64 0, .slice none 0 0, .slice none 0 0] 0 w1 w1 (But.refl _ _)
  have q0 := (hB9.get 0 _ rfl).1
  have q1 := (hB9.get 1 _ rfl).1
  have q2 := (hB9.get 2 _ rfl).1
  have HEnd := hidq (hb01.trans (hb9.below hb01.size (fun j hj => by omega)))
  have HW9 := hidq hW9
  clear hB0 hb0 hB1 hb1 H0 hb01 hB9 hb9 hW9
  go_wp2_with fail
  rw [HW9.out]
  exact bodyPost_ret (v := .tuple #[.agg #[.int .i64 0, .slice none 0 0, .slice none 0 0], .int .i64 5]) (by simp [results, Try.results54, go_sem, q0, q1, q2]) rfl ⟨rfl, HEnd.out⟩
end Go.Proofs.Ytdghgmaoamjnlaa

namespace Go.Proofs.Ytdghgmaoamjnlaa
open Go.RowKit Go.Sort

/-- What holds of the five plans. -/
theorem plan_facts (d : Nat) (hd : d ≤ 4) : (∀ g ∈ (Wr.count d (List.range (2 ^ d))).1, g.1 ≠ g.2 ∧ g.1 < 2 ^ d ∧ g.2 < 2 ^ d) ∧ (Wr.count d (List.range (2 ^ d))).2.Nodup ∧ (∀ a ∈ (Wr.count d (List.range (2 ^ d))).2, a < 2 ^ d) ∧ 2 * cg d = 2 ^ d * d * (d + 1) / 2 := by
  have h5 : d = 0 ∨ d = 1 ∨ d = 2 ∨ d = 3 ∨ d = 4 := by omega
  rcases h5 with rfl | rfl | rfl | rfl | rfl <;> decide +kernel
end Go.Proofs.Ytdghgmaoamjnlaa

namespace Go.Proofs.Ytdghgmaoamjnlaa
open Go.RowKit Go.Sort

theorem stepEnd_fr {w w2 : World} {b fb ab : Nat} {O P O' P' : Nat → Prop} {M' : Mem} {F1 F' : Fr} {A A0 : Ans} {d : Bool} (s : List (Nat × Value))
    (hM : MemAt w2 b O' M') (hO : Grown O w w2 O') (hF : FrAt w2 fb P' F1) (hPg : Grown P w w2 P') (hD : ∀ k, O' k → ¬ P' k) (hbut : But (fun k => O k ∨ P k) w w2) (hP : P fb)
    (hA : BoxAt w2 ab A0.l) (hab : w.heap.size ≤ ab) (hOa : ¬ O' ab) (hPa : ¬ P' ab)
    (hl : ∀ a0 k0 a1 k1, s.foldl (fun l p => l.set p.1 p.2) (F1.l a0 k0 a1 k1) = F'.l a0 k0 a1 k1) (hc0 : F'.c0 = F1.c0) (hc1 : F'.c1 = F1.c1) :
    BoxAt (setBox (setBox w2 fb s) ab A.s) ab A.l ∧ StepEnd b fb O P (M', F', A, d) w (.returned (.tuple #[A.v, .bool d])) (setBox (setBox w2 fb s) ab A.s) := by
  obtain ⟨a0, k0, a1, k1, hB, hS0, hS1, hi0, hi1⟩ := hF.box
  have hg : ∀ j, P' j → (P j ∨ w.heap.size ≤ j) := fun j hj => (hPg j hj).imp id (fun e => e.1)
  exact stepEnd_of s hM hO hbut hP hB (hl a0 k0 a1 k1) hA hab hOa (fun e => hD _ e hF.ob) (fun e => hPa (e ▸ hF.ob))
    (by rw [hc0]; exact hS0) (fun j hj => ⟨(hi0 j hj).2, fun e => hPa (e ▸ (hi0 j hj).1), fun e => hD _ e (hi0 j hj).1, hg j (hi0 j hj).1⟩)
    (by rw [hc1]; exact hS1) (fun j hj => ⟨(hi1 j hj).2, fun e => hPa (e ▸ (hi1 j hj).1), fun e => hD _ e (hi1 j hj).1, hg j (hi1 j hj).1⟩)

/-- A frame of which a cell that is no list is laid anew. -/
theorem FrAt.turn {w : World} {fb : Nat} {P : Nat → Prop} {F F' : Fr} (h : FrAt w fb P F) (i : Nat) (v : Value) (hl : ∀ a0 k0 a1 k1, (F.l a0 k0 a1 k1).set i v = F'.l a0 k0 a1 k1) (hc0 : F'.c0 = F.c0) (hc1 : F'.c1 = F.c1) : FrAt (w.setCell ⟨fb, i, none⟩ v) fb P F' := by
  obtain ⟨a0, k0, a1, k1, hB, hS0, hS1, hi0, hi1⟩ := h.box
  have hb : But (fun j => j = fb) w (w.setCell ⟨fb, i, none⟩ v) := (But.refl (fun j => j = fb) w).set1 fb i rfl v
  refine ⟨h.ob, fun k hk => by rw [World.size_setCell]; exact h.lt k hk, a0, k0, a1, k1, by rw [← hl]; exact hB.set i v, ?_, ?_, hi0, hi1⟩
  · rw [hc0]; exact hS0.but hb (fun j hj => (hi0 j hj).2)
  · rw [hc1]; exact hS1.but hb (fun j hj => (hi1 j hj).2)
end Go.Proofs.Ytdghgmaoamjnlaa

namespace Go.Proofs.Ytdghgmaoamjnlaa
open Go.RowKit Go.Sort

/-- A plan's gates and places; D: the blocks in which they lie. -/
structure NP (w : World) (D : Nat → Prop) (ga : Option Addr) (gc c : Nat) (oa : Option Addr) (n : Nat) (G : List (Nat × Nat)) (Os : List Nat) : Prop where
  sl : SlAt 2 w ga gc c (flatG G)
  ns : NsAt w oa (fun _ => False) Os
  sg : ∀ j, inB ga j → D j
  so : ∀ j, inB oa j → D j
  lt : ∀ j, D j → j < w.heap.size
  gl : G.length = c
  ol : Os.length = n
theorem NP.but {w w' : World} {D S : Nat → Prop} {ga : Option Addr} {gc c : Nat} {oa : Option Addr} {n : Nat} {G : List (Nat × Nat)} {Os : List Nat} (h : NP w D ga gc c oa n G Os) (hb : But S w w') (hS : ∀ k, D k → ¬ S k) : NP w' D ga gc c oa n G Os := by
  refine ⟨h.sl.but hb (fun j hj => hS j (h.sg j hj)), fun i v hv => ?_, h.sg, h.so, fun j hj => Nat.lt_of_lt_of_le (h.lt j hj) hb.size, h.gl, h.ol⟩
  obtain ⟨b, off, h1, h2, _, h4⟩ := h.ns i v hv
  exact ⟨b, off, h1, Nat.lt_of_lt_of_le h2 hb.size, id, by rw [hb.cell (p := ⟨b, off + i, none⟩) h2 (hS b (h.so b ⟨_, h1, rfl⟩))]; exact h4⟩
theorem NP.below {w w' : World} {D : Nat → Prop} {ga : Option Addr} {gc c : Nat} {oa : Option Addr} {n : Nat} {G : List (Nat × Nat)} {Os : List Nat} (h : NP w D ga gc c oa n G Os) (hb : Below w.heap.size w w') : NP w' D ga gc c oa n G Os :=
  h.but (S := fun _ => False) (But.of_below hb) (fun _ _ e => e)
/-- A gate of it. -/
theorem NP.gate {w : World} {D : Nat → Prop} {ga : Option Addr} {gc c : Nat} {oa : Option Addr} {n : Nat} {G : List (Nat × Nat)} {Os : List Nat} (h : NP w D ga gc c oa n G Os) {i : Nat} {g : Nat × Nat} (hg : G[i]? = some g) :
    ∃ gb, ga = some ⟨gb, 0, none⟩ ∧ gb < w.heap.size ∧ D gb ∧ w.cell? ⟨gb, i * 2, none⟩ = some (.int .i64 (g.1 : Int)) ∧ w.cell? ⟨gb, i * 2 + 1, none⟩ = some (.int .i64 (g.2 : Int)) := by
  obtain ⟨f1, f2⟩ := flatG_get G i g hg
  obtain ⟨gb, h1, h2, h3⟩ := h.sl.cell f1
  obtain ⟨gb', h1', _, h3'⟩ := h.sl.cell f2
  subst h1
  cases h1'
  exact ⟨gb, rfl, h2, h.sg gb ⟨_, rfl, rfl⟩, h3, h3'⟩

/-- Function f is a Net's step. -/
def IsStepN (f : FuncId) (n c gc oc : Nat) (ga oa : Option Addr) (D : Nat → Prop) (GG : List (Nat × Nat)) (OO : List Nat) (G : Mem → Fr → Prop) (st : StepFn) : Prop :=
  ∀ (w : World) (b fb : Nat) (O P : Nat → Prop) (M : Mem) (F : Fr), NP w D ga gc c oa n GG OO → (∀ k, D k → ¬ O k ∧ ¬ P k) → MemAt w b O M → FrAt w fb P F → (∀ k, O k → ¬ P k) → G M F → M.clock < 1125899906842624 →
    Calls Try.prog f #[.agg #[.int .i64 (n : Int), .slice ga c gc, .slice oa n oc], .pointer (some ⟨b, 0, none⟩), .pointer (some ⟨fb, 0, none⟩)] w (StepEnd b fb O P (st M F) w)
end Go.Proofs.Ytdghgmaoamjnlaa

namespace Go.Proofs.Ytdghgmaoamjnlaa
open Go.RowKit Go.Sort

set_option maxHeartbeats 4000000 in
theorem aloneN_any (n c gc oc : Nat) (ga oa : Option Addr) (D : Nat → Prop) (GG : List (Nat × Nat)) (OO : List Nat) {G : Mem → Fr → Prop} {st : StepFn} (hst : IsStepN 17 n c gc oc ga oa D GG OO G st) (hfn : Fine G st)
    (b : Nat) (O : Nat → Prop) (M : Mem) (kind : Int) (pri : Nat) (val d0 d1 most : Int) (w : World) (hpl : NP w D ga gc c oa n GG OO) (hdo : ∀ k, D k → ¬ O k) (h : MemAt w b O M) (hg : G M (Fr.of kind pri val d0 d1)) (hm : most ≤ 1000) (hck : M.clock < 1125899906841000) :
    Calls Try.prog 53 #[.iface 52 (.agg #[.int .i64 (n : Int), .slice ga c gc, .slice oa n oc]), .pointer (some ⟨b, 0, none⟩), .agg #[.int .i64 kind, .float .f64 pri, .int .i64 val, .int .i64 d0, .int .i64 d1], .int .i64 most] w (AEnd b O (alone st most.toNat M (Fr.of kind pri val d0 d1)) w) := by
  have hsf := run_store_flt (P := Try.prog)
  have hms : ∀ w, (method 375 52 (.agg #[.int .i64 (n : Int), .slice ga c gc, .slice oa n oc]) "Step").run Try.prog w = .ok (17, (.agg #[.int .i64 (n : Int), .slice ga c gc, .slice oa n oc])) w := fun w => by kernel_rfl
  go_enter Try.func53, Try.ntmps53
  go_wp2_with fail
  obtain ⟨W0, hW0, hb00, hsz00, _, hA00⟩ := two_new w [.int .i64 kind, .float .f64 pri, .int .i64 val, .int .i64 d0, .int .i64 d1] Ans.zero.l 28 30 0
  rw [show (w.alloc (.cells #[.int .i64 kind, .float .f64 pri, .int .i64 val, .int .i64 d0, .int .i64 d1] 28)).alloc (.cells #[.bool false, .float .f64 0, .int .i64 0, .int .i64 0] 30) = W0 from hW0]
  clear hW0
  obtain ⟨fb, hfb⟩ : ∃ fb, w.heap.size + 1 + 1 = fb := ⟨_, rfl⟩
  obtain ⟨ab, hab⟩ : ∃ ab, w.heap.size + 1 = ab := ⟨_, rfl⟩
  have hfr : BoxAt (W0.alloc (.cells #[.int .i64 kind, .float .f64 pri, .int .i64 val, .int .i64 d0, .int .i64 d1, .int .i64 0, .int .i64 0, .int .i64 0, .int .i64 0, .int .i64 0, .bool false, .int .u64 0, .int .i64 0, .slice none 0 0, .int .u64 0, .int .i64 0, .slice none 0 0] 67)) fb ((Fr.of kind pri val d0 d1).l none 0 none 0) := by
    have := BoxAt.new W0 ((Fr.of kind pri val d0 d1).l none 0 none 0) 67
    rw [hsz00, hfb] at this
    exact this
  have hb0 : Below w.heap.size w (W0.alloc (.cells #[.int .i64 kind, .float .f64 pri, .int .i64 val, .int .i64 d0, .int .i64 d1, .int .i64 0, .int .i64 0, .int .i64 0, .int .i64 0, .int .i64 0, .bool false, .int .u64 0, .int .i64 0, .slice none 0 0, .int .u64 0, .int .i64 0, .slice none 0 0] 67)) := hb00.alloc (by omega) _
  have hsz1 : (W0.alloc (.cells #[.int .i64 kind, .float .f64 pri, .int .i64 val, .int .i64 d0, .int .i64 d1, .int .i64 0, .int .i64 0, .int .i64 0, .int .i64 0, .int .i64 0, .bool false, .int .u64 0, .int .i64 0, .slice none 0 0, .int .u64 0, .int .i64 0, .slice none 0 0] 67)).heap.size = w.heap.size + 3 := by rw [World.size_alloc, hsz00]
  have hA0 := hA00.below ((Below.refl W0.heap.size W0).alloc (Nat.le_refl _) (.cells #[.int .i64 kind, .float .f64 pri, .int .i64 val, .int .i64 d0, .int .i64 d1, .int .i64 0, .int .i64 0, .int .i64 0, .int .i64 0, .int .i64 0, .bool false, .int .u64 0, .int .i64 0, .slice none 0 0, .int .u64 0, .int .i64 0, .slice none 0 0] 67))
  rw [hab] at hA0
  rw [hfb, hab]
  generalize W0.alloc (.cells #[.int .i64 kind, .float .f64 pri, .int .i64 val, .int .i64 d0, .int .i64 d1, .int .i64 0, .int .i64 0, .int .i64 0, .int .i64 0, .int .i64 0, .bool false, .int .u64 0, .int .i64 0, .slice none 0 0, .int .u64 0, .int .i64 0, .slice none 0 0] 67) = W1 at *
  have hM1 := h.below hb0
  have hF1 : FrAt W1 fb (fun k => k = fb) (Fr.of kind pri val d0 d1) := ⟨rfl, fun k e => by rw [e]; exact hfr.lt, none, 0, none, 0, hfr, SlAt.nil _ _, SlAt.nil _ _, (fun j hj => by obtain ⟨y, hy, _⟩ := hj; cases hy), (fun j hj => by obtain ⟨y, hy, _⟩ := hj; cases hy)⟩
  have hOf : ∀ k, O k → k < w.heap.size := h.lt
  have hLt := hidq (And.intro hfb (And.intro hab hsz1))
  have HA := hidq hA0
  have HPL := hidq (And.intro (hpl.below hb0) (And.intro hdo hpl.lt))
  clear hpl hdo
  have HB := hidq hb0
  have HG := hidq hg
  have HST := hidq hst
  have HFN := hidq hfn
  have HCK := hidq hck
  clear hfb hab hsz1 hA0 hb0 hb00 hsz00 hA00 hfr h hg hst hfn hck
  go_loopw [17] (fun s wr => ∃ (k : Nat) (Mk : Mem) (Fk : Fr) (Ok Pk : Nat → Prop), s = .int .i64 (k : Int) ∧ ((k : Int) ≤ most ∨ k = 0) ∧ MemAt wr b Ok Mk ∧ FrAt wr fb Pk Fk ∧ (∀ j, Ok j → ¬ Pk j) ∧ Grown O W1 wr Ok ∧ Grown (fun j => j = fb) W1 wr Pk ∧ But (fun j => O j ∨ j = fb) W1 wr ∧ G Mk Fk ∧ Mk.clock ≤ M.clock + k ∧ Hid (alone st most.toNat M (Fr.of kind pri val d0 d1) = alone st (most.toNat - k) Mk Fk)) (fun s _ => (most - intOf s).toNat)
  case atStart =>
    clear HPL
    obtain ⟨hfb, hab, hz1⟩ := hLt.out
    exact ⟨0, M, _, O, _, rfl, .inr rfl, hM1, hF1, fun j hj e => by have := hOf _ hj; omega, Grown.refl _ _ _, Grown.refl _ _ _, But.refl _ _, HG.out, Nat.le_refl _, hidq rfl⟩
  case round =>
    obtain ⟨k, Mk, Fk, Ok, Pk, rfl, hk, hM, hF, hD, hGO, hGP, hB, hg, hck, hal⟩ := hrel
    obtain ⟨hfb, hab, hz1⟩ := hLt.out
    have hsz := hB.size
    have hnab : ¬ (O ab ∨ ab = fb) := by
      rintro (e | e)
      · have := hOf _ e; omega
      · omega
    have hAr := HA.out.but hB hnab
    have hck0 := HCK.out
    by_cases hlt : (k : Int) < most
    · obtain ⟨m, hm2⟩ : ∃ m, most.toNat - k = m + 1 := ⟨most.toNat - k - 1, by omega⟩
      obtain ⟨hpl, hdo, hdl⟩ := HPL.out
      have hS := hidq (HST.out wr b fb Ok Pk Mk Fk (hpl.but hB (fun k hk e => e.elim (hdo k hk) (fun q => by have := hdl k hk; omega))) (fun k hk => ⟨fun e => (hGO k e).elim (hdo k hk) (fun q => by have := hdl k hk; omega), fun e => (hGP k e).elim (fun q => by have := hdl k hk; omega) (fun q => by have := hdl k hk; omega)⟩) hM hF hD hg (by omega))
      clear hpl hdo hdl
      have hon := HFN.out.on Mk Fk hg
      have hcl := HFN.out.clock Mk Fk
      have HAL := hidq (fun r (hr : st Mk Fk = r) => (show alone st most.toNat M (Fr.of kind pri val d0 d1) = if r.2.2.2 = true then (r.1, r.2.2.1, true) else alone st m r.1 r.2.1 from by rw [hal.out, hm2, ← hr]; rfl))
      generalize hr : st Mk Fk = r at *
      obtain ⟨M', F', A, d⟩ := r
      have HAL2 := hidq (HAL.out _ rfl)
      have HM2 := hidq hm2
      have HCLK := hidq (And.intro hck hcl)
      have HON0 := hidq hon
      have HE := hidq (And.intro hfb (And.intro hab hz1))
      clear hM hF hr HAL hal hm2 hck hcl hck0 hon hfb hab hz1 hg
      go_wp2_with fail
      refine hS.out.mono ?_
      rintro e w2 ⟨rfl, O2, P2, hM2, hF2, hD2, hGO2, hGP2, hB2⟩
      have hs2 := hB2.size
      obtain ⟨hfb, hab, hz1⟩ := HE.out
      have hOk : ∀ j, Ok j → j ≠ ab := fun j hj e => by
        rcases hGO j hj with q | q
        · have := hOf _ q; omega
        · omega
      have hPk : ∀ j, Pk j → j ≠ ab := fun j hj e => by
        rcases hGP j hj with q | q
        · omega
        · omega
      have hA2 := hAr.but hB2 (fun e => by
        rcases e with e | e
        · exact hOk _ e rfl
        · exact hPk _ e rfl)
      have hBall : But (fun j => O j ∨ j = fb) W1 w2 := hB.then hB2 (fun j hj e => by
        rcases e with e | e
        · rcases hGO j e with q | q
          · exact .inl q
          · omega
        · rcases hGP j e with q | q
          · exact .inr q
          · omega)
      have hGO' := hGO.trans hGO2 hsz hs2
      have hGP' := hGP.trans hGP2 hsz hs2
      obtain ⟨g0, x0⟩ := hA2.get 0 _ rfl
      obtain ⟨g1, x1⟩ := hA2.get 1 _ rfl
      obtain ⟨g2, x2⟩ := hA2.get 2 _ rfl
      obtain ⟨g3, x3⟩ := hA2.get 3 _ rfl
      have hal2 := hA2.lt
      obtain ⟨aok, api, av, an⟩ := A
      dsimp only [Ans.v] at *
      cases d
      · have hon2 := HON0.out rfl
        have FIN := hidq (fun w4 (h4 : But (fun j => j = w2.heap.size) w2 w4) => (show MemAt w4 b O2 M' ∧ FrAt w4 fb P2 F' ∧ Grown O W1 w4 O2 ∧ Grown (fun j => j = fb) W1 w4 P2 ∧ But (fun j => O j ∨ j = fb) W1 w4 from by
          have hs4 := h4.size
          refine ⟨hM2.but h4 (fun j hj e => by have := hM2.lt j hj; omega), hF2.but h4 (fun j hj e => by have := hF2.lt j hj; omega), ?_, ?_, hBall.then h4 (fun j hj e => by omega)⟩
          · intro j hj
            rcases hGO' j hj with q | q
            · exact .inl q
            · exact .inr ⟨q.1, by omega⟩
          · intro j hj
            rcases hGP' j hj with q | q
            · exact .inl q
            · exact .inr ⟨q.1, by omega⟩))
        have HON := hidq hon2
        have HD2 := hidq hD2
        clear hM2 hF2 hB2 hB hBall hon2 hA2 hGO hGP hGO2 hGP2 hGO' hGP' hD hD2 hS hAr g0 x0 g1 x1 g2 x2 g3 x3 hfb hab hz1
        go_wp2
        go_roundw
        case rel =>
          obtain ⟨e1, e2, e3, e4, e5⟩ := FIN.out _ ((But.refl _ w2).alloc _)
          refine ⟨k + 1, M', F', O2, P2, by go_num, .inl (by omega), e1, e2, HD2.out, e3, e4, e5, HON.out, by have := HCLK.out; omega, hidq ?_⟩
          rw [HAL2.out, show most.toNat - (k + 1) = m by have := HM2.out; omega]
          rfl
        case measure => simp [intOf]; omega
      · have HAL3 : alone st most.toNat M (Fr.of kind pri val d0 d1) = (M', ⟨aok, api, av, an⟩, true) := by rw [HAL2.out]; rfl
        have HAL4 := hidq HAL3
        have FIN := hidq (fun w4 (h4 : But (fun j => j = w2.heap.size ∨ j = ab) w2 w4) => (show AEnd b O (M', ⟨aok, api, av, an⟩, true) w (.returned (.tuple #[(⟨aok, api, av, an⟩ : Ans).v, .bool true])) w4 from by
          have hs4 := h4.size
          refine ⟨rfl, O2, hM2.but h4 (fun j hj e => ?_), ?_, ?_⟩
          · rcases e with e | e
            · have := hM2.lt j hj; omega
            · subst e
              rcases hGO' _ hj with q | q
              · have := hOf _ q; omega
              · omega
          · intro j hj
            rcases hGO' j hj with q | q
            · exact .inl q
            · exact .inr ⟨by omega, by omega⟩
          · refine ((But.of_below HB.out).then hBall (fun j hj e => ?_)).then h4 (fun j hj e => by omega)
            rcases e with e | e
            · exact e
            · omega))
        have GA := hidq (fun o => (setBox_box (⟨aok, api, av, an⟩ : Ans).s hA2).below ((Below.refl _ _).alloc (Nat.le_refl _) o))
        clear hM2 hF2 hB2 hB hBall HAL2 HAL3 hA2 hGO hGP hGO2 hGP2 hGO' hGP' hD hD2 hS hAr HCLK HM2 hfb hz1
        go_wp2
        exact ret_ans (A := ⟨aok, api, av, an⟩) Try.results53 (GA.out _) rfl rfl rfl (by
          rw [HAL4.out]
          exact FIN.out _ ((((((But.refl _ w2).set1 _ _ (.inr rfl) _).set1 _ _ (.inr rfl) _).set1 _ _ (.inr rfl) _).set1 _ _ (.inr rfl) _).alloc _))
    · have hdl : decide ((k : Int) < most) = false := decide_eq_false hlt
      have hm0 : most.toNat - k = 0 := by omega
      have HAL : Hid (alone st most.toNat M (Fr.of kind pri val d0 d1) = (Mk, Ans.zero, false)) := hidq (by rw [hal.out, hm0]; rfl)
      have FIN := hidq (fun w4 (h4 : But (fun j => j = ab) wr w4) => (show AEnd b O (Mk, Ans.zero, false) w (.returned (.tuple #[Ans.zero.v, .bool false])) w4 from by
          have hs4 := h4.size
          refine ⟨rfl, Ok, hM.but h4 (fun j hj e => ?_), ?_, ?_⟩
          · subst e
            rcases hGO _ hj with q | q
            · have := hOf _ q; omega
            · omega
          · intro j hj
            rcases hGO j hj with q | q
            · exact .inl q
            · exact .inr ⟨by omega, by omega⟩
          · refine ((But.of_below HB.out).then hB (fun j hj e => ?_)).then h4 (fun j hj e => by omega)
            rcases e with e | e
            · exact e
            · omega))
      have GA := hidq (setBox_box Ans.zero.s hAr)
      obtain ⟨g0, x0⟩ := hAr.get 0 _ rfl
      obtain ⟨g1, x1⟩ := hAr.get 1 _ rfl
      obtain ⟨g2, x2⟩ := hAr.get 2 _ rfl
      obtain ⟨g3, x3⟩ := hAr.get 3 _ rfl
      clear hM hF hD hGO hGP hB hg hck hal hfb hab hz1 hsz hnab hAr hck0 hm0
      go_wp2
      exact ret_ans (A := Ans.zero) Try.results53 GA.out rfl rfl rfl (by
        rw [HAL.out]
        exact FIN.out _ (((((But.refl (fun j => j = ab) wr).set1 _ _ rfl _).set1 _ _ rfl _).set1 _ _ rfl _).set1 _ _ rfl _))
end Go.Proofs.Ytdghgmaoamjnlaa

namespace Go.Proofs.Ytdghgmaoamjnlaa
open Go.RowKit Go.Sort

/-- How a count ends. -/
def CntEnd (b : Nat) (O : Nat → Prop) (M' : Mem) (v : Value) (w : World) (e : Ending) (w' : World) : Prop :=
  e = .returned v ∧ ∃ O', MemAt w' b O' M' ∧ Grown O w w' O' ∧ But O w w'

set_option maxRecDepth 20000 in
set_option maxHeartbeats 2000000 in
theorem counton_any (b i : Nat) (O : Nat → Prop) (M : Mem) (w : World) (h : MemAt w b O M) (hi : i < 1000) (hok : NOk M) (hck : M.clock < 1125899906842624) :
    Calls Try.prog 104 #[.pointer (some ⟨b, 0, none⟩), .int .i64 (i : Int)] w (CntEnd b O (bump M i) (.int .i64 (M.cell i).n) w) := by
  have hR := read5_any b O M (i : Int) w h
  rw [look_nat] at hR
  obtain ⟨hn0, hn1⟩ := hok i
  unfold bump
  have hW : ∀ (w1 : World), MemAt w1 b O M → Calls Try.prog 84 #[.pointer (some ⟨b, 0, none⟩), .int .i64 (i : Int), .int .u64 (M.cell i).ver, .agg #[.int .i64 ((M.cell i).n + 1), .slice none 0 0]] w1 fun e w' => e = .returned (.bool true) ∧ MemAt w' b (own' O w1 w') (M.put i ((M.cell i).n + 1) []) ∧ But O w1 w' :=
    fun w1 h1 => write_yes b i O M (M.cell i).ver ((M.cell i).n + 1) none 0 [] w1 h1 (SlAt.nil _ _) (fun j hj => by obtain ⟨x, hx, _⟩ := hj; cases hx) (Nat.zero_le _) hi (by omega) rfl
  generalize M.put i ((M.cell i).n + 1) [] = M' at *
  generalize (M.cell i).n = x at *
  generalize (M.cell i).ver = v at *
  generalize (M.cell i).L = L at *
  have hx1 : x < 1125899906842624 := by omega
  have HW := hidq hW
  have H := hidq h
  have HR := hidq hR
  clear hW h hR hok hck hn1
  go_enter Try.func104, Try.ntmps104
  go_wp2_with fail
  refine HR.out.mono ?_
  rintro e w1 ⟨a', cap', rfl, _, _, hb1⟩
  obtain ⟨cb, hcb⟩ : ∃ cb, w1.heap.size = cb := ⟨_, rfl⟩
  obtain ⟨W, hW⟩ : ∃ W, w1.alloc (.cells #[.int .u64 v, .int .i64 x, .slice a' L.length cap'] 64) = W := ⟨_, rfl⟩
  have hB := BoxAt.new w1 [.int .u64 v, .int .i64 x, .slice a' L.length cap'] 64
  rw [show w1.alloc (.cells [.int .u64 v, .int .i64 x, .slice a' L.length cap'].toArray 64) = W from hW, hcb] at hB
  have hbW : Below w1.heap.size w1 W := by rw [← hW]; exact (Below.refl _ _).alloc (Nat.le_refl _) _
  have hb0 : Below w.heap.size w W := hb1.trans (hbW.mono hb1.size)
  have r0 := (hB.get 0 _ rfl).1
  have r1 := (hB.get 1 _ rfl).1
  have hsz : w.heap.size ≤ cb := by rw [← hcb]; exact hb1.size
  have HB := hidq (And.intro hB (And.intro hb0 hsz))
  have hwr := HW.out W (H.out.below hb0)
  have HWR := hidq hwr
  clear hB hbW hb0 hb1 hsz hwr HR HW
  go_wp2_with fail
  refine HWR.out.mono ?_
  rintro e w2 ⟨rfl, hM2, hb2⟩
  obtain ⟨hB, hb0, hsz⟩ := HB.out
  have hB2 := hB.but hb2 (fun e => by have := H.out.lt _ e; omega)
  have q1 := (hB2.get 1 _ rfl).1
  have HF := hidq (show CntEnd b O M' (.int .i64 x) w (.returned (.int .i64 x)) w2 from
    ⟨rfl, _, hM2, (fun k (hk : O k ∨ (W.heap.size ≤ k ∧ k < w2.heap.size)) => hk.imp id (fun e => ⟨Nat.le_trans hb0.size e.1, e.2⟩)), (But.of_below hb0).then hb2 (fun j _ e => e)⟩)
  clear hB hb0 hsz hB2 hM2 hb2 HB HWR H r0 r1 hW
  go_wp2_with fail
  go_ret
  exact HF.out

set_option maxRecDepth 20000 in
theorem nout_any (n c gc oc : Nat) (ga oa : Option Addr) (p : Nat) (hc : c ≤ 100) (hp : p ≤ 100) (w : World) :
    Calls Try.prog 52 #[.agg #[.int .i64 (n : Int), .slice ga c gc, .slice oa n oc], .int .i64 (p : Int)] w fun e w' => e = .returned (.int .i64 ((c + p : Nat) : Int)) ∧ Below w.heap.size w w' := by
  have hcI : (c : Int) ≤ 100 := by omega
  have hpI : (p : Int) ≤ 100 := by omega
  rw [show ((c + p : Nat) : Int) = (c : Int) + (p : Int) by omega]
  clear hc hp
  go_enter Try.func52, Try.ntmps52
  go_wp2_with fail
  go_ret
  exact ⟨rfl, (Below.refl _ _).alloc (Nat.le_refl _) _⟩

theorem idx_ne {a v : Nat} (l : List Nat) (e : a ≠ v) : (a :: l).idxOf v = l.idxOf v + 1 := by
  rw [List.idxOf_cons, show (a == v) = false by simpa using e]; rfl
/-- The place of a number. -/
theorem idx_at : ∀ (l : List Nat) (v : Nat), v ∈ l → l.idxOf v < l.length ∧ l[l.idxOf v]? = some v
  | [], _, h => by cases h
  | a :: l, v, h => by
    by_cases e : a = v
    · subst e; rw [List.idxOf_cons_self]; exact ⟨by simp, rfl⟩
    · rw [idx_ne _ e]
      obtain ⟨h1, h2⟩ := idx_at l v ((List.mem_cons.1 h).resolve_left (fun q => e q.symm))
      exact ⟨by simp; omega, h2⟩
theorem idx_before : ∀ (l : List Nat) (v i : Nat), i < l.idxOf v → i < l.length → ∃ x, l[i]? = some x ∧ x ≠ v
  | [], _, _, _, h => by simp at h
  | a :: l, v, 0, h, _ => ⟨a, rfl, fun e => by subst e; rw [List.idxOf_cons_self] at h; omega⟩
  | a :: l, v, i + 1, h, hl => by
    have e : a ≠ v := fun e => by subst e; rw [List.idxOf_cons_self] at h; omega
    rw [idx_ne _ e] at h
    exact idx_before l v i (by omega) (by simpa using hl)
set_option maxRecDepth 20000 in
theorem index_any (w : World) (a : Option Addr) (cap n v : Nat) (l : List Nat) (h : NsAt w a (fun _ => False) l) (hn : l.length = n) (hn2 : n ≤ 64) (hv : v ∈ l) :
    Calls Try.prog 105 #[.slice a n cap, .int .i64 (v : Int)] w fun e w' => e = .returned (.int .i64 ((l.idxOf v : Nat) : Int)) ∧ w' = w := by
  obtain ⟨hlt, hat⟩ := idx_at l v hv
  have hget : ∀ i, i < l.idxOf v → ∃ x, l[i]? = some x ∧ x ≠ v := fun i hi => idx_before l v i hi (by omega)
  rw [hn] at hlt
  generalize l.idxOf v = k at *
  have HH := hidq (And.intro h (And.intro hget hat))
  clear h hn hv hget hat
  go_enter Try.func105, Try.ntmps105
  go_wp2_with fail
  go_loopw [8] (fun s8 wr => ∃ i : Nat, s8 = .int .i64 (i : Int) ∧ i ≤ k ∧ wr = w) (fun s8 _ => n - (intOf s8).toNat)
  case atStart => exact ⟨0, rfl, Nat.zero_le _, rfl⟩
  case round =>
    obtain ⟨i, rfl, hi, rfl⟩ := hrel
    have hltI : (i : Int) < (n : Int) := by omega
    obtain ⟨h, hget, hat⟩ := HH.out
    by_cases hik : i = k
    · subst hik
      obtain ⟨b, off, rfl, hbl, _, hc⟩ := h _ _ hat
      clear h hget hat
      go_wp2_with fail
      go_ret
      exact ⟨rfl, rfl⟩
    · obtain ⟨x, hx, hne⟩ := hget i (by omega)
      obtain ⟨b, off, rfl, hbl, _, hc⟩ := h _ _ hx
      have t1 : ((v : Int) == (x : Int)) = false := by simp; omega
      have t2 : (v == x) = false := by simp; omega
      clear h hget hat
      go_wp2_with fail
      go_roundw
      case rel => exact ⟨i + 1, by go_num, by omega, trivial⟩
      case measure => simp [intOf]; omega
end Go.Proofs.Ytdghgmaoamjnlaa

namespace Go.Proofs.Ytdghgmaoamjnlaa
open Go.RowKit Go.Sort

/-- What is answered of the next gate. -/
def ahI (o : Option Nat) : Int := ((o.getD 0 : Nat) : Int)
/-- What holds between two rounds. -/
def AhR (W1 : World) (G : List (Nat × Nat)) (p v i : Nat) (wr : World) : Prop := nAhead G p v = nAhead G i v ∧ Below W1.heap.size W1 wr

set_option maxRecDepth 20000 in
set_option maxHeartbeats 4000000 in
theorem ahead_any (n c gc oc : Nat) (ga oa : Option Addr) (D : Nat → Prop) (G : List (Nat × Nat)) (Os : List Nat) (w : World) (fb p v : Nat) (hpl : NP w D ga gc c oa n G Os) (hfl : fb < w.heap.size) (c5 : w.cell? ⟨fb, 5, none⟩ = some (.int .i64 (p : Int))) (c6 : w.cell? ⟨fb, 6, none⟩ = some (.int .i64 (v : Int))) (hpc : p ≤ c) (hc : c ≤ 100) :
    Calls Try.prog 56 #[.agg #[.int .i64 (n : Int), .slice ga c gc, .slice oa n oc], .pointer (some ⟨fb, 0, none⟩)] w fun e w' => e = .returned (.tuple #[.int .i64 (ahI (nAhead G p v)), .bool (nAhead G p v).isSome]) ∧ Below w.heap.size w w' := by
  obtain ⟨nb, hnb⟩ : ∃ nb, w.heap.size = nb := ⟨_, rfl⟩
  obtain ⟨W1, hW1⟩ : ∃ W1, w.alloc (.cells #[.int .i64 (n : Int), .slice ga c gc, .slice oa n oc] 52) = W1 := ⟨_, rfl⟩
  have hB := BoxAt.new w [.int .i64 (n : Int), .slice ga c gc, .slice oa n oc] 52
  rw [show w.alloc (.cells [.int .i64 (n : Int), .slice ga c gc, .slice oa n oc].toArray 52) = W1 from hW1, hnb] at hB
  have hb1 : Below w.heap.size w W1 := by rw [← hW1]; exact (Below.refl _ _).alloc (Nat.le_refl _) _
  have c51 := (hb1.cell (p := ⟨fb, 5, none⟩) hfl).trans c5
  have c61 := (hb1.cell (p := ⟨fb, 6, none⟩) hfl).trans c6
  have hfl1 : fb < W1.heap.size := Nat.lt_of_lt_of_le hfl hb1.size
  have HX := hidq (And.intro (hpl.below hb1) (And.intro hB (And.intro hb1 (And.intro c61 hfl1))))
  have hcI : (c : Int) ≤ 100 := by omega
  have HP := hidq hpl.gl
  clear hpl hB hb1 c61 c5 c6 hfl
  go_enter Try.func56, Try.ntmps56
  go_wp2_with fail
  clear c51 hfl1
  go_loopw [6] (fun s6 wr => ∃ i : Nat, s6 = .int .i64 (i : Int) ∧ i ≤ c ∧ Hid (AhR W1 G p v i wr)) (fun s6 _ => c - (intOf s6).toNat)
  case atStart => exact ⟨p, rfl, hpc, hidq ⟨rfl, Below.refl _ _⟩⟩
  case round =>
    obtain ⟨i, rfl, hi, hR⟩ := hrel
    obtain ⟨hpl, hB, hb1, c61, hfl1⟩ := HX.out
    obtain ⟨hA, hbr⟩ := hR.out
    have n1 := ((hB.below hbr).get 1 _ rfl).1
    have hnl := (hB.below hbr).lt
    by_cases hlt : i < c
    · have hltI : (i : Int) < (c : Int) := by omega
      obtain ⟨g, hg⟩ : ∃ g, G[i]? = some g := ⟨_, List.getElem?_eq_getElem (by have := HP.out; omega)⟩
      obtain ⟨gb, rfl, hgl, _, g0, g1⟩ := (hpl.below hbr).gate hg
      obtain ⟨a, a'⟩ := g
      dsimp only at g0 g1
      obtain ⟨X, hX⟩ : ∃ X, wr.alloc (.cells #[.int .i64 (a : Int), .int .i64 (a' : Int)] 139) = X := ⟨_, rfl⟩
      have hbX : Below wr.heap.size wr X := by rw [← hX]; exact (Below.refl _ _).alloc (Nat.le_refl _) _
      have hBX := BoxAt.new wr [.int .i64 (a : Int), .int .i64 (a' : Int)] 139
      rw [show wr.alloc (.cells [.int .i64 (a : Int), .int .i64 (a' : Int)].toArray 139) = X from hX] at hBX
      have x0 := (hBX.get 0 _ rfl).1
      have x1 := (hBX.get 1 _ rfl).1
      have hbX1 : Below W1.heap.size W1 X := hbr.trans (hbX.mono hbr.size)
      have x6 := (hbX1.cell (p := ⟨fb, 6, none⟩) hfl1).trans c61
      have HB := hidq (And.intro hbX1 (And.intro hb1 (And.intro hA hg)))
      have hfx : fb < X.heap.size := Nat.lt_of_lt_of_le hfl1 hbX1.size
      clear hpl hB hb1 c61 hfl1 hA hbr hR hbX hBX hbX1 hg HX HP
      by_cases hau : a = v
      · have HE := hidq (show nAhead G p v = some i from by rw [HB.out.2.2.1]; exact nAhead_hit HB.out.2.2.2 (.inl hau))
        have HL := hidq (fun q => (show Below w.heap.size w (X.drewN q) from below_drewN (HB.out.2.1.trans (HB.out.1.mono HB.out.2.1.size)) q))
        clear HB
        subst hau
        go_wp2_with fail
        go_quiet (fail)
        go_wp2_with fail
        go_ret2
        rw [HE.out]
        exact ⟨rfl, HL.out _⟩
      · have t1 : ((a : Int) == (v : Int)) = false := by simp; omega
        have t2 : (a == v) = false := by simpa using hau
        by_cases hau2 : a' = v
        · have HE := hidq (show nAhead G p v = some i from by rw [HB.out.2.2.1]; exact nAhead_hit HB.out.2.2.2 (.inr hau2))
          have HL := hidq (fun q => (show Below w.heap.size w (X.drewN q) from below_drewN (HB.out.2.1.trans (HB.out.1.mono HB.out.2.1.size)) q))
          clear HB hau
          subst hau2
          go_wp2_with fail
          go_quiet (fail)
          go_wp2_with fail
          go_ret2
          rw [HE.out]
          exact ⟨rfl, HL.out _⟩
        · have t3 : ((a' : Int) == (v : Int)) = false := by simp; omega
          have t4 : (a' == v) = false := by simpa using hau2
          have HE := hidq (show nAhead G p v = nAhead G (i + 1) v from by rw [HB.out.2.2.1]; exact nAhead_miss HB.out.2.2.2 (fun e => e.elim hau hau2))
          have HL := hidq (fun q => (show Below W1.heap.size W1 (X.drewN q) from below_drewN HB.out.1 q))
          clear HB hau hau2
          go_wp2_with fail
          go_quiet (fail)
          go_wp2_with fail
          go_roundw
          case rel => exact ⟨i + 1, by go_num, by omega, hidq ⟨HE.out, HL.out _⟩⟩
          case measure => simp [intOf]; omega
    · have hd : decide ((i : Int) < (c : Int)) = false := decide_eq_false (by omega)
      have hd2 : decide (i < c) = false := decide_eq_false (by omega)
      have hE : nAhead G p v = none := by rw [hA]; exact nAhead_end (by have := HP.out; omega)
      have HE := hidq (And.intro hE (hb1.trans (hbr.mono hb1.size)))
      clear hpl hB hb1 c61 hfl1 hA hbr hR hE HX HP
      go_wp2_with fail
      go_ret2
      rw [HE.out.1]
      exact ⟨rfl, HE.out.2⟩
end Go.Proofs.Ytdghgmaoamjnlaa

namespace Go.Proofs.Ytdghgmaoamjnlaa
open Go.RowKit Go.Sort

/-- How a pass ends. -/
def PassEndN (b fb : Nat) (O P : Nat → Prop) (M' : Mem) (F' : Fr) (w : World) (e : Ending) (w' : World) : Prop :=
  e = .returned (.tuple #[]) ∧ ∃ O' P', MemAt w' b O' M' ∧ FrAt w' fb P' F' ∧ (∀ k, O' k → ¬ P' k) ∧ Grown O w w' O' ∧ Grown P w w' P' ∧ But (fun k => O k ∨ P k) w w'

set_option maxRecDepth 20000 in
set_option maxHeartbeats 4000000 in
theorem npass_any (n c gc oc : Nat) (ga oa : Option Addr) (D : Nat → Prop) (G : List (Nat × Nat)) (Os : List Nat) (w : World) (b fb i : Nat) (O P : Nat → Prop) (M : Mem) (F : Fr) (g : Nat × Nat)
    (hpl : NP w D ga gc c oa n G Os) (hdd : ∀ k, D k → ¬ O k ∧ ¬ P k) (h : MemAt w b O M) (hf : FrAt w fb P F) (hd : ∀ k, O k → ¬ P k) (hok : NOk M) (hck : M.clock < 1125899906842624) (hg : G[i]? = some g) (hc : c ≤ 100) :
    Calls Try.prog 57 #[.agg #[.int .i64 (n : Int), .slice ga c gc, .slice oa n oc], .pointer (some ⟨b, 0, none⟩), .pointer (some ⟨fb, 0, none⟩), .int .i64 (i : Int)] w
      (PassEndN b fb O P (bump M i) { F with pc := ((i + 1 : Nat) : Int), at_ := (((if (M.cell i).n % 2 = 0 then g.1 else g.2) : Nat) : Int) } w) := by
  obtain ⟨F', hF'⟩ : ∃ F', ({ F with pc := ((i + 1 : Nat) : Int), at_ := (((if (M.cell i).n % 2 = 0 then g.1 else g.2) : Nat) : Int) } : Fr) = F' := ⟨_, rfl⟩
  rw [hF']
  have hic : i < c := by have := (List.getElem?_eq_some_iff.1 hg).1; have := hpl.gl; omega
  obtain ⟨nb, hnb⟩ : ∃ nb, w.heap.size = nb := ⟨_, rfl⟩
  obtain ⟨W1, hW1⟩ : ∃ W1, w.alloc (.cells #[.int .i64 (n : Int), .slice ga c gc, .slice oa n oc] 52) = W1 := ⟨_, rfl⟩
  have hB := BoxAt.new w [.int .i64 (n : Int), .slice ga c gc, .slice oa n oc] 52
  rw [show w.alloc (.cells [.int .i64 (n : Int), .slice ga c gc, .slice oa n oc].toArray 52) = W1 from hW1, hnb] at hB
  have hb1 : Below w.heap.size w W1 := by rw [← hW1]; exact (Below.refl _ _).alloc (Nat.le_refl _) _
  have hpl1 := hpl.below hb1
  obtain ⟨gb, rfl, hgl, hgD, g0, g1⟩ := hpl1.gate hg
  obtain ⟨x, x'⟩ := g
  dsimp only at g0 g1 hF'
  have hM1 := h.below hb1
  have hf1 := hf.below hb1
  have hft := hf1.turn (F' := { F with pc := ((i + 1 : Nat) : Int) }) 5 (.int .i64 ((i : Int) + 1)) (fun _ _ _ _ => rfl) rfl rfl
  have hft2 := hft.turn (F' := { F with pc := ((i + 1 : Nat) : Int), at_ := (x : Int) }) 6 (.int .i64 (x : Int)) (fun _ _ _ _ => rfl) rfl rfl
  have hbut : But (fun j => j = fb) W1 ((W1.setCell ⟨fb, 5, none⟩ (.int .i64 ((i : Int) + 1))).setCell ⟨fb, 6, none⟩ (.int .i64 (x : Int))) := ((But.refl (fun j => j = fb) W1).set1 fb 5 rfl _).set1 fb 6 rfl _
  obtain ⟨a0, k0, a1, k1, hBf, _⟩ := hf1.box
  obtain ⟨f5, z5⟩ := hBf.get 5 _ rfl
  obtain ⟨f6, z6⟩ := hBf.get 6 _ rfl
  have hfl := hBf.lt
  obtain ⟨W2, hW2⟩ : ∃ W2, (W1.setCell ⟨fb, 5, none⟩ (.int .i64 ((i : Int) + 1))).setCell ⟨fb, 6, none⟩ (.int .i64 (x : Int)) = W2 := ⟨_, rfl⟩
  rw [hW2] at hft2 hbut
  have hs2 : W2.heap.size = W1.heap.size := by rw [← hW2, World.size_setCell, World.size_setCell]
  have hfO : ¬ O fb := fun e => hd _ e hf.ob
  have hnO : ¬ O nb := fun e => by have := h.lt _ e; omega
  have hnf : nb ≠ fb := by have := hf.lt _ hf.ob; omega
  have hM2 := hM1.but hbut (fun k hk e => hfO (e ▸ hk))
  have hB2 := hB.but hbut hnf
  have hpl2 := hpl1.but hbut (fun k hk e => (hdd k hk).2 (e ▸ hf.ob))
  have hC := counton_any b i O M W2 hM2 (by omega) hok hck
  have hgO : ¬ O gb := (hdd gb hgD).1
  have hn1 := (hB.get 1 _ rfl).1
  have hnl := hB.lt
  have hw12 : But (fun k => O k ∨ P k) w W2 := (But.of_below hb1).then hbut (fun j _ e => .inr (e ▸ hf.ob))
  obtain ⟨m, hm⟩ : ∃ m : Nat, (M.cell i).n = (m : Int) := ⟨(M.cell i).n.toNat, by have := (hok i).1; omega⟩
  have hmb : m < 1125899906842624 := by have := (hok i).2; omega
  have HX := hidq (And.intro hM2 (And.intro hft2 (And.intro hB2 (And.intro hpl2 (And.intro hw12 (And.intro hs2 (And.intro hd (And.intro hg (And.intro h.lt hf.lt)))))))))
  have hs1 : W1.heap.size = nb + 1 := by rw [← hW1]; simp [hnb]
  have HC := hidq hC
  have HM := hidq hm
  rw [hm] at hF'
  have HF0 := hidq hF'
  clear hF'
  have HW2 := hidq hW2
  have hii : (i : Int) < (c : Int) := by omega
  have hcI : (c : Int) ≤ 100 := by omega
  have HD := hidq (And.intro hgO (And.intro hnO (And.intro hfO (And.intro hnf (And.intro hs1 (And.intro hnb hf.ob))))))
  clear hpl hdd h hf hd hok hck hg hB hb1 hpl1 hM1 hf1 hft hft2 hbut hBf hW2 hs2 hfO hnO hM2 hB2 hpl2 hC hgO hw12 hm hs1 hgD
  go_enter Try.func57, Try.ntmps57
  go_wp2_with fail
  rw [HW2.out]
  clear g0 g1 f5 f6 z5 z6 hn1 hnl hgl hW1 HW2
  refine HC.out.mono ?_
  rintro e w3 ⟨rfl, O3, hM3, hG3, hb3⟩
  clear HC
  rw [HM.out]
  obtain ⟨hM2, hft2, hB2, hpl2, hw12, hs2, hd, hg, hOl, hPl⟩ := HX.out
  obtain ⟨hgO, hnO, hfO, hnf, hs1, hnb, hPf⟩ := HD.out
  have hs3 := hb3.size
  have hf3 := hft2.but hb3 (fun k hk e => hd k e hk)
  have hw13 : But (fun k => O k ∨ P k) w w3 := hw12.then hb3 (fun j _ e => .inl e)
  have hd3 : ∀ k, O3 k → ¬ P k := fun k hk e => by
    rcases hG3 k hk with q | q
    · exact hd k q e
    · have := hPl k e; omega
  have hG3' : Grown O w w3 O3 := fun k hk => (hG3 k hk).imp id (fun e => ⟨by omega, e.2⟩)
  by_cases hev : m % 2 = 0
  · have hevI : (m : Int) % 2 = 0 := by omega
    have HF := hidq (show PassEndN b fb O P (bump M i) F' w (.returned (.tuple #[])) w3 from
      ⟨rfl, O3, P, hM3, by rw [← HF0.out, if_pos hevI]; exact hf3, hd3, hG3', Grown.refl _ _ _, hw13⟩)
    clear hM2 hft2 hB2 hpl2 hw12 hs2 hd hg hOl hPl hgO hnO hfO hs1 hPf hs3 hf3 hw13 hd3 hG3' hM3 hG3 hb3 HX HD HM hev
    go_wp2_with fail
    go_end0
    exact HF.out
  · have hevI : (m : Int) % 2 = 1 := by omega
    have hn1 := ((hB2.but hb3 hnO).get 1 _ rfl).1
    have hnl := (hB2.but hb3 hnO).lt
    obtain ⟨gb', hgb', hgl, _, _, g1⟩ := hpl2.gate hg
    cases hgb'
    have g1' := (hb3.cell (p := ⟨gb, i * 2 + 1, none⟩) hgl hgO).trans g1
    have hgl3 := Nat.lt_of_lt_of_le hgl hs3
    obtain ⟨a0, k0, a1, k1, hBf, _⟩ := hf3.box
    obtain ⟨f6, z6⟩ := hBf.get 6 _ rfl
    have hfl := hBf.lt
    have hf4 := hf3.turn (F' := { F with pc := ((i + 1 : Nat) : Int), at_ := (x' : Int) }) 6 (.int .i64 (x' : Int)) (fun _ _ _ _ => rfl) rfl rfl
    have hb4 : But (fun j => j = fb) w3 (w3.setCell ⟨fb, 6, none⟩ (.int .i64 (x' : Int))) := (But.refl (fun j => j = fb) w3).set1 fb 6 rfl _
    have HF := hidq (show PassEndN b fb O P (bump M i) F' w (.returned (.tuple #[])) (w3.setCell ⟨fb, 6, none⟩ (.int .i64 (x' : Int))) from
      ⟨rfl, O3, P, hM3.but hb4 (fun k hk e => hd3 k hk (e ▸ hPf)), by rw [← HF0.out, if_neg (by omega)]; exact hf4, hd3, (fun k hk => by rw [World.size_setCell]; exact hG3' k hk), Grown.refl _ _ _, hw13.then hb4 (fun j _ e => .inr (e ▸ hPf))⟩)
    clear hM2 hft2 hB2 hpl2 hw12 hs2 hd hg hOl hPl hgO hnO hfO hs1 hPf hs3 hf3 hw13 hd3 hG3' hM3 hG3 hb3 HX HD HM hev g1 hgl hBf hf4 hb4
    go_wp2_with fail
    go_end0
    exact HF.out
end Go.Proofs.Ytdghgmaoamjnlaa

namespace Go.Proofs.Ytdghgmaoamjnlaa
open Go.RowKit Go.Sort

set_option maxRecDepth 20000 in
set_option maxHeartbeats 4000000 in
theorem nleave_any (n c gc oc : Nat) (ga oa : Option Addr) (D : Nat → Prop) (G : List (Nat × Nat)) (Os : List Nat) (w : World) (b fb v pl : Nat) (O : Nat → Prop) (M : Mem)
    (hpl : NP w D ga gc c oa n G Os) (h : MemAt w b O M) (hfl : fb < w.heap.size) (c6 : w.cell? ⟨fb, 6, none⟩ = some (.int .i64 (v : Int))) (hok : NOk M) (hck : M.clock < 1125899906842624) (hc : c ≤ 100) (hn16 : n ≤ 16) (hv : v ∈ Os) (hpv : Os.idxOf v = pl) :
    Calls Try.prog 58 #[.agg #[.int .i64 (n : Int), .slice ga c gc, .slice oa n oc], .pointer (some ⟨b, 0, none⟩), .pointer (some ⟨fb, 0, none⟩)] w
      (CntEnd b O (bump M (c + pl)) (.agg #[.bool true, .float .f64 0, .int .i64 0, .int .i64 ((pl : Int) + (n : Int) * (M.cell (c + pl)).n)]) w) := by
  have hpn : pl < n := by rw [← hpv, ← hpl.ol]; exact (idx_at Os v hv).1
  obtain ⟨nb, hnb⟩ : ∃ nb, w.heap.size = nb := ⟨_, rfl⟩
  obtain ⟨W1, hW1, hb1, hs1, hN1, hA1⟩ := two_new w [.int .i64 (n : Int), .slice ga c gc, .slice oa n oc] Ans.zero.l 52 30 0
  have hW1' : (w.alloc (.cells #[.int .i64 (n : Int), .slice ga c gc, .slice oa n oc] 52)).alloc (.cells #[.bool false, .float .f64 0, .int .i64 0, .int .i64 0] 30) = W1 := hW1
  rw [hnb] at hN1 hA1 hs1
  have hsf := run_store_flt (P := Try.prog)
  have hpl1 := hpl.below hb1
  have hIx : ∀ q, Calls Try.prog 105 #[.slice oa n oc, .int .i64 (v : Int)] (W1.drewN q) fun e w' => e = .returned (.int .i64 (pl : Int)) ∧ w' = W1.drewN q := fun q => by
    have := index_any (W1.drewN q) oa oc n v Os (hpl1.below (below_drewN (Below.refl _ _) q)).ns hpl.ol (by omega) hv
    rw [hpv] at this
    exact this
  have c61 := (hb1.cell (p := ⟨fb, 6, none⟩) hfl).trans c6
  have hfl1 : fb < W1.heap.size := Nat.lt_of_lt_of_le hfl hb1.size
  have n0 := (hN1.get 0 _ rfl).1
  have n1 := (hN1.get 1 _ rfl).1
  have n2 := (hN1.get 2 _ rfl).1
  obtain ⟨m, hm⟩ : ∃ m : Nat, (M.cell (c + pl)).n = (m : Int) := ⟨(M.cell (c + pl)).n.toNat, by have := (hok (c + pl)).1; omega⟩
  have hmb : m < 1125899906842624 := by have := (hok (c + pl)).2; omega
  have hC := hidq (fun (W : World) (hM : MemAt W b O M) => (show Calls Try.prog 104 #[.pointer (some ⟨b, 0, none⟩), .int .i64 ((c + pl : Nat) : Int)] W (CntEnd b O (bump M (c + pl)) (.int .i64 (m : Int)) W) from by
    have := counton_any b (c + pl) O M W hM (by omega) hok hck
    rw [hm] at this
    exact this))
  rw [hm]
  have hq0 : 0 ≤ (n : Int) * (m : Int) := Int.mul_nonneg (by omega) (by omega)
  have hq1 : (n : Int) * (m : Int) ≤ 16 * 1125899906842624 := Int.mul_le_mul (by omega) (by omega) (by omega) (by decide)
  obtain ⟨q, hq⟩ : ∃ q, (n : Int) * (m : Int) = q := ⟨_, rfl⟩
  rw [hq] at hq0 hq1 ⊢
  have hplI : (pl : Int) ≤ 16 := by omega
  have hO := hidq (fun (k : Nat) (hk : O k) => (show k < nb from by have := h.lt k hk; omega))
  have HX := hidq (And.intro (h.below hb1) (And.intro hN1 (And.intro hA1 (And.intro hb1 (And.intro hs1 hnb)))))
  have hout := hidq (fun W => nout_any n c gc oc ga oa pl hc (by omega) W)
  clear hpl h hfl c6 hok hck hv hpv hpl1 hb1 hs1 hN1 hA1 hW1 hm hpn
  go_enter Try.func58, Try.ntmps58
  go_wp2_with fail
  try rw [hW1']
  go_quiet ((go_at_call 105; exact Calls.quiet_of_same (hIx _)))
  clear hIx c61 hW1'
  have n0q : (W1.drewN nq).cell? ⟨nb, 0, none⟩ = some (.int .i64 (n : Int)) := n0
  have n1q : (W1.drewN nq).cell? ⟨nb, 1, none⟩ = some (.slice ga c gc) := n1
  have n2q : (W1.drewN nq).cell? ⟨nb, 2, none⟩ = some (.slice oa n oc) := n2
  obtain ⟨W2, hW2⟩ : ∃ W2, W1.drewN nq = W2 := ⟨_, rfl⟩
  have HQ := hidq (show Below W1.heap.size W1 W2 by rw [← hW2]; exact below_drewN (Below.refl _ _) nq)
  rw [hW2] at n0q n1q n2q
  rw [hW2]
  clear hW2 n0 n1 n2 hfl1
  go_wp2_with fail
  refine (hout.out _).mono ?_
  rintro e w3 ⟨rfl, hb3⟩
  clear hout n0q n1q n2q
  obtain ⟨hM1, hN1, hA1, hb1, hs1, hnb⟩ := HX.out
  have hb13 : Below W1.heap.size W1 w3 := HQ.out.trans (hb3.mono HQ.out.size)
  have hcall := hidq (hC.out w3 (hM1.below hb13))
  have HY := hidq (And.intro (hM1.below hb13) (And.intro (hN1.below hb13) (And.intro (hA1.below hb13) (And.intro (hb1.trans (hb13.mono hb1.size)) (And.intro hb13.size (And.intro hs1 hnb))))))
  clear hM1 hN1 hA1 hb1 hs1 hb3 hb13 HX HQ hC
  go_wp2_with fail
  refine hcall.out.mono ?_
  rintro e w4 ⟨rfl, O4, hM4, hG4, hb4⟩
  obtain ⟨hM3, hN3, hA3, hb03, hs13, hs1, _⟩ := HY.out
  have hnO : ¬ O nb := fun e => by have := hO.out _ e; omega
  have haO : ¬ O (nb + 1) := fun e => by have := hO.out _ e; omega
  have hN4 := hN3.but hb4 hnO
  have hA4 := hA3.but hb4 haO
  have p0 := (hN4.get 0 _ rfl).1
  obtain ⟨g0, x0⟩ := hA4.get 0 _ rfl
  obtain ⟨g1, x1⟩ := hA4.get 1 _ rfl
  obtain ⟨g2, x2⟩ := hA4.get 2 _ rfl
  obtain ⟨g3, x3⟩ := hA4.get 3 _ rfl
  have hnl := hN4.lt
  have hal := hA4.lt
  obtain ⟨A, hA⟩ : ∃ A : Ans, A = ⟨true, 0, 0, (pl : Int) + q⟩ := ⟨_, rfl⟩
  have hAB := setBox_box A.s hA4
  rw [set_ans] at hAB
  have hbs := setBox_but (nb + 1) A.s w4
  have hzs := setBox_size (nb + 1) A.s w4
  have HF := hidq (show CntEnd b O (bump M (c + pl)) (.agg #[.bool true, .float .f64 0, .int .i64 0, .int .i64 ((pl : Int) + q)]) w (.returned (.agg #[.bool true, .float .f64 0, .int .i64 0, .int .i64 ((pl : Int) + q)])) (setBox w4 (nb + 1) A.s) from by
    have hO4 : ¬ O4 (nb + 1) := fun e => by
      rcases hG4 _ e with h | h
      · exact haO h
      · omega
    have hs03 := hb03.size
    refine ⟨rfl, O4, hM4.but hbs (fun k hk e => hO4 (e ▸ hk)), fun k hk => (hG4 k hk).imp id (fun e => ⟨by omega, by omega⟩), ((But.of_below hb03).then hb4 (fun j _ e => e)).then hbs (fun j hj e => by omega)⟩)
  rw [hA] at hAB HF
  dsimp only [setBox, Ans.s] at hAB HF
  have q0 := (hAB.get 0 _ rfl).1
  have q1' := (hAB.get 1 _ rfl).1
  have q2 := (hAB.get 2 _ rfl).1
  have q3 := (hAB.get 3 _ rfl).1
  clear hM3 hN3 hA3 hb03 hs13 hs1 hnO haO hN4 hA4 hM4 hG4 hb4 hAB hbs hzs HY hcall hO hA
  go_wp2_with fail
  exact bodyPost_ret (v := .agg #[.bool true, .float .f64 0, .int .i64 0, .int .i64 ((pl : Int) + q)]) (by simp [results, Try.results58, go_sem, q0, q1', q2, q3]) rfl HF.out
end Go.Proofs.Ytdghgmaoamjnlaa
