/-
  Layer 7: a Tally's steps: contracts.
-/
import Derived.Test.YthhechgjablklaaAns6
import Derived.StillTailTactics
namespace Go.Proofs.Ythhechgjablklaa
open Go.RowKit Go.Sort

set_option maxHeartbeats 2000000 in
theorem tadd_read (sh : Int) (w : World) (b fb : Nat) (O P : Nat → Prop) (M : Mem) (F : Fr) (h : MemAt w b O M) (hf : FrAt w fb P F) (hd : ∀ k, O k → ¬ P k) (hs : 1 ≤ sh ∧ sh ≤ 16) (hp : F.pc = 0) :
    Calls Try.prog 140 #[.agg #[.int .i64 sh], .pointer (some ⟨b, 0, none⟩), .pointer (some ⟨fb, 0, none⟩)] w
      (StepEnd b fb O P (M, { F with c0 := M.look (into F.d0 sh), pc := 1 }, Ans.zero, false) w) := by
  obtain ⟨a0, k0, a1, k1, hB, hS0, hS1, hi0, hi1⟩ := hf.box
  have hfl := hB.lt
  have hsf := run_store_flt (P := Try.prog)
  obtain ⟨c3, _⟩ := hB.get 3 _ rfl
  obtain ⟨c5, z5⟩ := hB.get 5 _ rfl
  obtain ⟨c11, z11⟩ := hB.get 11 _ rfl
  obtain ⟨c12, z12⟩ := hB.get 12 _ rfl
  obtain ⟨c13, z13⟩ := hB.get 13 _ rfl
  rw [hp] at c5
  have hI := fun w => into_any F.d0 sh w (by omega)
  have hR := hidq (fun W (hW : Below w.heap.size w W) => read5_any b O M (into F.d0 sh) W (h.below hW))
  have hO : ¬ O fb := fun e => hd _ e hf.ob
  have HH := hidq (And.intro h (And.intro hf hd))
  have HB := hidq (And.intro hB (And.intro hS0 (And.intro hS1 (And.intro hi0 hi1))))
  clear h hf hd hB hS0 hS1 hi0 hi1 hp
  generalize into F.d0 sh = at_ at *
  go_enter Try.func140, Try.ntmps140
  go_wp2_with fail
  go_quiet ((go_at_call 83; exact Calls.quiet_of_same (hI _)))
  go_wp2_with fail
  obtain ⟨W1, hW1, hb0, hsz0, _, hA0⟩ := two_new w [.int .i64 sh] Ans.zero.l 103 98 nq
  rw [show (((w.alloc (.cells #[.int .i64 sh] 103)).alloc (.cells #[.bool false, .float .f64 0, .int .i64 0, .int .i64 0] 98)).drewN nq) = W1 from hW1]
  clear hW1
  refine (hR.out _ hb0).mono ?_
  rintro e w2 ⟨a2, k2, rfl, hS2, hn2, hb2⟩
  have hb02 := hb0.trans (hb2.mono hb0.size)
  have hA2 := hA0.below hb2
  have hsz := hb2.size
  rw [hsz0] at hn2 hsz
  obtain ⟨HM, HF, HD⟩ := HH.out
  obtain ⟨hB, hS0, hS1, hi0, hi1⟩ := HB.out
  have hB2 := hB.below hb02
  have FIN := hidq (stepEnd_of (F' := { F with c0 := M.look at_, pc := 1 }) (A := Ans.zero) (d := false) [(11, .int .u64 (M.look at_).ver), (12, .int .i64 (M.look at_).n), (13, .slice a2 (M.look at_).L.length k2), (5, .int .i64 1)]
    (HM.below hb02) (Grown.refl O w w2) (But.of_below hb02) HF.ob hB2 rfl hA2 (by omega) (fun e => by have := HM.lt _ e; omega) hO (by omega) hS2 (fun j hj => by have := hn2 j hj; exact ⟨by omega, by omega, fun e => by have := HM.lt _ e; omega, .inr (by omega)⟩)
    (hS1.below hb02) (fun j hj => by have := HF.lt _ (hi1 j hj).1; exact ⟨(hi1 j hj).2, by omega, fun e => HD _ e (hi1 j hj).1, .inl (hi1 j hj).1⟩))
  obtain ⟨d5, y5⟩ := hB2.get 5 _ rfl
  obtain ⟨d11, y11⟩ := hB2.get 11 _ rfl
  obtain ⟨d12, y12⟩ := hB2.get 12 _ rfl
  obtain ⟨d13, y13⟩ := hB2.get 13 _ rfl
  obtain ⟨g0, x0⟩ := hA2.get 0 _ rfl
  obtain ⟨g1, x1⟩ := hA2.get 1 _ rfl
  obtain ⟨g2, x2⟩ := hA2.get 2 _ rfl
  obtain ⟨g3, x3⟩ := hA2.get 3 _ rfl
  have hfa : ¬ fb = w.heap.size + 1 := by omega
  clear hb02 hA2 hB2 HM HF HD hB hS0 hS1 hi0 hi1 hb2 hS2 hn2 hA0 HH HB hR hb0 c5 c11 c12 c13 z5 z11 z12 z13 hI
  go_wp2
  exact ret_ans Try.results140 FIN.out.1 rfl rfl rfl FIN.out.2

set_option maxRecDepth 20000 in
set_option maxHeartbeats 2000000 in
theorem tadd_write (sh : Int) (w : World) (b fb : Nat) (O P : Nat → Prop) (M : Mem) (F : Fr) (h : MemAt w b O M) (hf : FrAt w fb P F) (hd : ∀ k, O k → ¬ P k) (hs : 1 ≤ sh ∧ sh ≤ 16) (hp : F.pc ≠ 0) (hck : M.clock < 4611686018427387904) :
    Calls Try.prog 140 #[.agg #[.int .i64 sh], .pointer (some ⟨b, 0, none⟩), .pointer (some ⟨fb, 0, none⟩)] w
      (StepEnd b fb O P (M.write (into F.d0 sh) F.c0.ver (wrap64 (F.c0.n + F.val)) [], { F with pc := 0 }, ⟨M.can (into F.d0 sh) F.c0.ver, 0, 0, 0⟩, M.can (into F.d0 sh) F.c0.ver) w) := by
  obtain ⟨a0, k0, a1, k1, hB, hS0, hS1, hi0, hi1⟩ := hf.box
  have hfl := hB.lt
  have hsf := run_store_flt (P := Try.prog)
  have c2 := (hB.get 2 _ rfl).1
  have c3 := (hB.get 3 _ rfl).1
  obtain ⟨c5, z5⟩ := hB.get 5 _ rfl
  have c11 := (hB.get 11 _ rfl).1
  have c12 := (hB.get 12 _ rfl).1
  have hp0 : (F.pc == 0) = false := by simpa using hp
  have hI := fun w => into_any F.d0 sh w (by omega)
  have hO : ¬ O fb := fun e => hd _ e hf.ob
  generalize hat : into F.d0 sh = at_ at *
  have HH := hidq (And.intro h (And.intro hf hd))
  have HB := hidq (And.intro hB (And.intro hS0 (And.intro hS1 (And.intro hi0 hi1))))
  clear h hf hd hB hS0 hS1 hi0 hi1 hp hat
  go_enter Try.func140, Try.ntmps140
  go_wp2_with fail
  go_quiet ((go_at_call 83; exact Calls.quiet_of_same (hI _)))
  go_wp2_with fail
  obtain ⟨W1, hW1, hb0, hsz0, _, hA0⟩ := two_new w [.int .i64 sh] Ans.zero.l 103 98 nq
  rw [show (((w.alloc (.cells #[.int .i64 sh] 103)).alloc (.cells #[.bool false, .float .f64 0, .int .i64 0, .int .i64 0] 98)).drewN nq) = W1 from hW1]
  clear hW1
  obtain ⟨HM, HF, HD⟩ := HH.out
  obtain ⟨hB, hS0, hS1, hi0, hi1⟩ := HB.out
  have hB2 := (hB.below hb0).set 5 (.int .i64 0)
  have hbw : But (fun j => j = fb) W1 (W1.setCell ⟨fb, 5, none⟩ (.int .i64 0)) := (But.refl (fun j => j = fb) W1).set1 fb 5 rfl _
  have hA2 := hA0.but hbw (by omega)
  have hM2 := (HM.below hb0).but hbw (fun k hk e => hO (e ▸ hk))
  have hS12 := (hS1.below hb0).but hbw (fun j hj => (hi1 j hj).2)
  have hS02 := (hS0.below hb0).but hbw (fun j hj => (hi0 j hj).2)
  have hz2 : (W1.setCell ⟨fb, 5, none⟩ (.int .i64 0)).heap.size = w.heap.size + 2 := by rw [World.size_setCell]; exact hsz0
  have hbut2 : But (fun k => O k ∨ P k) w (W1.setCell ⟨fb, 5, none⟩ (.int .i64 0)) := (But.of_below hb0).then hbw (fun j _ e => .inr (e ▸ HF.ob))
  clear hbw
  generalize W1.setCell ⟨fb, 5, none⟩ (.int .i64 0) = W2 at *
  have hWr := hidq (write_any b O M at_ F.c0.ver (wrap64 (F.c0.n + F.val)) none 0 [] W2.drew (hM2.but (S := fun _ => False) (But.refl _ _).drew (fun _ _ e => e)) (SlAt.nil _ _) (fun j hj => by obtain ⟨y, hy, _⟩ := hj; cases hy) (Nat.zero_le _) hck)
  have FIN := hidq (fun w3 (hM3 : MemAt w3 b (own' O (W2.drew) w3) (M.write at_ F.c0.ver (wrap64 (F.c0.n + F.val)) [])) (hb3 : But O (W2.drew) w3) => (by
    have hb3' : But O W2 w3 := ⟨hb3.os, hb3.tape, hb3.output, hb3.size, hb3.block⟩
    have hz3 := hb3'.size
    have hn : ∀ j, P j → ¬ own' O (W2.drew) w3 j := fun j hj e => by
      have := HF.lt _ hj
      rcases e with e | e
      · exact HD _ e hj
      · have h1 : W2.heap.size ≤ j := e.1; omega
    exact stepEnd_of (w := w) (P := P) (F' := { F with pc := 0 }) (A := ⟨M.can at_ F.c0.ver, 0, 0, 0⟩) (d := M.can at_ F.c0.ver) [] hM3 (fun k hk => by
        rcases hk with hk | hk
        · exact .inl hk
        · exact .inr ⟨by have h1 : W2.heap.size ≤ k := hk.1; omega, hk.2⟩) (hbut2.then hb3' (fun j _ e => .inl e)) HF.ob (hB2.but hb3' hO) rfl (hA2.but hb3' (fun e => by have := HM.lt _ e; omega)) (by omega)
        (fun e => by rcases e with e | e; have := HM.lt _ e; omega; have h1 : W2.heap.size ≤ w.heap.size + 1 := e.1; omega) (hn _ HF.ob) (by omega)
        (hS02.but hb3' (fun j hj e => HD _ e (hi0 j hj).1)) (fun j hj => by have := HF.lt _ (hi0 j hj).1; exact ⟨(hi0 j hj).2, by omega, hn _ (hi0 j hj).1, .inl (hi0 j hj).1⟩)
        (hS12.but hb3' (fun j hj e => HD _ e (hi1 j hj).1)) (fun j hj => by have := HF.lt _ (hi1 j hj).1; exact ⟨(hi1 j hj).2, by omega, hn _ (hi1 j hj).1, .inl (hi1 j hj).1⟩)))
  have GA := hidq (fun w3 (hb3 : But O (W2.drew) w3) => hA2.but (show But O W2 w3 from ⟨hb3.os, hb3.tape, hb3.output, hb3.size, hb3.block⟩) (fun e => by have := HM.lt _ e; omega))
  have d2 := (hB2.get 2 _ rfl).1
  have d11 := (hB2.get 11 _ rfl).1
  have d12 := (hB2.get 12 _ rfl).1
  clear hb0 hA0 hB2 hA2 hM2 hS12 hS02 hbut2 HM HF HD hB hS0 hS1 hi0 hi1 HH HB hI c2 c3 c5 z5 c11 c12
  go_still_tail 19, (by kernel_rfl)
  generalize hcan : M.can at_ F.c0.ver = can at *
  go_wp2_with fail
  refine hWr.out.mono ?_
  rintro e w3 ⟨rfl, hM3, hb3⟩
  obtain ⟨e1, e2⟩ := FIN.out w3 hM3 hb3
  have hA3 := GA.out w3 hb3
  obtain ⟨g0, x0⟩ := hA3.get 0 _ rfl
  obtain ⟨g1, x1⟩ := hA3.get 1 _ rfl
  obtain ⟨g2, x2⟩ := hA3.get 2 _ rfl
  obtain ⟨g3, x3⟩ := hA3.get 3 _ rfl
  have E1 := hidq e1
  have E2 := hidq e2
  clear e1 e2 hA3 hM3 hb3 hWr FIN GA

  go_wp2
  exact ret_ans Try.results140 E1.out rfl rfl rfl E2.out
end Go.Proofs.Ythhechgjablklaa
