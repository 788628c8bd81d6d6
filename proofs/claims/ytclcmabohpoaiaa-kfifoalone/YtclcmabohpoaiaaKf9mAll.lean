/-
  Layer 9: an Enq's step: contract.
  A pile of one item, and its first one: contract.
  Layer 9: a Deq's step: contract.
  Layer 6: an operation that nobody disturbs, on any machine: contract.
  Layer 9: a queue's step, as a machine's: contract; what is asked of a memory and a frame.
  Layer 9: operations one by one: the plain mathematics.
-/
import Derived.Test.YtclcmabohpoaiaaPileIAll
import Derived.Test.YtclcmabohpoaiaaKit8All
import Derived.Test.YtclcmabohpoaiaaKf9aAll
namespace Go.Proofs.Ytclcmabohpoaiaa
open Go.RowKit Go.Sort

/-- An Enq's step. -/
def kEnq (k : Int) : StepFn := fun M F =>
  if F.pc = 0 then (M, { kBegin M F 1 with pc := 2 }, Ans.zero, !kfits k (M.look 1).n)
  else if F.pc = 2 then (M, kLook k 0 M F, Ans.zero, false)
  else if F.pc = 3 then kWrite k 1 [(cbits F.pri, F.val)] (cbits F.pri) F.val M F
  else kMove M F
theorem kEnq_0 {k : Int} {M : Mem} {F : Fr} (h : F.pc = 0) : kEnq k M F = (M, { kBegin M F 1 with pc := 2 }, Ans.zero, !kfits k (M.look 1).n) := by unfold kEnq; rw [if_pos h]
theorem kEnq_2 {k : Int} {M : Mem} {F : Fr} (h : F.pc = 2) : kEnq k M F = (M, kLook k 0 M F, Ans.zero, false) := by unfold kEnq; rw [if_neg (by omega), if_pos h]
theorem kEnq_3 {k : Int} {M : Mem} {F : Fr} (h : F.pc = 3) : kEnq k M F = kWrite k 1 [(cbits F.pri, F.val)] (cbits F.pri) F.val M F := by unfold kEnq; rw [if_neg (by omega), if_neg (by omega), if_pos h]
theorem kEnq_4 {k : Int} {M : Mem} {F : Fr} (h0 : F.pc ≠ 0) (h2 : F.pc ≠ 2) (h3 : F.pc ≠ 3) : kEnq k M F = kMove M F := by unfold kEnq; rw [if_neg h0, if_neg h2, if_neg h3]

def kenq5R (fb _nb : Nat) (k sg : Int) (fi : Bool) : List (Value → Nat → World → Prop) :=
  [fun v _ _ => v = .agg #[.bool false, .float .f64 0, .int .i64 0, .int .i64 0],
   fun v _ _ => v = .agg #[.int .i64 k],
   fun v _ _ => v = .pointer (some ⟨fb, 0, none⟩),
   fun v _ _ => v = .pointer (some ⟨fb, 0, none⟩),
   fun v _ _ => v = .pointer (some ⟨fb, 8, none⟩),
   fun v _ _ => v = .int .i64 sg,
   fun v _ _ => v = .bool fi,
   fun v _ _ => v = .bool (!fi),
   fun _ _ _ => True,
   fun v _ _ => v = .bool (!fi)]
theorem kenq5R_kept (fb nb : Nat) (k sg : Int) (fi : Bool) : Reg.GAllKept (Reg.PPres (fun j => j = nb + 1)) (kenq5R fb nb k sg fi) :=
  ⟨(fun _ _ _ _ _ _ h => h), (fun _ _ _ _ _ _ h => h), (fun _ _ _ _ _ _ h => h), (fun _ _ _ _ _ _ h => h), (fun _ _ _ _ _ _ h => h), (fun _ _ _ _ _ _ h => h), (fun _ _ _ _ _ _ h => h), (fun _ _ _ _ _ _ h => h), (fun _ _ _ _ _ _ _ => trivial), (fun _ _ _ _ _ _ h => h), trivial⟩

/-- A read within a step, whose answer is zero. -/
theorem stepEnd_rd {w W1 w2 : World} {b fb ab : Nat} {O P : Nat → Prop} {M : Mem} {F' : Fr} {d : Bool} {e : Ending} (hb : Below w.heap.size w W1) (hO : ∀ k, O k → k < w.heap.size) (hP : ∀ k, P k → k < w.heap.size) (hPf : P fb)
    (h : RdEnd b fb O P M F' W1 e w2) (hA : BoxAt W1 ab Ans.zero.l) (hab : w.heap.size ≤ ab) :
    BoxAt w2 ab Ans.zero.l ∧ BoxAt (setBox w2 ab Ans.zero.s) ab Ans.zero.l ∧ StepEnd b fb O P (M, F', Ans.zero, d) w (.returned (.tuple #[Ans.zero.v, .bool d])) (setBox w2 ab Ans.zero.s) := by
  obtain ⟨_, P', h1, h2, h3, h4, h5⟩ := h
  have hal := hA.lt
  have hs := hb.size
  have hs2 := h5.size
  have hA2 := hA.but h5 (fun e => by have := hP _ e; omega)
  exact ⟨hA2, stepEnd_fr (A := Ans.zero) (d := d) (F' := F') [] h1 (Grown.refl _ _ _) h2 (fun k hk => (h4 k hk).imp id (fun e => ⟨by omega, e.2⟩)) h3 ((But.of_below hb).then h5 (fun j _ e => .inr e)) hPf hA2 hab (fun e => by have := hO _ e; omega) (fun e => by
    rcases h4 _ e with q | q
    · have := hP _ q; omega
    · omega) (fun _ _ _ _ => rfl) rfl rfl⟩

set_option maxRecDepth 20000 in
set_option maxHeartbeats 8000000 in
theorem kenq_any (k : Int) (w : World) (b fb : Nat) (O P : Nat → Prop) (M : Mem) (F : Fr) (h : MemAt w b O M) (hf : FrAt w fb P F) (hd : ∀ k, O k → ¬ P k) (hk : 1 ≤ k ∧ k ≤ 16) (hs : 0 ≤ F.seen ∧ F.seen ≤ 100) (hsg : 0 ≤ F.seg ∧ F.seg < 9223372036854775807) (hck : M.clock < 4611686018427387904) :
    Calls Try.prog 115 #[.agg #[.int .i64 k], .pointer (some ⟨b, 0, none⟩), .pointer (some ⟨fb, 0, none⟩)] w (StepEnd b fb O P (kEnq k M F) w) := by
  obtain ⟨nb, hnb⟩ : ∃ nb, w.heap.size = nb := ⟨_, rfl⟩
  obtain ⟨W1, hW1', hb1, hs1, hQ1, hA1⟩ := two_new w [.int .i64 k] Ans.zero.l 57 48 0
  have hW1 : (w.alloc (.cells #[.int .i64 k] 57)).alloc (.cells #[.bool false, .float .f64 0, .int .i64 0, .int .i64 0] 48) = W1 := hW1'
  clear hW1'
  rw [hnb] at hQ1 hA1 hs1
  have hsf := run_store_flt (P := Try.prog)
  have hf1 := hf.below hb1
  have hM1 := h.below hb1
  obtain ⟨a0, k0, a1, k1, hB1, hS01, hS11, hi0, hi1⟩ := hf1.box
  have f5 := (hB1.get 5 _ rfl).1
  have hfl := hB1.lt
  have hfp := hf.lt _ hf.ob
  have q0 := (hQ1.get 0 _ rfl).1
  have hql := hQ1.lt
  by_cases hp0 : F.pc = 0
  · rw [kEnq_0 hp0]
    have f5z : W1.cell? ⟨fb, 5, none⟩ = some (.int .i64 0) := by rw [f5, hp0]
    have hBg := hidq (kbegin_any 1 W1 b fb O P M F hM1 hf1 hd)
    have HO := hidq (And.intro h.lt (And.intro hf.lt (And.intro hd (And.intro hf.ob (And.intro hb1 (And.intro hQ1 (And.intro hA1 hs1)))))))
    have hFi := hidq (fun W => kfits_any k (M.look 1).n W hk)
    obtain ⟨sg, hsge⟩ : ∃ sg, (M.look 1).n = sg := ⟨_, rfl⟩
    rw [hsge] at hFi ⊢
    obtain ⟨fi, hfi⟩ : ∃ fi, kfits k sg = fi := ⟨_, rfl⟩
    rw [hfi] at hFi ⊢
    obtain ⟨F9, hF9⟩ : ∃ F9, ({ kBegin M F 1 with pc := 2 } : Fr) = F9 := ⟨_, rfl⟩
    rw [hF9]
    have HF9 := hidq (And.intro hF9 hsge)
    clear h hf hd hf1 hM1 hB1 hS01 hS11 hi0 hi1 hQ1 hA1 hb1 hs1 f5 hp0 hfi hF9 hsge hs hsg hck
    go_enter Try.func115, Try.ntmps115
    go_wp2_with fail
    refine hBg.out.mono ?_
    rintro e w2 ⟨rfl, P2, hM2, hF2, hd2, hG2, hb2⟩
    obtain ⟨hOl, hPl, hd, hPf, hb1, hQ1, hA1, hs1⟩ := HO.out
    obtain ⟨a0', k0', a1', k1', hB2, _⟩ := hF2.box
    obtain ⟨g5, z5⟩ := hB2.get 5 _ rfl
    have hfl2 := hB2.lt
    have hnP : ¬ P nb := fun e => by have := hPl _ e; omega
    have haP : ¬ P (nb + 1) := fun e => by have := hPl _ e; omega
    have hft := hF2.turn (F' := { kBegin M F 1 with pc := 2 }) 5 (.int .i64 2) (fun _ _ _ _ => rfl) rfl rfl
    have hbt : But (fun j => j = fb) w2 (w2.setCell ⟨fb, 5, none⟩ (.int .i64 2)) := (But.refl (fun j => j = fb) w2).set1 fb 5 rfl _
    obtain ⟨W3, hW3⟩ : ∃ W3, w2.setCell ⟨fb, 5, none⟩ (.int .i64 2) = W3 := ⟨_, rfl⟩
    rw [hW3] at hft hbt
    have hs3 : W3.heap.size = w2.heap.size := by rw [← hW3, World.size_setCell]
    have hfn : fb ≠ nb := by have := hPl _ hPf; omega
    have hfa : fb ≠ nb + 1 := by have := hPl _ hPf; omega
    have hQ3 := (hQ1.but hb2 hnP).but hbt (fun e => hfn e.symm)
    have hA3 := (hA1.but hb2 haP).but hbt (fun e => hfa e.symm)
    have hs2 := hb2.size
    obtain ⟨a0'', k0'', a1'', k1'', hB3, _⟩ := hft.box
    have g8 : W3.cell? ⟨fb, 8, none⟩ = some (.int .i64 sg) := by rw [(hB3.get 8 _ rfl).1]; show some (Value.int .i64 (M.look 1).n) = _; rw [HF9.out.2]
    have hfl3 := hB3.lt
    have hbw : But (fun k => O k ∨ P k) w W3 := ((But.of_below hb1).then hb2 (fun j _ e => .inr e)).then hbt (fun j _ e => .inr (e ▸ hPf))
    have HZ := hidq (And.intro (hM2.but hbt (fun k hk e => hd2 k hk (e ▸ hF2.ob))) (And.intro hft (And.intro hQ3 (And.intro hA3 (And.intro hd2 (And.intro (fun k hk => (show P k ∨ (w.heap.size ≤ k ∧ k < W3.heap.size) from (hG2 k hk).imp id (fun e => ⟨by omega, by omega⟩))) (And.intro hbw hOl)))))))
    have FC := hidq (fun W (hW : But (fun j => j = nb + 1) W3 W) => (show W.cell? ⟨fb, 8, none⟩ = some (.int .i64 sg) ∧ W.cell? ⟨nb, 0, none⟩ = some (.int .i64 k) from ⟨(hW.cell (p := ⟨fb, 8, none⟩) hfl3 hfa).trans g8, ((hQ3.but hW (by omega)).get 0 _ rfl).1⟩))
    have HS1 := hidq (And.intro hs1 (And.intro hs2 hs3))
    have HP2 := hidq (fun k (hk : P2 k) (e : k = nb + 1) => (show False from by
      rcases hG2 k hk with q | q
      · have := hPl _ q; omega
      · omega))
    clear hM2 hF2 hd2 hG2 hb2 hOl hPl hd hPf hb1 hQ1 hA1 hs1 hB2 hnP haP hft hbt hQ3 hA3 hB3 hbw HO hBg hs2 hs3
    go_wp2_with fail
    try rw [hW3]
    clear hW3 g5 z5 f5z q0 hql hW1
    have HF : ∀ (x : Nat) w w', Below w.heap.size w w' → (fun _ w => BoxAt w (nb + 1) Ans.zero.l) x w → (fun _ w => BoxAt w (nb + 1) Ans.zero.l) x w' := fun x w w' hb hh => BoxAt.below hh hb
    refine Reg.wp_region_ghost (Reg.gofList (kenq5R fb nb k sg fi)) (Reg.PPres (fun j => j = nb + 1)) (Reg.PInv [8] (fun j => j = nb + 1) W3 (fun _ w => BoxAt w (nb + 1) Ans.zero.l)) 0 (by kernel_rfl) (by kernel_rfl) (Reg.GAllKept.at _ (kenq5R_kept fb nb k sg fi)) (Reg.PInv.start 10 HZ.out.2.2.2.1.drew) ⟨?_, ?_, ?_, ?_, ?_, ?_, ?_, ?_, ?_, ?_, trivial⟩ ?_
    · refine Reg.GStepAt.plain (i := 0) rfl ?_
      intro x L ev w hI hk hp hA
      have hcc := hA.const
      clear hA hp
      refine Reg.out_value (v := .agg #[.bool false, .float .f64 0, .int .i64 0, .int .i64 0]) ?_ ⟨x, rfl, Reg.PPres.refl _ _ _, Reg.PInv.light HF hI 0 (by decide) (Below.refl _ _)⟩
      go_simp
    · refine Reg.GStepAt.plain (i := 1) rfl ?_
      intro x L ev w hI hk hp hA
      have e3 : ev (.tmp 3) = .pointer (some ⟨nb, 0, none⟩) := hA.oldNone 3 (by kernel_rfl)
      have hcc := hA.const
      clear hA hp
      obtain ⟨f8, m0⟩ := FC.out w hI.2.1
      refine Reg.out_value (v := .agg #[.int .i64 k]) ?_ ⟨x, rfl, Reg.PPres.refl _ _ _, Reg.PInv.light HF hI 1 (by decide) (Below.refl _ _)⟩
      go_simp
    · refine Reg.GStepAt.plain (i := 2) rfl ?_
      intro x L ev w hI hk hp hA
      have e2 : ev (.tmp 2) = .pointer (some ⟨fb, 0, none⟩) := hA.oldNone 2 (by kernel_rfl)
      have hcc := hA.const
      clear hA hp
      refine Reg.out_value (v := .pointer (some ⟨fb, 0, none⟩)) ?_ ⟨x, rfl, Reg.PPres.refl _ _ _, Reg.PInv.light HF hI 2 (by decide) (Below.refl _ _)⟩
      go_simp
    · refine Reg.GStepAt.plain (i := 3) rfl ?_
      intro x L ev w hI hk hp hA
      have e23 : ev (.tmp 23) = .pointer (some ⟨fb, 0, none⟩) := hA.val 2 _ 23 rfl (hp ⟨2, .data⟩ (by simp) rfl) rfl
      have hcc := hA.const
      clear hA hp
      refine Reg.out_value (v := .pointer (some ⟨fb, 0, none⟩)) ?_ ⟨x, rfl, Reg.PPres.refl _ _ _, Reg.PInv.light HF hI 3 (by decide) (Below.refl _ _)⟩
      go_simp
    · refine Reg.GStepAt.plain (i := 4) rfl ?_
      intro x L ev w hI hk hp hA
      have e24 : ev (.tmp 24) = .pointer (some ⟨fb, 0, none⟩) := hA.val 3 _ 24 rfl (hp ⟨3, .data⟩ (by simp) rfl) rfl
      have hcc := hA.const
      clear hA hp
      refine Reg.out_value (v := .pointer (some ⟨fb, 8, none⟩)) ?_ ⟨x, rfl, Reg.PPres.refl _ _ _, Reg.PInv.light HF hI 4 (by decide) (Below.refl _ _)⟩
      go_simp
    · refine Reg.GStepAt.plain (i := 5) rfl ?_
      intro x L ev w hI hk hp hA
      have e25 : ev (.tmp 25) = .pointer (some ⟨fb, 8, none⟩) := hA.val 4 _ 25 rfl (hp ⟨4, .data⟩ (by simp) rfl) rfl
      have hcc := hA.const
      clear hA hp
      obtain ⟨f8, m0⟩ := FC.out w hI.2.1
      refine Reg.out_value (v := .int .i64 sg) ?_ ⟨x, rfl, Reg.PPres.refl _ _ _, Reg.PInv.light HF hI 5 (by decide) (Below.refl _ _)⟩
      go_simp
    · refine Reg.GStepAt.plain (i := 6) rfl ?_
      intro x L ev w hI hk hp hA
      have e22 : ev (.tmp 22) = .agg #[.int .i64 k] := hA.val 1 _ 22 rfl (hp ⟨1, .data⟩ (by simp) rfl) rfl
      have e26 : ev (.tmp 26) = .int .i64 sg := hA.val 5 _ 26 rfl (hp ⟨5, .data⟩ (by simp) rfl) rfl
      have hcc := hA.const
      have hcf := hA.func
      clear hA hp
      refine Reg.out_call (f := 20) (args := #[.agg #[.int .i64 k], .int .i64 sg]) (w0 := w) ?_ ?_
      · go_simp
      refine (hFi.out w).mono ?_
      rintro e w' ⟨rfl, hb'⟩
      exact ⟨_, rfl, x, rfl, Reg.PPres.light hb', Reg.PInv.light HF hI 6 (by decide) hb'⟩
    · refine Reg.GStepAt.plain (i := 7) rfl ?_
      intro x L ev w hI hk hp hA
      have e27 : ev (.tmp 27) = .bool fi := hA.val 6 _ 27 rfl (hp ⟨6, .data⟩ (by simp) rfl) rfl
      have hcc := hA.const
      clear hA hp
      refine Reg.out_value (v := .bool (!fi)) ?_ ⟨x, rfl, Reg.PPres.refl _ _ _, Reg.PInv.light HF hI 7 (by decide) (Below.refl _ _)⟩
      go_simp
    · refine Reg.GStepAt.plain (i := 8) rfl ?_
      intro x L ev w hI hk hp hA
      have e6 : ev (.tmp 6) = .pointer (some ⟨nb + 1, 0, none⟩) := hA.oldNone 6 (by kernel_rfl)
      have e21 : ev (.tmp 21) = .agg #[.bool false, .float .f64 0, .int .i64 0, .int .i64 0] := hA.val 0 _ 21 rfl (hp ⟨0, .data⟩ (by simp) rfl) rfl
      have hcc := hA.const
      clear hA hp
      have hT := hI.2.2
      obtain ⟨c0, y0⟩ := hT.get 0 _ rfl
      obtain ⟨c1, y1⟩ := hT.get 1 _ rfl
      obtain ⟨c2, y2⟩ := hT.get 2 _ rfl
      obtain ⟨c3, y3⟩ := hT.get 3 _ rfl
      have hset := setBox_box Ans.zero.s hT
      have hbS := setBox_but (nb + 1) Ans.zero.s w
      refine Reg.out_skipP (w' := setBox w (nb + 1) Ans.zero.s) ?_ ⟨x + 1, trivial, Reg.PPres.heavy hbS, Reg.PInv.heavy hI 8 (by decide) (by simp) hk hbS hset⟩
      clear hI hset hT hbS
      simp only [setBox]
      (go_simp; try rfl)
    · refine Reg.GStepAt.plain (i := 9) rfl ?_
      intro x L ev w hI hk hp hA
      have e28 : ev (.tmp 28) = .bool (!fi) := hA.val 7 _ 28 rfl (hp ⟨7, .data⟩ (by simp) rfl) rfl
      have hcc := hA.const
      clear hA hp
      refine Reg.out_value (v := .bool (!fi)) ?_ ⟨x, rfl, Reg.PPres.refl _ _ _, Reg.PInv.light HF hI 9 (by decide) (Below.refl _ _)⟩
      go_simp
    intro gx L act wz hall hI hF
    have g21 : act.eval (.tmp 21) = .agg #[.bool false, .float .f64 0, .int .i64 0, .int .i64 0] := hF.val 0 _ 21 rfl (hall 0 (by simp)) rfl
    have g22 : act.eval (.tmp 22) = .agg #[.int .i64 k] := hF.val 1 _ 22 rfl (hall 1 (by simp)) rfl
    have g23 : act.eval (.tmp 23) = .pointer (some ⟨fb, 0, none⟩) := hF.val 2 _ 23 rfl (hall 2 (by simp)) rfl
    have g24 : act.eval (.tmp 24) = .pointer (some ⟨fb, 0, none⟩) := hF.val 3 _ 24 rfl (hall 3 (by simp)) rfl
    have g25 : act.eval (.tmp 25) = .pointer (some ⟨fb, 8, none⟩) := hF.val 4 _ 25 rfl (hall 4 (by simp)) rfl
    have g26 : act.eval (.tmp 26) = .int .i64 sg := hF.val 5 _ 26 rfl (hall 5 (by simp)) rfl
    have g27 : act.eval (.tmp 27) = .bool fi := hF.val 6 _ 27 rfl (hall 6 (by simp)) rfl
    have g28 : act.eval (.tmp 28) = .bool (!fi) := hF.val 7 _ 28 rfl (hall 7 (by simp)) rfl
    have g7 : act.eval (.tmp 7) = .bool (!fi) := hF.val 9 _ 7 rfl (hall 9 (by simp)) rfl
    have hact := hF.act [21, 22, 23, 24, 25, 26, 27, 28, 7] (by kernel_rfl)
    obtain ⟨hxz, hBz, hFz⟩ := Reg.PInv.done hI (fun j hj => hall j (by simp at hj ⊢; omega))
    clear hF hall
    simp only [List.foldl_cons, List.foldl_nil] at hact
    rw [g21, g22, g23, g24, g25, g26, g27, g28, g7] at hact
    clear g21 g22 g23 g24 g25 g26 g27 g28 g7
    simp only [List.setIfInBounds_toArray, List.set_cons_succ, List.set_cons_zero] at hact
    subst hact
    obtain ⟨hM3, hft, hQ3, hA3, hd3, hG3, hbw, hOl⟩ := HZ.out
    obtain ⟨hs1, hs2, hs3⟩ := HS1.out
    have hB4 : BoxAt wz (nb + 1) Ans.zero.l := hFz
    have HE := hidq (show StepEnd b fb O P (M, F9, Ans.zero, !fi) w (.returned (.tuple #[Ans.zero.v, .bool (!fi)])) wz from by
      have hsz := hBz.size
      have haO : ¬ O (nb + 1) := fun e => by have := hOl _ e; omega
      refine ⟨rfl, O, P2, hM3.but hBz (fun k hk e => haO (e ▸ hk)), by rw [← HF9.out.1]; exact hft.but hBz (fun k hk e => HP2.out k hk e), hd3, Grown.refl _ _ _, fun k hk => (hG3 k hk).imp id (fun e => ⟨e.1, by omega⟩), hbw.then hBz (fun j hj e => by omega)⟩)
    have HB4 := hidq hB4
    clear hM3 hft hQ3 hA3 hd3 hG3 hbw hOl hs1 hs2 hs3 hB4 hBz hFz HF hxz HZ FC hFi HS1 hfl3 hfl2 hfl hfp
    go_wp2
    exact ret_ans (A := Ans.zero) Try.results115 HB4.out rfl rfl rfl HE.out
  · have t0 : (F.pc == 0) = false := by simpa using hp0
    by_cases hp2 : F.pc = 2
    · rw [kEnq_2 hp2]
      have f5z : W1.cell? ⟨fb, 5, none⟩ = some (.int .i64 2) := by rw [f5, hp2]
      have hLk := hidq (klook_any k 0 W1 b fb O P M F hM1 hf1 hd hk hs)
      have q1 : True := trivial
      have FIN := hidq (fun e w2 (hE : RdEnd b fb O P M (kLook k 0 M F) W1 e w2) => stepEnd_rd (d := false) hb1 h.lt hf.lt hf.ob hE hA1 (by omega))
      generalize kLook k 0 M F = F9 at *
      clear h hf hd hf1 hM1 hB1 hS01 hS11 hi0 hi1 hQ1 hA1 hb1 hs1 f5 hp0 hp2 t0 hs hsg hck
      go_enter Try.func115, Try.ntmps115
      go_wp2_with fail
      refine hLk.out.mono ?_
      intro e w2 hE
      obtain ⟨e0, e1, e2⟩ := FIN.out _ _ hE
      obtain ⟨rfl, _⟩ := hE
      obtain ⟨c0, y0⟩ := e0.get 0 _ rfl
      obtain ⟨c1, y1⟩ := e0.get 1 _ rfl
      obtain ⟨c2, y2⟩ := e0.get 2 _ rfl
      obtain ⟨c3, y3⟩ := e0.get 3 _ rfl
      have hal := e0.lt
      have E1 := hidq (And.intro e1 e2)
      clear e0 e1 e2 FIN hLk f5z q0 hql hW1
      go_wp2
      exact ret_ans (A := Ans.zero) Try.results115 E1.out.1 rfl rfl rfl E1.out.2
    · have t2 : (F.pc == 2) = false := by simpa using hp2
      by_cases hp3 : F.pc = 3
      · rw [kEnq_3 hp3]
        have f5z : W1.cell? ⟨fb, 5, none⟩ = some (.int .i64 3) := by rw [f5, hp3]
        have f1 := (hB1.get 1 _ rfl).1
        have f2 := (hB1.get 2 _ rfl).1
        have hCn := hidq (fun W => icanon_any F.pri F.val W)
        obtain ⟨cp, hcp⟩ : ∃ cp, cbits F.pri = cp := ⟨_, rfl⟩
        rw [hcp] at hCn ⊢
        have HO := hidq (And.intro h (And.intro hf (And.intro hd (And.intro hb1 (And.intro hQ1 (And.intro hA1 (And.intro hs1 hnb)))))))
        have HK := hidq (And.intro hk (And.intro hs hck))
        obtain ⟨r, hr⟩ : ∃ r, kWrite k 1 [(cp, F.val)] cp F.val M F = r := ⟨_, rfl⟩
        rw [hr]
        have HR := hidq hr
        obtain ⟨pv, hpv⟩ : ∃ pv, F.val = pv := ⟨_, rfl⟩
        obtain ⟨pri, hpri⟩ : ∃ pri, F.pri = pri := ⟨_, rfl⟩
        rw [hpv] at HR f2 hCn
        rw [hpri] at f1 hCn
        clear h hf hd hf1 hM1 hB1 hS01 hS11 hi0 hi1 hQ1 hA1 hb1 hs1 f5 hp0 hp2 hp3 hs hsg hck hcp hr hk hpv hpri
        go_enter Try.func115, Try.ntmps115
        go_wp2_with fail
        refine (hCn.out _).mono ?_
        rintro e w2 ⟨rfl, hb2⟩
        obtain ⟨h, hf, hd, hb1, hQ1, hA1, hs1, hnb2⟩ := HO.out
        obtain ⟨W3, hW3', hb3, hs3, hX3⟩ := one_new w2 [.float .f64 cp, .int .i64 pv] 35
        have hW3 : w2.alloc (.cells #[.float .f64 cp, .int .i64 pv] 35) = W3 := hW3'
        obtain ⟨W4, hW4', hb4, hs4, hX4⟩ := one_new W3 [.float .f64 cp, .int .i64 pv] 35
        have hW4 : W3.alloc (.cells #[.float .f64 cp, .int .i64 pv] 35) = W4 := hW4'
        have hFl : Flat 2 W4 W3.heap.size 1 1 [.float .f64 cp, .int .i64 pv] := by
          rw [← hW4']; exact Flat.new W3 [.float .f64 cp, .int .i64 pv] 35 2 1 rfl (by decide) (by intro u hu; simp at hu; rcases hu with rfl | rfl <;> rfl)
        have hb12 : Below W1.heap.size W1 W3 := hb2.trans (hb3.mono hb2.size)
        have hb14 : Below W1.heap.size W1 W4 := hb12.trans (hb4.mono hb12.size)
        have hb04 : Below w.heap.size w W4 := hb1.trans (hb14.mono hb1.size)
        have hX34 := hX3.below hb4
        have x0 := (hX3.get 0 _ rfl).1
        have x1 := (hX3.get 1 _ rfl).1
        have hxl := hX3.lt
        have hsz2 := hb2.size
        have hfp2 := hf.lt _ hf.ob
        obtain ⟨hk, hs, hck⟩ := HK.out
        have q3 := ((hQ1.below hb12).get 0 _ rfl).1
        have hq3l := (hQ1.below hb12).lt
        have y0 := (hX34.get 0 _ rfl).1
        have y1 := (hX34.get 1 _ rfl).1
        have hyl := hX34.lt
        have hWr := kwrite_any k 1 W4 b fb O P M F (some ⟨W3.heap.size, 0, none⟩) 1 1 [(cp, pv)] cp pv (h.below hb04) (hf.below hb04) hd hk hs rfl (.inr ⟨_, rfl, hFl⟩) (fun j hj => by
          obtain ⟨y, hy, rfl⟩ := hj
          cases hy
          exact ⟨fun e => by have h1 := h.lt _ e; have h2 : w.heap.size ≤ W3.heap.size := Nat.le_trans hb1.size hb12.size; simp only at h1; omega, fun e => by have h2 : w.heap.size ≤ W3.heap.size := Nat.le_trans hb1.size hb12.size; simp only at e; omega⟩) (by decide) hck
        rw [HR.out] at hWr
        have HWr := hidq hWr
        have FIN := hidq (fun e w5 (hE : StepEnd b fb O P r W4 e w5) => And.intro (stepEnd_on hb04 h.lt hf.lt hE (hA1.below hb14) (by omega)) (show BoxAt w5 (nb + 1) Ans.zero.l from by
          obtain ⟨_, O', P', _, _, _, _, _, h6⟩ := hE
          refine (hA1.below hb14).but h6 (fun e => ?_)
          rcases e with e | e
          · have := h.lt _ e; omega
          · have := hf.lt _ e; omega))
        obtain ⟨sb3, hsb3⟩ : ∃ sb3, W3.heap.size = sb3 := ⟨_, rfl⟩
        obtain ⟨xb, hxb⟩ : ∃ xb, w2.heap.size = xb := ⟨_, rfl⟩
        rw [hsb3] at HWr
        rw [hxb] at x0 x1 hxl y0 y1 hyl
        clear h hf hd hb1 hQ1 hA1 hs1 hnb2 hb2 hb3 hX3 hX34 hb4 hX4 hFl hb12 hb14 hb04 hWr hsz2 hfp2 hk hs hck HO HK HR hCn hW3' hW4' hs3 hs4 q0 hql f1 f2 f5z
        go_wp2_with fail
        refine HWr.out.mono ?_
        intro e w5 hE
        obtain ⟨⟨e1, e2⟩, e0⟩ := FIN.out _ _ hE
        obtain ⟨rfl, _⟩ := hE
        obtain ⟨M', F', A, dn⟩ := r
        obtain ⟨aok, api, av, an⟩ := A
        dsimp only at e1 e2 e0 ⊢
        obtain ⟨g0, u0⟩ := e0.get 0 _ rfl
        obtain ⟨g1, u1⟩ := e0.get 1 _ rfl
        obtain ⟨g2, u2⟩ := e0.get 2 _ rfl
        obtain ⟨g3, u3⟩ := e0.get 3 _ rfl
        have hal := e0.lt
        have E1 := hidq (And.intro e1 e2)
        clear e0 e1 e2 FIN HWr hW1 hW3 hW4 x0 x1 y0 y1 q3
        go_wp2
        exact ret_ans Try.results115 E1.out.1 rfl rfl rfl E1.out.2
      · have t3 : (F.pc == 3) = false := by simpa using hp3
        rw [kEnq_4 hp0 hp2 hp3]
        have hMv := hidq (kmove_any W1 b fb O P M F hM1 hf1 hd hsg hck)
        have FIN := hidq (fun e w5 (hE : StepEnd b fb O P (kMove M F) W1 e w5) => And.intro (stepEnd_on hb1 h.lt hf.lt hE hA1 (by omega)) (show BoxAt w5 (nb + 1) Ans.zero.l from by
          obtain ⟨_, O', P', _, _, _, _, _, h6⟩ := hE
          refine hA1.but h6 (fun e => ?_)
          rcases e with e | e
          · have := h.lt _ e; omega
          · have := hf.lt _ e; omega))
        obtain ⟨pc, hpc⟩ : ∃ pc, F.pc = pc := ⟨_, rfl⟩
        rw [hpc] at t0 t2 t3 f5
        generalize kMove M F = r at *
        clear h hf hd hf1 hM1 hB1 hS01 hS11 hi0 hi1 hQ1 hA1 hb1 hs1 hp0 hp2 hp3 hs hsg hck hpc hk
        go_enter Try.func115, Try.ntmps115
        go_wp2_with fail
        refine hMv.out.mono ?_
        intro e w5 hE
        obtain ⟨⟨e1, e2⟩, e0⟩ := FIN.out _ _ hE
        obtain ⟨rfl, _⟩ := hE
        obtain ⟨M', F', A, dn⟩ := r
        obtain ⟨aok, api, av, an⟩ := A
        dsimp only at e1 e2 e0 ⊢
        obtain ⟨g0, u0⟩ := e0.get 0 _ rfl
        obtain ⟨g1, u1⟩ := e0.get 1 _ rfl
        obtain ⟨g2, u2⟩ := e0.get 2 _ rfl
        obtain ⟨g3, u3⟩ := e0.get 3 _ rfl
        have hal := e0.lt
        have E1 := hidq (And.intro e1 e2)
        clear e0 e1 e2 FIN hMv hW1 f5 q0
        go_wp2
        exact ret_ans Try.results115 E1.out.1 rfl rfl rfl E1.out.2
end Go.Proofs.Ytclcmabohpoaiaa

namespace Go.Proofs.Ytclcmabohpoaiaa
open Go.RowKit Go.Sort

theorem first1_any (a : Option Addr) (cap : Nat) (x : KI) (w : World) (h : SlAt 2 w a cap 1 (flatI (kit [x]))) :
    Calls Try.prog 64 #[.slice a 1 cap] w fun e w' => ∃ b, e = .returned (.pointer (some ⟨b, 0, none⟩)) ∧ Below w.heap.size w w' ∧
      Calls Try.prog 69 #[.pointer (some ⟨b, 0, none⟩)] w' fun e2 w2 => e2 = .returned (.tuple #[.agg #[.float .f64 x.b, .int .i64 x.v], .bool true]) ∧ Below w'.heap.size w' w2 := by
  refine (new_any a 1 cap _ _ w (items_of (K := [x]) rfl h) (by omega)).mono ?_
  rintro e w1 ⟨b, g, d, rfl, hbb, hg, hH, hd, hb1⟩
  rw [can_kit [x] 1 rfl] at hd
  refine ⟨b, rfl, hb1, ?_⟩
  have hdl : d.toList = [x] := List.perm_singleton.1 hd
  have hs : 0 < d.size := by have := congrArg List.length hdl; simp at this; omega
  have := first_some b g d w1 hH hs
  have hx : d[0]! = x := by
    have : d = #[x] := by apply Array.toList_inj.1; rw [hdl]
    rw [this]; rfl
  rw [hx] at this
  exact this
end Go.Proofs.Ytclcmabohpoaiaa

namespace Go.Proofs.Ytclcmabohpoaiaa
open Go.RowKit Go.Sort

/-- A Deq's step. -/
def kDeq (k : Int) : StepFn := fun M F =>
  if F.pc = 0 then (M, { kBegin M F 0 with pc := 1 }, Ans.zero, false)
  else if F.pc = 1 then (M, if (M.look 1).n = F.seg then { F with at_ := 1, c0 := M.look 1, pc := 2 } else { F with pc := 2 }, Ans.zero, false)
  else if F.pc = 2 then (M, kLook k 1 M F, Ans.zero, decide ((kLook k 1 M F).pc = 4) && (kLook k 1 M F).empty)
  else if F.pc = 3 then kWrite k 2 [] (F.c1.L.headD (0, 0)).1 (F.c1.L.headD (0, 0)).2 M F
  else kMove M F
theorem kDeq_0 {k : Int} {M : Mem} {F : Fr} (h : F.pc = 0) : kDeq k M F = (M, { kBegin M F 0 with pc := 1 }, Ans.zero, false) := by unfold kDeq; rw [if_pos h]
theorem kDeq_1y {k : Int} {M : Mem} {F : Fr} (h : F.pc = 1) (hy : (M.look 1).n = F.seg) : kDeq k M F = (M, { F with at_ := 1, c0 := M.look 1, pc := 2 }, Ans.zero, false) := by unfold kDeq; rw [if_neg (by omega), if_pos h, if_pos hy]
theorem kDeq_1n {k : Int} {M : Mem} {F : Fr} (h : F.pc = 1) (hy : ¬ (M.look 1).n = F.seg) : kDeq k M F = (M, { F with pc := 2 }, Ans.zero, false) := by unfold kDeq; rw [if_neg (by omega), if_pos h, if_neg hy]
theorem kDeq_2 {k : Int} {M : Mem} {F : Fr} (h : F.pc = 2) : kDeq k M F = (M, kLook k 1 M F, Ans.zero, decide ((kLook k 1 M F).pc = 4) && (kLook k 1 M F).empty) := by unfold kDeq; rw [if_neg (by omega), if_neg (by omega), if_pos h]
theorem kDeq_3 {k : Int} {M : Mem} {F : Fr} {x : KI} (h : F.pc = 3) (hx : F.c1.L = kit [x]) : kDeq k M F = kWrite k 2 [] x.b x.v M F := by unfold kDeq; rw [if_neg (by omega), if_neg (by omega), if_neg (by omega), if_pos h, hx]; rfl
theorem kDeq_4 {k : Int} {M : Mem} {F : Fr} (h0 : F.pc ≠ 0) (h1 : F.pc ≠ 1) (h2 : F.pc ≠ 2) (h3 : F.pc ≠ 3) : kDeq k M F = kMove M F := by unfold kDeq; rw [if_neg h0, if_neg h1, if_neg h2, if_neg h3]

def kdeq9R (fb cl k3 : Nat) (a3 : Option Addr) (cver cn : Int) : List (Value → Nat → World → Prop) :=
  [fun v _ _ => v = .pointer (some ⟨fb, 0, none⟩),
   fun v _ _ => v = .pointer (some ⟨fb, 0, none⟩),
   fun v _ _ => v = .agg #[.int .u64 cver, .int .i64 cn, .slice a3 cl k3],
   fun v _ _ => v = .pointer (some ⟨fb, 0, none⟩),
   fun v _ _ => v = .pointer (some ⟨fb, 6, none⟩),
   fun _ _ _ => True,
   fun v _ _ => v = .pointer (some ⟨fb, 0, none⟩),
   fun v _ _ => v = .pointer (some ⟨fb, 11, none⟩),
   fun v _ _ => v = .pointer (some ⟨fb, 11, none⟩),
   fun _ _ _ => True]
theorem kdeq9R_kept (fb cl k3 : Nat) (a3 : Option Addr) (cver cn : Int) : Reg.GAllKept (Reg.PPres (fun j => j = fb)) (kdeq9R fb cl k3 a3 cver cn) :=
  ⟨(fun _ _ _ _ _ _ h => h), (fun _ _ _ _ _ _ h => h), (fun _ _ _ _ _ _ h => h), (fun _ _ _ _ _ _ h => h), (fun _ _ _ _ _ _ h => h), (fun _ _ _ _ _ _ _ => trivial), (fun _ _ _ _ _ _ h => h), (fun _ _ _ _ _ _ h => h), (fun _ _ _ _ _ _ h => h), (fun _ _ _ _ _ _ _ => trivial), trivial⟩
def kdeq14Rt (fb _nb : Nat) (pc : Int) (em : Bool) : List (Value → Nat → World → Prop) :=
  [fun v _ _ => v = .agg #[.bool false, .float .f64 0, .int .i64 0, .int .i64 0],
   fun v _ _ => v = .pointer (some ⟨fb, 0, none⟩),
   fun v _ _ => v = .pointer (some ⟨fb, 0, none⟩),
   fun v _ _ => v = .pointer (some ⟨fb, 5, none⟩),
   fun v _ _ => v = .int .i64 pc,
   fun v _ _ => v = .bool true,
   fun v _ _ => v = .bool true,
   fun v _ _ => v = .pointer (some ⟨fb, 0, none⟩),
   fun v _ _ => v = .pointer (some ⟨fb, 0, none⟩),
   fun v _ _ => v = .pointer (some ⟨fb, 10, none⟩),
   fun v _ _ => v = .bool em,
   fun v _ _ => v = .bool em,
   fun _ _ _ => True,
   fun v _ _ => v = .bool em]
theorem kdeq14Rt_kept (fb nb : Nat) (pc : Int) (em : Bool) : Reg.GAllKept (Reg.PPres (fun j => j = nb + 1)) (kdeq14Rt fb nb pc em) :=
  ⟨(fun _ _ _ _ _ _ h => h), (fun _ _ _ _ _ _ h => h), (fun _ _ _ _ _ _ h => h), (fun _ _ _ _ _ _ h => h), (fun _ _ _ _ _ _ h => h), (fun _ _ _ _ _ _ h => h), (fun _ _ _ _ _ _ h => h), (fun _ _ _ _ _ _ h => h), (fun _ _ _ _ _ _ h => h), (fun _ _ _ _ _ _ h => h), (fun _ _ _ _ _ _ h => h), (fun _ _ _ _ _ _ h => h), (fun _ _ _ _ _ _ _ => trivial), (fun _ _ _ _ _ _ h => h), trivial⟩
def kdeq14Rf (fb _nb : Nat) (pc : Int) (_em : Bool) : List (Value → Nat → World → Prop) :=
  [fun v _ _ => v = .agg #[.bool false, .float .f64 0, .int .i64 0, .int .i64 0],
   fun v _ _ => v = .pointer (some ⟨fb, 0, none⟩),
   fun v _ _ => v = .pointer (some ⟨fb, 0, none⟩),
   fun v _ _ => v = .pointer (some ⟨fb, 5, none⟩),
   fun v _ _ => v = .int .i64 pc,
   fun v _ _ => v = .bool false,
   fun v _ _ => v = .bool false,
   fun _ _ _ => True,
   fun _ _ _ => True,
   fun _ _ _ => True,
   fun _ _ _ => True,
   fun v _ _ => v = .bool false,
   fun _ _ _ => True,
   fun v _ _ => v = .bool false]
theorem kdeq14Rf_kept (fb nb : Nat) (pc : Int) (em : Bool) : Reg.GAllKept (Reg.PPres (fun j => j = nb + 1)) (kdeq14Rf fb nb pc em) :=
  ⟨(fun _ _ _ _ _ _ h => h), (fun _ _ _ _ _ _ h => h), (fun _ _ _ _ _ _ h => h), (fun _ _ _ _ _ _ h => h), (fun _ _ _ _ _ _ h => h), (fun _ _ _ _ _ _ h => h), (fun _ _ _ _ _ _ h => h), (fun _ _ _ _ _ _ _ => trivial), (fun _ _ _ _ _ _ _ => trivial), (fun _ _ _ _ _ _ _ => trivial), (fun _ _ _ _ _ _ _ => trivial), (fun _ _ _ _ _ _ h => h), (fun _ _ _ _ _ _ _ => trivial), (fun _ _ _ _ _ _ h => h), trivial⟩

set_option maxRecDepth 20000 in
set_option maxHeartbeats 8000000 in
theorem kdeq_0 (k : Int) (w : World) (b fb : Nat) (O P : Nat → Prop) (M : Mem) (F : Fr) (h : MemAt w b O M) (hf : FrAt w fb P F) (hd : ∀ k, O k → ¬ P k) (hp : F.pc = 0) :
    Calls Try.prog 116 #[.agg #[.int .i64 k], .pointer (some ⟨b, 0, none⟩), .pointer (some ⟨fb, 0, none⟩)] w (StepEnd b fb O P (kDeq k M F) w) := by
  obtain ⟨nb, hnb⟩ : ∃ nb, w.heap.size = nb := ⟨_, rfl⟩
  obtain ⟨W1, hW1', hb1, hs1, hQ1, hA1⟩ := two_new w [.int .i64 k] Ans.zero.l 57 48 0
  have hW1 : (w.alloc (.cells #[.int .i64 k] 57)).alloc (.cells #[.bool false, .float .f64 0, .int .i64 0, .int .i64 0] 48) = W1 := hW1'
  clear hW1'
  rw [hnb] at hQ1 hA1 hs1
  have hsf := run_store_flt (P := Try.prog)
  have hf1 := hf.below hb1
  have hM1 := h.below hb1
  obtain ⟨a0, k0, a1, k1, hB1, hS01, hS11, hi0, hi1⟩ := hf1.box
  have f5 := (hB1.get 5 _ rfl).1
  have hfl := hB1.lt
  have hfp := hf.lt _ hf.ob
  have q0 := (hQ1.get 0 _ rfl).1
  have hql := hQ1.lt
  rw [kDeq_0 hp]
  have f5z : W1.cell? ⟨fb, 5, none⟩ = some (.int .i64 0) := by rw [f5, hp]
  have hBg := hidq (kbegin_any 0 W1 b fb O P M F hM1 hf1 hd)
  have FIN := hidq (fun w2 P2 (hM2 : MemAt w2 b O M) (hF2 : FrAt w2 fb P2 (kBegin M F 0)) (hd2 : ∀ k, O k → ¬ P2 k) (hG2 : Grown P W1 w2 P2) (hb2 : But P W1 w2) => (show BoxAt w2 (nb + 1) Ans.zero.l ∧ BoxAt (setBox (setBox w2 fb [(5, .int .i64 1)]) (nb + 1) Ans.zero.s) (nb + 1) Ans.zero.l ∧ StepEnd b fb O P (M, { kBegin M F 0 with pc := 1 }, Ans.zero, false) w (.returned (.tuple #[Ans.zero.v, .bool false])) (setBox (setBox w2 fb [(5, .int .i64 1)]) (nb + 1) Ans.zero.s) from by
    have hA2 := hA1.but hb2 (fun e => by have := hf.lt _ e; omega)
    have hs2 := hb2.size
    exact ⟨hA2, stepEnd_fr (A := Ans.zero) (d := false) (F' := { kBegin M F 0 with pc := 1 }) [(5, .int .i64 1)] hM2 (Grown.refl _ _ _) hF2 (fun k hk => (hG2 k hk).imp id (fun e => ⟨by omega, e.2⟩)) hd2 ((But.of_below hb1).then hb2 (fun j _ e => .inr e)) hf.ob hA2 (by omega) (fun e => by have := h.lt _ e; omega) (fun e => by
      rcases hG2 _ e with q | q
      · have := hf.lt _ q; omega
      · omega) (fun _ _ _ _ => rfl) rfl rfl⟩))
  obtain ⟨F9, hF9⟩ : ∃ F9, ({ kBegin M F 0 with pc := 1 } : Fr) = F9 := ⟨_, rfl⟩
  rw [hF9] at FIN ⊢
  have hfa : ¬ fb = nb + 1 := by omega
  clear h hf hd hf1 hM1 hB1 hS01 hS11 hi0 hi1 hQ1 hA1 hb1 hs1 f5 hp hF9 hfp
  go_enter Try.func116, Try.ntmps116
  go_wp2_with fail
  refine hBg.out.mono ?_
  rintro e w2 ⟨rfl, P2, hM2, hF2, hd2, hG2, hb2⟩
  obtain ⟨e0, e1, e2⟩ := FIN.out w2 P2 hM2 hF2 hd2 hG2 hb2
  obtain ⟨a0', k0', a1', k1', hB2, _⟩ := hF2.box
  obtain ⟨g5, z5⟩ := hB2.get 5 _ rfl
  have hfl2 := hB2.lt
  obtain ⟨c0, y0⟩ := e0.get 0 _ rfl
  obtain ⟨c1, y1⟩ := e0.get 1 _ rfl
  obtain ⟨c2, y2⟩ := e0.get 2 _ rfl
  obtain ⟨c3, y3⟩ := e0.get 3 _ rfl
  have hal := e0.lt
  have E1 := hidq (And.intro e1 e2)
  clear e0 e1 e2 FIN hBg hM2 hF2 hd2 hG2 hb2 hB2 f5z q0 hql hW1
  go_wp2
  exact ret_ans (A := Ans.zero) Try.results116 E1.out.1 rfl rfl rfl E1.out.2

set_option maxRecDepth 20000 in
set_option maxHeartbeats 8000000 in
theorem kdeq_1 (k : Int) (w : World) (b fb : Nat) (O P : Nat → Prop) (M : Mem) (F : Fr) (h : MemAt w b O M) (hf : FrAt w fb P F) (hd : ∀ k, O k → ¬ P k) (hp : F.pc = 1) :
    Calls Try.prog 116 #[.agg #[.int .i64 k], .pointer (some ⟨b, 0, none⟩), .pointer (some ⟨fb, 0, none⟩)] w (StepEnd b fb O P (kDeq k M F) w) := by
  obtain ⟨nb, hnb⟩ : ∃ nb, w.heap.size = nb := ⟨_, rfl⟩
  obtain ⟨W1, hW1', hb1, hs1, hQ1, hA1⟩ := two_new w [.int .i64 k] Ans.zero.l 57 48 0
  have hW1 : (w.alloc (.cells #[.int .i64 k] 57)).alloc (.cells #[.bool false, .float .f64 0, .int .i64 0, .int .i64 0] 48) = W1 := hW1'
  clear hW1'
  rw [hnb] at hQ1 hA1 hs1
  have hsf := run_store_flt (P := Try.prog)
  have hf1 := hf.below hb1
  have hM1 := h.below hb1
  obtain ⟨a0, k0, a1, k1, hB1, hS01, hS11, hi0, hi1⟩ := hf1.box
  have f5 := (hB1.get 5 _ rfl).1
  have hfl := hB1.lt
  have hfp := hf.lt _ hf.ob
  have q0 := (hQ1.get 0 _ rfl).1
  have hql := hQ1.lt
  have f5z : W1.cell? ⟨fb, 5, none⟩ = some (.int .i64 1) := by rw [f5, hp]
  have t0 : ((1 : Int) == 0) = false := by decide
  have hRd := hidq (read5_any b O M 1 W1 hM1)
  have HO := hidq (And.intro h (And.intro hf (And.intro hd (And.intro hb1 (And.intro hQ1 (And.intro hA1 (And.intro hs1 (And.intro hf1 hM1))))))))
  obtain ⟨r, hr⟩ : ∃ r, kDeq k M F = r := ⟨_, rfl⟩
  rw [hr]
  have HR := hidq (And.intro hr hp)
  clear h hf hd hf1 hM1 hB1 hS01 hS11 hi0 hi1 hQ1 hA1 hb1 hs1 f5 hp hr
  go_enter Try.func116, Try.ntmps116
  go_wp2_with fail
  refine hRd.out.mono ?_
  rintro e w3 ⟨a3, k3, rfl, hS3, hn3, hb3⟩
  obtain ⟨cv, hcv⟩ : ∃ cv, M.look 1 = cv := ⟨_, rfl⟩
  rw [hcv] at hS3 ⊢
  obtain ⟨cver, cn, cL⟩ := cv
  dsimp only at hS3 ⊢
  obtain ⟨cl, hcl⟩ : ∃ cl, cL.length = cl := ⟨_, rfl⟩
  rw [hcl]
  obtain ⟨h, hf, hd, hb1, hQ1, hA1, hs1, hf1, hM1⟩ := HO.out
  obtain ⟨cb, hcb⟩ : ∃ cb, w3.heap.size = cb := ⟨_, rfl⟩
  obtain ⟨W4, hW4', hb4, hs4, hC4⟩ := one_new w3 [.int .u64 cver, .int .i64 cn, .slice a3 cl k3] 82
  have hW4 : w3.alloc (.cells #[.int .u64 cver, .int .i64 cn, .slice a3 cl k3] 82) = W4 := hW4'
  rw [hcb] at hC4 hs4
  have hs3 := hb3.size
  have hb14 : Below W1.heap.size W1 W4 := hb3.trans (hb4.mono hb3.size)
  have hb04 : Below w.heap.size w W4 := hb1.trans (hb14.mono hb1.size)
  have hf4 := hf1.below hb14
  have hM4 := hM1.below hb14
  have hA4 := hA1.below hb14
  have hS4 := hS3.below hb4
  obtain ⟨a0, k0, a1, k1, hB4, hS04, hS14, hi0, hi1⟩ := hf4.box
  have g8 := (hB4.get 8 _ rfl).1
  obtain ⟨g5, z5⟩ := hB4.get 5 _ rfl
  have hfl4 := hB4.lt
  have hal4 := hA4.lt
  have u1 := (hC4.get 1 _ rfl).1
  have hcl4 := hC4.lt
  have hne1 : ¬ fb = cb := by omega
  have hfa : ¬ fb = nb + 1 := by omega
  have hOf : ¬ O fb := fun e => hd _ e hf.ob
  have HZ := hidq (And.intro hM4 (And.intro hf4 (And.intro hB4 (And.intro hA4 (And.intro hS4 (And.intro hS04 (And.intro hS14 (And.intro hi0 (And.intro hi1 (And.intro hb04 (And.intro hd (And.intro hf.ob (And.intro hf.lt (And.intro h.lt (And.intro hcl (And.intro hn3 (And.intro hC4 hne1)))))))))))))))))
  have HS := hidq (And.intro hs1 (And.intro hs3 hs4))
  obtain ⟨sg, hsg⟩ : ∃ sg, F.seg = sg := ⟨_, rfl⟩
  rw [hsg] at g8
  by_cases hy : cn = sg
  · have hr2 : r = (M, { F with at_ := 1, c0 := ⟨cver, cn, cL⟩, pc := 2 }, Ans.zero, false) := by rw [← HR.out.1, kDeq_1y HR.out.2 (by rw [hcv, hsg]; exact hy), hcv]
    have HR2 := hidq hr2
    subst hy
    have t1 : (cn == cn) = true := by simp
    clear hr2 h hf hd hf1 hM1 hQ1 hA1 hb1 hs1 hb3 hb4 hC4 hb14 hb04 hf4 hM4 hA4 hS3 hS4 hB4 hS04 hS14 hi0 hi1 hcv HO HR hRd hs3 hn3 hsg hW4' hcl hs4
    go_wp2_with fail
    go_quiet (fail)
    obtain ⟨W5, hW5⟩ : ∃ W5, W4.drewN nq = W5 := ⟨_, rfl⟩
    have hq : Below W4.heap.size W4 W5 := by rw [← hW5]; exact below_drewN (Below.refl _ _) nq
    have HQ := hidq hq
    have HB5 := hidq (HZ.out.2.2.1.below hq)
    have FC := hidq (fun W (hW : But (fun j => j = fb) W5 W) => (show W.cell? ⟨cb, 0, none⟩ = some (.int .u64 cver) ∧ W.cell? ⟨cb, 1, none⟩ = some (.int .i64 cn) ∧ W.cell? ⟨cb, 2, none⟩ = some (.slice a3 cl k3) from by
      have q := (HZ.out.2.2.2.2.2.2.2.2.2.2.2.2.2.2.2.2.1.below hq).but hW (fun e => HZ.out.2.2.2.2.2.2.2.2.2.2.2.2.2.2.2.2.2 e.symm)
      exact ⟨(q.get 0 _ rfl).1, (q.get 1 _ rfl).1, (q.get 2 _ rfl).1⟩))
    rw [hW5]
    clear hW5 hq
    go_wp2_with fail
    clear u1 g8 hW4 f5z q0 hql hW1 t0 hcb
    have HF : ∀ x w w', Below w.heap.size w w' → (fun x w => (x = 0 → BoxAt w fb (F.l a0 k0 a1 k1)) ∧ (x = 1 → BoxAt w fb ((F.l a0 k0 a1 k1).set 6 (.int .i64 1))) ∧ (x = 2 → BoxAt w fb (((((F.l a0 k0 a1 k1).set 6 (.int .i64 1)).set 11 (.int .u64 cver)).set 12 (.int .i64 cn)).set 13 (.slice a3 cl k3)))) x w → (fun x w => (x = 0 → BoxAt w fb (F.l a0 k0 a1 k1)) ∧ (x = 1 → BoxAt w fb ((F.l a0 k0 a1 k1).set 6 (.int .i64 1))) ∧ (x = 2 → BoxAt w fb (((((F.l a0 k0 a1 k1).set 6 (.int .i64 1)).set 11 (.int .u64 cver)).set 12 (.int .i64 cn)).set 13 (.slice a3 cl k3)))) x w' := fun x w w' hb hh => ⟨fun e => (hh.1 e).below hb, fun e => (hh.2.1 e).below hb, fun e => (hh.2.2 e).below hb⟩
    refine Reg.wp_region_ghost (Reg.gofList (kdeq9R fb cl k3 a3 cver cn)) (Reg.PPres (fun j => j = fb)) (Reg.PInv [5, 9] (fun j => j = fb) W5 (fun x w => (x = 0 → BoxAt w fb (F.l a0 k0 a1 k1)) ∧ (x = 1 → BoxAt w fb ((F.l a0 k0 a1 k1).set 6 (.int .i64 1))) ∧ (x = 2 → BoxAt w fb (((((F.l a0 k0 a1 k1).set 6 (.int .i64 1)).set 11 (.int .u64 cver)).set 12 (.int .i64 cn)).set 13 (.slice a3 cl k3))))) 0 (by kernel_rfl) (by kernel_rfl) (Reg.GAllKept.at _ (kdeq9R_kept fb cl k3 a3 cver cn)) (Reg.PInv.start 10 ⟨fun _ => HB5.out.drew, (fun e => by cases e), (fun e => by cases e)⟩) ⟨?_, ?_, ?_, ?_, ?_, ?_, ?_, ?_, ?_, ?_, trivial⟩ ?_
    · refine Reg.GStepAt.plain (i := 0) rfl ?_
      intro x L ev w hI hk hp hA
      have e2 : ev (.tmp 2) = .pointer (some ⟨fb, 0, none⟩) := hA.oldNone 2 (by kernel_rfl)
      have hcc := hA.const
      clear hA hp
      refine Reg.out_value (v := .pointer (some ⟨fb, 0, none⟩)) ?_ ⟨x, rfl, Reg.PPres.refl _ _ _, Reg.PInv.light HF hI 0 (by decide) (Below.refl _ _)⟩
      go_simp
    · refine Reg.GStepAt.plain (i := 1) rfl ?_
      intro x L ev w hI hk hp hA
      have e2 : ev (.tmp 2) = .pointer (some ⟨fb, 0, none⟩) := hA.oldNone 2 (by kernel_rfl)
      have hcc := hA.const
      clear hA hp
      refine Reg.out_value (v := .pointer (some ⟨fb, 0, none⟩)) ?_ ⟨x, rfl, Reg.PPres.refl _ _ _, Reg.PInv.light HF hI 1 (by decide) (Below.refl _ _)⟩
      go_simp
    · refine Reg.GStepAt.plain (i := 2) rfl ?_
      intro x L ev w hI hk hp hA
      have e8 : ev (.tmp 8) = .pointer (some ⟨cb, 0, none⟩) := hA.oldNone 8 (by kernel_rfl)
      have hcc := hA.const
      clear hA hp
      have f0 := (FC.out w hI.2.1).1
      have f1 := (FC.out w hI.2.1).2.1
      have f2 := (FC.out w hI.2.1).2.2
      refine Reg.out_value (v := .agg #[.int .u64 cver, .int .i64 cn, .slice a3 cl k3]) ?_ ⟨x, rfl, Reg.PPres.refl _ _ _, Reg.PInv.light HF hI 2 (by decide) (Below.refl _ _)⟩
      go_simp
    · refine Reg.GStepAt.plain (i := 3) rfl ?_
      intro x L ev w hI hk hp hA
      have e36 : ev (.tmp 36) = .pointer (some ⟨fb, 0, none⟩) := hA.val 0 _ 36 rfl (hp ⟨0, .data⟩ (by simp) rfl) rfl
      have hcc := hA.const
      clear hA hp
      refine Reg.out_value (v := .pointer (some ⟨fb, 0, none⟩)) ?_ ⟨x, rfl, Reg.PPres.refl _ _ _, Reg.PInv.light HF hI 3 (by decide) (Below.refl _ _)⟩
      go_simp
    · refine Reg.GStepAt.plain (i := 4) rfl ?_
      intro x L ev w hI hk hp hA
      have e39 : ev (.tmp 39) = .pointer (some ⟨fb, 0, none⟩) := hA.val 3 _ 39 rfl (hp ⟨3, .data⟩ (by simp) rfl) rfl
      have hcc := hA.const
      clear hA hp
      refine Reg.out_value (v := .pointer (some ⟨fb, 6, none⟩)) ?_ ⟨x, rfl, Reg.PPres.refl _ _ _, Reg.PInv.light HF hI 4 (by decide) (Below.refl _ _)⟩
      go_simp
    · refine Reg.GStepAt.plain (i := 5) rfl ?_
      intro x L ev w hI hk hp hA
      have e40 : ev (.tmp 40) = .pointer (some ⟨fb, 6, none⟩) := hA.val 4 _ 40 rfl (hp ⟨4, .data⟩ (by simp) rfl) rfl
      have hcc := hA.const
      have NL := Reg.not_listed hA 5 9 _ rfl ⟨5, .chain⟩ (by simp) rfl hk
      clear hA hp
      have hx : x = 0 := hI.1.trans (Reg.cnt_zero2 (Reg.getD_true hk) NL)
      have hT := hI.2.2.1 hx
      obtain ⟨c6, y6⟩ := hT.get 6 _ rfl
      have hset := hT.set 6 (.int .i64 1)
      have hbS : But (fun j => j = fb) w (w.setCell ⟨fb, 6, none⟩ (.int .i64 1)) := (But.refl (fun j => j = fb) w).set1 fb 6 rfl _
      refine Reg.out_skipP (w' := w.setCell ⟨fb, 6, none⟩ (.int .i64 1)) ?_ ⟨x + 1, trivial, Reg.PPres.heavy hbS, Reg.PInv.heavy hI 5 (by decide) (by simp) hk hbS ⟨fun e => by omega, fun e => hset, fun e => by omega⟩⟩
      clear hI hset hT hbS
      go_simp
    · refine Reg.GStepAt.plain (i := 6) rfl ?_
      intro x L ev w hI hk hp hA
      have e37 : ev (.tmp 37) = .pointer (some ⟨fb, 0, none⟩) := hA.val 1 _ 37 rfl (hp ⟨1, .data⟩ (by simp) rfl) rfl
      have hcc := hA.const
      clear hA hp
      refine Reg.out_value (v := .pointer (some ⟨fb, 0, none⟩)) ?_ ⟨x, rfl, Reg.PPres.refl _ _ _, Reg.PInv.light HF hI 6 (by decide) (Below.refl _ _)⟩
      go_simp
    · refine Reg.GStepAt.plain (i := 7) rfl ?_
      intro x L ev w hI hk hp hA
      have e41 : ev (.tmp 41) = .pointer (some ⟨fb, 0, none⟩) := hA.val 6 _ 41 rfl (hp ⟨6, .data⟩ (by simp) rfl) rfl
      have hcc := hA.const
      clear hA hp
      refine Reg.out_value (v := .pointer (some ⟨fb, 11, none⟩)) ?_ ⟨x, rfl, Reg.PPres.refl _ _ _, Reg.PInv.light HF hI 7 (by decide) (Below.refl _ _)⟩
      go_simp
    · refine Reg.GStepAt.plain (i := 8) rfl ?_
      intro x L ev w hI hk hp hA
      have e42 : ev (.tmp 42) = .pointer (some ⟨fb, 11, none⟩) := hA.val 7 _ 42 rfl (hp ⟨7, .data⟩ (by simp) rfl) rfl
      have hcc := hA.const
      clear hA hp
      refine Reg.out_value (v := .pointer (some ⟨fb, 11, none⟩)) ?_ ⟨x, rfl, Reg.PPres.refl _ _ _, Reg.PInv.light HF hI 8 (by decide) (Below.refl _ _)⟩
      go_simp
    · refine Reg.GStepAt.plain (i := 9) rfl ?_
      intro x L ev w hI hk hp hA
      have e43 : ev (.tmp 43) = .pointer (some ⟨fb, 11, none⟩) := hA.val 8 _ 43 rfl (hp ⟨8, .data⟩ (by simp) rfl) rfl
      have e38 : ev (.tmp 38) = .agg #[.int .u64 cver, .int .i64 cn, .slice a3 cl k3] := hA.val 2 _ 38 rfl (hp ⟨2, .data⟩ (by simp) rfl) rfl
      have hcc := hA.const
      have L5 : L.getD 5 false = true := hp ⟨5, .chain⟩ (by simp) rfl
      clear hA hp
      have hx : x = 1 := hI.1.trans (Reg.cnt_one2 L5 (Reg.getD_true hk))
      have hT := hI.2.2.2.1 hx
      obtain ⟨c11, y11⟩ := hT.get 11 _ rfl
      obtain ⟨c12, y12⟩ := hT.get 12 _ rfl
      obtain ⟨c13, y13⟩ := hT.get 13 _ rfl
      have hset := setBox_box [(11, .int .u64 cver), (12, .int .i64 cn), (13, .slice a3 cl k3)] hT
      have hbS := setBox_but fb [(11, .int .u64 cver), (12, .int .i64 cn), (13, .slice a3 cl k3)] w
      refine Reg.out_skipP (w' := setBox w fb [(11, .int .u64 cver), (12, .int .i64 cn), (13, .slice a3 cl k3)]) ?_ ⟨x + 1, trivial, Reg.PPres.heavy hbS, Reg.PInv.heavy hI 9 (by decide) (by simp) hk hbS ⟨fun e => by omega, fun e => by omega, fun e => hset⟩⟩
      clear hI hset hT hbS
      simp only [setBox]
      go_simp
    intro gx L act wz hall hI hF
    have g36 : act.eval (.tmp 36) = .pointer (some ⟨fb, 0, none⟩) := hF.val 0 _ 36 rfl (hall 0 (by simp)) rfl
    have g37 : act.eval (.tmp 37) = .pointer (some ⟨fb, 0, none⟩) := hF.val 1 _ 37 rfl (hall 1 (by simp)) rfl
    have g38 : act.eval (.tmp 38) = .agg #[.int .u64 cver, .int .i64 cn, .slice a3 cl k3] := hF.val 2 _ 38 rfl (hall 2 (by simp)) rfl
    have g39 : act.eval (.tmp 39) = .pointer (some ⟨fb, 0, none⟩) := hF.val 3 _ 39 rfl (hall 3 (by simp)) rfl
    have g40 : act.eval (.tmp 40) = .pointer (some ⟨fb, 6, none⟩) := hF.val 4 _ 40 rfl (hall 4 (by simp)) rfl
    have g41 : act.eval (.tmp 41) = .pointer (some ⟨fb, 0, none⟩) := hF.val 6 _ 41 rfl (hall 6 (by simp)) rfl
    have g42 : act.eval (.tmp 42) = .pointer (some ⟨fb, 11, none⟩) := hF.val 7 _ 42 rfl (hall 7 (by simp)) rfl
    have g43 : act.eval (.tmp 43) = .pointer (some ⟨fb, 11, none⟩) := hF.val 8 _ 43 rfl (hall 8 (by simp)) rfl
    have hact := hF.act [36, 37, 38, 39, 40, 41, 42, 43] (by kernel_rfl)
    obtain ⟨hxz, hBz, hFz⟩ := Reg.PInv.done hI (fun j hj => hall j (by simp at hj ⊢; omega))
    clear hF hall
    simp only [List.foldl_cons, List.foldl_nil] at hact
    rw [g36, g37, g38, g39, g40, g41, g42, g43] at hact
    clear g36 g37 g38 g39 g40 g41 g42 g43
    simp only [List.setIfInBounds_toArray, List.set_cons_succ, List.set_cons_zero] at hact
    subst hact
    obtain ⟨hM4, hf4, hB4, hA4, hS4, hS04, hS14, hi0, hi1, hb04, hd, hPf, hPl, hOl, hcl, hn3, hC4, _⟩ := HZ.out
    obtain ⟨hs1, hs3, hs4⟩ := HS.out
    have hB6 := hFz.2.2 rfl
    have hA6 := (hA4.below HQ.out).but hBz (fun e => hfa e.symm)
    have hwz : Below w.heap.size w W5 := hb04.trans (HQ.out.mono hb04.size)
    have hbz : But (fun k => O k ∨ P k) w wz := (But.of_below hwz).then hBz (fun j _ e => .inr (e ▸ hPf))
    have FIN := hidq (stepEnd_of (w := w) (b := b) (A := Ans.zero) (d := false) (F' := { F with at_ := 1, c0 := ⟨cver, cn, cL⟩, pc := 2 }) [(5, .int .i64 2)] ((hM4.below HQ.out).but hBz (fun k hk e => hOf (e ▸ hk))) (Grown.refl O w wz) hbz hPf hB6 (by rw [← hcl]; rfl) hA6 (by omega) (fun e => by have := hOl _ e; omega) hOf hfa
      (by have := (hS4.below HQ.out).but hBz (fun j hj e => by have := hn3 j hj; omega); rw [← hcl] at *; exact this) (fun j hj => by have := hn3 j hj; exact ⟨by omega, by omega, fun e => by have := hOl _ e; omega, .inr (by omega)⟩)
      ((hS14.below HQ.out).but hBz (fun j hj => (hi1 j hj).2)) (fun j hj => by have := hPl _ (hi1 j hj).1; exact ⟨(hi1 j hj).2, by omega, fun e => hd _ e (hi1 j hj).1, .inl (hi1 j hj).1⟩))
    obtain ⟨v5, s5⟩ := hB6.get 5 _ rfl
    obtain ⟨v0, s0⟩ := hA6.get 0 _ rfl
    obtain ⟨v1, s1⟩ := hA6.get 1 _ rfl
    obtain ⟨v2, s2⟩ := hA6.get 2 _ rfl
    obtain ⟨v3, s3⟩ := hA6.get 3 _ rfl
    have hal6 := hA6.lt
    have hfl6 := hB6.lt
    clear hM4 hf4 hB4 hA4 hS4 hS04 hS14 hi0 hi1 hb04 hd hPf hPl hOl hcl hn3 hC4 hs1 hs3 hs4 hB6 hA6 hwz hbz hBz hFz HZ HS HQ HB5 FC HF hxz g5 z5
    go_wp2
    exact ret_ans (A := Ans.zero) Try.results116 FIN.out.1 rfl rfl rfl (by rw [HR2.out]; exact FIN.out.2)
  · have hr2 : r = (M, { F with pc := 2 }, Ans.zero, false) := by rw [← HR.out.1, kDeq_1n HR.out.2 (by rw [hcv, hsg]; exact hy)]
    have HR2 := hidq hr2
    have t1 : (cn == sg) = false := by simpa using hy
    have t2 : decide (cn = sg) = false := decide_eq_false hy
    clear hr2 h hf hd hf1 hM1 hQ1 hA1 hb1 hs1 hb3 hb4 hC4 hb14 hb04 hf4 hM4 hA4 hS3 hS4 hB4 hS04 hS14 hi0 hi1 hcv HO HR hRd hs3 hn3 hsg hW4' hcl hs4 hy
    go_wp2_with fail
    go_quiet (fail)
    obtain ⟨W5, hW5⟩ : ∃ W5, W4.drewN nq = W5 := ⟨_, rfl⟩
    have hq : Below W4.heap.size W4 W5 := by rw [← hW5]; exact below_drewN (Below.refl _ _) nq
    rw [hW5]
    obtain ⟨hM4, hf4, hB4, hA4, hS4, hS04, hS14, hi0, hi1, hb04, hd, hPf, hPl, hOl, hcl, hn3, hC4, _⟩ := HZ.out
    have hb05 : Below w.heap.size w W5 := hb04.trans (hq.mono hb04.size)
    have hA5 := hA4.below hq
    obtain ⟨hs1, hs3, hs4⟩ := HS.out
    have FIN := hidq (stepEnd_fr (w := w) (b := b) (A := Ans.zero) (d := false) (F' := { F with pc := 2 }) [(5, .int .i64 2)] (hM4.below hq) (Grown.refl O w W5) (hf4.below hq) (Grown.refl P w W5) hd (But.of_below hb05) hPf hA5 (by omega) (fun e => by have := hOl _ e; omega) (fun e => by have := hPl _ e; omega) (fun _ _ _ _ => rfl) rfl rfl)
    obtain ⟨v5, s5⟩ := (hB4.below hq).get 5 _ rfl
    obtain ⟨v0, s0⟩ := hA5.get 0 _ rfl
    obtain ⟨v1, s1⟩ := hA5.get 1 _ rfl
    obtain ⟨v2, s2⟩ := hA5.get 2 _ rfl
    obtain ⟨v3, s3⟩ := hA5.get 3 _ rfl
    have hal6 := hA5.lt
    have hfl6 := (hB4.below hq).lt
    clear hM4 hf4 hB4 hA4 hS4 hS04 hS14 hi0 hi1 hb04 hd hPf hPl hOl hcl hn3 hC4 hs1 hs3 hs4 hb05 hA5 hW5 hq HZ HS g5 z5 u1 g8 hW4 f5z q0 hql hW1 t0
    go_wp2
    exact ret_ans (A := Ans.zero) Try.results116 FIN.out.1 rfl rfl rfl (by rw [HR2.out]; exact FIN.out.2)

set_option maxRecDepth 20000 in
set_option maxHeartbeats 8000000 in
theorem kdeq_2 (k : Int) (w : World) (b fb : Nat) (O P : Nat → Prop) (M : Mem) (F : Fr) (h : MemAt w b O M) (hf : FrAt w fb P F) (hd : ∀ k, O k → ¬ P k) (hk : 1 ≤ k ∧ k ≤ 16) (hs : 0 ≤ F.seen ∧ F.seen ≤ 100) (hp : F.pc = 2) :
    Calls Try.prog 116 #[.agg #[.int .i64 k], .pointer (some ⟨b, 0, none⟩), .pointer (some ⟨fb, 0, none⟩)] w (StepEnd b fb O P (kDeq k M F) w) := by
  obtain ⟨nb, hnb⟩ : ∃ nb, w.heap.size = nb := ⟨_, rfl⟩
  obtain ⟨W1, hW1', hb1, hs1, hQ1, hA1⟩ := two_new w [.int .i64 k] Ans.zero.l 57 48 0
  have hW1 : (w.alloc (.cells #[.int .i64 k] 57)).alloc (.cells #[.bool false, .float .f64 0, .int .i64 0, .int .i64 0] 48) = W1 := hW1'
  clear hW1'
  rw [hnb] at hQ1 hA1 hs1
  have hsf := run_store_flt (P := Try.prog)
  have hf1 := hf.below hb1
  have hM1 := h.below hb1
  obtain ⟨a0, k0, a1, k1, hB1, hS01, hS11, hi0, hi1⟩ := hf1.box
  have f5 := (hB1.get 5 _ rfl).1
  have hfl := hB1.lt
  have hfp := hf.lt _ hf.ob
  have q0 := (hQ1.get 0 _ rfl).1
  have hql := hQ1.lt
  have f5z : W1.cell? ⟨fb, 5, none⟩ = some (.int .i64 2) := by rw [f5, hp]
  have hLk := hidq (klook_any k 1 W1 b fb O P M F hM1 hf1 hd hk hs)
  obtain ⟨r, hr⟩ : ∃ r, kDeq k M F = r := ⟨_, rfl⟩
  rw [hr]
  rw [kDeq_2 hp] at hr
  have HO := hidq (And.intro h.lt (And.intro hf.lt (And.intro hf.ob (And.intro hb1 (And.intro hA1 hs1)))))
  generalize kLook k 1 M F = F9 at *
  have HR := hidq hr
  clear h hf hd hf1 hM1 hB1 hS01 hS11 hi0 hi1 hQ1 hA1 hb1 hs1 f5 hp hr hk hs
  go_enter Try.func116, Try.ntmps116
  go_wp2_with fail
  refine hLk.out.mono ?_
  rintro e W3 ⟨rfl, P2, hM2, hF2, hd2, hG2, hb2⟩
  obtain ⟨hOl, hPl, hPf, hb1, hA1, hs1⟩ := HO.out
  obtain ⟨a0', k0', a1', k1', hB2, _⟩ := hF2.box
  have g5 := (hB2.get 5 _ rfl).1
  have g10 := (hB2.get 10 _ rfl).1
  have hfl3 := hB2.lt
  have hfa : fb ≠ nb + 1 := by have := hPl _ hPf; omega
  have hA3 := hA1.but hb2 (fun e => by have := hPl _ e; omega)
  have HZ := hidq (And.intro hM2 (And.intro hF2 (And.intro hA3 (And.intro hd2 (And.intro hG2 (And.intro ((But.of_below (S := fun k => O k ∨ P k) hb1).then hb2 (fun j _ e => .inr e)) (And.intro hOl (And.intro hPl (And.intro hs1 hb2.size)))))))))
  have hr1 : r = (M, F9, Ans.zero, decide (F9.pc = 4) && F9.empty) := HR.out.symm
  obtain ⟨pc, hpc⟩ : ∃ pc, F9.pc = pc := ⟨_, rfl⟩
  obtain ⟨em, hem⟩ : ∃ em, F9.empty = em := ⟨_, rfl⟩
  rw [hpc] at g5 hr1
  rw [hem] at g10 hr1
  have FC := hidq (fun W (hW : But (fun j => j = nb + 1) W3 W) => (show W.cell? ⟨fb, 5, none⟩ = some (.int .i64 pc) ∧ W.cell? ⟨fb, 10, none⟩ = some (.bool em) from ⟨(hW.cell (p := ⟨fb, 5, none⟩) hfl3 hfa).trans g5, (hW.cell (p := ⟨fb, 10, none⟩) hfl3 hfa).trans g10⟩))
  clear hM2 hF2 hd2 hG2 hb2 hOl hPl hPf hb1 hA1 hs1 hB2 hA3 HO hLk HR hpc hem f5z q0 hql hW1 g5 g10
  by_cases h4 : pc = 4
  · have T4 : (pc == 4) = true := by simpa using h4
    have T5 : decide (pc = 4) = true := by simpa using h4
    have hr2 : r = (M, F9, Ans.zero, em) := by rw [hr1, T5]; simp
    have HR2 := hidq hr2
    clear hr2 hr1 h4
    go_wp2_with fail
    have HF : ∀ (x : Nat) w w', Below w.heap.size w w' → (fun (_ : Nat) w => BoxAt w (nb + 1) Ans.zero.l) x w → (fun (_ : Nat) w => BoxAt w (nb + 1) Ans.zero.l) x w' := fun x w w' hb hh => BoxAt.below hh hb
    refine Reg.wp_region_ghost (Reg.gofList (kdeq14Rt fb nb pc em)) (Reg.PPres (fun j => j = nb + 1)) (Reg.PInv [12] (fun j => j = nb + 1) W3 (fun _ w => BoxAt w (nb + 1) Ans.zero.l)) 0 (by kernel_rfl) (by kernel_rfl) (Reg.GAllKept.at _ (kdeq14Rt_kept fb nb pc em)) (Reg.PInv.start 14 HZ.out.2.2.1.drew) ⟨?_, ?_, ?_, ?_, ?_, ?_, ?_, ?_, ?_, ?_, ?_, ?_, ?_, ?_, trivial⟩ ?_
    · refine Reg.GStepAt.plain (i := 0) rfl ?_
      intro x L ev w hI hk hp hA
      have hcc := hA.const
      clear hA hp
      refine Reg.out_value (v := .agg #[.bool false, .float .f64 0, .int .i64 0, .int .i64 0]) ?_ ⟨x, rfl, Reg.PPres.refl _ _ _, Reg.PInv.light HF hI 0 (by decide) (Below.refl _ _)⟩
      go_simp
    · refine Reg.GStepAt.plain (i := 1) rfl ?_
      intro x L ev w hI hk hp hA
      have e2 : ev (.tmp 2) = .pointer (some ⟨fb, 0, none⟩) := hA.oldNone 2 (by kernel_rfl)
      have hcc := hA.const
      clear hA hp
      refine Reg.out_value (v := .pointer (some ⟨fb, 0, none⟩)) ?_ ⟨x, rfl, Reg.PPres.refl _ _ _, Reg.PInv.light HF hI 1 (by decide) (Below.refl _ _)⟩
      go_simp
    · refine Reg.GStepAt.plain (i := 2) rfl ?_
      intro x L ev w hI hk hp hA
      have e55 : ev (.tmp 55) = .pointer (some ⟨fb, 0, none⟩) := hA.val 1 _ 55 rfl (hp ⟨1, .data⟩ (by simp) rfl) rfl
      have hcc := hA.const
      clear hA hp
      refine Reg.out_value (v := .pointer (some ⟨fb, 0, none⟩)) ?_ ⟨x, rfl, Reg.PPres.refl _ _ _, Reg.PInv.light HF hI 2 (by decide) (Below.refl _ _)⟩
      go_simp
    · refine Reg.GStepAt.plain (i := 3) rfl ?_
      intro x L ev w hI hk hp hA
      have e56 : ev (.tmp 56) = .pointer (some ⟨fb, 0, none⟩) := hA.val 2 _ 56 rfl (hp ⟨2, .data⟩ (by simp) rfl) rfl
      have hcc := hA.const
      clear hA hp
      refine Reg.out_value (v := .pointer (some ⟨fb, 5, none⟩)) ?_ ⟨x, rfl, Reg.PPres.refl _ _ _, Reg.PInv.light HF hI 3 (by decide) (Below.refl _ _)⟩
      go_simp
    · refine Reg.GStepAt.plain (i := 4) rfl ?_
      intro x L ev w hI hk hp hA
      have e57 : ev (.tmp 57) = .pointer (some ⟨fb, 5, none⟩) := hA.val 3 _ 57 rfl (hp ⟨3, .data⟩ (by simp) rfl) rfl
      have hcc := hA.const
      clear hA hp
      obtain ⟨f5, f10⟩ := FC.out w hI.2.1
      refine Reg.out_value (v := .int .i64 pc) ?_ ⟨x, rfl, Reg.PPres.refl _ _ _, Reg.PInv.light HF hI 4 (by decide) (Below.refl _ _)⟩
      go_simp
    · refine Reg.GStepAt.plain (i := 5) rfl ?_
      intro x L ev w hI hk hp hA
      have e58 : ev (.tmp 58) = .int .i64 pc := hA.val 4 _ 58 rfl (hp ⟨4, .data⟩ (by simp) rfl) rfl
      have hcc := hA.const
      clear hA hp
      refine Reg.out_value (v := .bool true) ?_ ⟨x, rfl, Reg.PPres.refl _ _ _, Reg.PInv.light HF hI 5 (by decide) (Below.refl _ _)⟩
      go_simp
    · refine Reg.GStepAt.plain (i := 6) rfl ?_
      intro x L ev w hI hk hp hA
      have e59 : ev (.tmp 59) = .bool true := hA.val 5 _ 59 rfl (hp ⟨5, .data⟩ (by simp) rfl) rfl
      have hcc := hA.const
      clear hA hp
      refine Reg.out_value (v := .bool true) ?_ ⟨x, rfl, Reg.PPres.refl _ _ _, Reg.PInv.light HF hI 6 (by decide) (Below.refl _ _)⟩
      go_simp
    · refine Reg.GStepAt.either (i := 7) rfl ?_
      intro x L ev w hI hk hp hA
      have e2 : ev (.tmp 2) = .pointer (some ⟨fb, 0, none⟩) := hA.oldNone 2 (by kernel_rfl)
      have eg : ev (.tmp 60) = .bool true := hA.val 6 _ 60 rfl (hp ⟨6, .guard⟩ (by simp) rfl) rfl
      refine ⟨_, 60, true, rfl, rfl, eg, ?_⟩
      rw [if_pos rfl]
      have hcc := hA.const
      clear hA hp
      refine Reg.out_value (v := .pointer (some ⟨fb, 0, none⟩)) ?_ ⟨x, rfl, Reg.PPres.refl _ _ _, Reg.PInv.light HF hI 7 (by decide) (Below.refl _ _)⟩
      go_simp
    · refine Reg.GStepAt.either (i := 8) rfl ?_
      intro x L ev w hI hk hp hA
      have e61 : ev (.tmp 61) = .pointer (some ⟨fb, 0, none⟩) := hA.val 7 _ 61 rfl (hp ⟨7, .data⟩ (by simp) rfl) rfl
      have eg : ev (.tmp 60) = .bool true := hA.val 6 _ 60 rfl (hp ⟨6, .guard⟩ (by simp) rfl) rfl
      refine ⟨_, 60, true, rfl, rfl, eg, ?_⟩
      rw [if_pos rfl]
      have hcc := hA.const
      clear hA hp
      refine Reg.out_value (v := .pointer (some ⟨fb, 0, none⟩)) ?_ ⟨x, rfl, Reg.PPres.refl _ _ _, Reg.PInv.light HF hI 8 (by decide) (Below.refl _ _)⟩
      go_simp
    · refine Reg.GStepAt.either (i := 9) rfl ?_
      intro x L ev w hI hk hp hA
      have e62 : ev (.tmp 62) = .pointer (some ⟨fb, 0, none⟩) := hA.val 8 _ 62 rfl (hp ⟨8, .data⟩ (by simp) rfl) rfl
      have eg : ev (.tmp 60) = .bool true := hA.val 6 _ 60 rfl (hp ⟨6, .guard⟩ (by simp) rfl) rfl
      refine ⟨_, 60, true, rfl, rfl, eg, ?_⟩
      rw [if_pos rfl]
      have hcc := hA.const
      clear hA hp
      refine Reg.out_value (v := .pointer (some ⟨fb, 10, none⟩)) ?_ ⟨x, rfl, Reg.PPres.refl _ _ _, Reg.PInv.light HF hI 9 (by decide) (Below.refl _ _)⟩
      go_simp
    · refine Reg.GStepAt.either (i := 10) rfl ?_
      intro x L ev w hI hk hp hA
      have e63 : ev (.tmp 63) = .pointer (some ⟨fb, 10, none⟩) := hA.val 9 _ 63 rfl (hp ⟨9, .data⟩ (by simp) rfl) rfl
      have eg : ev (.tmp 60) = .bool true := hA.val 6 _ 60 rfl (hp ⟨6, .guard⟩ (by simp) rfl) rfl
      refine ⟨_, 60, true, rfl, rfl, eg, ?_⟩
      rw [if_pos rfl]
      have hcc := hA.const
      clear hA hp
      obtain ⟨f5, f10⟩ := FC.out w hI.2.1
      refine Reg.out_value (v := .bool em) ?_ ⟨x, rfl, Reg.PPres.refl _ _ _, Reg.PInv.light HF hI 10 (by decide) (Below.refl _ _)⟩
      go_simp
    · refine Reg.GStepAt.plain (i := 11) rfl ?_
      intro x L ev w hI hk hp hA
      have e60 : ev (.tmp 60) = .bool true := hA.val 6 _ 60 rfl (hp ⟨6, .data⟩ (by simp) rfl) rfl
      have e64 : ev (.tmp 64) = .bool em := hA.val 10 _ 64 rfl (hp ⟨10, .data⟩ (by simp) rfl) rfl
      have hcc := hA.const
      clear hA hp
      refine Reg.out_value (v := .bool em) ?_ ⟨x, rfl, Reg.PPres.refl _ _ _, Reg.PInv.light HF hI 11 (by decide) (Below.refl _ _)⟩
      go_simp
    · refine Reg.GStepAt.plain (i := 12) rfl ?_
      intro x L ev w hI hk hp hA
      have e6 : ev (.tmp 6) = .pointer (some ⟨nb + 1, 0, none⟩) := hA.oldNone 6 (by kernel_rfl)
      have e54 : ev (.tmp 54) = .agg #[.bool false, .float .f64 0, .int .i64 0, .int .i64 0] := hA.val 0 _ 54 rfl (hp ⟨0, .data⟩ (by simp) rfl) rfl
      have hcc := hA.const
      clear hA hp
      have hT := hI.2.2
      obtain ⟨c0, y0⟩ := hT.get 0 _ rfl
      obtain ⟨c1, y1⟩ := hT.get 1 _ rfl
      obtain ⟨c2, y2⟩ := hT.get 2 _ rfl
      obtain ⟨c3, y3⟩ := hT.get 3 _ rfl
      have hset := setBox_box Ans.zero.s hT
      have hbS := setBox_but (nb + 1) Ans.zero.s w
      refine Reg.out_skipP (w' := setBox w (nb + 1) Ans.zero.s) ?_ ⟨x + 1, trivial, Reg.PPres.heavy hbS, Reg.PInv.heavy hI 12 (by decide) (by simp) hk hbS hset⟩
      clear hI hset hT hbS
      simp only [setBox]
      (go_simp; try rfl)
    · refine Reg.GStepAt.plain (i := 13) rfl ?_
      intro x L ev w hI hk hp hA
      have e65 : ev (.tmp 65) = .bool em := hA.val 11 _ 65 rfl (hp ⟨11, .data⟩ (by simp) rfl) rfl
      have hcc := hA.const
      clear hA hp
      refine Reg.out_value (v := .bool em) ?_ ⟨x, rfl, Reg.PPres.refl _ _ _, Reg.PInv.light HF hI 13 (by decide) (Below.refl _ _)⟩
      go_simp
    intro gx L act wz hall hI hF
    have g54 : act.eval (.tmp 54) = .agg #[.bool false, .float .f64 0, .int .i64 0, .int .i64 0] := hF.val 0 _ 54 rfl (hall 0 (by simp)) rfl
    have g55 : act.eval (.tmp 55) = .pointer (some ⟨fb, 0, none⟩) := hF.val 1 _ 55 rfl (hall 1 (by simp)) rfl
    have g56 : act.eval (.tmp 56) = .pointer (some ⟨fb, 0, none⟩) := hF.val 2 _ 56 rfl (hall 2 (by simp)) rfl
    have g57 : act.eval (.tmp 57) = .pointer (some ⟨fb, 5, none⟩) := hF.val 3 _ 57 rfl (hall 3 (by simp)) rfl
    have g58 : act.eval (.tmp 58) = .int .i64 pc := hF.val 4 _ 58 rfl (hall 4 (by simp)) rfl
    have g59 : act.eval (.tmp 59) = .bool true := hF.val 5 _ 59 rfl (hall 5 (by simp)) rfl
    have g60 : act.eval (.tmp 60) = .bool true := hF.val 6 _ 60 rfl (hall 6 (by simp)) rfl
    have g61 : act.eval (.tmp 61) = .pointer (some ⟨fb, 0, none⟩) := hF.val 7 _ 61 rfl (hall 7 (by simp)) rfl
    have g62 : act.eval (.tmp 62) = .pointer (some ⟨fb, 0, none⟩) := hF.val 8 _ 62 rfl (hall 8 (by simp)) rfl
    have g63 : act.eval (.tmp 63) = .pointer (some ⟨fb, 10, none⟩) := hF.val 9 _ 63 rfl (hall 9 (by simp)) rfl
    have g64 : act.eval (.tmp 64) = .bool em := hF.val 10 _ 64 rfl (hall 10 (by simp)) rfl
    have g65 : act.eval (.tmp 65) = .bool em := hF.val 11 _ 65 rfl (hall 11 (by simp)) rfl
    have g7 : act.eval (.tmp 7) = .bool em := hF.val 13 _ 7 rfl (hall 13 (by simp)) rfl
    have hact := hF.act [54, 55, 56, 57, 58, 59, 60, 61, 62, 63, 64, 65, 7] (by kernel_rfl)
    obtain ⟨hxz, hBz, hFz⟩ := Reg.PInv.done hI (fun j hj => hall j (by simp at hj ⊢; omega))
    clear hF hall
    simp only [List.foldl_cons, List.foldl_nil] at hact
    rw [g54, g55, g56, g57, g58, g59, g60, g61, g62, g63, g64, g65, g7] at hact
    clear g54 g55 g56 g57 g58 g59 g60 g61 g62 g63 g64 g65 g7
    simp only [List.setIfInBounds_toArray, List.set_cons_succ, List.set_cons_zero] at hact
    subst hact
    have hB4 : BoxAt wz (nb + 1) Ans.zero.l := hFz
    obtain ⟨hM3, hf3, hA3, hd3, hG3, hbw, hOl, hPl, hs1, hs2⟩ := HZ.out
    have HE := hidq (show StepEnd b fb O P r w (.returned (.tuple #[Ans.zero.v, .bool (em)])) wz from by
      have hsz := hBz.size
      rw [HR2.out]
      refine ⟨rfl, O, P2, hM3.but hBz (fun k hk e => by have := hOl _ hk; omega), hf3.but hBz (fun k hk e => by
        rcases hG3 k hk with q | q
        · have := hPl _ q; omega
        · omega), hd3, Grown.refl _ _ _, fun k hk => (hG3 k hk).imp id (fun e => ⟨by omega, by omega⟩), hbw.then hBz (fun j hj e => by omega)⟩)
    have HB4 := hidq hB4
    clear hM3 hf3 hA3 hd3 hG3 hbw hOl hPl hs1 hs2 hB4 hBz hFz HF hxz HZ FC HR2
    go_wp2
    exact ret_ans (A := Ans.zero) Try.results116 HB4.out rfl rfl rfl HE.out
  · have T4 : (pc == 4) = false := by simpa using h4
    have T5 : decide (pc = 4) = false := by simpa using h4
    have hr2 : r = (M, F9, Ans.zero, false) := by rw [hr1, T5]; simp
    have HR2 := hidq hr2
    clear hr2 hr1 h4
    go_wp2_with fail
    have HF : ∀ (x : Nat) w w', Below w.heap.size w w' → (fun (_ : Nat) w => BoxAt w (nb + 1) Ans.zero.l) x w → (fun (_ : Nat) w => BoxAt w (nb + 1) Ans.zero.l) x w' := fun x w w' hb hh => BoxAt.below hh hb
    refine Reg.wp_region_ghost (Reg.gofList (kdeq14Rf fb nb pc em)) (Reg.PPres (fun j => j = nb + 1)) (Reg.PInv [12] (fun j => j = nb + 1) W3 (fun _ w => BoxAt w (nb + 1) Ans.zero.l)) 0 (by kernel_rfl) (by kernel_rfl) (Reg.GAllKept.at _ (kdeq14Rf_kept fb nb pc em)) (Reg.PInv.start 14 HZ.out.2.2.1.drew) ⟨?_, ?_, ?_, ?_, ?_, ?_, ?_, ?_, ?_, ?_, ?_, ?_, ?_, ?_, trivial⟩ ?_
    · refine Reg.GStepAt.plain (i := 0) rfl ?_
      intro x L ev w hI hk hp hA
      have hcc := hA.const
      clear hA hp
      refine Reg.out_value (v := .agg #[.bool false, .float .f64 0, .int .i64 0, .int .i64 0]) ?_ ⟨x, rfl, Reg.PPres.refl _ _ _, Reg.PInv.light HF hI 0 (by decide) (Below.refl _ _)⟩
      go_simp
    · refine Reg.GStepAt.plain (i := 1) rfl ?_
      intro x L ev w hI hk hp hA
      have e2 : ev (.tmp 2) = .pointer (some ⟨fb, 0, none⟩) := hA.oldNone 2 (by kernel_rfl)
      have hcc := hA.const
      clear hA hp
      refine Reg.out_value (v := .pointer (some ⟨fb, 0, none⟩)) ?_ ⟨x, rfl, Reg.PPres.refl _ _ _, Reg.PInv.light HF hI 1 (by decide) (Below.refl _ _)⟩
      go_simp
    · refine Reg.GStepAt.plain (i := 2) rfl ?_
      intro x L ev w hI hk hp hA
      have e55 : ev (.tmp 55) = .pointer (some ⟨fb, 0, none⟩) := hA.val 1 _ 55 rfl (hp ⟨1, .data⟩ (by simp) rfl) rfl
      have hcc := hA.const
      clear hA hp
      refine Reg.out_value (v := .pointer (some ⟨fb, 0, none⟩)) ?_ ⟨x, rfl, Reg.PPres.refl _ _ _, Reg.PInv.light HF hI 2 (by decide) (Below.refl _ _)⟩
      go_simp
    · refine Reg.GStepAt.plain (i := 3) rfl ?_
      intro x L ev w hI hk hp hA
      have e56 : ev (.tmp 56) = .pointer (some ⟨fb, 0, none⟩) := hA.val 2 _ 56 rfl (hp ⟨2, .data⟩ (by simp) rfl) rfl
      have hcc := hA.const
      clear hA hp
      refine Reg.out_value (v := .pointer (some ⟨fb, 5, none⟩)) ?_ ⟨x, rfl, Reg.PPres.refl _ _ _, Reg.PInv.light HF hI 3 (by decide) (Below.refl _ _)⟩
      go_simp
    · refine Reg.GStepAt.plain (i := 4) rfl ?_
      intro x L ev w hI hk hp hA
      have e57 : ev (.tmp 57) = .pointer (some ⟨fb, 5, none⟩) := hA.val 3 _ 57 rfl (hp ⟨3, .data⟩ (by simp) rfl) rfl
      have hcc := hA.const
      clear hA hp
      obtain ⟨f5, f10⟩ := FC.out w hI.2.1
      refine Reg.out_value (v := .int .i64 pc) ?_ ⟨x, rfl, Reg.PPres.refl _ _ _, Reg.PInv.light HF hI 4 (by decide) (Below.refl _ _)⟩
      go_simp
    · refine Reg.GStepAt.plain (i := 5) rfl ?_
      intro x L ev w hI hk hp hA
      have e58 : ev (.tmp 58) = .int .i64 pc := hA.val 4 _ 58 rfl (hp ⟨4, .data⟩ (by simp) rfl) rfl
      have hcc := hA.const
      clear hA hp
      refine Reg.out_value (v := .bool false) ?_ ⟨x, rfl, Reg.PPres.refl _ _ _, Reg.PInv.light HF hI 5 (by decide) (Below.refl _ _)⟩
      go_simp
    · refine Reg.GStepAt.plain (i := 6) rfl ?_
      intro x L ev w hI hk hp hA
      have e59 : ev (.tmp 59) = .bool false := hA.val 5 _ 59 rfl (hp ⟨5, .data⟩ (by simp) rfl) rfl
      have hcc := hA.const
      clear hA hp
      refine Reg.out_value (v := .bool false) ?_ ⟨x, rfl, Reg.PPres.refl _ _ _, Reg.PInv.light HF hI 6 (by decide) (Below.refl _ _)⟩
      go_simp
    · refine Reg.GStepAt.either (i := 7) rfl ?_
      intro x L ev w hI hk hp hA
      have e2 : ev (.tmp 2) = .pointer (some ⟨fb, 0, none⟩) := hA.oldNone 2 (by kernel_rfl)
      have eg : ev (.tmp 60) = .bool false := hA.val 6 _ 60 rfl (hp ⟨6, .guard⟩ (by simp) rfl) rfl
      refine ⟨_, 60, false, rfl, rfl, eg, ?_⟩
      rw [if_neg (by decide)]
      have hcc := hA.const
      clear hA hp
      exact ⟨trivial, Reg.PInv.light HF hI 7 (by decide) (Below.refl _ _)⟩
    · refine Reg.GStepAt.either (i := 8) rfl ?_
      intro x L ev w hI hk hp hA
      have e61 : (fun _ _ _ => True) (ev (.tmp 61)) x w := hA.val 7 _ 61 rfl (hp ⟨7, .data⟩ (by simp) rfl) rfl
      have eg : ev (.tmp 60) = .bool false := hA.val 6 _ 60 rfl (hp ⟨6, .guard⟩ (by simp) rfl) rfl
      refine ⟨_, 60, false, rfl, rfl, eg, ?_⟩
      rw [if_neg (by decide)]
      have hcc := hA.const
      clear hA hp
      exact ⟨trivial, Reg.PInv.light HF hI 8 (by decide) (Below.refl _ _)⟩
    · refine Reg.GStepAt.either (i := 9) rfl ?_
      intro x L ev w hI hk hp hA
      have e62 : (fun _ _ _ => True) (ev (.tmp 62)) x w := hA.val 8 _ 62 rfl (hp ⟨8, .data⟩ (by simp) rfl) rfl
      have eg : ev (.tmp 60) = .bool false := hA.val 6 _ 60 rfl (hp ⟨6, .guard⟩ (by simp) rfl) rfl
      refine ⟨_, 60, false, rfl, rfl, eg, ?_⟩
      rw [if_neg (by decide)]
      have hcc := hA.const
      clear hA hp
      exact ⟨trivial, Reg.PInv.light HF hI 9 (by decide) (Below.refl _ _)⟩
    · refine Reg.GStepAt.either (i := 10) rfl ?_
      intro x L ev w hI hk hp hA
      have e63 : (fun _ _ _ => True) (ev (.tmp 63)) x w := hA.val 9 _ 63 rfl (hp ⟨9, .data⟩ (by simp) rfl) rfl
      have eg : ev (.tmp 60) = .bool false := hA.val 6 _ 60 rfl (hp ⟨6, .guard⟩ (by simp) rfl) rfl
      refine ⟨_, 60, false, rfl, rfl, eg, ?_⟩
      rw [if_neg (by decide)]
      have hcc := hA.const
      clear hA hp
      exact ⟨trivial, Reg.PInv.light HF hI 10 (by decide) (Below.refl _ _)⟩
    · refine Reg.GStepAt.plain (i := 11) rfl ?_
      intro x L ev w hI hk hp hA
      have e60 : ev (.tmp 60) = .bool false := hA.val 6 _ 60 rfl (hp ⟨6, .data⟩ (by simp) rfl) rfl
      have e64 : (fun _ _ _ => True) (ev (.tmp 64)) x w := hA.val 10 _ 64 rfl (hp ⟨10, .data⟩ (by simp) rfl) rfl
      have hcc := hA.const
      clear hA hp
      refine Reg.out_value (v := .bool false) ?_ ⟨x, rfl, Reg.PPres.refl _ _ _, Reg.PInv.light HF hI 11 (by decide) (Below.refl _ _)⟩
      go_simp
    · refine Reg.GStepAt.plain (i := 12) rfl ?_
      intro x L ev w hI hk hp hA
      have e6 : ev (.tmp 6) = .pointer (some ⟨nb + 1, 0, none⟩) := hA.oldNone 6 (by kernel_rfl)
      have e54 : ev (.tmp 54) = .agg #[.bool false, .float .f64 0, .int .i64 0, .int .i64 0] := hA.val 0 _ 54 rfl (hp ⟨0, .data⟩ (by simp) rfl) rfl
      have hcc := hA.const
      clear hA hp
      have hT := hI.2.2
      obtain ⟨c0, y0⟩ := hT.get 0 _ rfl
      obtain ⟨c1, y1⟩ := hT.get 1 _ rfl
      obtain ⟨c2, y2⟩ := hT.get 2 _ rfl
      obtain ⟨c3, y3⟩ := hT.get 3 _ rfl
      have hset := setBox_box Ans.zero.s hT
      have hbS := setBox_but (nb + 1) Ans.zero.s w
      refine Reg.out_skipP (w' := setBox w (nb + 1) Ans.zero.s) ?_ ⟨x + 1, trivial, Reg.PPres.heavy hbS, Reg.PInv.heavy hI 12 (by decide) (by simp) hk hbS hset⟩
      clear hI hset hT hbS
      simp only [setBox]
      (go_simp; try rfl)
    · refine Reg.GStepAt.plain (i := 13) rfl ?_
      intro x L ev w hI hk hp hA
      have e65 : ev (.tmp 65) = .bool false := hA.val 11 _ 65 rfl (hp ⟨11, .data⟩ (by simp) rfl) rfl
      have hcc := hA.const
      clear hA hp
      refine Reg.out_value (v := .bool false) ?_ ⟨x, rfl, Reg.PPres.refl _ _ _, Reg.PInv.light HF hI 13 (by decide) (Below.refl _ _)⟩
      go_simp
    intro gx L act wz hall hI hF
    have g54 : act.eval (.tmp 54) = .agg #[.bool false, .float .f64 0, .int .i64 0, .int .i64 0] := hF.val 0 _ 54 rfl (hall 0 (by simp)) rfl
    have g55 : act.eval (.tmp 55) = .pointer (some ⟨fb, 0, none⟩) := hF.val 1 _ 55 rfl (hall 1 (by simp)) rfl
    have g56 : act.eval (.tmp 56) = .pointer (some ⟨fb, 0, none⟩) := hF.val 2 _ 56 rfl (hall 2 (by simp)) rfl
    have g57 : act.eval (.tmp 57) = .pointer (some ⟨fb, 5, none⟩) := hF.val 3 _ 57 rfl (hall 3 (by simp)) rfl
    have g58 : act.eval (.tmp 58) = .int .i64 pc := hF.val 4 _ 58 rfl (hall 4 (by simp)) rfl
    have g59 : act.eval (.tmp 59) = .bool false := hF.val 5 _ 59 rfl (hall 5 (by simp)) rfl
    have g60 : act.eval (.tmp 60) = .bool false := hF.val 6 _ 60 rfl (hall 6 (by simp)) rfl
    have g61 : (fun _ _ _ => True) (act.eval (.tmp 61)) gx wz := hF.val 7 _ 61 rfl (hall 7 (by simp)) rfl
    have g62 : (fun _ _ _ => True) (act.eval (.tmp 62)) gx wz := hF.val 8 _ 62 rfl (hall 8 (by simp)) rfl
    have g63 : (fun _ _ _ => True) (act.eval (.tmp 63)) gx wz := hF.val 9 _ 63 rfl (hall 9 (by simp)) rfl
    have g64 : (fun _ _ _ => True) (act.eval (.tmp 64)) gx wz := hF.val 10 _ 64 rfl (hall 10 (by simp)) rfl
    have g65 : act.eval (.tmp 65) = .bool false := hF.val 11 _ 65 rfl (hall 11 (by simp)) rfl
    have g7 : act.eval (.tmp 7) = .bool false := hF.val 13 _ 7 rfl (hall 13 (by simp)) rfl
    have hact := hF.act [54, 55, 56, 57, 58, 59, 60, 61, 62, 63, 64, 65, 7] (by kernel_rfl)
    obtain ⟨hxz, hBz, hFz⟩ := Reg.PInv.done hI (fun j hj => hall j (by simp at hj ⊢; omega))
    clear hF hall
    simp only [List.foldl_cons, List.foldl_nil] at hact
    rw [g54, g55, g56, g57, g58, g59, g60, g65, g7] at hact
    clear g54 g55 g56 g57 g58 g59 g60 g65 g7
    generalize act.eval (.tmp 61) = u61 at hact g61
    generalize act.eval (.tmp 62) = u62 at hact g62
    generalize act.eval (.tmp 63) = u63 at hact g63
    generalize act.eval (.tmp 64) = u64 at hact g64
    simp only [List.setIfInBounds_toArray, List.set_cons_succ, List.set_cons_zero] at hact
    subst hact
    have hB4 : BoxAt wz (nb + 1) Ans.zero.l := hFz
    obtain ⟨hM3, hf3, hA3, hd3, hG3, hbw, hOl, hPl, hs1, hs2⟩ := HZ.out
    have HE := hidq (show StepEnd b fb O P r w (.returned (.tuple #[Ans.zero.v, .bool (false)])) wz from by
      have hsz := hBz.size
      rw [HR2.out]
      refine ⟨rfl, O, P2, hM3.but hBz (fun k hk e => by have := hOl _ hk; omega), hf3.but hBz (fun k hk e => by
        rcases hG3 k hk with q | q
        · have := hPl _ q; omega
        · omega), hd3, Grown.refl _ _ _, fun k hk => (hG3 k hk).imp id (fun e => ⟨by omega, by omega⟩), hbw.then hBz (fun j hj e => by omega)⟩)
    have HB4 := hidq hB4
    clear hM3 hf3 hA3 hd3 hG3 hbw hOl hPl hs1 hs2 hB4 hBz hFz HF hxz HZ FC HR2
    go_wp2
    exact ret_ans (A := Ans.zero) Try.results116 HB4.out rfl rfl rfl HE.out

set_option maxRecDepth 20000 in
set_option maxHeartbeats 8000000 in
theorem kdeq_3 (k : Int) (w : World) (b fb : Nat) (O P : Nat → Prop) (M : Mem) (F : Fr) (h : MemAt w b O M) (hf : FrAt w fb P F) (hd : ∀ k, O k → ¬ P k) (x : KI) (hk : 1 ≤ k ∧ k ≤ 16) (hs : 0 ≤ F.seen ∧ F.seen ≤ 100) (hck : M.clock < 4611686018427387904) (hp : F.pc = 3) (hx : F.c1.L = kit [x]) :
    Calls Try.prog 116 #[.agg #[.int .i64 k], .pointer (some ⟨b, 0, none⟩), .pointer (some ⟨fb, 0, none⟩)] w (StepEnd b fb O P (kDeq k M F) w) := by
  obtain ⟨nb, hnb⟩ : ∃ nb, w.heap.size = nb := ⟨_, rfl⟩
  obtain ⟨W1, hW1', hb1, hs1, hQ1, hA1⟩ := two_new w [.int .i64 k] Ans.zero.l 57 48 0
  have hW1 : (w.alloc (.cells #[.int .i64 k] 57)).alloc (.cells #[.bool false, .float .f64 0, .int .i64 0, .int .i64 0] 48) = W1 := hW1'
  clear hW1'
  rw [hnb] at hQ1 hA1 hs1
  have hsf := run_store_flt (P := Try.prog)
  have hf1 := hf.below hb1
  have hM1 := h.below hb1
  obtain ⟨a0, k0, a1, k1, hB1, hS01, hS11, hi0, hi1⟩ := hf1.box
  have f5 := (hB1.get 5 _ rfl).1
  have hfl := hB1.lt
  have hfp := hf.lt _ hf.ob
  have q0 := (hQ1.get 0 _ rfl).1
  have hql := hQ1.lt
  rw [kDeq_3 hp hx]
  have f5z : W1.cell? ⟨fb, 5, none⟩ = some (.int .i64 3) := by rw [f5, hp]
  have f16 : W1.cell? ⟨fb, 16, none⟩ = some (.slice a1 1 k1) := by rw [(hB1.get 16 _ rfl).1, hx]; rfl
  have hS1x : SlAt 2 W1 a1 k1 1 (flatI (kit [x])) := by
    have := hS11
    rw [hx] at this
    exact this
  have hN := hidq (first1_any a1 k1 x W1 hS1x)
  obtain ⟨r, hr⟩ : ∃ r, kWrite k 2 [] x.b x.v M F = r := ⟨_, rfl⟩
  rw [hr]
  have HR := hidq hr
  have HO := hidq (And.intro h (And.intro hf (And.intro hd (And.intro hb1 (And.intro hQ1 (And.intro hA1 (And.intro hs1 hnb)))))))
  have HK := hidq (And.intro hk (And.intro hs hck))
  obtain ⟨xp, hxp⟩ : ∃ xp, x.b = xp := ⟨_, rfl⟩
  obtain ⟨xv, hxv⟩ : ∃ xv, x.v = xv := ⟨_, rfl⟩
  rw [hxp, hxv] at HR hN
  clear h hf hd hf1 hM1 hB1 hS01 hS11 hi0 hi1 hQ1 hA1 hb1 hs1 f5 hp hk hs hck hr hx hS1x hxp hxv
  go_enter Try.func116, Try.ntmps116
  go_wp2_with fail
  refine hN.out.mono ?_
  rintro e w2 ⟨pb, rfl, hb2, hFs⟩
  have HFs := hidq hFs
  have HB2 := hidq hb2
  clear hFs hb2 hN
  go_wp2_with fail
  refine HFs.out.mono ?_
  rintro e w3 ⟨rfl, hb3⟩
  obtain ⟨h, hf, hd, hb1, hQ1, hA1, hs1, hnb2⟩ := HO.out
  obtain ⟨W4, hW4', hb4, hs4, hX4⟩ := one_new w3 [.float .f64 xp, .int .i64 xv] 35
  have hW4 : w3.alloc (.cells #[.float .f64 xp, .int .i64 xv] 35) = W4 := hW4'
  have hb13 : Below W1.heap.size W1 w3 := HB2.out.trans (hb3.mono HB2.out.size)
  have hb14 : Below W1.heap.size W1 W4 := hb13.trans (hb4.mono hb13.size)
  have hb04 : Below w.heap.size w W4 := hb1.trans (hb14.mono hb1.size)
  obtain ⟨hk, hs, hck⟩ := HK.out
  have q4 := ((hQ1.below hb14).get 0 _ rfl).1
  have hq4l := (hQ1.below hb14).lt
  have x0 := (hX4.get 0 _ rfl).1
  have x1 := (hX4.get 1 _ rfl).1
  have hxl := hX4.lt
  have hWr : Calls Try.prog 119 #[.agg #[.int .i64 k], .pointer (some ⟨b, 0, none⟩), .pointer (some ⟨fb, 0, none⟩), .agg #[.int .i64 2, .slice none 0 0], .agg #[.float .f64 xp, .int .i64 xv]] W4 (StepEnd b fb O P r W4) := by
    have := kwrite_any k 2 W4 b fb O P M F none 0 0 [] xp xv (h.below hb04) (hf.below hb04) hd hk hs rfl (SlAt.nil _ _) (fun j hj => by obtain ⟨y, hy, _⟩ := hj; cases hy) (by decide) hck
    rw [HR.out] at this
    exact this
  have HWr := hidq hWr
  have FIN := hidq (fun e w5 (hE : StepEnd b fb O P r W4 e w5) => And.intro (stepEnd_on hb04 h.lt hf.lt hE (hA1.below hb14) (by omega)) (show BoxAt w5 (nb + 1) Ans.zero.l from by
    obtain ⟨_, O', P', _, _, _, _, _, h6⟩ := hE
    refine (hA1.below hb14).but h6 (fun e => ?_)
    rcases e with e | e
    · have := h.lt _ e; omega
    · have := hf.lt _ e; omega))
  clear h hf hd hb1 hQ1 hA1 hs1 hnb2 hb3 hb4 hX4 hb13 hb14 hb04 hWr hk hs hck HO HK HR hW4' hs4 HB2 HFs q0 hql f5z f16 hW1
  go_wp2_with fail
  refine HWr.out.mono ?_
  intro e w5 hE
  obtain ⟨⟨e1, e2⟩, e0⟩ := FIN.out _ _ hE
  obtain ⟨rfl, _⟩ := hE
  obtain ⟨M', F', A, dn⟩ := r
  obtain ⟨aok, api, av, an⟩ := A
  dsimp only at e1 e2 e0 ⊢
  obtain ⟨g0, u0⟩ := e0.get 0 _ rfl
  obtain ⟨g1, u1⟩ := e0.get 1 _ rfl
  obtain ⟨g2, u2⟩ := e0.get 2 _ rfl
  obtain ⟨g3, u3⟩ := e0.get 3 _ rfl
  have hal := e0.lt
  have E1 := hidq (And.intro e1 e2)
  clear e0 e1 e2 FIN HWr hW4 x0 x1 q4
  go_wp2
  exact ret_ans Try.results116 E1.out.1 rfl rfl rfl E1.out.2

set_option maxRecDepth 20000 in
set_option maxHeartbeats 8000000 in
theorem kdeq_4 (k : Int) (w : World) (b fb : Nat) (O P : Nat → Prop) (M : Mem) (F : Fr) (h : MemAt w b O M) (hf : FrAt w fb P F) (hd : ∀ k, O k → ¬ P k) (hsg : 0 ≤ F.seg ∧ F.seg < 9223372036854775807) (hck : M.clock < 4611686018427387904) (hp0 : F.pc ≠ 0) (hp1 : F.pc ≠ 1) (hp2 : F.pc ≠ 2) (hp3 : F.pc ≠ 3) :
    Calls Try.prog 116 #[.agg #[.int .i64 k], .pointer (some ⟨b, 0, none⟩), .pointer (some ⟨fb, 0, none⟩)] w (StepEnd b fb O P (kDeq k M F) w) := by
  obtain ⟨nb, hnb⟩ : ∃ nb, w.heap.size = nb := ⟨_, rfl⟩
  obtain ⟨W1, hW1', hb1, hs1, hQ1, hA1⟩ := two_new w [.int .i64 k] Ans.zero.l 57 48 0
  have hW1 : (w.alloc (.cells #[.int .i64 k] 57)).alloc (.cells #[.bool false, .float .f64 0, .int .i64 0, .int .i64 0] 48) = W1 := hW1'
  clear hW1'
  rw [hnb] at hQ1 hA1 hs1
  have hsf := run_store_flt (P := Try.prog)
  have hf1 := hf.below hb1
  have hM1 := h.below hb1
  obtain ⟨a0, k0, a1, k1, hB1, hS01, hS11, hi0, hi1⟩ := hf1.box
  have f5 := (hB1.get 5 _ rfl).1
  have hfl := hB1.lt
  have hfp := hf.lt _ hf.ob
  have q0 := (hQ1.get 0 _ rfl).1
  have hql := hQ1.lt
  have t0 : (F.pc == 0) = false := by simpa using hp0
  have t1 : (F.pc == 1) = false := by simpa using hp1
  have t2 : (F.pc == 2) = false := by simpa using hp2
  have t3 : (F.pc == 3) = false := by simpa using hp3
  rw [kDeq_4 hp0 hp1 hp2 hp3]
  have hMv := hidq (kmove_any W1 b fb O P M F hM1 hf1 hd hsg hck)
  have FIN := hidq (fun e w5 (hE : StepEnd b fb O P (kMove M F) W1 e w5) => And.intro (stepEnd_on hb1 h.lt hf.lt hE hA1 (by omega)) (show BoxAt w5 (nb + 1) Ans.zero.l from by
    obtain ⟨_, O', P', _, _, _, _, _, h6⟩ := hE
    refine hA1.but h6 (fun e => ?_)
    rcases e with e | e
    · have := h.lt _ e; omega
    · have := hf.lt _ e; omega))
  obtain ⟨pc, hpc⟩ : ∃ pc, F.pc = pc := ⟨_, rfl⟩
  rw [hpc] at t0 t1 t2 t3 f5
  generalize kMove M F = r at *
  clear h hf hd hf1 hM1 hB1 hS01 hS11 hi0 hi1 hQ1 hA1 hb1 hs1 hp0 hp1 hp2 hp3 hsg hck hpc
  go_enter Try.func116, Try.ntmps116
  go_wp2_with fail
  refine hMv.out.mono ?_
  intro e w5 hE
  obtain ⟨⟨e1, e2⟩, e0⟩ := FIN.out _ _ hE
  obtain ⟨rfl, _⟩ := hE
  obtain ⟨M', F', A, dn⟩ := r
  obtain ⟨aok, api, av, an⟩ := A
  dsimp only at e1 e2 e0 ⊢
  obtain ⟨g0, u0⟩ := e0.get 0 _ rfl
  obtain ⟨g1, u1⟩ := e0.get 1 _ rfl
  obtain ⟨g2, u2⟩ := e0.get 2 _ rfl
  obtain ⟨g3, u3⟩ := e0.get 3 _ rfl
  have hal := e0.lt
  have E1 := hidq (And.intro e1 e2)
  clear e0 e1 e2 FIN hMv hW1 f5 q0
  go_wp2
  exact ret_ans Try.results116 E1.out.1 rfl rfl rfl E1.out.2
end Go.Proofs.Ytclcmabohpoaiaa

namespace Go.Proofs.Ytclcmabohpoaiaa
open Go.RowKit Go.Sort

/-- An operation that nobody disturbs, up to so many steps. -/
def alone (st : StepFn) : Nat → Mem → Fr → Mem × Ans × Bool
  | 0, M, _ => (M, Ans.zero, false)
  | n + 1, M, F => if (st M F).2.2.2 = true then ((st M F).1, (st M F).2.2.1, true) else alone st n (st M F).1 (st M F).2.1
theorem alone_done {st : StepFn} {n : Nat} {M M' : Mem} {F F' : Fr} {A : Ans} (h : st M F = (M', F', A, true)) : alone st (n + 1) M F = (M', A, true) := by
  unfold alone; rw [h]; rfl
theorem alone_on {st : StepFn} {n : Nat} {M M' : Mem} {F F' : Fr} {A : Ans} (h : st M F = (M', F', A, false)) : alone st (n + 1) M F = alone st n M' F' := by
  conv => lhs; unfold alone
  rw [h]; rfl

/-- A machine whose steps keep to what is asked of them. -/
structure Fine (G : Mem → Fr → Prop) (st : StepFn) : Prop where
  on : ∀ M F, G M F → (st M F).2.2.2 = false → G (st M F).1 (st M F).2.1
  clock : ∀ M F, (st M F).1.clock ≤ M.clock + 1

/-- How it ends. -/
def AEnd (b : Nat) (O : Nat → Prop) (r : Mem × Ans × Bool) (w : World) (e : Ending) (w' : World) : Prop :=
  e = .returned (.tuple #[r.2.1.v, .bool r.2.2]) ∧ ∃ O', MemAt w' b O' r.1 ∧ Grown O w w' O' ∧ But O w w'

/-- A machine in a box, a memory beside it, all made since w. -/
structure St (w W : World) (sb : Nat) (l : List Value) (mb : Nat) (O : Nat → Prop) (M : Mem) : Prop where
  mem : MemAt W mb O M
  own : ∀ k, O k → w.heap.size ≤ k ∧ k ≠ sb
  box : BoxAt W sb l
  low : Below w.heap.size w W
section
variable {w W W' : World} {sb mb : Nat} {l : List Value} {O O' : Nat → Prop} {M M' : Mem}
theorem St.call (h : St w W sb l mb O M) (h1 : MemAt W' mb O' M') (h2 : Grown O W W' O') (h3 : But O W W') : St w W' sb l mb O' M' := by
  refine ⟨h1, fun k hk => ?_, h.box.but h3 (fun e => (h.own _ e).2 rfl), h.low.trans (h3.below h.low.size (fun k e => (h.own k e).1))⟩
  rcases h2 k hk with e | e
  · exact h.own k e
  · have := h.box.lt; have := h.low.size; omega
theorem St.below (h : St w W sb l mb O M) (hb : Below W.heap.size W W') : St w W' sb l mb O M :=
  ⟨h.mem.below hb, h.own, h.box.below hb, h.low.trans (hb.mono h.low.size)⟩
theorem St.alloc (h : St w W sb l mb O M) (o : Obj) : St w (W.alloc o) sb l mb O M := h.below ((Below.refl _ _).alloc (Nat.le_refl _) o)
end

end Go.Proofs.Ytclcmabohpoaiaa

namespace Go.Proofs.Ytclcmabohpoaiaa
open Go.RowKit Go.Sort

/-- A queue's step. -/
def kStep (k : Int) : StepFn := fun M F => if F.kind = 3 then kEnq k M F else kDeq k M F
/-- A queue's memory. -/
def KM (M : Mem) : Prop := (∀ i, 0 ≤ (M.cell i).n ∧ (M.cell i).n ≤ (M.clock : Int) + 2) ∧ ∀ i, 2 ≤ i → (M.cell i).n = 1 → ∃ x : KI, (M.cell i).L = kit [x]
/-- What is asked of a memory and a frame. -/
structure kGood (k : Int) (M : Mem) (F : Fr) : Prop where
  kind : F.kind = 3 ∨ F.kind = 4
  seen : 0 ≤ F.seen ∧ F.seen ≤ 16
  below : F.pc = 1 ∨ F.pc = 2 → F.seen < k
  seg : 0 ≤ F.seg ∧ F.seg ≤ (M.clock : Int) + 2
  at_ : F.at_ = 0 ∨ F.at_ = 1
  pri : F.pri < 18446744073709551616
  full : F.kind = 4 → F.pc = 3 → ∃ x : KI, F.c1.L = kit [x]
  mem : KM M
theorem KM.empty : KM Mem.empty := ⟨fun _ => ⟨Int.le_refl _, by show (0 : Int) ≤ 0 + 2; omega⟩, fun i _ h => by cases h⟩
theorem KM.look {M : Mem} (h : KM M) (i : Int) : 0 ≤ (M.look i).n ∧ (M.look i).n ≤ (M.clock : Int) + 2 := by
  unfold Mem.look
  split
  · exact ⟨Int.le_refl _, by show (0 : Int) ≤ _; omega⟩
  · exact h.1 _
theorem KM.put {M : Mem} (h : KM M) (i : Nat) (n : Int) (L : List It) (h0 : 0 ≤ n) (h1 : n ≤ (M.clock : Int) + 3) (h2 : 2 ≤ i → n = 1 → ∃ x : KI, L = kit [x]) : KM (M.put i n L) := by
  refine ⟨fun j => ?_, fun j hj hn => ?_⟩
  · show 0 ≤ (if j = i then (⟨_, n, L⟩ : CV) else M.cell j).n ∧ (if j = i then (⟨_, n, L⟩ : CV) else M.cell j).n ≤ ((M.clock + 1 : Nat) : Int) + 2
    split
    · exact ⟨h0, by show n ≤ _; omega⟩
    · have := h.1 j; omega
  · have hn' : (if j = i then (⟨((M.clock + 1 : Nat) : Int), n, L⟩ : CV) else M.cell j).n = 1 := hn
    show ∃ x : KI, (if j = i then (⟨((M.clock + 1 : Nat) : Int), n, L⟩ : CV) else M.cell j).L = kit [x]
    by_cases e : j = i
    · subst e
      rw [if_pos rfl] at hn' ⊢
      exact h2 hj hn'
    · rw [if_neg e] at hn' ⊢
      exact h.2 j hj hn'
theorem KM.write {M : Mem} (h : KM M) (i v n : Int) (L : List It) (h0 : 0 ≤ n) (h1 : n ≤ (M.clock : Int) + 3) (h2 : 2 ≤ i → n = 1 → ∃ x : KI, L = kit [x]) : KM (M.write i v n L) := by
  rcases write_as (M := M) (i := i) (v := v) (x := n) (L := L) with ⟨_, e, k, hk, _, _⟩ | ⟨_, e⟩
  · rw [e]; exact h.put _ n L h0 h1 (fun q => h2 (by omega))
  · rw [e]; exact h
theorem write_clock (M : Mem) (i v n : Int) (L : List It) : (M.write i v n L).clock ≤ M.clock + 1 ∧ M.clock ≤ (M.write i v n L).clock := by
  unfold Mem.write
  split
  · exact ⟨Nat.le_refl _, Nat.le_succ _⟩
  · exact ⟨Nat.le_succ _, Nat.le_refl _⟩
/-- Where a slot lies. -/
theorem kAt_ge {k : Int} {F : Fr} (hk : 1 ≤ k) : kAt k F = -1 ∨ 2 ≤ kAt k F := by
  by_cases h : F.seg < 0 ∨ 1000 < F.seg
  · exact .inl (kAt_out h)
  · rw [kAt_in (by omega)]
    have := into_rng (d := into F.d0 k + F.seen) (n := k) hk
    have h2 : 0 ≤ F.seg * k := Int.mul_nonneg (by omega) (by omega)
    unfold kslot
    right; omega
theorem kLook_pc {k w : Int} {M : Mem} {F : Fr} : (kLook k w M F).kind = F.kind ∧ (kLook k w M F).seg = F.seg ∧ (kLook k w M F).at_ = F.at_ ∧ (kLook k w M F).pri = F.pri := by
  unfold kLook; split <;> exact ⟨rfl, rfl, rfl, rfl⟩
theorem kLook_good {k w : Int} {M : Mem} {F : Fr} (hk : 1 ≤ k ∧ k ≤ 16) (hp : F.pc = 2) (hw : F.kind = 4 → w = 1) (h : kGood k M F) : kGood k M (kLook k w M F) := by
  have hs := h.below (.inr hp)
  have h0 := h.seen
  by_cases hy : (M.look (kAt k F)).n = w
  · rw [kLook_yes hy]
    refine ⟨h.kind, h.seen, fun e => ?_, h.seg, h.at_, h.pri, fun e _ => ?_, h.mem⟩
    · rcases e with e | e
      · exact absurd (show (3 : Int) = 1 from e) (by decide)
      · exact absurd (show (3 : Int) = 2 from e) (by decide)
    · rw [hw e] at hy
      rcases kAt_ge (k := k) (F := F) hk.1 with q | q
      · rw [q] at hy; rw [look_neg (by decide)] at hy; exact absurd (show (0 : Int) = 1 from hy) (by decide)
      · obtain ⟨a, ha⟩ : ∃ a : Nat, kAt k F = (a : Int) := ⟨(kAt k F).toNat, by omega⟩
        rw [ha, look_nat] at hy
        obtain ⟨x, hx⟩ := h.mem.2 a (by omega) hy
        exact ⟨x, by show (M.look (kAt k F)).L = _; rw [ha, look_nat]; exact hx⟩
  · rw [kLook_no hy]
    refine ⟨h.kind, (show 0 ≤ F.seen + 1 ∧ F.seen + 1 ≤ 16 by omega), fun e => ?_, h.seg, h.at_, h.pri, fun _ e => ?_, h.mem⟩
    · show F.seen + 1 < k
      by_cases hl : F.seen + 1 = k
      · have e' : (if F.seen + 1 = k then (4 : Int) else F.pc) = 1 ∨ (if F.seen + 1 = k then (4 : Int) else F.pc) = 2 := e
        rw [if_pos hl] at e'
        omega
      · omega
    · have e' : (if F.seen + 1 = k then (4 : Int) else F.pc) = 3 := e
      split at e'
      · omega
      · omega
theorem kMove_mem {M : Mem} {F : Fr} (hs : 0 ≤ F.seg ∧ F.seg ≤ (M.clock : Int) + 2) (ha : F.at_ = 0 ∨ F.at_ = 1) (h : KM M) : KM (kMove M F).1 :=
  h.write F.at_ F.c0.ver (F.seg + 1) [] (by omega) (by omega) (fun e => by omega)
theorem kMove_good {k : Int} {M : Mem} {F : Fr} (h : kGood k M F) : kGood k (kMove M F).1 (kMove M F).2.1 := by
  have hc := write_clock M F.at_ F.c0.ver (F.seg + 1) []
  have hs := h.seg
  refine ⟨h.kind, h.seen, (fun e => by rcases e with e | e <;> exact absurd (show (0 : Int) = _ from e) (by decide)), ⟨hs.1, ?_⟩, h.at_, h.pri, (fun _ e => absurd (show (0 : Int) = 3 from e) (by decide)), kMove_mem hs h.at_ h.mem⟩
  show F.seg ≤ ((M.write F.at_ F.c0.ver (F.seg + 1) []).clock : Int) + 2
  omega
theorem kWrite_mem {k x : Int} {L : List It} {p : Nat} {v : Int} {M : Mem} {F : Fr} (h : KM M) (h0 : 0 ≤ x) (h1 : x ≤ 2) (h2 : x = 1 → ∃ y : KI, L = kit [y]) : KM (kWrite k x L p v M F).1 :=
  h.write _ _ _ _ h0 (by omega) (fun _ => h2)
theorem enq_item {p : Nat} (v : Int) (h : p < 18446744073709551616) : [(cbits p, v)] = kit [mkKI p v] := by
  show _ = [((mkKI p v).b, (mkKI p v).v)]
  rw [mkKI_b h, mkKI_v h]
theorem kStep_mem {k : Int} {M : Mem} {F : Fr} (h : kGood k M F) : KM (kStep k M F).1 := by
  unfold kStep
  split
  · by_cases h0 : F.pc = 0
    · rw [kEnq_0 h0]; exact h.mem
    · by_cases h2 : F.pc = 2
      · rw [kEnq_2 h2]; exact h.mem
      · by_cases h3 : F.pc = 3
        · rw [kEnq_3 h3]; exact kWrite_mem h.mem (by decide) (by decide) (fun _ => ⟨mkKI F.pri F.val, enq_item F.val h.pri⟩)
        · rw [kEnq_4 h0 h2 h3]; exact kMove_mem h.seg h.at_ h.mem
  · next hne =>
    have hk4 : F.kind = 4 := h.kind.resolve_left hne
    by_cases h0 : F.pc = 0
    · rw [kDeq_0 h0]; exact h.mem
    · by_cases h1 : F.pc = 1
      · by_cases hy : (M.look 1).n = F.seg
        · rw [kDeq_1y h1 hy]; exact h.mem
        · rw [kDeq_1n h1 hy]; exact h.mem
      · by_cases h2 : F.pc = 2
        · rw [kDeq_2 h2]; exact h.mem
        · by_cases h3 : F.pc = 3
          · obtain ⟨x, hx⟩ := h.full hk4 h3
            rw [kDeq_3 h3 hx]; exact kWrite_mem h.mem (by decide) (by decide) (fun e => absurd e (by decide))
          · rw [kDeq_4 h0 h1 h2 h3]; exact kMove_mem h.seg h.at_ h.mem
theorem kWrite_no {k x : Int} {L : List It} {p : Nat} {v : Int} {M : Mem} {F : Fr} (h : kGood k M F) (hd : (kWrite k x L p v M F).2.2.2 = false) : kGood k (kWrite k x L p v M F).1 (kWrite k x L p v M F).2.1 := by
  have hc : M.can (kAt k F) F.c1.ver = false := hd
  have e : (kWrite k x L p v M F).1 = M := by
    show M.write (kAt k F) F.c1.ver x L = M
    unfold Mem.write; rw [hc]; rfl
  rw [e]
  exact ⟨h.kind, h.seen, (fun e => by rcases e with e | e <;> exact absurd (show (0 : Int) = _ from e) (by decide)), h.seg, h.at_, h.pri, (fun _ e => absurd (show (0 : Int) = 3 from e) (by decide)), h.mem⟩
theorem kFine (k : Int) (hk : 1 ≤ k ∧ k ≤ 16) : Fine (kGood k) (kStep k) := by
  refine ⟨fun M F h hd => ?_, fun M F => ?_⟩
  · unfold kStep at hd ⊢
    have hl0 := h.mem.look 0
    have hl1 := h.mem.look 1
    split at hd
    · next h3k =>
      rw [if_pos h3k]
      by_cases h0 : F.pc = 0
      · rw [kEnq_0 h0]
        exact ⟨h.kind, ⟨Int.le_refl _, by show (0 : Int) ≤ 16; decide⟩, fun _ => by show (0 : Int) < k; omega, hl1, .inr rfl, h.pri, (fun e _ => by rw [show (kBegin M F 1).kind = F.kind from rfl] at e; omega), h.mem⟩
      · by_cases h2 : F.pc = 2
        · rw [kEnq_2 h2]; exact kLook_good hk h2 (fun e => by omega) h
        · by_cases h3 : F.pc = 3
          · rw [kEnq_3 h3] at hd ⊢; exact kWrite_no h hd
          · rw [kEnq_4 h0 h2 h3]; exact kMove_good h
    · next hne =>
      rw [if_neg hne]
      have hk4 : F.kind = 4 := h.kind.resolve_left hne
      by_cases h0 : F.pc = 0
      · rw [kDeq_0 h0]
        exact ⟨h.kind, ⟨Int.le_refl _, by show (0 : Int) ≤ 16; decide⟩, fun _ => by show (0 : Int) < k; omega, hl0, .inl rfl, h.pri, (fun _ e => absurd (show (1 : Int) = 3 from e) (by decide)), h.mem⟩
      · by_cases h1 : F.pc = 1
        · have hs := h.below (.inl h1)
          by_cases hy : (M.look 1).n = F.seg
          · rw [kDeq_1y h1 hy]
            exact ⟨h.kind, h.seen, fun _ => hs, h.seg, .inr rfl, h.pri, (fun _ e => absurd (show (2 : Int) = 3 from e) (by decide)), h.mem⟩
          · rw [kDeq_1n h1 hy]
            exact ⟨h.kind, h.seen, fun _ => hs, h.seg, h.at_, h.pri, (fun _ e => absurd (show (2 : Int) = 3 from e) (by decide)), h.mem⟩
        · by_cases h2 : F.pc = 2
          · rw [kDeq_2 h2]; exact kLook_good hk h2 (fun _ => rfl) h
          · by_cases h3 : F.pc = 3
            · obtain ⟨x, hx⟩ := h.full hk4 h3
              rw [kDeq_3 h3 hx] at hd ⊢; exact kWrite_no h hd
            · rw [kDeq_4 h0 h1 h2 h3]; exact kMove_good h
  · unfold kStep
    have hw := fun i v n L => (write_clock M i v n L).1
    split
    · unfold kEnq; split
      · exact Nat.le_succ _
      · split
        · exact Nat.le_succ _
        · split
          · exact hw _ _ _ _
          · exact hw _ _ _ _
    · unfold kDeq; split
      · exact Nat.le_succ _
      · split
        · exact Nat.le_succ _
        · split
          · exact Nat.le_succ _
          · split
            · exact hw _ _ _ _
            · exact hw _ _ _ _
/-- One that begins. -/
theorem kGood.start {k : Int} {M : Mem} (hk : 1 ≤ k) (kind : Int) (p : Nat) (v d0 d1 : Int) (hkd : kind = 3 ∨ kind = 4) (hp : p < 18446744073709551616) (h : KM M) : kGood k M (Fr.of kind p v d0 d1) :=
  ⟨hkd, ⟨Int.le_refl _, by show (0 : Int) ≤ 16; decide⟩, (fun _ => by show (0 : Int) < k; omega), ⟨Int.le_refl _, by show (0 : Int) ≤ _; omega⟩, .inl rfl, hp, (fun _ e => absurd (show (0 : Int) = 3 from e) (by decide)), h⟩
theorem KM.alone {k : Int} (hk : 1 ≤ k ∧ k ≤ 16) : ∀ (n : Nat) (M : Mem) (F : Fr), kGood k M F → KM (alone (kStep k) n M F).1
  | 0, _, _, h => h.mem
  | n + 1, M, F, h => by
    unfold Go.Proofs.Ytclcmabohpoaiaa.alone
    split
    · exact kStep_mem h
    · next hd => exact KM.alone hk n _ _ ((kFine k hk).on M F h (by simpa using hd))
end Go.Proofs.Ytclcmabohpoaiaa

namespace Go.Proofs.Ytclcmabohpoaiaa
open Go.RowKit Go.Sort

/-- Some steps, none of them the last. -/
def Runs (st : StepFn) (n : Nat) (M : Mem) (F : Fr) (M' : Mem) (F' : Fr) : Prop := ∀ f, alone st (n + f) M F = alone st f M' F'
theorem Runs.refl (st : StepFn) (M : Mem) (F : Fr) : Runs st 0 M F M F := fun f => by rw [Nat.zero_add]
theorem Runs.one {st : StepFn} {M M' : Mem} {F F' : Fr} {A : Ans} (h : st M F = (M', F', A, false)) : Runs st 1 M F M' F' := fun f => by rw [Nat.add_comm]; exact alone_on h
theorem Runs.trans {st : StepFn} {n m : Nat} {M M1 M2 : Mem} {F F1 F2 : Fr} (h : Runs st n M F M1 F1) (g : Runs st m M1 F1 M2 F2) : Runs st (n + m) M F M2 F2 := fun f => by rw [Nat.add_assoc, h, g]
theorem Runs.done {st : StepFn} {n f : Nat} {M M1 M2 : Mem} {F F1 F2 : Fr} {A : Ans} (h : Runs st n M F M1 F1) (g : st M1 F1 = (M2, F2, A, true)) (hf : n + 1 ≤ f) : alone st f M F = (M2, A, true) := by
  obtain ⟨m, rfl⟩ : ∃ m, f = n + (m + 1) := ⟨f - n - 1, by omega⟩
  rw [h]; exact alone_done g
theorem Runs.cast {st : StepFn} {n m : Nat} {M M1 : Mem} {F F1 : Fr} (h : Runs st n M F M1 F1) (e : n = m) : Runs st m M F M1 F1 := e ▸ h

/-- A slot's cell. -/
def sl (k s j : Nat) : Nat := 2 + s * k + j
theorem sl_inj {k s j s' j' : Nat} (hj : j < k) (hj' : j' < k) (h : sl k s j = sl k s' j') : s = s' ∧ j = j' := by
  unfold sl at h
  have e1 : (s * k + j) / k = s := by rw [Nat.mul_comm, Nat.mul_add_div (by omega), Nat.div_eq_of_lt hj]; rfl
  have e2 : (s' * k + j') / k = s' := by rw [Nat.mul_comm, Nat.mul_add_div (by omega), Nat.div_eq_of_lt hj']; rfl
  have h2 : s * k + j = s' * k + j' := by omega
  have h3 : s = s' := by rw [← e1, h2, e2]
  subst h3
  exact ⟨rfl, by omega⟩
theorem sl_ge (k s j : Nat) : 2 ≤ sl k s j := by unfold sl; omega
theorem kAt_sl {k s u dd : Nat} {F : Fr} (hk : 1 ≤ k) (hs : F.seg = (s : Int)) (hs1 : s ≤ 1000) (hd : into F.d0 (k : Int) = (dd : Int)) (hu : F.seen = (u : Int)) : kAt (k : Int) F = ((sl k s ((dd + u) % k) : Nat) : Int) := by
  rw [kAt_in (by omega), hs, hd, hu]
  unfold kslot sl
  rw [into_hi (by omega), ← Int.natCast_add, ← Int.natCast_emod, ← Int.natCast_mul]
  omega
theorem cover {k dd j : Nat} (hd : dd < k) (hj : j < k) : ∃ v, v < k ∧ (dd + v) % k = j := by
  by_cases h : dd ≤ j
  · exact ⟨j - dd, by omega, by rw [show dd + (j - dd) = j by omega]; exact Nat.mod_eq_of_lt hj⟩
  · exact ⟨j + k - dd, by omega, by rw [show dd + (j + k - dd) = j + k by omega, Nat.add_mod_right]; exact Nat.mod_eq_of_lt hj⟩

/-- An Enq looks at slot after slot. -/
theorem enq_look {k s dd : Nat} (hk : 1 ≤ k ∧ k ≤ 16) (hs : s ≤ 1000) (M : Mem) : ∀ (m u : Nat) (F : Fr), u + m = k → 1 ≤ m → F.kind = 3 → F.pc = 2 → F.seen = (u : Int) → F.seg = (s : Int) → into F.d0 (k : Int) = (dd : Int) →
    (∃ v c e, u ≤ v ∧ v < k ∧ c = M.cell (sl k s ((dd + v) % k)) ∧ c.n = 0 ∧ Runs (kStep k) (v - u + 1) M F M { F with seen := (v : Int), empty := e, c1 := c, pc := 3 }) ∨
    ((∀ v, u ≤ v → v < k → (M.cell (sl k s ((dd + v) % k))).n ≠ 0) ∧ ∃ e, Runs (kStep k) m M F M { F with seen := (k : Int), empty := e, pc := 4 })
  | 0, _, _, _, h, _, _, _, _, _ => by omega
  | m + 1, u, F, hm, _, h3, h2, hu, hsg, hd => by
    have hat := kAt_sl (u := u) hk.1 hsg hs hd hu
    have hst : kStep k M F = (M, kLook k 0 M F, Ans.zero, false) := by unfold kStep; rw [if_pos h3, kEnq_2 h2]
    have hlk : M.look (kAt k F) = M.cell (sl k s ((dd + u) % k)) := by rw [hat, look_nat]
    by_cases hz : (M.cell (sl k s ((dd + u) % k))).n = 0
    · left
      rw [kLook_yes (by rw [hlk]; exact hz), hlk] at hst
      refine ⟨u, _, (F.empty || decide ((M.cell (sl k s ((dd + u) % k))).n = 0)), Nat.le_refl _, by omega, rfl, hz, ?_⟩
      rw [Nat.sub_self]
      have := Runs.one hst
      rw [show ({ F with seen := (u : Int), empty := F.empty || decide ((M.cell (sl k s ((dd + u) % k))).n = 0), c1 := M.cell (sl k s ((dd + u) % k)), pc := 3 } : Fr) = { F with empty := F.empty || decide ((M.cell (sl k s ((dd + u) % k))).n = 0), c1 := M.cell (sl k s ((dd + u) % k)), pc := 3 } from by rw [← hu]]
      exact this
    · rw [kLook_no (by rw [hlk]; exact hz), hlk] at hst
      by_cases hl : m = 0
      · subst hl
        right
        refine ⟨fun v h1 h2 => by rw [show v = u by omega]; exact hz, ?_⟩
        rw [if_pos (by rw [hu]; omega)] at hst
        refine ⟨(F.empty || decide ((M.cell (sl k s ((dd + u) % k))).n = 0)), ?_⟩
        rw [show (k : Int) = F.seen + 1 by rw [hu]; omega]
        have := Runs.one hst
        rw [show (k : Int) = F.seen + 1 by rw [hu]; omega] at this
        exact this
      · rw [if_neg (by rw [hu]; omega)] at hst
        have ih := enq_look (k := k) (s := s) (dd := dd) hk hs M m (u + 1) { F with empty := F.empty || decide ((M.cell (sl k s ((dd + u) % k))).n = 0), seen := F.seen + 1, pc := F.pc } (by omega) (by omega) h3 h2 (by show F.seen + 1 = _; rw [hu]; omega) hsg hd
        rcases ih with ⟨v, c, e, q1, q2, q3, q4, q5⟩ | ⟨q1, e, q2⟩
        · exact .inl ⟨v, c, e, by omega, q2, q3, q4, ((Runs.one hst).trans q5).cast (by omega)⟩
        · refine .inr ⟨fun v h1 h2 => ?_, e, ((Runs.one hst).trans q2).cast (by omega)⟩
          by_cases hv : v = u
          · rw [hv]; exact hz
          · exact q1 v (by omega) h2
/-- A Deq looks at slot after slot. -/
theorem deq_look {k s dd : Nat} (hk : 1 ≤ k ∧ k ≤ 16) (hs : s ≤ 1000) (M : Mem) : ∀ (m u : Nat) (F : Fr), u + m = k → 1 ≤ m → F.kind = 4 → F.pc = 2 → F.seen = (u : Int) → F.seg = (s : Int) → into F.d0 (k : Int) = (dd : Int) →
    (∃ v c e, u ≤ v ∧ v < k ∧ c = M.cell (sl k s ((dd + v) % k)) ∧ c.n = 1 ∧ Runs (kStep k) (v - u + 1) M F M { F with seen := (v : Int), empty := e, c1 := c, pc := 3 }) ∨
    ((∀ v, u ≤ v → v < k → (M.cell (sl k s ((dd + v) % k))).n ≠ 1) ∧ (((F.empty = true ∨ ∃ v, u ≤ v ∧ v < k ∧ (M.cell (sl k s ((dd + v) % k))).n = 0) ∧ ∀ f, alone (kStep k) (m + f) M F = (M, Ans.zero, true)) ∨
      (F.empty = false ∧ (∀ v, u ≤ v → v < k → (M.cell (sl k s ((dd + v) % k))).n ≠ 0) ∧ Runs (kStep k) m M F M { F with seen := (k : Int), empty := false, pc := 4 })))
  | 0, _, _, _, h, _, _, _, _, _ => by omega
  | m + 1, u, F, hm, _, h4, h2, hu, hsg, hd => by
    have hat := kAt_sl (u := u) hk.1 hsg hs hd hu
    have hst : kStep k M F = (M, kLook k 1 M F, Ans.zero, decide ((kLook k 1 M F).pc = 4) && (kLook k 1 M F).empty) := by unfold kStep; rw [if_neg (by omega), kDeq_2 h2]
    have hlk : M.look (kAt k F) = M.cell (sl k s ((dd + u) % k)) := by rw [hat, look_nat]
    by_cases hz : (M.cell (sl k s ((dd + u) % k))).n = 1
    · left
      rw [kLook_yes (by rw [hlk]; exact hz), hlk] at hst
      refine ⟨u, _, (F.empty || decide ((M.cell (sl k s ((dd + u) % k))).n = 0)), Nat.le_refl _, by omega, rfl, hz, ?_⟩
      rw [Nat.sub_self]
      have := Runs.one (st := kStep k) (M := M) (F := F) (A := Ans.zero) (by rw [hst]; rfl)
      rw [show ({ F with seen := (u : Int), empty := F.empty || decide ((M.cell (sl k s ((dd + u) % k))).n = 0), c1 := M.cell (sl k s ((dd + u) % k)), pc := 3 } : Fr) = { F with empty := F.empty || decide ((M.cell (sl k s ((dd + u) % k))).n = 0), c1 := M.cell (sl k s ((dd + u) % k)), pc := 3 } from by rw [← hu]]
      exact this
    · rw [kLook_no (by rw [hlk]; exact hz), hlk] at hst
      obtain ⟨e, he⟩ : ∃ e, (F.empty || decide ((M.cell (sl k s ((dd + u) % k))).n = 0)) = e := ⟨_, rfl⟩
      rw [he] at hst
      by_cases hl : m = 0
      · subst hl
        right
        refine ⟨fun v h1 h2 => by rw [show v = u by omega]; exact hz, ?_⟩
        rw [if_pos (by rw [hu]; omega)] at hst
        cases e with
        | true =>
          left
          refine ⟨?_, fun f => ?_⟩
          · by_cases q : F.empty = true
            · exact .inl q
            · refine .inr ⟨u, Nat.le_refl _, by omega, ?_⟩
              rw [show F.empty = false by simpa using q] at he
              simpa using he
          · rw [Nat.add_comm]; exact alone_done (hst.trans rfl)
        | false =>
          right
          have he2 : F.empty = false ∧ ¬ (M.cell (sl k s ((dd + u) % k))).n = 0 := by simpa using he
          refine ⟨he2.1, fun v h1 h2 => by rw [show v = u by omega]; exact he2.2, ?_⟩
          have := Runs.one (st := kStep k) (M := M) (F := F) (A := Ans.zero) (hst.trans rfl)
          rw [show (k : Int) = F.seen + 1 by rw [hu]; omega]
          rw [show (k : Int) = F.seen + 1 by rw [hu]; omega] at this
          exact this
      · rw [if_neg (by rw [hu]; omega)] at hst
        have hst2 : kStep k M F = (M, { F with empty := e, seen := F.seen + 1, pc := F.pc }, Ans.zero, false) := by
          rw [hst]
          show (_, _, _, decide (F.pc = 4) && e) = _
          rw [h2]; rfl
        have ih := deq_look (k := k) (s := s) (dd := dd) hk hs M m (u + 1) { F with empty := e, seen := F.seen + 1, pc := F.pc } (by omega) (by omega) h4 h2 (by show F.seen + 1 = _; rw [hu]; omega) hsg hd
        rcases ih with ⟨v, c, e', q1, q2, q3, q4, q5⟩ | ⟨q1, q2⟩
        · exact .inl ⟨v, c, e', by omega, q2, q3, q4, ((Runs.one hst2).trans q5).cast (by omega)⟩
        · refine .inr ⟨fun v h1 h2 => ?_, ?_⟩
          · by_cases hv : v = u
            · rw [hv]; exact hz
            · exact q1 v (by omega) h2
          · rcases q2 with ⟨q3, q4⟩ | ⟨q3, q4, q5⟩
            · left
              refine ⟨?_, fun f => ?_⟩
              · rcases q3 with q3 | ⟨v, q5, q6, q7⟩
                · have q3' : e = true := q3
                  rw [q3'] at he
                  by_cases q : F.empty = true
                  · exact .inl q
                  · refine .inr ⟨u, Nat.le_refl _, by omega, ?_⟩
                    rw [show F.empty = false by simpa using q] at he
                    simpa using he
                · exact .inr ⟨v, by omega, q6, q7⟩
              · rw [show m + 1 + f = 1 + (m + f) by omega, Runs.one hst2, q4]
            · right
              have q3' : e = false := q3
              rw [q3'] at he
              have he2 : F.empty = false ∧ ¬ (M.cell (sl k s ((dd + u) % k))).n = 0 := by simpa using he
              refine ⟨he2.1, fun v h1 h2 => ?_, ((Runs.one hst2).trans q5).cast (by omega)⟩
              by_cases hv : v = u
              · rw [hv]; exact he2.2
              · exact q4 v (by omega) h2

/-- The items of a segment. -/
def slotI (M : Mem) (k s j : Nat) : Option KI := if (M.cell (sl k s j)).n = 1 then some ((kis (M.cell (sl k s j)).L).headD default) else none
def segI (M : Mem) (k s : Nat) : List KI := (List.range k).filterMap (slotI M k s)
theorem kis_kit1 (x : KI) : (kis (kit [x])).headD default = x := by
  show mkKI x.b x.v = x
  exact mkKI_self x
theorem fm_congr {f g : Nat → Option KI} : ∀ {l : List Nat}, (∀ i ∈ l, g i = f i) → l.filterMap g = l.filterMap f
  | [], _ => rfl
  | a :: l, h => by rw [List.filterMap_cons, List.filterMap_cons, h a List.mem_cons_self, fm_congr (fun i hi => h i (List.mem_cons_of_mem _ hi))]
theorem filterMap_add {f g : Nat → Option KI} {x : KI} {j k : Nat} (hj : j < k) (h0 : f j = none) (h1 : g j = some x) (h : ∀ i, i ≠ j → g i = f i) : ((List.range k).filterMap g).Perm ((List.range k).filterMap f ++ [x]) := by
  obtain ⟨m, rfl⟩ : ∃ m, k = j + 1 + m := ⟨k - j - 1, by omega⟩
  rw [List.range_add, List.range_succ]
  simp only [List.filterMap_append, List.filterMap_cons, List.filterMap_nil, h0, h1]
  have e1 : (List.range j).filterMap g = (List.range j).filterMap f := fm_congr (fun i hi => h i (by have := List.mem_range.1 hi; omega))
  have e2 : ((List.range m).map (fun i => j + 1 + i)).filterMap g = ((List.range m).map (fun i => j + 1 + i)).filterMap f := fm_congr (fun i hi => by
    obtain ⟨a, _, rfl⟩ := List.mem_map.1 hi
    exact h _ (by omega))
  rw [e1, e2, List.append_nil, List.append_assoc, List.append_assoc]
  exact List.Perm.append_left _ List.perm_append_comm
/-- What is there, segment by segment. -/
def Blocks (M : Mem) (k : Nat) : Nat → Nat → List KI → Prop
  | _, 0, l => l = []
  | s, n + 1, l => ∃ a b, l = a ++ b ∧ a.Perm (segI M k s) ∧ Blocks M k (s + 1) n b
theorem Blocks.congr {M M' : Mem} {k : Nat} : ∀ (n s : Nat) (l : List KI), (∀ i, s ≤ i → i < s + n → segI M' k i = segI M k i) → Blocks M k s n l → Blocks M' k s n l
  | 0, _, _, _, h => h
  | n + 1, s, l, he, ⟨a, b, h1, h2, h3⟩ => ⟨a, b, h1, by rw [he s (Nat.le_refl _) (by omega)]; exact h2, Blocks.congr n (s + 1) b (fun i hi hi2 => he i (by omega) (by omega)) h3⟩
theorem Blocks.more {M : Mem} {k : Nat} : ∀ (n s : Nat) (l : List KI), segI M k (s + n) = [] → Blocks M k s n l → Blocks M k s (n + 1) l
  | 0, s, l, he, h => by
    have hl : l = [] := h
    subst hl
    exact ⟨[], [], rfl, by rw [show segI M k s = [] from he], rfl⟩
  | n + 1, s, l, he, ⟨a, b, h1, h2, h3⟩ => ⟨a, b, h1, h2, Blocks.more n (s + 1) b (by rw [show s + 1 + n = s + (n + 1) by omega]; exact he) h3⟩
theorem Blocks.snoc {M M' : Mem} {k : Nat} {x : KI} : ∀ (n s : Nat) (l : List KI), (∀ i, s ≤ i → i < s + n → segI M' k i = segI M k i) → (segI M' k (s + n)).Perm (segI M k (s + n) ++ [x]) → Blocks M k s (n + 1) l → Blocks M' k s (n + 1) (l ++ [x])
  | 0, s, l, _, hp, ⟨a, b, h1, h2, h3⟩ => by
    have hb : b = [] := h3
    subst hb
    rw [List.append_nil] at h1
    subst h1
    exact ⟨l ++ [x], [], by simp, (List.Perm.append_right [x] h2).trans hp.symm, rfl⟩
  | n + 1, s, l, he, hp, ⟨a, b, h1, h2, h3⟩ => by
    subst h1
    have ih := Blocks.snoc (M := M) (M' := M') (k := k) (x := x) n (s + 1) b (fun i hi hi2 => he i (by omega) (by omega)) (by rw [show s + 1 + n = s + (n + 1) by omega]; exact hp) h3
    exact ⟨a, b ++ [x], by rw [List.append_assoc], by rw [he s (Nat.le_refl _) (by omega)]; exact h2, ih⟩

/-- A queue's memory, with nobody at work. -/
structure QI (k : Nat) (M : Mem) (h t : Nat) (l : List KI) : Prop where
  hd : (M.cell 0).n = (h : Int)
  tl : (M.cell 1).n = (t : Int)
  le : h ≤ t
  late : ∀ s j, j < k → t < s → (M.cell (sl k s j)).n = 0
  mid : ∀ s j, j < k → s < t → (M.cell (sl k s j)).n ≠ 0
  fresh : ∀ s j, j < k → h < s → (M.cell (sl k s j)).n ≠ 2
  two : ∀ s j, j < k → (M.cell (sl k s j)).n = 0 ∨ (M.cell (sl k s j)).n = 1 ∨ (M.cell (sl k s j)).n = 2
  items : Blocks M k h (t + 1 - h) l
  km : KM M
theorem segI_congr {M M' : Mem} {k s : Nat} (h : ∀ j, j < k → M'.cell (sl k s j) = M.cell (sl k s j)) : segI M' k s = segI M k s := by
  unfold segI
  exact fm_congr (fun j hj => by unfold slotI; rw [h j (List.mem_range.1 hj)])
theorem segI_none {M : Mem} {k s : Nat} (h : ∀ j, j < k → (M.cell (sl k s j)).n ≠ 1) : segI M k s = [] := by
  unfold segI
  rw [List.filterMap_eq_nil_iff]
  intro j hj
  unfold slotI
  rw [if_neg (h j (List.mem_range.1 hj))]
theorem put_same (M : Mem) (i : Nat) (n : Int) (L : List It) : (M.put i n L).cell i = ⟨((M.clock + 1 : Nat) : Int), n, L⟩ := if_pos rfl
theorem put_other (M : Mem) {i j : Nat} (n : Int) (L : List It) (h : j ≠ i) : (M.put i n L).cell j = M.cell j := if_neg h
theorem QI.empty (k : Nat) : QI k Mem.empty 0 0 [] := by
  refine ⟨rfl, rfl, Nat.le_refl _, fun _ _ _ _ => rfl, fun s _ _ h => by omega, fun _ _ _ _ => (by show (0 : Int) ≠ 2; decide), fun _ _ _ => .inl rfl, ⟨[], [], rfl, ?_, rfl⟩, KM.empty⟩
  rw [segI_none (fun _ _ => by show (0 : Int) ≠ 1; decide)]
/-- The tail moves on. -/
theorem QI.tail {k h t : Nat} {M : Mem} {l : List KI} (q : QI k M h t l) (hfull : ∀ j, j < k → (M.cell (sl k t j)).n ≠ 0) : QI k (M.put 1 ((t : Int) + 1) []) h (t + 1) l := by
  have ho : ∀ s j, (M.put 1 ((t : Int) + 1) []).cell (sl k s j) = M.cell (sl k s j) := fun s j => put_other _ _ _ (by have := sl_ge k s j; omega)
  have hb := q.km.1 1
  rw [q.tl] at hb
  refine ⟨by rw [put_other _ _ _ (by decide)]; exact q.hd, by rw [put_same]; show (t : Int) + 1 = _; omega, by have := q.le; omega, fun s j hj hs => by rw [ho]; exact q.late s j hj (by omega), fun s j hj hs => ?_, fun s j hj hs => by rw [ho]; exact q.fresh s j hj hs, fun s j hj => by rw [ho]; exact q.two s j hj, ?_, q.km.put 1 _ [] (by omega) (by omega) (fun e => by omega)⟩
  · rw [ho]
    by_cases e : s = t
    · rw [e]; exact hfull j hj
    · exact q.mid s j hj (by omega)
  · have := q.le
    rw [show t + 1 + 1 - h = (t + 1 - h) + 1 by omega]
    refine Blocks.congr _ _ _ (fun i _ _ => segI_congr (fun j _ => ho i j)) (Blocks.more _ _ _ ?_ q.items)
    exact segI_none (fun j hj => by rw [q.late _ j hj (by omega)]; decide)
/-- A slot is Full. -/
theorem QI.enq {k h t j : Nat} {M : Mem} {l : List KI} {x : KI} (q : QI k M h t l) (hj : j < k) (hz : (M.cell (sl k t j)).n = 0) : QI k (M.put (sl k t j) 1 (kit [x])) h t (l ++ [x]) := by
  have hg := sl_ge k t j
  have hle := q.le
  have ho : ∀ s i, i < k → ¬ (s = t ∧ i = j) → (M.put (sl k t j) 1 (kit [x])).cell (sl k s i) = M.cell (sl k s i) := fun s i hi hn => put_other _ _ _ (fun e => hn (sl_inj hi hj e))
  have hn : ∀ s i, i < k → ((M.put (sl k t j) 1 (kit [x])).cell (sl k s i)).n = if s = t ∧ i = j then 1 else (M.cell (sl k s i)).n := fun s i hi => by
    by_cases e : s = t ∧ i = j
    · rw [if_pos e, e.1, e.2, put_same]
    · rw [if_neg e, ho s i hi e]
  refine ⟨by rw [put_other _ _ _ (by omega)]; exact q.hd, by rw [put_other _ _ _ (by omega)]; exact q.tl, hle, fun s i hi hs => ?_, fun s i hi hs => ?_, fun s i hi hs => ?_, fun s i hi => ?_, ?_, q.km.put _ 1 _ (by decide) (by omega) (fun _ _ => ⟨x, rfl⟩)⟩
  · rw [hn s i hi, if_neg (by omega)]; exact q.late s i hi hs
  · rw [hn s i hi, if_neg (by omega)]; exact q.mid s i hi hs
  · rw [hn s i hi]; split
    · decide
    · exact q.fresh s i hi hs
  · rw [hn s i hi]; split
    · exact .inr (.inl rfl)
    · exact q.two s i hi
  · rw [show t + 1 - h = (t - h) + 1 by omega]
    have hbl := q.items
    rw [show t + 1 - h = (t - h) + 1 by omega] at hbl
    refine Blocks.snoc _ _ _ (fun s h1 h2 => segI_congr (fun i hi => ho s i hi (by omega))) ?_ hbl
    rw [show h + (t - h) = t by omega]
    refine filterMap_add hj (by unfold slotI; rw [hz]; rfl) (by unfold slotI; rw [put_same]; show some _ = _; rw [kis_kit1]) (fun i hi => ?_)
    unfold slotI
    by_cases hik : i < k
    · rw [ho t i hik (by omega)]
    · unfold sl
      rw [put_other _ _ _ (by omega)]

theorem can_self {M : Mem} {i : Nat} (hi : i < 1000) : M.can (i : Int) (M.cell i).ver = true := can_yes hi rfl
theorem write_self {M : Mem} {i : Nat} (hi : i < 1000) (n : Int) (L : List It) : M.write (i : Int) (M.cell i).ver n L = M.put i n L := by
  unfold Mem.write; rw [can_self hi, if_pos rfl]; rfl
theorem fits_nat {k t : Nat} (_hk : 1 ≤ k) (h : kfits (k : Int) (t : Int) = true) : t ≤ 1000 ∧ ∀ j, j < k → sl k t j < 1000 := by
  unfold kfits kslot at h
  have h2 := of_decide_eq_true h
  refine ⟨by omega, fun j hj => ?_⟩
  have h3 : (2 : Int) + ((t * k : Nat) : Int) + ((k : Int) - 1) < 1000 := by rw [Int.natCast_mul]; exact h2.2.2
  unfold sl
  omega
/-- An Enq's slot is written. -/
theorem enq_put {k s dd v : Nat} {M : Mem} {F : Fr} {c : CV} {e : Bool} (hk : 1 ≤ k ∧ k ≤ 16) (h3 : F.kind = 3) (hsg : F.seg = (s : Int)) (hs : s ≤ 1000) (hd : into F.d0 (k : Int) = (dd : Int)) (hc : c = M.cell (sl k s ((dd + v) % k))) (hw : sl k s ((dd + v) % k) < 1000) (hp : F.pri < 18446744073709551616) :
    kStep k M { F with seen := (v : Int), empty := e, c1 := c, pc := 3 } = (M.put (sl k s ((dd + v) % k)) 1 (kit [mkKI F.pri F.val]), { F with seen := (v : Int), empty := e, c1 := c, pc := 0 }, ⟨true, cbits F.pri, F.val, 0⟩, true) := by
  have hat := kAt_sl (F := { F with seen := (v : Int), empty := e, c1 := c, pc := 3 }) (u := v) hk.1 hsg hs hd rfl
  unfold kStep
  rw [if_pos h3, kEnq_3 rfl]
  unfold kWrite
  rw [hat, hc]
  dsimp only
  rw [can_self hw, write_self hw, if_pos rfl, enq_item F.val hp]
/-- An Enq that nobody disturbs. -/
theorem enq_alone {k h t : Nat} {M : Mem} {l : List KI} (p : Nat) (v d d1 : Int) (f : Nat) (hk : 1 ≤ k ∧ k ≤ 16) (hp : p < 18446744073709551616) (q : QI k M h t l) (hf : 2 * k + 5 ≤ f) (hfit : kfits (k : Int) (t : Int) = true) :
    (∃ j, j < k ∧ (M.cell (sl k t j)).n = 0 ∧ alone (kStep k) f M (Fr.of 3 p v d d1) = (M.put (sl k t j) 1 (kit [mkKI p v]), ⟨true, cbits p, v, 0⟩, true)) ∨
    ((∀ j, j < k → (M.cell (sl k t j)).n ≠ 0) ∧ ((kfits (k : Int) ((t + 1 : Nat) : Int) = true ∧ ∃ j, j < k ∧ alone (kStep k) f M (Fr.of 3 p v d d1) = ((M.put 1 ((t : Int) + 1) []).put (sl k (t + 1) j) 1 (kit [mkKI p v]), ⟨true, cbits p, v, 0⟩, true)) ∨
      (kfits (k : Int) ((t + 1 : Nat) : Int) = false ∧ alone (kStep k) f M (Fr.of 3 p v d d1) = (M.put 1 ((t : Int) + 1) [], Ans.zero, true)))) := by
  obtain ⟨ht, hsl⟩ := fits_nat hk.1 hfit
  have hr := into_rng (d := d) (n := (k : Int)) (by omega)
  obtain ⟨dd, hdd⟩ : ∃ dd : Nat, into d (k : Int) = (dd : Int) := ⟨(into d (k : Int)).toNat, by omega⟩
  have hdk : dd < k := by omega
  have hm : ∀ v, (dd + v) % k < k := fun v => Nat.mod_lt _ (by omega)
  have hl1 : ∀ M : Mem, M.look 1 = M.cell 1 := fun M => look_nat 1
  have s0 : kStep k M (Fr.of 3 p v d d1) = (M, { kBegin M (Fr.of 3 p v d d1) 1 with pc := 2 }, Ans.zero, false) := by
    unfold kStep
    rw [if_pos (show (Fr.of 3 p v d d1).kind = 3 from rfl), kEnq_0 (show (Fr.of 3 p v d d1).pc = 0 from rfl), hl1, q.tl, hfit]; rfl
  obtain ⟨F1, hF1⟩ : ∃ F1, ({ kBegin M (Fr.of 3 p v d d1) 1 with pc := 2 } : Fr) = F1 := ⟨_, rfl⟩
  rw [hF1] at s0
  have a1 : F1.kind = 3 := by rw [← hF1]; rfl
  have a2 : F1.pc = 2 := by rw [← hF1]
  have a3 : F1.seen = ((0 : Nat) : Int) := by rw [← hF1]; rfl
  have a4 : F1.seg = (t : Int) := by rw [← hF1]; show (M.look 1).n = _; rw [hl1]; exact q.tl
  have a5 : into F1.d0 (k : Int) = (dd : Int) := by rw [← hF1]; exact hdd
  have a6 : F1.pri = p ∧ F1.val = v ∧ F1.at_ = 1 ∧ F1.c0 = M.cell 1 ∧ F1.d0 = d := by rw [← hF1]; exact ⟨rfl, rfl, rfl, hl1 M, rfl⟩
  rcases enq_look hk ht M k 0 F1 (by omega) hk.1 a1 a2 a3 a4 a5 with ⟨u, c, e, _, hu, hc, hz, hR⟩ | ⟨hall, e, hR⟩
  · left
    refine ⟨(dd + u) % k, hm u, by rw [← hc]; exact hz, ?_⟩
    have hw := enq_put (e := e) hk a1 a4 ht a5 hc (hsl _ (hm u)) (by rw [a6.1]; exact hp)
    have hfin := ((Runs.one s0).trans hR).done (f := f) hw (by omega)
    rw [a6.1, a6.2.1] at hfin
    exact hfin
  · right
    have hne : ∀ j, j < k → (M.cell (sl k t j)).n ≠ 0 := fun j hj => by
      obtain ⟨u, hu, hu2⟩ := cover hdk hj
      rw [← hu2]; exact hall u (Nat.zero_le _) hu
    refine ⟨hne, ?_⟩
    have s2 : kStep k M { F1 with seen := (k : Int), empty := e, pc := 4 } = (M.put 1 ((t : Int) + 1) [], { F1 with seen := (k : Int), empty := e, pc := 0 }, Ans.zero, false) := by
      unfold kStep
      rw [if_pos a1, kEnq_4 (by show (4 : Int) ≠ 0; decide) (by show (4 : Int) ≠ 2; decide) (by show (4 : Int) ≠ 3; decide)]
      unfold kMove
      show (M.write F1.at_ F1.c0.ver (F1.seg + 1) [], _, _, _) = _
      rw [a6.2.2.1, a6.2.2.2.1, a4, show (1 : Int) = ((1 : Nat) : Int) from rfl, write_self (by decide)]
    have q1 := q.tail hne
    obtain ⟨M1, hM1⟩ : ∃ M1, M.put 1 ((t : Int) + 1) [] = M1 := ⟨_, rfl⟩
    rw [hM1] at s2 q1 ⊢
    obtain ⟨F2, hF2⟩ : ∃ F2, ({ F1 with seen := (k : Int), empty := e, pc := 0 } : Fr) = F2 := ⟨_, rfl⟩
    rw [hF2] at s2
    have b1 : F2.kind = 3 := by rw [← hF2]; exact a1
    have b2 : F2.pc = 0 := by rw [← hF2]
    have hR2 := ((Runs.one s0).trans hR).trans (Runs.one s2)
    by_cases hfit2 : kfits (k : Int) ((t + 1 : Nat) : Int) = true
    · left
      refine ⟨hfit2, ?_⟩
      obtain ⟨ht1, hsl1⟩ := fits_nat hk.1 hfit2
      have s3 : kStep k M1 F2 = (M1, { kBegin M1 F2 1 with pc := 2 }, Ans.zero, false) := by
        unfold kStep; rw [if_pos b1, kEnq_0 b2, hl1, q1.tl, hfit2]; rfl
      obtain ⟨F3, hF3⟩ : ∃ F3, ({ kBegin M1 F2 1 with pc := 2 } : Fr) = F3 := ⟨_, rfl⟩
      rw [hF3] at s3
      have c1 : F3.kind = 3 := by rw [← hF3]; exact b1
      have c2 : F3.pc = 2 := by rw [← hF3]
      have c3 : F3.seen = ((0 : Nat) : Int) := by rw [← hF3]; rfl
      have c4 : F3.seg = ((t + 1 : Nat) : Int) := by rw [← hF3]; show (M1.look 1).n = _; rw [hl1]; exact q1.tl
      have c5 : into F3.d0 (k : Int) = (dd : Int) := by rw [← hF3, ← hF2]; exact a5
      have c6 : F3.pri = p ∧ F3.val = v := by rw [← hF3, ← hF2]; exact ⟨a6.1, a6.2.1⟩
      rcases enq_look hk ht1 M1 k 0 F3 (by omega) hk.1 c1 c2 c3 c4 c5 with ⟨u, c, e, _, hu, hc, hz, hR3⟩ | ⟨hall3, _⟩
      · refine ⟨(dd + u) % k, hm u, ?_⟩
        have hw := enq_put (e := e) hk c1 c4 ht1 c5 hc (hsl1 _ (hm u)) (by rw [c6.1]; exact hp)
        have hfin := ((hR2.trans (Runs.one s3)).trans hR3).done (f := f) hw (by omega)
        rw [c6.1, c6.2] at hfin
        exact hfin
      · exact absurd (by rw [← hM1, put_other _ _ _ (by have := sl_ge k (t + 1) ((dd + 0) % k); omega)]; exact q.late (t + 1) _ (hm 0) (by omega)) (hall3 0 (Nat.le_refl _) hk.1)
    · right
      have hf2 : kfits (k : Int) ((t + 1 : Nat) : Int) = false := by simpa using hfit2
      refine ⟨hf2, hR2.done (F2 := { kBegin M1 F2 1 with pc := 2 }) ?_ (by omega)⟩
      unfold kStep; rw [if_pos b1, kEnq_0 b2, hl1, q1.tl, hf2]; rfl
end Go.Proofs.Ytclcmabohpoaiaa
