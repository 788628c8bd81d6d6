/-
  Layer 9: a Deq's step: contract.
  Layer 9: a queue's step, as a machine's: contract; what is asked of a memory and a frame.
  Layer 9: a queue's step, as a machine's: contract.
-/
import Derived.Test.YtbcmilfajeanbaaGreatKf9firstAll
import Derived.Test.YtbcmilfajeanbaaGreatRegionAll
namespace Go.Proofs.YtbcmilfajeanbaaGreat
open Go.RowKit Go.Sort

/-- A Deq's step. -/
def kDeq (k : Int) : StepFn := fun M F =>
  if F.pc = 0 then (M, { kBegin M F 0 with pc := 1 }, Ans.zero, false)
  else if F.pc = 1 then (M, if (M.look 1).n = F.seg then { F with at_ := 1, c0 := M.look 1, pc := 2 } else { F with pc := 2 }, Ans.zero, false)
  else if F.pc = 2 then (M, kLook k 1 M F, Ans.zero, decide ((kLook k 1 M F).pc = 4) && (kLook k 1 M F).empty)
  else if F.pc = 3 then kWrite k 2 [] (F.c1.L.headD (0, 0)).1 (F.c1.L.headD (0, 0)).2 M F
  else kMove M F
theorem kDeq_0 {k : Int} {M : Mem} {F : Fr} (h : F.pc = 0) : kDeq k M F = (M, { kBegin M F 0 with pc := 1 }, Ans.zero, false) := by unfold kDeq; rw [if_pos h]
theorem kDeq_1y {k : Int} {M : Mem} {F : Fr} (h : F.pc = 1) (hy : (M.look 1).n = F.seg) : kDeq k M F = (M, { F with at_ := 1, c0 := M.look 1, pc := 2 }, Ans.zero, false) := by unfold kDeq; rw [if_neg (by omega), if_pos h, if_pos hy]
theorem kDeq_1n {k : Int} {M : Mem} {F : Fr} (h : F.pc = 1) (hy : ¬ (M.look 1).n = F.seg) : kDeq k M F = (M, { F with pc := 2 }, Ans.zero, false) := by unfold kDeq; rw [if_neg (by omega), if_pos h, if_neg hy]
theorem kDeq_2 {k : Int} {M : Mem} {F : Fr} (h : F.pc = 2) : kDeq k M F = (M, kLook k 1 M F, Ans.zero, decide ((kLook k 1 M F).pc = 4) && (kLook k 1 M F).empty) := by unfold kDeq; rw [if_neg (by omega), if_neg (by omega), if_pos h]
theorem kDeq_3 {k : Int} {M : Mem} {F : Fr} {x : KI} (h : F.pc = 3) (hx : F.c1.L = kit [x]) : kDeq k M F = kWrite k 2 [] x.b x.v M F := by unfold kDeq; rw [if_neg (by omega), if_neg (by omega), if_neg (by omega), if_pos h, hx]; rfl
theorem kDeq_4 {k : Int} {M : Mem} {F : Fr} (h0 : F.pc ≠ 0) (h1 : F.pc ≠ 1) (h2 : F.pc ≠ 2) (h3 : F.pc ≠ 3) : kDeq k M F = kMove M F := by unfold kDeq; rw [if_neg h0, if_neg h1, if_neg h2, if_neg h3]

def kdeq9R (fb cl k3 : Nat) (a3 : Option Addr) (cver cn : Int) : List (Value → Nat → World → Prop) :=
  [fun v _ _ => v = .pointer (some ⟨fb, 0, none⟩),
   fun v _ _ => v = .pointer (some ⟨fb, 0, none⟩),
   fun v _ _ => v = .agg #[.int .u64 cver, .int .i64 cn, .slice a3 cl k3],
   fun v _ _ => v = .pointer (some ⟨fb, 0, none⟩),
   fun v _ _ => v = .pointer (some ⟨fb, 6, none⟩),
   fun _ _ _ => True,
   fun v _ _ => v = .pointer (some ⟨fb, 0, none⟩),
   fun v _ _ => v = .pointer (some ⟨fb, 11, none⟩),
   fun v _ _ => v = .pointer (some ⟨fb, 11, none⟩),
   fun _ _ _ => True]
theorem kdeq9R_kept (fb cl k3 : Nat) (a3 : Option Addr) (cver cn : Int) : Reg.GAllKept (Reg.PPres (fun j => j = fb)) (kdeq9R fb cl k3 a3 cver cn) :=
  ⟨(fun _ _ _ _ _ _ h => h), (fun _ _ _ _ _ _ h => h), (fun _ _ _ _ _ _ h => h), (fun _ _ _ _ _ _ h => h), (fun _ _ _ _ _ _ h => h), (fun _ _ _ _ _ _ _ => trivial), (fun _ _ _ _ _ _ h => h), (fun _ _ _ _ _ _ h => h), (fun _ _ _ _ _ _ h => h), (fun _ _ _ _ _ _ _ => trivial), trivial⟩
def kdeq14Rt (fb _nb : Nat) (pc : Int) (em : Bool) : List (Value → Nat → World → Prop) :=
  [fun v _ _ => v = .agg #[.bool false, .float .f64 0, .int .i64 0, .int .i64 0],
   fun v _ _ => v = .pointer (some ⟨fb, 0, none⟩),
   fun v _ _ => v = .pointer (some ⟨fb, 0, none⟩),
   fun v _ _ => v = .pointer (some ⟨fb, 5, none⟩),
   fun v _ _ => v = .int .i64 pc,
   fun v _ _ => v = .bool true,
   fun v _ _ => v = .bool true,
   fun v _ _ => v = .pointer (some ⟨fb, 0, none⟩),
   fun v _ _ => v = .pointer (some ⟨fb, 0, none⟩),
   fun v _ _ => v = .pointer (some ⟨fb, 10, none⟩),
   fun v _ _ => v = .bool em,
   fun v _ _ => v = .bool em,
   fun _ _ _ => True,
   fun v _ _ => v = .bool em]
theorem kdeq14Rt_kept (fb nb : Nat) (pc : Int) (em : Bool) : Reg.GAllKept (Reg.PPres (fun j => j = nb + 1)) (kdeq14Rt fb nb pc em) :=
  ⟨(fun _ _ _ _ _ _ h => h), (fun _ _ _ _ _ _ h => h), (fun _ _ _ _ _ _ h => h), (fun _ _ _ _ _ _ h => h), (fun _ _ _ _ _ _ h => h), (fun _ _ _ _ _ _ h => h), (fun _ _ _ _ _ _ h => h), (fun _ _ _ _ _ _ h => h), (fun _ _ _ _ _ _ h => h), (fun _ _ _ _ _ _ h => h), (fun _ _ _ _ _ _ h => h), (fun _ _ _ _ _ _ h => h), (fun _ _ _ _ _ _ _ => trivial), (fun _ _ _ _ _ _ h => h), trivial⟩
def kdeq14Rf (fb _nb : Nat) (pc : Int) (_em : Bool) : List (Value → Nat → World → Prop) :=
  [fun v _ _ => v = .agg #[.bool false, .float .f64 0, .int .i64 0, .int .i64 0],
   fun v _ _ => v = .pointer (some ⟨fb, 0, none⟩),
   fun v _ _ => v = .pointer (some ⟨fb, 0, none⟩),
   fun v _ _ => v = .pointer (some ⟨fb, 5, none⟩),
   fun v _ _ => v = .int .i64 pc,
   fun v _ _ => v = .bool false,
   fun v _ _ => v = .bool false,
   fun _ _ _ => True,
   fun _ _ _ => True,
   fun _ _ _ => True,
   fun _ _ _ => True,
   fun v _ _ => v = .bool false,
   fun _ _ _ => True,
   fun v _ _ => v = .bool false]
theorem kdeq14Rf_kept (fb nb : Nat) (pc : Int) (em : Bool) : Reg.GAllKept (Reg.PPres (fun j => j = nb + 1)) (kdeq14Rf fb nb pc em) :=
  ⟨(fun _ _ _ _ _ _ h => h), (fun _ _ _ _ _ _ h => h), (fun _ _ _ _ _ _ h => h), (fun _ _ _ _ _ _ h => h), (fun _ _ _ _ _ _ h => h), (fun _ _ _ _ _ _ h => h), (fun _ _ _ _ _ _ h => h), (fun _ _ _ _ _ _ _ => trivial), (fun _ _ _ _ _ _ _ => trivial), (fun _ _ _ _ _ _ _ => trivial), (fun _ _ _ _ _ _ _ => trivial), (fun _ _ _ _ _ _ h => h), (fun _ _ _ _ _ _ _ => trivial), (fun _ _ _ _ _ _ h => h), trivial⟩

set_option maxRecDepth 20000 in
set_option maxHeartbeats 8000000 in
theorem kdeq_0 (k : Int) (w : World) (b fb : Nat) (O P : Nat → Prop) (M : Mem) (F : Fr) (h : MemAt w b O M) (hf : FrAt w fb P F) (hd : ∀ k, O k → ¬ P k) (hp : F.pc = 0) :
    Calls Tryz.prog 184 #[.agg #[.int .i64 k], .pointer (some ⟨b, 0, none⟩), .pointer (some ⟨fb, 0, none⟩)] w (StepEnd b fb O P (kDeq k M F) w) := by
  obtain ⟨nb, hnb⟩ : ∃ nb, w.heap.size = nb := ⟨_, rfl⟩
  obtain ⟨W1, hW1', hb1, hs1, hQ1, hA1⟩ := two_new w [.int .i64 k] Ans.zero.l 151 46 0
  have hW1 : (w.alloc (.cells #[.int .i64 k] 151)).alloc (.cells #[.bool false, .float .f64 0, .int .i64 0, .int .i64 0] 46) = W1 := hW1'
  clear hW1'
  rw [hnb] at hQ1 hA1 hs1
  have hsf := run_store_flt (P := Tryz.prog)
  have hf1 := hf.below hb1
  have hM1 := h.below hb1
  obtain ⟨a0, k0, a1, k1, hB1, hS01, hS11, hi0, hi1⟩ := hf1.box
  have f5 := (hB1.get 5 _ rfl).1
  have hfl := hB1.lt
  have hfp := hf.lt _ hf.ob
  have q0 := (hQ1.get 0 _ rfl).1
  have hql := hQ1.lt
  rw [kDeq_0 hp]
  have f5z : W1.cell? ⟨fb, 5, none⟩ = some (.int .i64 0) := by rw [f5, hp]
  have hBg := hidq (kbegin_any 0 W1 b fb O P M F hM1 hf1 hd)
  have FIN := hidq (fun w2 P2 (hM2 : MemAt w2 b O M) (hF2 : FrAt w2 fb P2 (kBegin M F 0)) (hd2 : ∀ k, O k → ¬ P2 k) (hG2 : Grown P W1 w2 P2) (hb2 : But P W1 w2) => (show BoxAt w2 (nb + 1) Ans.zero.l ∧ BoxAt (setBox (setBox w2 fb [(5, .int .i64 1)]) (nb + 1) Ans.zero.s) (nb + 1) Ans.zero.l ∧ StepEnd b fb O P (M, { kBegin M F 0 with pc := 1 }, Ans.zero, false) w (.returned (.tuple #[Ans.zero.v, .bool false])) (setBox (setBox w2 fb [(5, .int .i64 1)]) (nb + 1) Ans.zero.s) from by
    have hA2 := hA1.but hb2 (fun e => by have := hf.lt _ e; omega)
    have hs2 := hb2.size
    exact ⟨hA2, stepEnd_fr (A := Ans.zero) (d := false) (F' := { kBegin M F 0 with pc := 1 }) [(5, .int .i64 1)] hM2 (Grown.refl _ _ _) hF2 (fun k hk => (hG2 k hk).imp id (fun e => ⟨by omega, e.2⟩)) hd2 ((But.of_below hb1).then hb2 (fun j _ e => .inr e)) hf.ob hA2 (by omega) (fun e => by have := h.lt _ e; omega) (fun e => by
      rcases hG2 _ e with q | q
      · have := hf.lt _ q; omega
      · omega) (fun _ _ _ _ => rfl) rfl rfl⟩))
  obtain ⟨F9, hF9⟩ : ∃ F9, ({ kBegin M F 0 with pc := 1 } : Fr) = F9 := ⟨_, rfl⟩
  rw [hF9] at FIN ⊢
  have hfa : ¬ fb = nb + 1 := by omega
  clear h hf hd hf1 hM1 hB1 hS01 hS11 hi0 hi1 hQ1 hA1 hb1 hs1 f5 hp hF9 hfp
  go_enter Tryz.func184, Tryz.ntmps184
  go_wp2_with fail
  refine hBg.out.mono ?_
  rintro e w2 ⟨rfl, P2, hM2, hF2, hd2, hG2, hb2⟩
  obtain ⟨e0, e1, e2⟩ := FIN.out w2 P2 hM2 hF2 hd2 hG2 hb2
  obtain ⟨a0', k0', a1', k1', hB2, _⟩ := hF2.box
  obtain ⟨g5, z5⟩ := hB2.get 5 _ rfl
  have hfl2 := hB2.lt
  obtain ⟨c0, y0⟩ := e0.get 0 _ rfl
  obtain ⟨c1, y1⟩ := e0.get 1 _ rfl
  obtain ⟨c2, y2⟩ := e0.get 2 _ rfl
  obtain ⟨c3, y3⟩ := e0.get 3 _ rfl
  have hal := e0.lt
  have E1 := hidq (And.intro e1 e2)
  clear e0 e1 e2 FIN hBg hM2 hF2 hd2 hG2 hb2 hB2 f5z q0 hql hW1
  go_wp2
  exact ret_ans (A := Ans.zero) Tryz.results184 E1.out.1 rfl rfl rfl E1.out.2

set_option maxRecDepth 20000 in
set_option maxHeartbeats 8000000 in
theorem kdeq_1 (k : Int) (w : World) (b fb : Nat) (O P : Nat → Prop) (M : Mem) (F : Fr) (h : MemAt w b O M) (hf : FrAt w fb P F) (hd : ∀ k, O k → ¬ P k) (hp : F.pc = 1) :
    Calls Tryz.prog 184 #[.agg #[.int .i64 k], .pointer (some ⟨b, 0, none⟩), .pointer (some ⟨fb, 0, none⟩)] w (StepEnd b fb O P (kDeq k M F) w) := by
  obtain ⟨nb, hnb⟩ : ∃ nb, w.heap.size = nb := ⟨_, rfl⟩
  obtain ⟨W1, hW1', hb1, hs1, hQ1, hA1⟩ := two_new w [.int .i64 k] Ans.zero.l 151 46 0
  have hW1 : (w.alloc (.cells #[.int .i64 k] 151)).alloc (.cells #[.bool false, .float .f64 0, .int .i64 0, .int .i64 0] 46) = W1 := hW1'
  clear hW1'
  rw [hnb] at hQ1 hA1 hs1
  have hsf := run_store_flt (P := Tryz.prog)
  have hf1 := hf.below hb1
  have hM1 := h.below hb1
  obtain ⟨a0, k0, a1, k1, hB1, hS01, hS11, hi0, hi1⟩ := hf1.box
  have f5 := (hB1.get 5 _ rfl).1
  have hfl := hB1.lt
  have hfp := hf.lt _ hf.ob
  have q0 := (hQ1.get 0 _ rfl).1
  have hql := hQ1.lt
  have f5z : W1.cell? ⟨fb, 5, none⟩ = some (.int .i64 1) := by rw [f5, hp]
  have t0 : ((1 : Int) == 0) = false := by decide
  have hRd := hidq (read5_any b O M 1 W1 hM1)
  have HO := hidq (And.intro h (And.intro hf (And.intro hd (And.intro hb1 (And.intro hQ1 (And.intro hA1 (And.intro hs1 (And.intro hf1 hM1))))))))
  obtain ⟨r, hr⟩ : ∃ r, kDeq k M F = r := ⟨_, rfl⟩
  rw [hr]
  have HR := hidq (And.intro hr hp)
  clear h hf hd hf1 hM1 hB1 hS01 hS11 hi0 hi1 hQ1 hA1 hb1 hs1 f5 hp hr
  go_enter Tryz.func184, Tryz.ntmps184
  go_wp2_with fail
  refine hRd.out.mono ?_
  rintro e w3 ⟨a3, k3, rfl, hS3, hn3, hb3⟩
  obtain ⟨cv, hcv⟩ : ∃ cv, M.look 1 = cv := ⟨_, rfl⟩
  rw [hcv] at hS3 ⊢
  obtain ⟨cver, cn, cL⟩ := cv
  dsimp only at hS3 ⊢
  obtain ⟨cl, hcl⟩ : ∃ cl, cL.length = cl := ⟨_, rfl⟩
  rw [hcl]
  obtain ⟨h, hf, hd, hb1, hQ1, hA1, hs1, hf1, hM1⟩ := HO.out
  obtain ⟨cb, hcb⟩ : ∃ cb, w3.heap.size = cb := ⟨_, rfl⟩
  obtain ⟨W4, hW4', hb4, hs4, hC4⟩ := one_new w3 [.int .u64 cver, .int .i64 cn, .slice a3 cl k3] 94
  have hW4 : w3.alloc (.cells #[.int .u64 cver, .int .i64 cn, .slice a3 cl k3] 94) = W4 := hW4'
  rw [hcb] at hC4 hs4
  have hs3 := hb3.size
  have hb14 : Below W1.heap.size W1 W4 := hb3.trans (hb4.mono hb3.size)
  have hb04 : Below w.heap.size w W4 := hb1.trans (hb14.mono hb1.size)
  have hf4 := hf1.below hb14
  have hM4 := hM1.below hb14
  have hA4 := hA1.below hb14
  have hS4 := hS3.below hb4
  obtain ⟨a0, k0, a1, k1, hB4, hS04, hS14, hi0, hi1⟩ := hf4.box
  have g8 := (hB4.get 8 _ rfl).1
  obtain ⟨g5, z5⟩ := hB4.get 5 _ rfl
  have hfl4 := hB4.lt
  have hal4 := hA4.lt
  have u1 := (hC4.get 1 _ rfl).1
  have hcl4 := hC4.lt
  have hne1 : ¬ fb = cb := by omega
  have hfa : ¬ fb = nb + 1 := by omega
  have hOf : ¬ O fb := fun e => hd _ e hf.ob
  have HZ := hidq (And.intro hM4 (And.intro hf4 (And.intro hB4 (And.intro hA4 (And.intro hS4 (And.intro hS04 (And.intro hS14 (And.intro hi0 (And.intro hi1 (And.intro hb04 (And.intro hd (And.intro hf.ob (And.intro hf.lt (And.intro h.lt (And.intro hcl (And.intro hn3 (And.intro hC4 hne1)))))))))))))))))
  have HS := hidq (And.intro hs1 (And.intro hs3 hs4))
  obtain ⟨sg, hsg⟩ : ∃ sg, F.seg = sg := ⟨_, rfl⟩
  rw [hsg] at g8
  by_cases hy : cn = sg
  · have hr2 : r = (M, { F with at_ := 1, c0 := ⟨cver, cn, cL⟩, pc := 2 }, Ans.zero, false) := by rw [← HR.out.1, kDeq_1y HR.out.2 (by rw [hcv, hsg]; exact hy), hcv]
    have HR2 := hidq hr2
    subst hy
    have t1 : (cn == cn) = true := by simp
    clear hr2 h hf hd hf1 hM1 hQ1 hA1 hb1 hs1 hb3 hb4 hC4 hb14 hb04 hf4 hM4 hA4 hS3 hS4 hB4 hS04 hS14 hi0 hi1 hcv HO HR hRd hs3 hn3 hsg hW4' hcl hs4
    go_wp2_with fail
    go_quiet (fail)
    obtain ⟨W5, hW5⟩ : ∃ W5, W4.drewN nq = W5 := ⟨_, rfl⟩
    have hq : Below W4.heap.size W4 W5 := by rw [← hW5]; exact below_drewN (Below.refl _ _) nq
    have HQ := hidq hq
    have HB5 := hidq (HZ.out.2.2.1.below hq)
    have FC := hidq (fun W (hW : But (fun j => j = fb) W5 W) => (show W.cell? ⟨cb, 0, none⟩ = some (.int .u64 cver) ∧ W.cell? ⟨cb, 1, none⟩ = some (.int .i64 cn) ∧ W.cell? ⟨cb, 2, none⟩ = some (.slice a3 cl k3) from by
      have q := (HZ.out.2.2.2.2.2.2.2.2.2.2.2.2.2.2.2.2.1.below hq).but hW (fun e => HZ.out.2.2.2.2.2.2.2.2.2.2.2.2.2.2.2.2.2 e.symm)
      exact ⟨(q.get 0 _ rfl).1, (q.get 1 _ rfl).1, (q.get 2 _ rfl).1⟩))
    rw [hW5]
    clear hW5 hq
    go_wp2_with fail
    clear u1 g8 hW4 f5z q0 hql hW1 t0 hcb
    have HF : ∀ x w w', Below w.heap.size w w' → (fun x w => (x = 0 → BoxAt w fb (F.l a0 k0 a1 k1)) ∧ (x = 1 → BoxAt w fb ((F.l a0 k0 a1 k1).set 6 (.int .i64 1))) ∧ (x = 2 → BoxAt w fb (((((F.l a0 k0 a1 k1).set 6 (.int .i64 1)).set 11 (.int .u64 cver)).set 12 (.int .i64 cn)).set 13 (.slice a3 cl k3)))) x w → (fun x w => (x = 0 → BoxAt w fb (F.l a0 k0 a1 k1)) ∧ (x = 1 → BoxAt w fb ((F.l a0 k0 a1 k1).set 6 (.int .i64 1))) ∧ (x = 2 → BoxAt w fb (((((F.l a0 k0 a1 k1).set 6 (.int .i64 1)).set 11 (.int .u64 cver)).set 12 (.int .i64 cn)).set 13 (.slice a3 cl k3)))) x w' := fun x w w' hb hh => ⟨fun e => (hh.1 e).below hb, fun e => (hh.2.1 e).below hb, fun e => (hh.2.2 e).below hb⟩
    refine Reg.wp_region_ghost (Reg.gofList (kdeq9R fb cl k3 a3 cver cn)) (Reg.PPres (fun j => j = fb)) (Reg.PInv [5, 9] (fun j => j = fb) W5 (fun x w => (x = 0 → BoxAt w fb (F.l a0 k0 a1 k1)) ∧ (x = 1 → BoxAt w fb ((F.l a0 k0 a1 k1).set 6 (.int .i64 1))) ∧ (x = 2 → BoxAt w fb (((((F.l a0 k0 a1 k1).set 6 (.int .i64 1)).set 11 (.int .u64 cver)).set 12 (.int .i64 cn)).set 13 (.slice a3 cl k3))))) 0 (by kernel_rfl) (by kernel_rfl) (Reg.GAllKept.at _ (kdeq9R_kept fb cl k3 a3 cver cn)) (Reg.PInv.start 10 ⟨fun _ => HB5.out.drew, (fun e => by cases e), (fun e => by cases e)⟩) ⟨?_, ?_, ?_, ?_, ?_, ?_, ?_, ?_, ?_, ?_, trivial⟩ ?_
    · refine Reg.GStepAt.plain (i := 0) rfl ?_
      intro x L ev w hI hk hp hA
      have e2 : ev (.tmp 2) = .pointer (some ⟨fb, 0, none⟩) := hA.oldNone 2 (by kernel_rfl)
      have hcc := hA.const
      clear hA hp
      refine Reg.out_value (v := .pointer (some ⟨fb, 0, none⟩)) ?_ ⟨x, rfl, Reg.PPres.refl _ _ _, Reg.PInv.light HF hI 0 (by decide) (Below.refl _ _)⟩
      go_simp
    · refine Reg.GStepAt.plain (i := 1) rfl ?_
      intro x L ev w hI hk hp hA
      have e2 : ev (.tmp 2) = .pointer (some ⟨fb, 0, none⟩) := hA.oldNone 2 (by kernel_rfl)
      have hcc := hA.const
      clear hA hp
      refine Reg.out_value (v := .pointer (some ⟨fb, 0, none⟩)) ?_ ⟨x, rfl, Reg.PPres.refl _ _ _, Reg.PInv.light HF hI 1 (by decide) (Below.refl _ _)⟩
      go_simp
    · refine Reg.GStepAt.plain (i := 2) rfl ?_
      intro x L ev w hI hk hp hA
      have e8 : ev (.tmp 8) = .pointer (some ⟨cb, 0, none⟩) := hA.oldNone 8 (by kernel_rfl)
      have hcc := hA.const
      clear hA hp
      have f0 := (FC.out w hI.2.1).1
      have f1 := (FC.out w hI.2.1).2.1
      have f2 := (FC.out w hI.2.1).2.2
      refine Reg.out_value (v := .agg #[.int .u64 cver, .int .i64 cn, .slice a3 cl k3]) ?_ ⟨x, rfl, Reg.PPres.refl _ _ _, Reg.PInv.light HF hI 2 (by decide) (Below.refl _ _)⟩
      go_simp
    · refine Reg.GStepAt.plain (i := 3) rfl ?_
      intro x L ev w hI hk hp hA
      have e36 : ev (.tmp 36) = .pointer (some ⟨fb, 0, none⟩) := hA.val 0 _ 36 rfl (hp ⟨0, .data⟩ (by simp) rfl) rfl
      have hcc := hA.const
      clear hA hp
      refine Reg.out_value (v := .pointer (some ⟨fb, 0, none⟩)) ?_ ⟨x, rfl, Reg.PPres.refl _ _ _, Reg.PInv.light HF hI 3 (by decide) (Below.refl _ _)⟩
      go_simp
    · refine Reg.GStepAt.plain (i := 4) rfl ?_
      intro x L ev w hI hk hp hA
      have e39 : ev (.tmp 39) = .pointer (some ⟨fb, 0, none⟩) := hA.val 3 _ 39 rfl (hp ⟨3, .data⟩ (by simp) rfl) rfl
      have hcc := hA.const
      clear hA hp
      refine Reg.out_value (v := .pointer (some ⟨fb, 6, none⟩)) ?_ ⟨x, rfl, Reg.PPres.refl _ _ _, Reg.PInv.light HF hI 4 (by decide) (Below.refl _ _)⟩
      go_simp
    · refine Reg.GStepAt.plain (i := 5) rfl ?_
      intro x L ev w hI hk hp hA
      have e40 : ev (.tmp 40) = .pointer (some ⟨fb, 6, none⟩) := hA.val 4 _ 40 rfl (hp ⟨4, .data⟩ (by simp) rfl) rfl
      have hcc := hA.const
      have NL := Reg.not_listed hA 5 9 _ rfl ⟨5, .chain⟩ (by simp) rfl hk
      clear hA hp
      have hx : x = 0 := hI.1.trans (Reg.cnt_zero2 (Reg.getD_true hk) NL)
      have hT := hI.2.2.1 hx
      obtain ⟨c6, y6⟩ := hT.get 6 _ rfl
      have hset := hT.set 6 (.int .i64 1)
      have hbS : But (fun j => j = fb) w (w.setCell ⟨fb, 6, none⟩ (.int .i64 1)) := (But.refl (fun j => j = fb) w).set1 fb 6 rfl _
      refine Reg.out_skipP (w' := w.setCell ⟨fb, 6, none⟩ (.int .i64 1)) ?_ ⟨x + 1, trivial, Reg.PPres.heavy hbS, Reg.PInv.heavy hI 5 (by decide) (by simp) hk hbS ⟨fun e => by omega, fun e => hset, fun e => by omega⟩⟩
      clear hI hset hT hbS
      go_simp
    · refine Reg.GStepAt.plain (i := 6) rfl ?_
      intro x L ev w hI hk hp hA
      have e37 : ev (.tmp 37) = .pointer (some ⟨fb, 0, none⟩) := hA.val 1 _ 37 rfl (hp ⟨1, .data⟩ (by simp) rfl) rfl
      have hcc := hA.const
      clear hA hp
      refine Reg.out_value (v := .pointer (some ⟨fb, 0, none⟩)) ?_ ⟨x, rfl, Reg.PPres.refl _ _ _, Reg.PInv.light HF hI 6 (by decide) (Below.refl _ _)⟩
      go_simp
    · refine Reg.GStepAt.plain (i := 7) rfl ?_
      intro x L ev w hI hk hp hA
      have e41 : ev (.tmp 41) = .pointer (some ⟨fb, 0, none⟩) := hA.val 6 _ 41 rfl (hp ⟨6, .data⟩ (by simp) rfl) rfl
      have hcc := hA.const
      clear hA hp
      refine Reg.out_value (v := .pointer (some ⟨fb, 11, none⟩)) ?_ ⟨x, rfl, Reg.PPres.refl _ _ _, Reg.PInv.light HF hI 7 (by decide) (Below.refl _ _)⟩
      go_simp
    · refine Reg.GStepAt.plain (i := 8) rfl ?_
      intro x L ev w hI hk hp hA
      have e42 : ev (.tmp 42) = .pointer (some ⟨fb, 11, none⟩) := hA.val 7 _ 42 rfl (hp ⟨7, .data⟩ (by simp) rfl) rfl
      have hcc := hA.const
      clear hA hp
      refine Reg.out_value (v := .pointer (some ⟨fb, 11, none⟩)) ?_ ⟨x, rfl, Reg.PPres.refl _ _ _, Reg.PInv.light HF hI 8 (by decide) (Below.refl _ _)⟩
      go_simp
    · refine Reg.GStepAt.plain (i := 9) rfl ?_
      intro x L ev w hI hk hp hA
      have e43 : ev (.tmp 43) = .pointer (some ⟨fb, 11, none⟩) := hA.val 8 _ 43 rfl (hp ⟨8, .data⟩ (by simp) rfl) rfl
      have e38 : ev (.tmp 38) = .agg #[.int .u64 cver, .int .i64 cn, .slice a3 cl k3] := hA.val 2 _ 38 rfl (hp ⟨2, .data⟩ (by simp) rfl) rfl
      have hcc := hA.const
      have L5 : L.getD 5 false = true := hp ⟨5, .chain⟩ (by simp) rfl
      clear hA hp
      have hx : x = 1 := hI.1.trans (Reg.cnt_one2 L5 (Reg.getD_true hk))
      have hT := hI.2.2.2.1 hx
      obtain ⟨c11, y11⟩ := hT.get 11 _ rfl
      obtain ⟨c12, y12⟩ := hT.get 12 _ rfl
      obtain ⟨c13, y13⟩ := hT.get 13 _ rfl
      have hset := setBox_box [(11, .int .u64 cver), (12, .int .i64 cn), (13, .slice a3 cl k3)] hT
      have hbS := setBox_but fb [(11, .int .u64 cver), (12, .int .i64 cn), (13, .slice a3 cl k3)] w
      refine Reg.out_skipP (w' := setBox w fb [(11, .int .u64 cver), (12, .int .i64 cn), (13, .slice a3 cl k3)]) ?_ ⟨x + 1, trivial, Reg.PPres.heavy hbS, Reg.PInv.heavy hI 9 (by decide) (by simp) hk hbS ⟨fun e => by omega, fun e => by omega, fun e => hset⟩⟩
      clear hI hset hT hbS
      simp only [setBox]
      go_simp
    intro gx L act wz hall hI hF
    have g36 : act.eval (.tmp 36) = .pointer (some ⟨fb, 0, none⟩) := hF.val 0 _ 36 rfl (hall 0 (by simp)) rfl
    have g37 : act.eval (.tmp 37) = .pointer (some ⟨fb, 0, none⟩) := hF.val 1 _ 37 rfl (hall 1 (by simp)) rfl
    have g38 : act.eval (.tmp 38) = .agg #[.int .u64 cver, .int .i64 cn, .slice a3 cl k3] := hF.val 2 _ 38 rfl (hall 2 (by simp)) rfl
    have g39 : act.eval (.tmp 39) = .pointer (some ⟨fb, 0, none⟩) := hF.val 3 _ 39 rfl (hall 3 (by simp)) rfl
    have g40 : act.eval (.tmp 40) = .pointer (some ⟨fb, 6, none⟩) := hF.val 4 _ 40 rfl (hall 4 (by simp)) rfl
    have g41 : act.eval (.tmp 41) = .pointer (some ⟨fb, 0, none⟩) := hF.val 6 _ 41 rfl (hall 6 (by simp)) rfl
    have g42 : act.eval (.tmp 42) = .pointer (some ⟨fb, 11, none⟩) := hF.val 7 _ 42 rfl (hall 7 (by simp)) rfl
    have g43 : act.eval (.tmp 43) = .pointer (some ⟨fb, 11, none⟩) := hF.val 8 _ 43 rfl (hall 8 (by simp)) rfl
    have hact := hF.act [36, 37, 38, 39, 40, 41, 42, 43] (by kernel_rfl)
    obtain ⟨hxz, hBz, hFz⟩ := Reg.PInv.done hI (fun j hj => hall j (by simp at hj ⊢; omega))
    clear hF hall
    simp only [List.foldl_cons, List.foldl_nil] at hact
    rw [g36, g37, g38, g39, g40, g41, g42, g43] at hact
    clear g36 g37 g38 g39 g40 g41 g42 g43
    simp only [List.setIfInBounds_toArray, List.set_cons_succ, List.set_cons_zero] at hact
    subst hact
    obtain ⟨hM4, hf4, hB4, hA4, hS4, hS04, hS14, hi0, hi1, hb04, hd, hPf, hPl, hOl, hcl, hn3, hC4, _⟩ := HZ.out
    obtain ⟨hs1, hs3, hs4⟩ := HS.out
    have hB6 := hFz.2.2 rfl
    have hA6 := (hA4.below HQ.out).but hBz (fun e => hfa e.symm)
    have hwz : Below w.heap.size w W5 := hb04.trans (HQ.out.mono hb04.size)
    have hbz : But (fun k => O k ∨ P k) w wz := (But.of_below hwz).then hBz (fun j _ e => .inr (e ▸ hPf))
    have FIN := hidq (stepEnd_of (w := w) (b := b) (A := Ans.zero) (d := false) (F' := { F with at_ := 1, c0 := ⟨cver, cn, cL⟩, pc := 2 }) [(5, .int .i64 2)] ((hM4.below HQ.out).but hBz (fun k hk e => hOf (e ▸ hk))) (Grown.refl O w wz) hbz hPf hB6 (by rw [← hcl]; rfl) hA6 (by omega) (fun e => by have := hOl _ e; omega) hOf hfa
      (by have := (hS4.below HQ.out).but hBz (fun j hj e => by have := hn3 j hj; omega); rw [← hcl] at *; exact this) (fun j hj => by have := hn3 j hj; exact ⟨by omega, by omega, fun e => by have := hOl _ e; omega, .inr (by omega)⟩)
      ((hS14.below HQ.out).but hBz (fun j hj => (hi1 j hj).2)) (fun j hj => by have := hPl _ (hi1 j hj).1; exact ⟨(hi1 j hj).2, by omega, fun e => hd _ e (hi1 j hj).1, .inl (hi1 j hj).1⟩))
    obtain ⟨v5, s5⟩ := hB6.get 5 _ rfl
    obtain ⟨v0, s0⟩ := hA6.get 0 _ rfl
    obtain ⟨v1, s1⟩ := hA6.get 1 _ rfl
    obtain ⟨v2, s2⟩ := hA6.get 2 _ rfl
    obtain ⟨v3, s3⟩ := hA6.get 3 _ rfl
    have hal6 := hA6.lt
    have hfl6 := hB6.lt
    clear hM4 hf4 hB4 hA4 hS4 hS04 hS14 hi0 hi1 hb04 hd hPf hPl hOl hcl hn3 hC4 hs1 hs3 hs4 hB6 hA6 hwz hbz hBz hFz HZ HS HQ HB5 FC HF hxz g5 z5
    go_wp2
    exact ret_ans (A := Ans.zero) Tryz.results184 FIN.out.1 rfl rfl rfl (by rw [HR2.out]; exact FIN.out.2)
  · have hr2 : r = (M, { F with pc := 2 }, Ans.zero, false) := by rw [← HR.out.1, kDeq_1n HR.out.2 (by rw [hcv, hsg]; exact hy)]
    have HR2 := hidq hr2
    have t1 : (cn == sg) = false := by simpa using hy
    have t2 : decide (cn = sg) = false := decide_eq_false hy
    clear hr2 h hf hd hf1 hM1 hQ1 hA1 hb1 hs1 hb3 hb4 hC4 hb14 hb04 hf4 hM4 hA4 hS3 hS4 hB4 hS04 hS14 hi0 hi1 hcv HO HR hRd hs3 hn3 hsg hW4' hcl hs4 hy
    go_wp2_with fail
    go_quiet (fail)
    obtain ⟨W5, hW5⟩ : ∃ W5, W4.drewN nq = W5 := ⟨_, rfl⟩
    have hq : Below W4.heap.size W4 W5 := by rw [← hW5]; exact below_drewN (Below.refl _ _) nq
    rw [hW5]
    obtain ⟨hM4, hf4, hB4, hA4, hS4, hS04, hS14, hi0, hi1, hb04, hd, hPf, hPl, hOl, hcl, hn3, hC4, _⟩ := HZ.out
    have hb05 : Below w.heap.size w W5 := hb04.trans (hq.mono hb04.size)
    have hA5 := hA4.below hq
    obtain ⟨hs1, hs3, hs4⟩ := HS.out
    have FIN := hidq (stepEnd_fr (w := w) (b := b) (A := Ans.zero) (d := false) (F' := { F with pc := 2 }) [(5, .int .i64 2)] (hM4.below hq) (Grown.refl O w W5) (hf4.below hq) (Grown.refl P w W5) hd (But.of_below hb05) hPf hA5 (by omega) (fun e => by have := hOl _ e; omega) (fun e => by have := hPl _ e; omega) (fun _ _ _ _ => rfl) rfl rfl)
    obtain ⟨v5, s5⟩ := (hB4.below hq).get 5 _ rfl
    obtain ⟨v0, s0⟩ := hA5.get 0 _ rfl
    obtain ⟨v1, s1⟩ := hA5.get 1 _ rfl
    obtain ⟨v2, s2⟩ := hA5.get 2 _ rfl
    obtain ⟨v3, s3⟩ := hA5.get 3 _ rfl
    have hal6 := hA5.lt
    have hfl6 := (hB4.below hq).lt
    clear hM4 hf4 hB4 hA4 hS4 hS04 hS14 hi0 hi1 hb04 hd hPf hPl hOl hcl hn3 hC4 hs1 hs3 hs4 hb05 hA5 hW5 hq HZ HS g5 z5 u1 g8 hW4 f5z q0 hql hW1 t0
    go_wp2
    exact ret_ans (A := Ans.zero) Tryz.results184 FIN.out.1 rfl rfl rfl (by rw [HR2.out]; exact FIN.out.2)

set_option maxRecDepth 20000 in
set_option maxHeartbeats 8000000 in
theorem kdeq_2 (k : Int) (w : World) (b fb : Nat) (O P : Nat → Prop) (M : Mem) (F : Fr) (h : MemAt w b O M) (hf : FrAt w fb P F) (hd : ∀ k, O k → ¬ P k) (hk : 1 ≤ k ∧ k ≤ 16) (hs : 0 ≤ F.seen ∧ F.seen ≤ 100) (hp : F.pc = 2) :
    Calls Tryz.prog 184 #[.agg #[.int .i64 k], .pointer (some ⟨b, 0, none⟩), .pointer (some ⟨fb, 0, none⟩)] w (StepEnd b fb O P (kDeq k M F) w) := by
  obtain ⟨nb, hnb⟩ : ∃ nb, w.heap.size = nb := ⟨_, rfl⟩
  obtain ⟨W1, hW1', hb1, hs1, hQ1, hA1⟩ := two_new w [.int .i64 k] Ans.zero.l 151 46 0
  have hW1 : (w.alloc (.cells #[.int .i64 k] 151)).alloc (.cells #[.bool false, .float .f64 0, .int .i64 0, .int .i64 0] 46) = W1 := hW1'
  clear hW1'
  rw [hnb] at hQ1 hA1 hs1
  have hsf := run_store_flt (P := Tryz.prog)
  have hf1 := hf.below hb1
  have hM1 := h.below hb1
  obtain ⟨a0, k0, a1, k1, hB1, hS01, hS11, hi0, hi1⟩ := hf1.box
  have f5 := (hB1.get 5 _ rfl).1
  have hfl := hB1.lt
  have hfp := hf.lt _ hf.ob
  have q0 := (hQ1.get 0 _ rfl).1
  have hql := hQ1.lt
  have f5z : W1.cell? ⟨fb, 5, none⟩ = some (.int .i64 2) := by rw [f5, hp]
  have hLk := hidq (klook_any k 1 W1 b fb O P M F hM1 hf1 hd hk hs)
  obtain ⟨r, hr⟩ : ∃ r, kDeq k M F = r := ⟨_, rfl⟩
  rw [hr]
  rw [kDeq_2 hp] at hr
  have HO := hidq (And.intro h.lt (And.intro hf.lt (And.intro hf.ob (And.intro hb1 (And.intro hA1 hs1)))))
  generalize kLook k 1 M F = F9 at *
  have HR := hidq hr
  clear h hf hd hf1 hM1 hB1 hS01 hS11 hi0 hi1 hQ1 hA1 hb1 hs1 f5 hp hr hk hs
  go_enter Tryz.func184, Tryz.ntmps184
  go_wp2_with fail
  refine hLk.out.mono ?_
  rintro e W3 ⟨rfl, P2, hM2, hF2, hd2, hG2, hb2⟩
  obtain ⟨hOl, hPl, hPf, hb1, hA1, hs1⟩ := HO.out
  obtain ⟨a0', k0', a1', k1', hB2, _⟩ := hF2.box
  have g5 := (hB2.get 5 _ rfl).1
  have g10 := (hB2.get 10 _ rfl).1
  have hfl3 := hB2.lt
  have hfa : fb ≠ nb + 1 := by have := hPl _ hPf; omega
  have hA3 := hA1.but hb2 (fun e => by have := hPl _ e; omega)
  have HZ := hidq (And.intro hM2 (And.intro hF2 (And.intro hA3 (And.intro hd2 (And.intro hG2 (And.intro ((But.of_below (S := fun k => O k ∨ P k) hb1).then hb2 (fun j _ e => .inr e)) (And.intro hOl (And.intro hPl (And.intro hs1 hb2.size)))))))))
  have hr1 : r = (M, F9, Ans.zero, decide (F9.pc = 4) && F9.empty) := HR.out.symm
  obtain ⟨pc, hpc⟩ : ∃ pc, F9.pc = pc := ⟨_, rfl⟩
  obtain ⟨em, hem⟩ : ∃ em, F9.empty = em := ⟨_, rfl⟩
  rw [hpc] at g5 hr1
  rw [hem] at g10 hr1
  have FC := hidq (fun W (hW : But (fun j => j = nb + 1) W3 W) => (show W.cell? ⟨fb, 5, none⟩ = some (.int .i64 pc) ∧ W.cell? ⟨fb, 10, none⟩ = some (.bool em) from ⟨(hW.cell (p := ⟨fb, 5, none⟩) hfl3 hfa).trans g5, (hW.cell (p := ⟨fb, 10, none⟩) hfl3 hfa).trans g10⟩))
  clear hM2 hF2 hd2 hG2 hb2 hOl hPl hPf hb1 hA1 hs1 hB2 hA3 HO hLk HR hpc hem f5z q0 hql hW1 g5 g10
  by_cases h4 : pc = 4
  · have T4 : (pc == 4) = true := by simpa using h4
    have T5 : decide (pc = 4) = true := by simpa using h4
    have hr2 : r = (M, F9, Ans.zero, em) := by rw [hr1, T5]; simp
    have HR2 := hidq hr2
    clear hr2 hr1 h4
    go_wp2_with fail
    have HF : ∀ (x : Nat) w w', Below w.heap.size w w' → (fun (_ : Nat) w => BoxAt w (nb + 1) Ans.zero.l) x w → (fun (_ : Nat) w => BoxAt w (nb + 1) Ans.zero.l) x w' := fun x w w' hb hh => BoxAt.below hh hb
    refine Reg.wp_region_ghost (Reg.gofList (kdeq14Rt fb nb pc em)) (Reg.PPres (fun j => j = nb + 1)) (Reg.PInv [12] (fun j => j = nb + 1) W3 (fun _ w => BoxAt w (nb + 1) Ans.zero.l)) 0 (by kernel_rfl) (by kernel_rfl) (Reg.GAllKept.at _ (kdeq14Rt_kept fb nb pc em)) (Reg.PInv.start 14 HZ.out.2.2.1.drew) ⟨?_, ?_, ?_, ?_, ?_, ?_, ?_, ?_, ?_, ?_, ?_, ?_, ?_, ?_, trivial⟩ ?_
    · refine Reg.GStepAt.plain (i := 0) rfl ?_
      intro x L ev w hI hk hp hA
      have hcc := hA.const
      clear hA hp
      refine Reg.out_value (v := .agg #[.bool false, .float .f64 0, .int .i64 0, .int .i64 0]) ?_ ⟨x, rfl, Reg.PPres.refl _ _ _, Reg.PInv.light HF hI 0 (by decide) (Below.refl _ _)⟩
      go_simp
    · refine Reg.GStepAt.plain (i := 1) rfl ?_
      intro x L ev w hI hk hp hA
      have e2 : ev (.tmp 2) = .pointer (some ⟨fb, 0, none⟩) := hA.oldNone 2 (by kernel_rfl)
      have hcc := hA.const
      clear hA hp
      refine Reg.out_value (v := .pointer (some ⟨fb, 0, none⟩)) ?_ ⟨x, rfl, Reg.PPres.refl _ _ _, Reg.PInv.light HF hI 1 (by decide) (Below.refl _ _)⟩
      go_simp
    · refine Reg.GStepAt.plain (i := 2) rfl ?_
      intro x L ev w hI hk hp hA
      have e55 : ev (.tmp 55) = .pointer (some ⟨fb, 0, none⟩) := hA.val 1 _ 55 rfl (hp ⟨1, .data⟩ (by simp) rfl) rfl
      have hcc := hA.const
      clear hA hp
      refine Reg.out_value (v := .pointer (some ⟨fb, 0, none⟩)) ?_ ⟨x, rfl, Reg.PPres.refl _ _ _, Reg.PInv.light HF hI 2 (by decide) (Below.refl _ _)⟩
      go_simp
    · refine Reg.GStepAt.plain (i := 3) rfl ?_
      intro x L ev w hI hk hp hA
      have e56 : ev (.tmp 56) = .pointer (some ⟨fb, 0, none⟩) := hA.val 2 _ 56 rfl (hp ⟨2, .data⟩ (by simp) rfl) rfl
      have hcc := hA.const
      clear hA hp
      refine Reg.out_value (v := .pointer (some ⟨fb, 5, none⟩)) ?_ ⟨x, rfl, Reg.PPres.refl _ _ _, Reg.PInv.light HF hI 3 (by decide) (Below.refl _ _)⟩
      go_simp
    · refine Reg.GStepAt.plain (i := 4) rfl ?_
      intro x L ev w hI hk hp hA
      have e57 : ev (.tmp 57) = .pointer (some ⟨fb, 5, none⟩) := hA.val 3 _ 57 rfl (hp ⟨3, .data⟩ (by simp) rfl) rfl
      have hcc := hA.const
      clear hA hp
      obtain ⟨f5, f10⟩ := FC.out w hI.2.1
      refine Reg.out_value (v := .int .i64 pc) ?_ ⟨x, rfl, Reg.PPres.refl _ _ _, Reg.PInv.light HF hI 4 (by decide) (Below.refl _ _)⟩
      go_simp
    · refine Reg.GStepAt.plain (i := 5) rfl ?_
      intro x L ev w hI hk hp hA
      have e58 : ev (.tmp 58) = .int .i64 pc := hA.val 4 _ 58 rfl (hp ⟨4, .data⟩ (by simp) rfl) rfl
      have hcc := hA.const
      clear hA hp
      refine Reg.out_value (v := .bool true) ?_ ⟨x, rfl, Reg.PPres.refl _ _ _, Reg.PInv.light HF hI 5 (by decide) (Below.refl _ _)⟩
      go_simp
    · refine Reg.GStepAt.plain (i := 6) rfl ?_
      intro x L ev w hI hk hp hA
      have e59 : ev (.tmp 59) = .bool true := hA.val 5 _ 59 rfl (hp ⟨5, .data⟩ (by simp) rfl) rfl
      have hcc := hA.const
      clear hA hp
      refine Reg.out_value (v := .bool true) ?_ ⟨x, rfl, Reg.PPres.refl _ _ _, Reg.PInv.light HF hI 6 (by decide) (Below.refl _ _)⟩
      go_simp
    · refine Reg.GStepAt.either (i := 7) rfl ?_
      intro x L ev w hI hk hp hA
      have e2 : ev (.tmp 2) = .pointer (some ⟨fb, 0, none⟩) := hA.oldNone 2 (by kernel_rfl)
      have eg : ev (.tmp 60) = .bool true := hA.val 6 _ 60 rfl (hp ⟨6, .guard⟩ (by simp) rfl) rfl
      refine ⟨_, 60, true, rfl, rfl, eg, ?_⟩
      rw [if_pos rfl]
      have hcc := hA.const
      clear hA hp
      refine Reg.out_value (v := .pointer (some ⟨fb, 0, none⟩)) ?_ ⟨x, rfl, Reg.PPres.refl _ _ _, Reg.PInv.light HF hI 7 (by decide) (Below.refl _ _)⟩
      go_simp
    · refine Reg.GStepAt.either (i := 8) rfl ?_
      intro x L ev w hI hk hp hA
      have e61 : ev (.tmp 61) = .pointer (some ⟨fb, 0, none⟩) := hA.val 7 _ 61 rfl (hp ⟨7, .data⟩ (by simp) rfl) rfl
      have eg : ev (.tmp 60) = .bool true := hA.val 6 _ 60 rfl (hp ⟨6, .guard⟩ (by simp) rfl) rfl
      refine ⟨_, 60, true, rfl, rfl, eg, ?_⟩
      rw [if_pos rfl]
      have hcc := hA.const
      clear hA hp
      refine Reg.out_value (v := .pointer (some ⟨fb, 0, none⟩)) ?_ ⟨x, rfl, Reg.PPres.refl _ _ _, Reg.PInv.light HF hI 8 (by decide) (Below.refl _ _)⟩
      go_simp
    · refine Reg.GStepAt.either (i := 9) rfl ?_
      intro x L ev w hI hk hp hA
      have e62 : ev (.tmp 62) = .pointer (some ⟨fb, 0, none⟩) := hA.val 8 _ 62 rfl (hp ⟨8, .data⟩ (by simp) rfl) rfl
      have eg : ev (.tmp 60) = .bool true := hA.val 6 _ 60 rfl (hp ⟨6, .guard⟩ (by simp) rfl) rfl
      refine ⟨_, 60, true, rfl, rfl, eg, ?_⟩
      rw [if_pos rfl]
      have hcc := hA.const
      clear hA hp
      refine Reg.out_value (v := .pointer (some ⟨fb, 10, none⟩)) ?_ ⟨x, rfl, Reg.PPres.refl _ _ _, Reg.PInv.light HF hI 9 (by decide) (Below.refl _ _)⟩
      go_simp
    · refine Reg.GStepAt.either (i := 10) rfl ?_
      intro x L ev w hI hk hp hA
      have e63 : ev (.tmp 63) = .pointer (some ⟨fb, 10, none⟩) := hA.val 9 _ 63 rfl (hp ⟨9, .data⟩ (by simp) rfl) rfl
      have eg : ev (.tmp 60) = .bool true := hA.val 6 _ 60 rfl (hp ⟨6, .guard⟩ (by simp) rfl) rfl
      refine ⟨_, 60, true, rfl, rfl, eg, ?_⟩
      rw [if_pos rfl]
      have hcc := hA.const
      clear hA hp
      obtain ⟨f5, f10⟩ := FC.out w hI.2.1
      refine Reg.out_value (v := .bool em) ?_ ⟨x, rfl, Reg.PPres.refl _ _ _, Reg.PInv.light HF hI 10 (by decide) (Below.refl _ _)⟩
      go_simp
    · refine Reg.GStepAt.plain (i := 11) rfl ?_
      intro x L ev w hI hk hp hA
      have e60 : ev (.tmp 60) = .bool true := hA.val 6 _ 60 rfl (hp ⟨6, .data⟩ (by simp) rfl) rfl
      have e64 : ev (.tmp 64) = .bool em := hA.val 10 _ 64 rfl (hp ⟨10, .data⟩ (by simp) rfl) rfl
      have hcc := hA.const
      clear hA hp
      refine Reg.out_value (v := .bool em) ?_ ⟨x, rfl, Reg.PPres.refl _ _ _, Reg.PInv.light HF hI 11 (by decide) (Below.refl _ _)⟩
      go_simp
    · refine Reg.GStepAt.plain (i := 12) rfl ?_
      intro x L ev w hI hk hp hA
      have e6 : ev (.tmp 6) = .pointer (some ⟨nb + 1, 0, none⟩) := hA.oldNone 6 (by kernel_rfl)
      have e54 : ev (.tmp 54) = .agg #[.bool false, .float .f64 0, .int .i64 0, .int .i64 0] := hA.val 0 _ 54 rfl (hp ⟨0, .data⟩ (by simp) rfl) rfl
      have hcc := hA.const
      clear hA hp
      have hT := hI.2.2
      obtain ⟨c0, y0⟩ := hT.get 0 _ rfl
      obtain ⟨c1, y1⟩ := hT.get 1 _ rfl
      obtain ⟨c2, y2⟩ := hT.get 2 _ rfl
      obtain ⟨c3, y3⟩ := hT.get 3 _ rfl
      have hset := setBox_box Ans.zero.s hT
      have hbS := setBox_but (nb + 1) Ans.zero.s w
      refine Reg.out_skipP (w' := setBox w (nb + 1) Ans.zero.s) ?_ ⟨x + 1, trivial, Reg.PPres.heavy hbS, Reg.PInv.heavy hI 12 (by decide) (by simp) hk hbS hset⟩
      clear hI hset hT hbS
      simp only [setBox]
      (go_simp; try rfl)
    · refine Reg.GStepAt.plain (i := 13) rfl ?_
      intro x L ev w hI hk hp hA
      have e65 : ev (.tmp 65) = .bool em := hA.val 11 _ 65 rfl (hp ⟨11, .data⟩ (by simp) rfl) rfl
      have hcc := hA.const
      clear hA hp
      refine Reg.out_value (v := .bool em) ?_ ⟨x, rfl, Reg.PPres.refl _ _ _, Reg.PInv.light HF hI 13 (by decide) (Below.refl _ _)⟩
      go_simp
    intro gx L act wz hall hI hF
    have g54 : act.eval (.tmp 54) = .agg #[.bool false, .float .f64 0, .int .i64 0, .int .i64 0] := hF.val 0 _ 54 rfl (hall 0 (by simp)) rfl
    have g55 : act.eval (.tmp 55) = .pointer (some ⟨fb, 0, none⟩) := hF.val 1 _ 55 rfl (hall 1 (by simp)) rfl
    have g56 : act.eval (.tmp 56) = .pointer (some ⟨fb, 0, none⟩) := hF.val 2 _ 56 rfl (hall 2 (by simp)) rfl
    have g57 : act.eval (.tmp 57) = .pointer (some ⟨fb, 5, none⟩) := hF.val 3 _ 57 rfl (hall 3 (by simp)) rfl
    have g58 : act.eval (.tmp 58) = .int .i64 pc := hF.val 4 _ 58 rfl (hall 4 (by simp)) rfl
    have g59 : act.eval (.tmp 59) = .bool true := hF.val 5 _ 59 rfl (hall 5 (by simp)) rfl
    have g60 : act.eval (.tmp 60) = .bool true := hF.val 6 _ 60 rfl (hall 6 (by simp)) rfl
    have g61 : act.eval (.tmp 61) = .pointer (some ⟨fb, 0, none⟩) := hF.val 7 _ 61 rfl (hall 7 (by simp)) rfl
    have g62 : act.eval (.tmp 62) = .pointer (some ⟨fb, 0, none⟩) := hF.val 8 _ 62 rfl (hall 8 (by simp)) rfl
    have g63 : act.eval (.tmp 63) = .pointer (some ⟨fb, 10, none⟩) := hF.val 9 _ 63 rfl (hall 9 (by simp)) rfl
    have g64 : act.eval (.tmp 64) = .bool em := hF.val 10 _ 64 rfl (hall 10 (by simp)) rfl
    have g65 : act.eval (.tmp 65) = .bool em := hF.val 11 _ 65 rfl (hall 11 (by simp)) rfl
    have g7 : act.eval (.tmp 7) = .bool em := hF.val 13 _ 7 rfl (hall 13 (by simp)) rfl
    have hact := hF.act [54, 55, 56, 57, 58, 59, 60, 61, 62, 63, 64, 65, 7] (by kernel_rfl)
    obtain ⟨hxz, hBz, hFz⟩ := Reg.PInv.done hI (fun j hj => hall j (by simp at hj ⊢; omega))
    clear hF hall
    simp only [List.foldl_cons, List.foldl_nil] at hact
    rw [g54, g55, g56, g57, g58, g59, g60, g61, g62, g63, g64, g65, g7] at hact
    clear g54 g55 g56 g57 g58 g59 g60 g61 g62 g63 g64 g65 g7
    simp only [List.setIfInBounds_toArray, List.set_cons_succ, List.set_cons_zero] at hact
    subst hact
    have hB4 : BoxAt wz (nb + 1) Ans.zero.l := hFz
    obtain ⟨hM3, hf3, hA3, hd3, hG3, hbw, hOl, hPl, hs1, hs2⟩ := HZ.out
    have HE := hidq (show StepEnd b fb O P r w (.returned (.tuple #[Ans.zero.v, .bool (em)])) wz from by
      have hsz := hBz.size
      rw [HR2.out]
      refine ⟨rfl, O, P2, hM3.but hBz (fun k hk e => by have := hOl _ hk; omega), hf3.but hBz (fun k hk e => by
        rcases hG3 k hk with q | q
        · have := hPl _ q; omega
        · omega), hd3, Grown.refl _ _ _, fun k hk => (hG3 k hk).imp id (fun e => ⟨by omega, by omega⟩), hbw.then hBz (fun j hj e => by omega)⟩)
    have HB4 := hidq hB4
    clear hM3 hf3 hA3 hd3 hG3 hbw hOl hPl hs1 hs2 hB4 hBz hFz HF hxz HZ FC HR2
    go_wp2
    exact ret_ans (A := Ans.zero) Tryz.results184 HB4.out rfl rfl rfl HE.out
  · have T4 : (pc == 4) = false := by simpa using h4
    have T5 : decide (pc = 4) = false := by simpa using h4
    have hr2 : r = (M, F9, Ans.zero, false) := by rw [hr1, T5]; simp
    have HR2 := hidq hr2
    clear hr2 hr1 h4
    go_wp2_with fail
    have HF : ∀ (x : Nat) w w', Below w.heap.size w w' → (fun (_ : Nat) w => BoxAt w (nb + 1) Ans.zero.l) x w → (fun (_ : Nat) w => BoxAt w (nb + 1) Ans.zero.l) x w' := fun x w w' hb hh => BoxAt.below hh hb
    refine Reg.wp_region_ghost (Reg.gofList (kdeq14Rf fb nb pc em)) (Reg.PPres (fun j => j = nb + 1)) (Reg.PInv [12] (fun j => j = nb + 1) W3 (fun _ w => BoxAt w (nb + 1) Ans.zero.l)) 0 (by kernel_rfl) (by kernel_rfl) (Reg.GAllKept.at _ (kdeq14Rf_kept fb nb pc em)) (Reg.PInv.start 14 HZ.out.2.2.1.drew) ⟨?_, ?_, ?_, ?_, ?_, ?_, ?_, ?_, ?_, ?_, ?_, ?_, ?_, ?_, trivial⟩ ?_
    · refine Reg.GStepAt.plain (i := 0) rfl ?_
      intro x L ev w hI hk hp hA
      have hcc := hA.const
      clear hA hp
      refine Reg.out_value (v := .agg #[.bool false, .float .f64 0, .int .i64 0, .int .i64 0]) ?_ ⟨x, rfl, Reg.PPres.refl _ _ _, Reg.PInv.light HF hI 0 (by decide) (Below.refl _ _)⟩
      go_simp
    · refine Reg.GStepAt.plain (i := 1) rfl ?_
      intro x L ev w hI hk hp hA
      have e2 : ev (.tmp 2) = .pointer (some ⟨fb, 0, none⟩) := hA.oldNone 2 (by kernel_rfl)
      have hcc := hA.const
      clear hA hp
      refine Reg.out_value (v := .pointer (some ⟨fb, 0, none⟩)) ?_ ⟨x, rfl, Reg.PPres.refl _ _ _, Reg.PInv.light HF hI 1 (by decide) (Below.refl _ _)⟩
      go_simp
    · refine Reg.GStepAt.plain (i := 2) rfl ?_
      intro x L ev w hI hk hp hA
      have e55 : ev (.tmp 55) = .pointer (some ⟨fb, 0, none⟩) := hA.val 1 _ 55 rfl (hp ⟨1, .data⟩ (by simp) rfl) rfl
      have hcc := hA.const
      clear hA hp
      refine Reg.out_value (v := .pointer (some ⟨fb, 0, none⟩)) ?_ ⟨x, rfl, Reg.PPres.refl _ _ _, Reg.PInv.light HF hI 2 (by decide) (Below.refl _ _)⟩
      go_simp
    · refine Reg.GStepAt.plain (i := 3) rfl ?_
      intro x L ev w hI hk hp hA
      have e56 : ev (.tmp 56) = .pointer (some ⟨fb, 0, none⟩) := hA.val 2 _ 56 rfl (hp ⟨2, .data⟩ (by simp) rfl) rfl
      have hcc := hA.const
      clear hA hp
      refine Reg.out_value (v := .pointer (some ⟨fb, 5, none⟩)) ?_ ⟨x, rfl, Reg.PPres.refl _ _ _, Reg.PInv.light HF hI 3 (by decide) (Below.refl _ _)⟩
      go_simp
    · refine Reg.GStepAt.plain (i := 4) rfl ?_
      intro x L ev w hI hk hp hA
      have e57 : ev (.tmp 57) = .pointer (some ⟨fb, 5, none⟩) := hA.val 3 _ 57 rfl (hp ⟨3, .data⟩ (by simp) rfl) rfl
      have hcc := hA.const
      clear hA hp
      obtain ⟨f5, f10⟩ := FC.out w hI.2.1
      refine Reg.out_value (v := .int .i64 pc) ?_ ⟨x, rfl, Reg.PPres.refl _ _ _, Reg.PInv.light HF hI 4 (by decide) (Below.refl _ _)⟩
      go_simp
    · refine Reg.GStepAt.plain (i := 5) rfl ?_
      intro x L ev w hI hk hp hA
      have e58 : ev (.tmp 58) = .int .i64 pc := hA.val 4 _ 58 rfl (hp ⟨4, .data⟩ (by simp) rfl) rfl
      have hcc := hA.const
      clear hA hp
      refine Reg.out_value (v := .bool false) ?_ ⟨x, rfl, Reg.PPres.refl _ _ _, Reg.PInv.light HF hI 5 (by decide) (Below.refl _ _)⟩
      go_simp
    · refine Reg.GStepAt.plain (i := 6) rfl ?_
      intro x L ev w hI hk hp hA
      have e59 : ev (.tmp 59) = .bool false := hA.val 5 _ 59 rfl (hp ⟨5, .data⟩ (by simp) rfl) rfl
      have hcc := hA.const
      clear hA hp
      refine Reg.out_value (v := .bool false) ?_ ⟨x, rfl, Reg.PPres.refl _ _ _, Reg.PInv.light HF hI 6 (by decide) (Below.refl _ _)⟩
      go_simp
    · refine Reg.GStepAt.either (i := 7) rfl ?_
      intro x L ev w hI hk hp hA
      have e2 : ev (.tmp 2) = .pointer (some ⟨fb, 0, none⟩) := hA.oldNone 2 (by kernel_rfl)
      have eg : ev (.tmp 60) = .bool false := hA.val 6 _ 60 rfl (hp ⟨6, .guard⟩ (by simp) rfl) rfl
      refine ⟨_, 60, false, rfl, rfl, eg, ?_⟩
      rw [if_neg (by decide)]
      have hcc := hA.const
      clear hA hp
      exact ⟨trivial, Reg.PInv.light HF hI 7 (by decide) (Below.refl _ _)⟩
    · refine Reg.GStepAt.either (i := 8) rfl ?_
      intro x L ev w hI hk hp hA
      have e61 : (fun _ _ _ => True) (ev (.tmp 61)) x w := hA.val 7 _ 61 rfl (hp ⟨7, .data⟩ (by simp) rfl) rfl
      have eg : ev (.tmp 60) = .bool false := hA.val 6 _ 60 rfl (hp ⟨6, .guard⟩ (by simp) rfl) rfl
      refine ⟨_, 60, false, rfl, rfl, eg, ?_⟩
      rw [if_neg (by decide)]
      have hcc := hA.const
      clear hA hp
      exact ⟨trivial, Reg.PInv.light HF hI 8 (by decide) (Below.refl _ _)⟩
    · refine Reg.GStepAt.either (i := 9) rfl ?_
      intro x L ev w hI hk hp hA
      have e62 : (fun _ _ _ => True) (ev (.tmp 62)) x w := hA.val 8 _ 62 rfl (hp ⟨8, .data⟩ (by simp) rfl) rfl
      have eg : ev (.tmp 60) = .bool false := hA.val 6 _ 60 rfl (hp ⟨6, .guard⟩ (by simp) rfl) rfl
      refine ⟨_, 60, false, rfl, rfl, eg, ?_⟩
      rw [if_neg (by decide)]
      have hcc := hA.const
      clear hA hp
      exact ⟨trivial, Reg.PInv.light HF hI 9 (by decide) (Below.refl _ _)⟩
    · refine Reg.GStepAt.either (i := 10) rfl ?_
      intro x L ev w hI hk hp hA
      have e63 : (fun _ _ _ => True) (ev (.tmp 63)) x w := hA.val 9 _ 63 rfl (hp ⟨9, .data⟩ (by simp) rfl) rfl
      have eg : ev (.tmp 60) = .bool false := hA.val 6 _ 60 rfl (hp ⟨6, .guard⟩ (by simp) rfl) rfl
      refine ⟨_, 60, false, rfl, rfl, eg, ?_⟩
      rw [if_neg (by decide)]
      have hcc := hA.const
      clear hA hp
      exact ⟨trivial, Reg.PInv.light HF hI 10 (by decide) (Below.refl _ _)⟩
    · refine Reg.GStepAt.plain (i := 11) rfl ?_
      intro x L ev w hI hk hp hA
      have e60 : ev (.tmp 60) = .bool false := hA.val 6 _ 60 rfl (hp ⟨6, .data⟩ (by simp) rfl) rfl
      have e64 : (fun _ _ _ => True) (ev (.tmp 64)) x w := hA.val 10 _ 64 rfl (hp ⟨10, .data⟩ (by simp) rfl) rfl
      have hcc := hA.const
      clear hA hp
      refine Reg.out_value (v := .bool false) ?_ ⟨x, rfl, Reg.PPres.refl _ _ _, Reg.PInv.light HF hI 11 (by decide) (Below.refl _ _)⟩
      go_simp
    · refine Reg.GStepAt.plain (i := 12) rfl ?_
      intro x L ev w hI hk hp hA
      have e6 : ev (.tmp 6) = .pointer (some ⟨nb + 1, 0, none⟩) := hA.oldNone 6 (by kernel_rfl)
      have e54 : ev (.tmp 54) = .agg #[.bool false, .float .f64 0, .int .i64 0, .int .i64 0] := hA.val 0 _ 54 rfl (hp ⟨0, .data⟩ (by simp) rfl) rfl
      have hcc := hA.const
      clear hA hp
      have hT := hI.2.2
      obtain ⟨c0, y0⟩ := hT.get 0 _ rfl
      obtain ⟨c1, y1⟩ := hT.get 1 _ rfl
      obtain ⟨c2, y2⟩ := hT.get 2 _ rfl
      obtain ⟨c3, y3⟩ := hT.get 3 _ rfl
      have hset := setBox_box Ans.zero.s hT
      have hbS := setBox_but (nb + 1) Ans.zero.s w
      refine Reg.out_skipP (w' := setBox w (nb + 1) Ans.zero.s) ?_ ⟨x + 1, trivial, Reg.PPres.heavy hbS, Reg.PInv.heavy hI 12 (by decide) (by simp) hk hbS hset⟩
      clear hI hset hT hbS
      simp only [setBox]
      (go_simp; try rfl)
    · refine Reg.GStepAt.plain (i := 13) rfl ?_
      intro x L ev w hI hk hp hA
      have e65 : ev (.tmp 65) = .bool false := hA.val 11 _ 65 rfl (hp ⟨11, .data⟩ (by simp) rfl) rfl
      have hcc := hA.const
      clear hA hp
      refine Reg.out_value (v := .bool false) ?_ ⟨x, rfl, Reg.PPres.refl _ _ _, Reg.PInv.light HF hI 13 (by decide) (Below.refl _ _)⟩
      go_simp
    intro gx L act wz hall hI hF
    have g54 : act.eval (.tmp 54) = .agg #[.bool false, .float .f64 0, .int .i64 0, .int .i64 0] := hF.val 0 _ 54 rfl (hall 0 (by simp)) rfl
    have g55 : act.eval (.tmp 55) = .pointer (some ⟨fb, 0, none⟩) := hF.val 1 _ 55 rfl (hall 1 (by simp)) rfl
    have g56 : act.eval (.tmp 56) = .pointer (some ⟨fb, 0, none⟩) := hF.val 2 _ 56 rfl (hall 2 (by simp)) rfl
    have g57 : act.eval (.tmp 57) = .pointer (some ⟨fb, 5, none⟩) := hF.val 3 _ 57 rfl (hall 3 (by simp)) rfl
    have g58 : act.eval (.tmp 58) = .int .i64 pc := hF.val 4 _ 58 rfl (hall 4 (by simp)) rfl
    have g59 : act.eval (.tmp 59) = .bool false := hF.val 5 _ 59 rfl (hall 5 (by simp)) rfl
    have g60 : act.eval (.tmp 60) = .bool false := hF.val 6 _ 60 rfl (hall 6 (by simp)) rfl
    have g61 : (fun _ _ _ => True) (act.eval (.tmp 61)) gx wz := hF.val 7 _ 61 rfl (hall 7 (by simp)) rfl
    have g62 : (fun _ _ _ => True) (act.eval (.tmp 62)) gx wz := hF.val 8 _ 62 rfl (hall 8 (by simp)) rfl
    have g63 : (fun _ _ _ => True) (act.eval (.tmp 63)) gx wz := hF.val 9 _ 63 rfl (hall 9 (by simp)) rfl
    have g64 : (fun _ _ _ => True) (act.eval (.tmp 64)) gx wz := hF.val 10 _ 64 rfl (hall 10 (by simp)) rfl
    have g65 : act.eval (.tmp 65) = .bool false := hF.val 11 _ 65 rfl (hall 11 (by simp)) rfl
    have g7 : act.eval (.tmp 7) = .bool false := hF.val 13 _ 7 rfl (hall 13 (by simp)) rfl
    have hact := hF.act [54, 55, 56, 57, 58, 59, 60, 61, 62, 63, 64, 65, 7] (by kernel_rfl)
    obtain ⟨hxz, hBz, hFz⟩ := Reg.PInv.done hI (fun j hj => hall j (by simp at hj ⊢; omega))
    clear hF hall
    simp only [List.foldl_cons, List.foldl_nil] at hact
    rw [g54, g55, g56, g57, g58, g59, g60, g65, g7] at hact
    clear g54 g55 g56 g57 g58 g59 g60 g65 g7
    generalize act.eval (.tmp 61) = u61 at hact g61
    generalize act.eval (.tmp 62) = u62 at hact g62
    generalize act.eval (.tmp 63) = u63 at hact g63
    generalize act.eval (.tmp 64) = u64 at hact g64
    simp only [List.setIfInBounds_toArray, List.set_cons_succ, List.set_cons_zero] at hact
    subst hact
    have hB4 : BoxAt wz (nb + 1) Ans.zero.l := hFz
    obtain ⟨hM3, hf3, hA3, hd3, hG3, hbw, hOl, hPl, hs1, hs2⟩ := HZ.out
    have HE := hidq (show StepEnd b fb O P r w (.returned (.tuple #[Ans.zero.v, .bool (false)])) wz from by
      have hsz := hBz.size
      rw [HR2.out]
      refine ⟨rfl, O, P2, hM3.but hBz (fun k hk e => by have := hOl _ hk; omega), hf3.but hBz (fun k hk e => by
        rcases hG3 k hk with q | q
        · have := hPl _ q; omega
        · omega), hd3, Grown.refl _ _ _, fun k hk => (hG3 k hk).imp id (fun e => ⟨by omega, by omega⟩), hbw.then hBz (fun j hj e => by omega)⟩)
    have HB4 := hidq hB4
    clear hM3 hf3 hA3 hd3 hG3 hbw hOl hPl hs1 hs2 hB4 hBz hFz HF hxz HZ FC HR2
    go_wp2
    exact ret_ans (A := Ans.zero) Tryz.results184 HB4.out rfl rfl rfl HE.out

set_option maxRecDepth 20000 in
set_option maxHeartbeats 8000000 in
theorem kdeq_3 (k : Int) (w : World) (b fb : Nat) (O P : Nat → Prop) (M : Mem) (F : Fr) (h : MemAt w b O M) (hf : FrAt w fb P F) (hd : ∀ k, O k → ¬ P k) (x : KI) (hk : 1 ≤ k ∧ k ≤ 16) (hs : 0 ≤ F.seen ∧ F.seen ≤ 100) (hck : M.clock < 4611686018427387904) (hp : F.pc = 3) (hx : F.c1.L = kit [x]) :
    Calls Tryz.prog 184 #[.agg #[.int .i64 k], .pointer (some ⟨b, 0, none⟩), .pointer (some ⟨fb, 0, none⟩)] w (StepEnd b fb O P (kDeq k M F) w) := by
  obtain ⟨nb, hnb⟩ : ∃ nb, w.heap.size = nb := ⟨_, rfl⟩
  obtain ⟨W1, hW1', hb1, hs1, hQ1, hA1⟩ := two_new w [.int .i64 k] Ans.zero.l 151 46 0
  have hW1 : (w.alloc (.cells #[.int .i64 k] 151)).alloc (.cells #[.bool false, .float .f64 0, .int .i64 0, .int .i64 0] 46) = W1 := hW1'
  clear hW1'
  rw [hnb] at hQ1 hA1 hs1
  have hsf := run_store_flt (P := Tryz.prog)
  have hf1 := hf.below hb1
  have hM1 := h.below hb1
  obtain ⟨a0, k0, a1, k1, hB1, hS01, hS11, hi0, hi1⟩ := hf1.box
  have f5 := (hB1.get 5 _ rfl).1
  have hfl := hB1.lt
  have hfp := hf.lt _ hf.ob
  have q0 := (hQ1.get 0 _ rfl).1
  have hql := hQ1.lt
  rw [kDeq_3 hp hx]
  have f5z : W1.cell? ⟨fb, 5, none⟩ = some (.int .i64 3) := by rw [f5, hp]
  have f16 : W1.cell? ⟨fb, 16, none⟩ = some (.slice a1 1 k1) := by rw [(hB1.get 16 _ rfl).1, hx]; rfl
  have hS1x : SlAt 2 W1 a1 k1 1 (flatI (kit [x])) := by
    have := hS11
    rw [hx] at this
    exact this
  have hN := hidq (first1_any a1 k1 x W1 hS1x)
  obtain ⟨r, hr⟩ : ∃ r, kWrite k 2 [] x.b x.v M F = r := ⟨_, rfl⟩
  rw [hr]
  have HR := hidq hr
  have HO := hidq (And.intro h (And.intro hf (And.intro hd (And.intro hb1 (And.intro hQ1 (And.intro hA1 (And.intro hs1 hnb)))))))
  have HK := hidq (And.intro hk (And.intro hs hck))
  obtain ⟨xp, hxp⟩ : ∃ xp, x.b = xp := ⟨_, rfl⟩
  obtain ⟨xv, hxv⟩ : ∃ xv, x.v = xv := ⟨_, rfl⟩
  rw [hxp, hxv] at HR hN
  clear h hf hd hf1 hM1 hB1 hS01 hS11 hi0 hi1 hQ1 hA1 hb1 hs1 f5 hp hk hs hck hr hx hS1x hxp hxv
  go_enter Tryz.func184, Tryz.ntmps184
  go_wp2_with fail
  refine hN.out.mono ?_
  rintro e w2 ⟨pb, rfl, hb2, hFs⟩
  have HFs := hidq hFs
  have HB2 := hidq hb2
  clear hFs hb2 hN
  go_wp2_with fail
  refine HFs.out.mono ?_
  rintro e w3 ⟨rfl, hb3⟩
  obtain ⟨h, hf, hd, hb1, hQ1, hA1, hs1, hnb2⟩ := HO.out
  obtain ⟨W4, hW4', hb4, hs4, hX4⟩ := one_new w3 [.float .f64 xp, .int .i64 xv] 40
  have hW4 : w3.alloc (.cells #[.float .f64 xp, .int .i64 xv] 40) = W4 := hW4'
  have hb13 : Below W1.heap.size W1 w3 := HB2.out.trans (hb3.mono HB2.out.size)
  have hb14 : Below W1.heap.size W1 W4 := hb13.trans (hb4.mono hb13.size)
  have hb04 : Below w.heap.size w W4 := hb1.trans (hb14.mono hb1.size)
  obtain ⟨hk, hs, hck⟩ := HK.out
  have q4 := ((hQ1.below hb14).get 0 _ rfl).1
  have hq4l := (hQ1.below hb14).lt
  have x0 := (hX4.get 0 _ rfl).1
  have x1 := (hX4.get 1 _ rfl).1
  have hxl := hX4.lt
  have hWr : Calls Tryz.prog 187 #[.agg #[.int .i64 k], .pointer (some ⟨b, 0, none⟩), .pointer (some ⟨fb, 0, none⟩), .agg #[.int .i64 2, .slice none 0 0], .agg #[.float .f64 xp, .int .i64 xv]] W4 (StepEnd b fb O P r W4) := by
    have := kwrite_any k 2 W4 b fb O P M F none 0 0 [] xp xv (h.below hb04) (hf.below hb04) hd hk hs rfl (SlAt.nil _ _) (fun j hj => by obtain ⟨y, hy, _⟩ := hj; cases hy) (by decide) hck
    rw [HR.out] at this
    exact this
  have HWr := hidq hWr
  have FIN := hidq (fun e w5 (hE : StepEnd b fb O P r W4 e w5) => And.intro (stepEnd_on hb04 h.lt hf.lt hE (hA1.below hb14) (by omega)) (show BoxAt w5 (nb + 1) Ans.zero.l from by
    obtain ⟨_, O', P', _, _, _, _, _, h6⟩ := hE
    refine (hA1.below hb14).but h6 (fun e => ?_)
    rcases e with e | e
    · have := h.lt _ e; omega
    · have := hf.lt _ e; omega))
  clear h hf hd hb1 hQ1 hA1 hs1 hnb2 hb3 hb4 hX4 hb13 hb14 hb04 hWr hk hs hck HO HK HR hW4' hs4 HB2 HFs q0 hql f5z f16 hW1
  go_wp2_with fail
  refine HWr.out.mono ?_
  intro e w5 hE
  obtain ⟨⟨e1, e2⟩, e0⟩ := FIN.out _ _ hE
  obtain ⟨rfl, _⟩ := hE
  obtain ⟨M', F', A, dn⟩ := r
  obtain ⟨aok, api, av, an⟩ := A
  dsimp only at e1 e2 e0 ⊢
  obtain ⟨g0, u0⟩ := e0.get 0 _ rfl
  obtain ⟨g1, u1⟩ := e0.get 1 _ rfl
  obtain ⟨g2, u2⟩ := e0.get 2 _ rfl
  obtain ⟨g3, u3⟩ := e0.get 3 _ rfl
  have hal := e0.lt
  have E1 := hidq (And.intro e1 e2)
  clear e0 e1 e2 FIN HWr hW4 x0 x1 q4
  go_wp2
  exact ret_ans Tryz.results184 E1.out.1 rfl rfl rfl E1.out.2

set_option maxRecDepth 20000 in
set_option maxHeartbeats 8000000 in
theorem kdeq_4 (k : Int) (w : World) (b fb : Nat) (O P : Nat → Prop) (M : Mem) (F : Fr) (h : MemAt w b O M) (hf : FrAt w fb P F) (hd : ∀ k, O k → ¬ P k) (hsg : 0 ≤ F.seg ∧ F.seg < 9223372036854775807) (hck : M.clock < 4611686018427387904) (hp0 : F.pc ≠ 0) (hp1 : F.pc ≠ 1) (hp2 : F.pc ≠ 2) (hp3 : F.pc ≠ 3) :
    Calls Tryz.prog 184 #[.agg #[.int .i64 k], .pointer (some ⟨b, 0, none⟩), .pointer (some ⟨fb, 0, none⟩)] w (StepEnd b fb O P (kDeq k M F) w) := by
  obtain ⟨nb, hnb⟩ : ∃ nb, w.heap.size = nb := ⟨_, rfl⟩
  obtain ⟨W1, hW1', hb1, hs1, hQ1, hA1⟩ := two_new w [.int .i64 k] Ans.zero.l 151 46 0
  have hW1 : (w.alloc (.cells #[.int .i64 k] 151)).alloc (.cells #[.bool false, .float .f64 0, .int .i64 0, .int .i64 0] 46) = W1 := hW1'
  clear hW1'
  rw [hnb] at hQ1 hA1 hs1
  have hsf := run_store_flt (P := Tryz.prog)
  have hf1 := hf.below hb1
  have hM1 := h.below hb1
  obtain ⟨a0, k0, a1, k1, hB1, hS01, hS11, hi0, hi1⟩ := hf1.box
  have f5 := (hB1.get 5 _ rfl).1
  have hfl := hB1.lt
  have hfp := hf.lt _ hf.ob
  have q0 := (hQ1.get 0 _ rfl).1
  have hql := hQ1.lt
  have t0 : (F.pc == 0) = false := by simpa using hp0
  have t1 : (F.pc == 1) = false := by simpa using hp1
  have t2 : (F.pc == 2) = false := by simpa using hp2
  have t3 : (F.pc == 3) = false := by simpa using hp3
  rw [kDeq_4 hp0 hp1 hp2 hp3]
  have hMv := hidq (kmove_any W1 b fb O P M F hM1 hf1 hd hsg hck)
  have FIN := hidq (fun e w5 (hE : StepEnd b fb O P (kMove M F) W1 e w5) => And.intro (stepEnd_on hb1 h.lt hf.lt hE hA1 (by omega)) (show BoxAt w5 (nb + 1) Ans.zero.l from by
    obtain ⟨_, O', P', _, _, _, _, _, h6⟩ := hE
    refine hA1.but h6 (fun e => ?_)
    rcases e with e | e
    · have := h.lt _ e; omega
    · have := hf.lt _ e; omega))
  obtain ⟨pc, hpc⟩ : ∃ pc, F.pc = pc := ⟨_, rfl⟩
  rw [hpc] at t0 t1 t2 t3 f5
  generalize kMove M F = r at *
  clear h hf hd hf1 hM1 hB1 hS01 hS11 hi0 hi1 hQ1 hA1 hb1 hs1 hp0 hp1 hp2 hp3 hsg hck hpc
  go_enter Tryz.func184, Tryz.ntmps184
  go_wp2_with fail
  refine hMv.out.mono ?_
  intro e w5 hE
  obtain ⟨⟨e1, e2⟩, e0⟩ := FIN.out _ _ hE
  obtain ⟨rfl, _⟩ := hE
  obtain ⟨M', F', A, dn⟩ := r
  obtain ⟨aok, api, av, an⟩ := A
  dsimp only at e1 e2 e0 ⊢
  obtain ⟨g0, u0⟩ := e0.get 0 _ rfl
  obtain ⟨g1, u1⟩ := e0.get 1 _ rfl
  obtain ⟨g2, u2⟩ := e0.get 2 _ rfl
  obtain ⟨g3, u3⟩ := e0.get 3 _ rfl
  have hal := e0.lt
  have E1 := hidq (And.intro e1 e2)
  clear e0 e1 e2 FIN hMv hW1 f5 q0
  go_wp2
  exact ret_ans Tryz.results184 E1.out.1 rfl rfl rfl E1.out.2
end Go.Proofs.YtbcmilfajeanbaaGreat

namespace Go.Proofs.YtbcmilfajeanbaaGreat
open Go.RowKit Go.Sort

/-- A queue's step. -/
def kStep (k : Int) : StepFn := fun M F => if F.kind = 3 then kEnq k M F else kDeq k M F
/-- A queue's memory. -/
def KM (M : Mem) : Prop := (∀ i, 0 ≤ (M.cell i).n ∧ (M.cell i).n ≤ (M.clock : Int) + 2) ∧ ∀ i, 2 ≤ i → (M.cell i).n = 1 → ∃ x : KI, (M.cell i).L = kit [x]
/-- What is asked of a memory and a frame. -/
structure kGood (k : Int) (M : Mem) (F : Fr) : Prop where
  kind : F.kind = 3 ∨ F.kind = 4
  seen : 0 ≤ F.seen ∧ F.seen ≤ 16
  below : F.pc = 1 ∨ F.pc = 2 → F.seen < k
  seg : 0 ≤ F.seg ∧ F.seg ≤ (M.clock : Int) + 2
  at_ : F.at_ = 0 ∨ F.at_ = 1
  pri : F.pri < 18446744073709551616
  full : F.kind = 4 → F.pc = 3 → ∃ x : KI, F.c1.L = kit [x]
  mem : KM M
theorem KM.empty : KM Mem.empty := ⟨fun _ => ⟨Int.le_refl _, by show (0 : Int) ≤ 0 + 2; omega⟩, fun i _ h => by cases h⟩
theorem KM.look {M : Mem} (h : KM M) (i : Int) : 0 ≤ (M.look i).n ∧ (M.look i).n ≤ (M.clock : Int) + 2 := by
  unfold Mem.look
  split
  · exact ⟨Int.le_refl _, by show (0 : Int) ≤ _; omega⟩
  · exact h.1 _
theorem KM.put {M : Mem} (h : KM M) (i : Nat) (n : Int) (L : List It) (h0 : 0 ≤ n) (h1 : n ≤ (M.clock : Int) + 3) (h2 : 2 ≤ i → n = 1 → ∃ x : KI, L = kit [x]) : KM (M.put i n L) := by
  refine ⟨fun j => ?_, fun j hj hn => ?_⟩
  · show 0 ≤ (if j = i then (⟨_, n, L⟩ : CV) else M.cell j).n ∧ (if j = i then (⟨_, n, L⟩ : CV) else M.cell j).n ≤ ((M.clock + 1 : Nat) : Int) + 2
    split
    · exact ⟨h0, by show n ≤ _; omega⟩
    · have := h.1 j; omega
  · have hn' : (if j = i then (⟨((M.clock + 1 : Nat) : Int), n, L⟩ : CV) else M.cell j).n = 1 := hn
    show ∃ x : KI, (if j = i then (⟨((M.clock + 1 : Nat) : Int), n, L⟩ : CV) else M.cell j).L = kit [x]
    by_cases e : j = i
    · subst e
      rw [if_pos rfl] at hn' ⊢
      exact h2 hj hn'
    · rw [if_neg e] at hn' ⊢
      exact h.2 j hj hn'
theorem KM.write {M : Mem} (h : KM M) (i v n : Int) (L : List It) (h0 : 0 ≤ n) (h1 : n ≤ (M.clock : Int) + 3) (h2 : 2 ≤ i → n = 1 → ∃ x : KI, L = kit [x]) : KM (M.write i v n L) := by
  rcases write_as (M := M) (i := i) (v := v) (x := n) (L := L) with ⟨_, e, k, hk, _, _⟩ | ⟨_, e⟩
  · rw [e]; exact h.put _ n L h0 h1 (fun q => h2 (by omega))
  · rw [e]; exact h
theorem write_clock (M : Mem) (i v n : Int) (L : List It) : (M.write i v n L).clock ≤ M.clock + 1 ∧ M.clock ≤ (M.write i v n L).clock := by
  unfold Mem.write
  split
  · exact ⟨Nat.le_refl _, Nat.le_succ _⟩
  · exact ⟨Nat.le_succ _, Nat.le_refl _⟩
/-- Where a slot lies. -/
theorem kAt_ge {k : Int} {F : Fr} (hk : 1 ≤ k) : kAt k F = -1 ∨ 2 ≤ kAt k F := by
  by_cases h : F.seg < 0 ∨ 1000 < F.seg
  · exact .inl (kAt_out h)
  · rw [kAt_in (by omega)]
    have := into_rng (d := into F.d0 k + F.seen) (n := k) hk
    have h2 : 0 ≤ F.seg * k := Int.mul_nonneg (by omega) (by omega)
    unfold kslot
    right; omega
theorem kLook_pc {k w : Int} {M : Mem} {F : Fr} : (kLook k w M F).kind = F.kind ∧ (kLook k w M F).seg = F.seg ∧ (kLook k w M F).at_ = F.at_ ∧ (kLook k w M F).pri = F.pri := by
  unfold kLook; split <;> exact ⟨rfl, rfl, rfl, rfl⟩
theorem kLook_good {k w : Int} {M : Mem} {F : Fr} (hk : 1 ≤ k ∧ k ≤ 16) (hp : F.pc = 2) (hw : F.kind = 4 → w = 1) (h : kGood k M F) : kGood k M (kLook k w M F) := by
  have hs := h.below (.inr hp)
  have h0 := h.seen
  by_cases hy : (M.look (kAt k F)).n = w
  · rw [kLook_yes hy]
    refine ⟨h.kind, h.seen, fun e => ?_, h.seg, h.at_, h.pri, fun e _ => ?_, h.mem⟩
    · rcases e with e | e
      · exact absurd (show (3 : Int) = 1 from e) (by decide)
      · exact absurd (show (3 : Int) = 2 from e) (by decide)
    · rw [hw e] at hy
      rcases kAt_ge (k := k) (F := F) hk.1 with q | q
      · rw [q] at hy; rw [look_neg (by decide)] at hy; exact absurd (show (0 : Int) = 1 from hy) (by decide)
      · obtain ⟨a, ha⟩ : ∃ a : Nat, kAt k F = (a : Int) := ⟨(kAt k F).toNat, by omega⟩
        rw [ha, look_nat] at hy
        obtain ⟨x, hx⟩ := h.mem.2 a (by omega) hy
        exact ⟨x, by show (M.look (kAt k F)).L = _; rw [ha, look_nat]; exact hx⟩
  · rw [kLook_no hy]
    refine ⟨h.kind, (show 0 ≤ F.seen + 1 ∧ F.seen + 1 ≤ 16 by omega), fun e => ?_, h.seg, h.at_, h.pri, fun _ e => ?_, h.mem⟩
    · show F.seen + 1 < k
      by_cases hl : F.seen + 1 = k
      · have e' : (if F.seen + 1 = k then (4 : Int) else F.pc) = 1 ∨ (if F.seen + 1 = k then (4 : Int) else F.pc) = 2 := e
        rw [if_pos hl] at e'
        omega
      · omega
    · have e' : (if F.seen + 1 = k then (4 : Int) else F.pc) = 3 := e
      split at e'
      · omega
      · omega
theorem kMove_mem {M : Mem} {F : Fr} (hs : 0 ≤ F.seg ∧ F.seg ≤ (M.clock : Int) + 2) (ha : F.at_ = 0 ∨ F.at_ = 1) (h : KM M) : KM (kMove M F).1 :=
  h.write F.at_ F.c0.ver (F.seg + 1) [] (by omega) (by omega) (fun e => by omega)
theorem kMove_good {k : Int} {M : Mem} {F : Fr} (h : kGood k M F) : kGood k (kMove M F).1 (kMove M F).2.1 := by
  have hc := write_clock M F.at_ F.c0.ver (F.seg + 1) []
  have hs := h.seg
  refine ⟨h.kind, h.seen, (fun e => by rcases e with e | e <;> exact absurd (show (0 : Int) = _ from e) (by decide)), ⟨hs.1, ?_⟩, h.at_, h.pri, (fun _ e => absurd (show (0 : Int) = 3 from e) (by decide)), kMove_mem hs h.at_ h.mem⟩
  show F.seg ≤ ((M.write F.at_ F.c0.ver (F.seg + 1) []).clock : Int) + 2
  omega
theorem kWrite_mem {k x : Int} {L : List It} {p : Nat} {v : Int} {M : Mem} {F : Fr} (h : KM M) (h0 : 0 ≤ x) (h1 : x ≤ 2) (h2 : x = 1 → ∃ y : KI, L = kit [y]) : KM (kWrite k x L p v M F).1 :=
  h.write _ _ _ _ h0 (by omega) (fun _ => h2)
theorem enq_item {p : Nat} (v : Int) (h : p < 18446744073709551616) : [(cbits p, v)] = kit [mkKI p v] := by
  show _ = [((mkKI p v).b, (mkKI p v).v)]
  rw [mkKI_b h, mkKI_v h]
theorem kStep_mem {k : Int} {M : Mem} {F : Fr} (h : kGood k M F) : KM (kStep k M F).1 := by
  unfold kStep
  split
  · by_cases h0 : F.pc = 0
    · rw [kEnq_0 h0]; exact h.mem
    · by_cases h2 : F.pc = 2
      · rw [kEnq_2 h2]; exact h.mem
      · by_cases h3 : F.pc = 3
        · rw [kEnq_3 h3]; exact kWrite_mem h.mem (by decide) (by decide) (fun _ => ⟨mkKI F.pri F.val, enq_item F.val h.pri⟩)
        · rw [kEnq_4 h0 h2 h3]; exact kMove_mem h.seg h.at_ h.mem
  · next hne =>
    have hk4 : F.kind = 4 := h.kind.resolve_left hne
    by_cases h0 : F.pc = 0
    · rw [kDeq_0 h0]; exact h.mem
    · by_cases h1 : F.pc = 1
      · by_cases hy : (M.look 1).n = F.seg
        · rw [kDeq_1y h1 hy]; exact h.mem
        · rw [kDeq_1n h1 hy]; exact h.mem
      · by_cases h2 : F.pc = 2
        · rw [kDeq_2 h2]; exact h.mem
        · by_cases h3 : F.pc = 3
          · obtain ⟨x, hx⟩ := h.full hk4 h3
            rw [kDeq_3 h3 hx]; exact kWrite_mem h.mem (by decide) (by decide) (fun e => absurd e (by decide))
          · rw [kDeq_4 h0 h1 h2 h3]; exact kMove_mem h.seg h.at_ h.mem
theorem kWrite_no {k x : Int} {L : List It} {p : Nat} {v : Int} {M : Mem} {F : Fr} (h : kGood k M F) (hd : (kWrite k x L p v M F).2.2.2 = false) : kGood k (kWrite k x L p v M F).1 (kWrite k x L p v M F).2.1 := by
  have hc : M.can (kAt k F) F.c1.ver = false := hd
  have e : (kWrite k x L p v M F).1 = M := by
    show M.write (kAt k F) F.c1.ver x L = M
    unfold Mem.write; rw [hc]; rfl
  rw [e]
  exact ⟨h.kind, h.seen, (fun e => by rcases e with e | e <;> exact absurd (show (0 : Int) = _ from e) (by decide)), h.seg, h.at_, h.pri, (fun _ e => absurd (show (0 : Int) = 3 from e) (by decide)), h.mem⟩
theorem kFine (k : Int) (hk : 1 ≤ k ∧ k ≤ 16) : Fine (kGood k) (kStep k) := by
  refine ⟨fun M F h hd => ?_, fun M F => ?_⟩
  · unfold kStep at hd ⊢
    have hl0 := h.mem.look 0
    have hl1 := h.mem.look 1
    split at hd
    · next h3k =>
      rw [if_pos h3k]
      by_cases h0 : F.pc = 0
      · rw [kEnq_0 h0]
        exact ⟨h.kind, ⟨Int.le_refl _, by show (0 : Int) ≤ 16; decide⟩, fun _ => by show (0 : Int) < k; omega, hl1, .inr rfl, h.pri, (fun e _ => by rw [show (kBegin M F 1).kind = F.kind from rfl] at e; omega), h.mem⟩
      · by_cases h2 : F.pc = 2
        · rw [kEnq_2 h2]; exact kLook_good hk h2 (fun e => by omega) h
        · by_cases h3 : F.pc = 3
          · rw [kEnq_3 h3] at hd ⊢; exact kWrite_no h hd
          · rw [kEnq_4 h0 h2 h3]; exact kMove_good h
    · next hne =>
      rw [if_neg hne]
      have hk4 : F.kind = 4 := h.kind.resolve_left hne
      by_cases h0 : F.pc = 0
      · rw [kDeq_0 h0]
        exact ⟨h.kind, ⟨Int.le_refl _, by show (0 : Int) ≤ 16; decide⟩, fun _ => by show (0 : Int) < k; omega, hl0, .inl rfl, h.pri, (fun _ e => absurd (show (1 : Int) = 3 from e) (by decide)), h.mem⟩
      · by_cases h1 : F.pc = 1
        · have hs := h.below (.inl h1)
          by_cases hy : (M.look 1).n = F.seg
          · rw [kDeq_1y h1 hy]
            exact ⟨h.kind, h.seen, fun _ => hs, h.seg, .inr rfl, h.pri, (fun _ e => absurd (show (2 : Int) = 3 from e) (by decide)), h.mem⟩
          · rw [kDeq_1n h1 hy]
            exact ⟨h.kind, h.seen, fun _ => hs, h.seg, h.at_, h.pri, (fun _ e => absurd (show (2 : Int) = 3 from e) (by decide)), h.mem⟩
        · by_cases h2 : F.pc = 2
          · rw [kDeq_2 h2]; exact kLook_good hk h2 (fun _ => rfl) h
          · by_cases h3 : F.pc = 3
            · obtain ⟨x, hx⟩ := h.full hk4 h3
              rw [kDeq_3 h3 hx] at hd ⊢; exact kWrite_no h hd
            · rw [kDeq_4 h0 h1 h2 h3]; exact kMove_good h
  · unfold kStep
    have hw := fun i v n L => (write_clock M i v n L).1
    split
    · unfold kEnq; split
      · exact Nat.le_succ _
      · split
        · exact Nat.le_succ _
        · split
          · exact hw _ _ _ _
          · exact hw _ _ _ _
    · unfold kDeq; split
      · exact Nat.le_succ _
      · split
        · exact Nat.le_succ _
        · split
          · exact Nat.le_succ _
          · split
            · exact hw _ _ _ _
            · exact hw _ _ _ _
/-- One that begins. -/
theorem kGood.start {k : Int} {M : Mem} (hk : 1 ≤ k) (kind : Int) (p : Nat) (v d0 d1 : Int) (hkd : kind = 3 ∨ kind = 4) (hp : p < 18446744073709551616) (h : KM M) : kGood k M (Fr.of kind p v d0 d1) :=
  ⟨hkd, ⟨Int.le_refl _, by show (0 : Int) ≤ 16; decide⟩, (fun _ => by show (0 : Int) < k; omega), ⟨Int.le_refl _, by show (0 : Int) ≤ _; omega⟩, .inl rfl, hp, (fun _ e => absurd (show (0 : Int) = 3 from e) (by decide)), h⟩
theorem KM.alone {k : Int} (hk : 1 ≤ k ∧ k ≤ 16) : ∀ (n : Nat) (M : Mem) (F : Fr), kGood k M F → KM (alone (kStep k) n M F).1
  | 0, _, _, h => h.mem
  | n + 1, M, F, h => by
    unfold Go.Proofs.YtbcmilfajeanbaaGreat.alone
    split
    · exact kStep_mem h
    · next hd => exact KM.alone hk n _ _ ((kFine k hk).on M F h (by simpa using hd))
end Go.Proofs.YtbcmilfajeanbaaGreat

namespace Go.Proofs.YtbcmilfajeanbaaGreat
open Go.RowKit Go.Sort

set_option maxHeartbeats 2000000 in
theorem kstep_is (sh : Int) (hs : 1 ≤ sh ∧ sh ≤ 16) : IsStep 182 (.agg #[.int .i64 sh]) (kGood sh) (kStep sh) := by
  intro w b fb O P M F h hf hd hg hck
  obtain ⟨a0, k0, a1, k1, hB, _⟩ := hf.box
  have hfl := hB.lt
  have hsf := run_store_flt (P := Tryz.prog)
  have c0 := (hB.get 0 _ rfl).1
  obtain ⟨W1, hW1, hb0, hsz0, hR0, hA0⟩ := two_new w [.int .i64 sh] Ans.zero.l 151 46 0
  have hW2 : (w.alloc (.cells #[.int .i64 sh] 151)).alloc (.cells #[.bool false, .float .f64 0, .int .i64 0, .int .i64 0] 46) = W1 := hW1
  clear hW1
  have r0 := (hR0.get 0 _ rfl).1
  have c01 := (hb0.cell (p := ⟨fb, 0, none⟩) hfl).trans c0
  have hM1 := h.below hb0
  have hf1 := hf.below hb0
  have FIN := hidq (fun e w2 (hE : StepEnd b fb O P (kStep sh M F) W1 e w2) => stepEnd_on hb0 h.lt hf.lt hE hA0 (Nat.le_succ _))
  have GA := hidq (fun w2 (hb : But (fun k => O k ∨ P k) W1 w2) => hA0.but hb (fun e => by
    rcases e with e | e
    · have := h.lt _ e; omega
    · have := hf.lt _ e; omega))
  have hseg := hg.seg
  have hseen := hg.seen
  rcases hg.kind with hk | hk
  · have hC := hidq (show Calls Tryz.prog 183 #[.agg #[.int .i64 sh], .pointer (some ⟨b, 0, none⟩), .pointer (some ⟨fb, 0, none⟩)] W1 (StepEnd b fb O P (kStep sh M F) W1) from by
      unfold kStep; rw [if_pos hk]; exact kenq_any sh W1 b fb O P M F hM1 hf1 hd hs (by omega) (by omega) hck)
    rw [hk] at c0 c01
    clear h hf hd hB hb0 hR0 hA0 hM1 hf1 hk hg hseg hseen
    generalize kStep sh M F = r at *
    obtain ⟨M', F', A, d⟩ := r
    obtain ⟨aok, api, av, an⟩ := A
    go_enter Tryz.func182, Tryz.ntmps182
    go_wp2_with fail
    refine hC.out.mono ?_
    intro e w2 hE
    obtain ⟨e1, e2⟩ := FIN.out _ _ hE
    obtain ⟨rfl, _, _, _, _, _, _, _, hb2⟩ := hE
    have hA2 := GA.out _ hb2
    obtain ⟨g0, x0⟩ := hA2.get 0 _ rfl
    obtain ⟨g1, x1⟩ := hA2.get 1 _ rfl
    obtain ⟨g2, x2⟩ := hA2.get 2 _ rfl
    obtain ⟨g3, x3⟩ := hA2.get 3 _ rfl
    have E1 := hidq e1
    have E2 := hidq e2
    clear e1 e2 hA2 hb2 hC FIN GA hW2
    go_wp2
    exact ret_ans Tryz.results182 E1.out rfl rfl rfl E2.out
  · have hC := hidq (show Calls Tryz.prog 184 #[.agg #[.int .i64 sh], .pointer (some ⟨b, 0, none⟩), .pointer (some ⟨fb, 0, none⟩)] W1 (StepEnd b fb O P (kStep sh M F) W1) from by
      unfold kStep; rw [if_neg (by omega)]
      by_cases h0 : F.pc = 0
      · exact kdeq_0 sh W1 b fb O P M F hM1 hf1 hd h0
      · by_cases h1 : F.pc = 1
        · exact kdeq_1 sh W1 b fb O P M F hM1 hf1 hd h1
        · by_cases h2 : F.pc = 2
          · exact kdeq_2 sh W1 b fb O P M F hM1 hf1 hd hs (by omega) h2
          · by_cases h3 : F.pc = 3
            · obtain ⟨x, hx⟩ := hg.full hk h3
              exact kdeq_3 sh W1 b fb O P M F hM1 hf1 hd x hs (by omega) hck h3 hx
            · exact kdeq_4 sh W1 b fb O P M F hM1 hf1 hd (by omega) hck h0 h1 h2 h3)
    rw [hk] at c0 c01
    clear h hf hd hB hb0 hR0 hA0 hM1 hf1 hk hg hseg hseen
    generalize kStep sh M F = r at *
    obtain ⟨M', F', A, d⟩ := r
    obtain ⟨aok, api, av, an⟩ := A
    go_enter Tryz.func182, Tryz.ntmps182
    go_wp2_with fail
    refine hC.out.mono ?_
    intro e w2 hE
    obtain ⟨e1, e2⟩ := FIN.out _ _ hE
    obtain ⟨rfl, _, _, _, _, _, _, _, hb2⟩ := hE
    have hA2 := GA.out _ hb2
    obtain ⟨g0, x0⟩ := hA2.get 0 _ rfl
    obtain ⟨g1, x1⟩ := hA2.get 1 _ rfl
    obtain ⟨g2, x2⟩ := hA2.get 2 _ rfl
    obtain ⟨g3, x3⟩ := hA2.get 3 _ rfl
    have E1 := hidq e1
    have E2 := hidq e2
    clear e1 e2 hA2 hb2 hC FIN GA hW2
    go_wp2
    exact ret_ans Tryz.results182 E1.out rfl rfl rfl E2.out
end Go.Proofs.YtbcmilfajeanbaaGreat
