/-
  Layer 12: what is held behind an operation that did nothing, and behind a Next: contracts.
  A region that draws its order in which calls are made and what they answer goes into a new box: which box it is is carried on as a ghost.
  Layer 17: what its laws ask first; its law of shapes and room.
-/
import Derived.Test.YtbcmilfajeanbaaOp6All
import Derived.Test.YtbcmilfajeanbaaPhaseAll
import Derived.Deep.CutBlock
namespace Go.Proofs.Ytbcmilfajeanbaa
open Go.RowKit Go.Sort

/-- May an operation of this kind fail? -/
def mayF (k : Int) : Bool := !(k == 5 || k == 6 || k == 7)
theorem mayFail_any (k : Int) (w : World) : Calls Try.prog 37 #[.int .i64 k] w fun e w' => e = .returned (.bool (mayF k)) ∧ w' = w := by
  by_cases h : k = 5 ∨ k = 6 ∨ k = 7
  · rcases h with rfl | rfl | rfl
    all_goals
      go_enter Try.func37, Try.ntmps37
      go_wp2_with fail
      go_ret
      exact ⟨rfl, rfl⟩
  · have h5 : (k == 5) = false := by simp; omega
    have h6 : (k == 6) = false := by simp; omega
    have h7 : (k == 7) = false := by simp; omega
    have hm : mayF k = true := by unfold mayF; rw [h5, h6, h7]; rfl
    rw [hm]
    clear h hm
    go_enter Try.func37, Try.ntmps37
    go_wp2_with fail
    go_ret
    exact ⟨rfl, rfl⟩
/-- A value, an operation, an answer as they lie in memory. -/
abbrev v12 (kd : Int) (a : Option Addr) (n cap : Nat) (N : Int) : List Value := [.int .i64 kd, .slice a n cap, .int .i64 N]
abbrev o12 (k : Int) (f : Nat) (v d0 d1 : Int) : List Value := [.int .i64 k, .float .f64 f, .int .i64 v, .int .i64 d0, .int .i64 d1]
abbrev a12 (ok : Bool) (f : Nat) (v n : Int) : List Value := [.bool ok, .float .f64 f, .int .i64 v, .int .i64 n]
/-- How After ends: a value with other items, and whether it may be. -/
def AftEnd (kd N : Int) (n : Nat) (l : List Value) (r : Bool) (w : World) (e : Ending) (w' : World) : Prop :=
  ∃ a' cap', e = .returned (.tuple #[.agg #[.int .i64 kd, .slice a' n cap', .int .i64 N], .bool r]) ∧ SlAt 2 w' a' cap' n l ∧ (∀ j, inB a' j → w.heap.size ≤ j) ∧ Below w.heap.size w w'

theorem four_new (w : World) (l1 l2 l3 l4 : List Value) (t1 t2 t3 t4 : TypeId) : ∃ W, (((w.alloc (.cells l1.toArray t1)).alloc (.cells l2.toArray t2)).alloc (.cells l3.toArray t3)).alloc (.cells l4.toArray t4) = W ∧ Below w.heap.size w W ∧ W.heap.size = w.heap.size + 4 ∧ BoxAt W w.heap.size l1 ∧ BoxAt W (w.heap.size + 1) l2 ∧ BoxAt W (w.heap.size + 1 + 1) l3 ∧ BoxAt W (w.heap.size + 1 + 1 + 1) l4 := by
  have al : ∀ (w : World) (o : Obj), Below w.heap.size w (w.alloc o) := fun w o => (Below.refl _ _).alloc (Nat.le_refl _) _
  have h1 := BoxAt.new w l1 t1
  have h2 := BoxAt.new (w.alloc (.cells l1.toArray t1)) l2 t2
  have h3 := BoxAt.new ((w.alloc (.cells l1.toArray t1)).alloc (.cells l2.toArray t2)) l3 t3
  have h4 := BoxAt.new (((w.alloc (.cells l1.toArray t1)).alloc (.cells l2.toArray t2)).alloc (.cells l3.toArray t3)) l4 t4
  simp only [World.size_alloc] at h2 h3 h4
  refine ⟨_, rfl, ?_, by simp, ((h1.below (al _ _)).below (al _ _)).below (al _ _), (h2.below (al _ _)).below (al _ _), h3.below (al _ _), h4⟩
  exact (((Below.refl _ _).alloc (Nat.le_refl _) _).alloc (by simp) _).alloc (by simp; omega) _ |>.alloc (by simp; omega) _

def aft5R (_b4 b5 n cap' : Nat) (a' : Option Addr) (kd N k : Int) (mf : Bool) (_b8 : Nat) : List (Value → Nat → World → Prop) :=
  [fun v _ _ => v = .agg #[.int .i64 kd, .slice a' n cap', .int .i64 N],
   fun v _ _ => v = .pointer (some ⟨b5, 0, none⟩),
   fun v _ _ => v = .int .i64 k,
   fun v _ _ => v = .bool mf,
   fun _ _ _ => True,
   fun v _ _ => v = .bool mf]
theorem aft5R_kept (b4 b5 n cap' : Nat) (a' : Option Addr) (kd N k : Int) (mf : Bool) (b8 : Nat) : Reg.GAllKept (Reg.PPres (fun j => j = b8)) (aft5R b4 b5 n cap' a' kd N k mf b8) :=
  ⟨(fun _ _ _ _ _ _ h => h), (fun _ _ _ _ _ _ h => h), (fun _ _ _ _ _ _ h => h), (fun _ _ _ _ _ _ h => h), (fun _ _ _ _ _ _ _ => trivial), (fun _ _ _ _ _ _ h => h), trivial⟩
theorem box_set3 {w : World} {b : Nat} {x y z : Value} (h : BoxAt w b [x, y, z]) (u0 u1 u2 : Value) : BoxAt (((w.setCell ⟨b, 0, none⟩ u0).setCell ⟨b, 1, none⟩ u1).setCell ⟨b, 2, none⟩ u2) b [u0, u1, u2] ∧ But (fun j => j = b) w (((w.setCell ⟨b, 0, none⟩ u0).setCell ⟨b, 1, none⟩ u1).setCell ⟨b, 2, none⟩ u2) :=
  ⟨((h.set 0 u0).set 1 u1).set 2 u2, (((But.refl (fun j => j = b) w).set1 b 0 rfl _).set1 b 1 rfl _).set1 b 2 rfl _⟩

set_option maxRecDepth 20000 in
set_option maxHeartbeats 8000000 in
theorem after_any (kd N k v d0 d1 av an p : Int) (f af : Nat) (ok : Bool) (a : Option Addr) (cap n : Nat) (l : List Value) (w : World) (h : SlAt 2 w a cap n l) (hn : n ≤ 1000000) (hno : ok = false ∨ ¬ chk kd k v = 0) :
    Calls Try.prog 11 #[.agg #[.int .i64 kd, .slice a n cap, .int .i64 N], .agg #[.int .i64 k, .float .f64 f, .int .i64 v, .int .i64 d0, .int .i64 d1], .agg #[.bool ok, .float .f64 af, .int .i64 av, .int .i64 an], .int .i64 p] w
      (AftEnd kd N n l (decide (chk kd k v = 0) && mayF k) w) := by
  have hsf := run_store_float (P := Try.prog)
  obtain ⟨W1, hW1, hb1, hs1, hX4, hX5, hX6, hX8⟩ := four_new w (v12 kd a n cap N) (o12 k f v d0 d1) (a12 ok af av an) [.int .i64 0, .slice none 0 0, .int .i64 0] 28 42 44 28
  obtain ⟨b4, hb4⟩ : ∃ b4, w.heap.size = b4 := ⟨_, rfl⟩
  rw [hb4] at hX4 hX5 hX6 hX8 hs1
  have H1 := hidq (And.intro hb1 (And.intro hX4 (And.intro hX5 (And.intro hX6 (And.intro hX8 hs1)))))
  have hCl := hidq (sclone_any a cap n l W1 (h.below hb1) hn)
  have m41 := hX4.get 1 _ rfl
  obtain ⟨y41, z41⟩ := m41
  clear h hb1 hX4 hX5 hX6 hX8 hs1
  go_enter Try.func11, Try.ntmps11
  go_upto_region 1 with fail
  try rw [hb4]
  dsimp only [v12, o12, a12] at hW1
  try rw [hW1]
  go_wp2_with fail
  refine hCl.out.mono ?_
  rintro e w2 ⟨a', cap', rfl, hS2, hf2, hb2⟩
  obtain ⟨W3, hW3⟩ : ∃ W3, w2.setCell ⟨b4, 1, none⟩ (.slice a' n cap') = W3 := ⟨_, rfl⟩
  have hw4 := hidq hb4
  have H3 := hidq (show (But (fun j => j = b4) W1 W3 ∧ SlAt 2 W3 a' cap' n l ∧ ∀ j, inB a' j → b4 + 4 ≤ j) ∧ BoxAt W3 b4 (v12 kd a' n cap' N) ∧ BoxAt W3 (b4 + 1) (o12 k f v d0 d1) ∧ BoxAt W3 (b4 + 1 + 1) (a12 ok af av an) ∧ BoxAt W3 (b4 + 1 + 1 + 1) [.int .i64 0, .slice none 0 0, .int .i64 0] from by
    obtain ⟨h1, h2, h3, h4, h5, h6⟩ := H1.out
    have hb : But (fun j => j = b4) w2 W3 := by rw [← hW3]; exact (But.refl (fun j => j = b4) w2).set1 b4 1 rfl _
    refine ⟨⟨(But.of_below hb2).trans hb, hS2.but hb (fun j hj e => by have := hf2 j hj; omega), fun j hj => by have := hf2 j hj; omega⟩, ?_, (h3.below hb2).but hb (by omega), (h4.below hb2).but hb (by omega), (h5.below hb2).but hb (by omega)⟩
    rw [← hW3]
    exact (h2.below hb2).set 1 _)
  have q41 : w2.cell? ⟨b4, 1, none⟩ = some (.slice a n cap) := ((H1.out.2.1.below hb2).get 1 _ rfl).1
  have q42 : w2.frozen? ⟨b4, 1, none⟩ = false := ((H1.out.2.1.below hb2).get 1 _ rfl).2
  clear hS2 hf2 hb2 y41 z41 hCl
  have HCk := hidq (check_any kd k v d0 d1 f W3)
  obtain ⟨c, hc⟩ : ∃ c, chk kd k v = c := ⟨_, rfl⟩
  rw [hc] at HCk hno
  have HC := hidq hc
  clear hc
  go_upto_region 2 with fail
  try rw [hW3]
  clear hW3 q41 q42 hW1
  have x40 := (H3.out.2.1.get 0 _ rfl).1
  have x50 := (H3.out.2.2.1.get 0 _ rfl).1
  have x51 := (H3.out.2.2.1.get 1 _ rfl).1
  have x52 := (H3.out.2.2.1.get 2 _ rfl).1
  have x53 := (H3.out.2.2.1.get 3 _ rfl).1
  have x54 := (H3.out.2.2.1.get 4 _ rfl).1
  go_wp2_with fail
  refine HCk.out.mono ?_
  rintro e w4 ⟨rfl, hb34⟩
  have H4 := hidq (show (SlAt 2 w4 a' cap' n l ∧ (∀ j, inB a' j → b4 + 4 ≤ j) ∧ Below w.heap.size w w4 ∧ b4 + 4 ≤ w4.heap.size) ∧ BoxAt w4 b4 (v12 kd a' n cap' N) ∧ BoxAt w4 (b4 + 1) (o12 k f v d0 d1) ∧ BoxAt w4 (b4 + 1 + 1) (a12 ok af av an) ∧ BoxAt w4 (b4 + 1 + 1 + 1) [.int .i64 0, .slice none 0 0, .int .i64 0] from by
    obtain ⟨⟨h1, h2, h3⟩, h4, h5, h6, h7⟩ := H3.out
    obtain ⟨g1, g2, g3, g4, g5, g6⟩ := H1.out
    have z1 := g1.size
    have z2 := h1.size
    have z3 := hb34.size
    have e := hw4.out
    exact ⟨⟨h2.below hb34, h3, (g1.trans (h1.below z1 (fun k hk => by omega))).trans (hb34.mono (by omega)), by omega⟩, h4.below hb34, h5.below hb34, h6.below hb34, h7.below hb34⟩)
  clear x40 x50 x51 x52 x53 x54 hb34 HCk H1 H3
  obtain ⟨b8, hb8⟩ : ∃ b8, b4 + 1 + 1 + 1 = b8 := ⟨_, rfl⟩
  have x40 := (H4.out.2.1.get 0 _ rfl).1
  have x41 := (H4.out.2.1.get 1 _ rfl).1
  have x42 := (H4.out.2.1.get 2 _ rfl).1
  have x60 := (H4.out.2.2.2.1.get 0 _ rfl).1
  have x50 := (H4.out.2.2.1.get 0 _ rfl).1
  have X8 := hidq H4.out.2.2.2.2
  rw [hb8] at X8
  rw [hb8]
  have hne : b4 ≠ b8 := by omega
  have hge : b4 ≤ b8 := by omega
  have FIN := hidq (fun W (r : Bool) (hB : But (fun j => j = b8) w4 W) => (show AftEnd kd N n l r w (.returned (.tuple #[.agg #[.int .i64 kd, .slice a' n cap', .int .i64 N], .bool r])) W from by
    obtain ⟨h1, h2, h3, h4⟩ := H4.out.1
    have e := hw4.out
    exact ⟨a', cap', rfl, h1.but hB (fun j hj e => by have := h2 j hj; omega), fun j hj => by have := h2 j hj; omega, h3.trans (hB.below h3.size (fun k hk => by omega))⟩))
  have hw4' := hw4.out
  by_cases hc0 : c = 0
  · subst hc0
    have hok : ok = false := by rcases hno with e | e; exact e; exact absurd rfl e
    subst hok
    clear hno
    have HMF0 := fun W => mayFail_any k W
    obtain ⟨mf, hmf⟩ : ∃ mf, mayF k = mf := ⟨_, rfl⟩
    rw [hmf] at HMF0
    have HMF := hidq HMF0
    clear HMF0
    have HMFE := hidq hmf
    clear hmf
    obtain ⟨x80, z80⟩ := X8.out.get 0 _ rfl
    obtain ⟨x81, z81⟩ := X8.out.get 1 _ rfl
    obtain ⟨x82, z82⟩ := X8.out.get 2 _ rfl
    go_upto_region 5 with fail
    have hb5 : ¬ b4 + 1 = b8 := by omega
    obtain ⟨b5, hb5e⟩ : ∃ b5, b4 + 1 = b5 := ⟨_, rfl⟩
    have FA := hidq (fun W (hW : But (fun j => j = b8) w4 W) => (show W.cell? ⟨b4, 0, none⟩ = some (.int .i64 kd) ∧ W.cell? ⟨b4, 1, none⟩ = some (.slice a' n cap') ∧ W.cell? ⟨b4, 2, none⟩ = some (.int .i64 N) ∧ W.cell? ⟨b5, 0, none⟩ = some (.int .i64 k) from by
      have h1 := H4.out.2.1.but hW hne
      have h2 := H4.out.2.2.1.but hW hb5
      rw [hb5e] at h2
      exact ⟨(h1.get 0 _ rfl).1, (h1.get 1 _ rfl).1, (h1.get 2 _ rfl).1, (h2.get 0 _ rfl).1⟩))
    have HF : ∀ (x : Nat) (w w' : World), Below w.heap.size w w' → ((x = 0 → BoxAt w b8 [.int .i64 0, .slice none 0 0, .int .i64 0]) ∧ (x = 1 → BoxAt w b8 [.int .i64 kd, .slice a' n cap', .int .i64 N])) → ((x = 0 → BoxAt w' b8 [.int .i64 0, .slice none 0 0, .int .i64 0]) ∧ (x = 1 → BoxAt w' b8 [.int .i64 kd, .slice a' n cap', .int .i64 N])) :=
      fun _ _ _ hB h => ⟨fun e => (h.1 e).below hB, fun e => (h.2 e).below hB⟩
    rw [hb5e]
    clear x80 x81 x82 z80 z81 z82 x40 x41 x42 x60 x50
    refine Reg.wp_region_ghost (Reg.gofList (aft5R b4 b5 n cap' a' kd N k mf b8)) (Reg.PPres (fun j => j = b8)) (Reg.PInv [4] (fun j => j = b8) w4 (fun x w => (x = 0 → BoxAt w b8 [.int .i64 0, .slice none 0 0, .int .i64 0]) ∧ (x = 1 → BoxAt w b8 [.int .i64 kd, .slice a' n cap', .int .i64 N]))) 0 (by kernel_rfl) (by kernel_rfl) (Reg.GAllKept.at _ (aft5R_kept b4 b5 n cap' a' kd N k mf b8)) (Reg.PInv.start 6 ⟨fun _ => X8.out.drew, fun e => by cases e⟩) ⟨?_, ?_, ?_, ?_, ?_, ?_, trivial⟩ ?_
    · refine Reg.GStepAt.plain (i := 0) rfl ?_
      intro x L ev w hI hk hp hA
      have e4 : ev (.tmp 4) = .pointer (some ⟨b4, 0, none⟩) := hA.oldNone 4 (by kernel_rfl)
      have hcc := hA.const
      clear hA hp
      obtain ⟨f0, f1, f2, f3⟩ := FA.out w hI.2.1
      refine Reg.out_value (v := .agg #[.int .i64 kd, .slice a' n cap', .int .i64 N]) ?_ ⟨x, rfl, Reg.PPres.refl _ _ _, Reg.PInv.light HF hI 0 (by decide) (Below.refl _ _)⟩
      go_simp
    · refine Reg.GStepAt.plain (i := 1) rfl ?_
      intro x L ev w hI hk hp hA
      have e5 : ev (.tmp 5) = .pointer (some ⟨b5, 0, none⟩) := hA.oldNone 5 (by kernel_rfl)
      have hcc := hA.const
      clear hA hp
      refine Reg.out_value (v := .pointer (some ⟨b5, 0, none⟩)) ?_ ⟨x, rfl, Reg.PPres.refl _ _ _, Reg.PInv.light HF hI 1 (by decide) (Below.refl _ _)⟩
      go_simp
    · refine Reg.GStepAt.plain (i := 2) rfl ?_
      intro x L ev w hI hk hp hA
      have e24 : ev (.tmp 24) = .pointer (some ⟨b5, 0, none⟩) := hA.val 1 _ 24 rfl (hp ⟨1, .data⟩ (by simp) rfl) rfl
      have hcc := hA.const
      clear hA hp
      obtain ⟨f0, f1, f2, f3⟩ := FA.out w hI.2.1
      refine Reg.out_value (v := .int .i64 k) ?_ ⟨x, rfl, Reg.PPres.refl _ _ _, Reg.PInv.light HF hI 2 (by decide) (Below.refl _ _)⟩
      go_simp
    · refine Reg.GStepAt.plain (i := 3) rfl ?_
      intro x L ev w hI hk hp hA
      have e25 : ev (.tmp 25) = .int .i64 k := hA.val 2 _ 25 rfl (hp ⟨2, .data⟩ (by simp) rfl) rfl
      have hcc := hA.const
      have hcf := hA.func
      clear hA hp
      refine Reg.out_call (f := 37) (args := #[.int .i64 k]) (w0 := w) ?_ ?_
      · go_simp
      refine (HMF.out w).mono ?_
      rintro e w' ⟨rfl, rfl⟩
      exact ⟨_, rfl, x, rfl, Reg.PPres.refl _ _ _, Reg.PInv.light HF hI 3 (by decide) (Below.refl _ _)⟩
    · refine Reg.GStepAt.plain (i := 4) rfl ?_
      intro x L ev w hI hk hp hA
      have e8 : ev (.tmp 8) = .pointer (some ⟨b8, 0, none⟩) := hA.oldNone 8 (by kernel_rfl)
      have e23 : ev (.tmp 23) = .agg #[.int .i64 kd, .slice a' n cap', .int .i64 N] := hA.val 0 _ 23 rfl (hp ⟨0, .data⟩ (by simp) rfl) rfl
      have hcc := hA.const
      clear hA hp
      have hx0 : x = 0 := hI.1.trans (Reg.cnt_zero1 (Reg.getD_true hk))
      have hX := hI.2.2.1 hx0
      obtain ⟨hX', hbS⟩ := box_set3 hX (.int .i64 kd) (.slice a' n cap') (.int .i64 N)
      obtain ⟨x80, z80⟩ := hX.get 0 _ rfl
      obtain ⟨x81, z81⟩ := hX.get 1 _ rfl
      obtain ⟨x82, z82⟩ := hX.get 2 _ rfl
      refine Reg.out_skipP (w' := ((w.setCell ⟨b8, 0, none⟩ (.int .i64 kd)).setCell ⟨b8, 1, none⟩ (.slice a' n cap')).setCell ⟨b8, 2, none⟩ (.int .i64 N)) ?_ ⟨x + 1, trivial, Reg.PPres.heavy hbS, Reg.PInv.heavy hI 4 (by decide) (by simp) hk hbS ⟨fun e => by omega, fun _ => hX'⟩⟩
      clear hI hbS hX hX'
      go_simp
    · refine Reg.GStepAt.plain (i := 5) rfl ?_
      intro x L ev w hI hk hp hA
      have e26 : ev (.tmp 26) = .bool mf := hA.val 3 _ 26 rfl (hp ⟨3, .data⟩ (by simp) rfl) rfl
      have hcc := hA.const
      clear hA hp
      refine Reg.out_value (v := .bool mf) ?_ ⟨x, rfl, Reg.PPres.refl _ _ _, Reg.PInv.light HF hI 5 (by decide) (Below.refl _ _)⟩
      go_simp
    intro gx L act wz hall hI hF
    have g23 : act.eval (.tmp 23) = .agg #[.int .i64 kd, .slice a' n cap', .int .i64 N] := hF.val 0 _ 23 rfl (hall 0 (by simp)) rfl
    have g24 : act.eval (.tmp 24) = .pointer (some ⟨b5, 0, none⟩) := hF.val 1 _ 24 rfl (hall 1 (by simp)) rfl
    have g25 : act.eval (.tmp 25) = .int .i64 k := hF.val 2 _ 25 rfl (hall 2 (by simp)) rfl
    have g26 : act.eval (.tmp 26) = .bool mf := hF.val 3 _ 26 rfl (hall 3 (by simp)) rfl
    have g9 : act.eval (.tmp 9) = .bool mf := hF.val 5 _ 9 rfl (hall 5 (by simp)) rfl
    have hact := hF.act [23, 24, 25, 26, 9] (by kernel_rfl)
    obtain ⟨hxz, hBz, hFz⟩ := Reg.PInv.done hI (fun j hj => hall j (by simp at hj ⊢; omega))
    clear hF hall
    simp only [List.foldl_cons, List.foldl_nil] at hact
    rw [g23, g24, g25, g26, g9] at hact
    clear g23 g24 g25 g26 g9
    simp only [List.setIfInBounds_toArray, List.set_cons_succ, List.set_cons_zero] at hact
    subst hact
    have hX := hFz.2 rfl
    have t0 := (hX.get 0 _ rfl).1
    have t1 := (hX.get 1 _ rfl).1
    have t2 := (hX.get 2 _ rfl).1
    have HT := hidq (And.intro t0 (And.intro t1 (And.intro t2 hBz)))
    clear hX hFz hBz hI t0 t1 t2 HF FA hxz
    go_wp2_with fail
    obtain ⟨t0, t1, t2, hB⟩ := HT.out
    refine bodyPost_ret (v := .tuple #[.agg #[.int .i64 kd, .slice a' n cap', .int .i64 N], .bool mf]) (by simp [results, Try.results11, go_sem, t0, t1, t2]) rfl ?_
    rw [HC.out, HMFE.out]
    exact FIN.out _ _ hB
  · have hd : decide (c = 0) = false := by simpa using hc0
    have hc1 : (c != 0) = true := by simpa using hc0
    clear hno hw4'
    obtain ⟨x80, z80⟩ := X8.out.get 0 _ rfl
    obtain ⟨x81, z81⟩ := X8.out.get 1 _ rfl
    obtain ⟨x82, z82⟩ := X8.out.get 2 _ rfl
    obtain ⟨hX, hB⟩ := box_set3 X8.out (.int .i64 kd) (.slice a' n cap') (.int .i64 N)
    have t0 := (hX.get 0 _ rfl).1
    have t1 := (hX.get 1 _ rfl).1
    have t2 := (hX.get 2 _ rfl).1
    have HT := hidq (And.intro t0 (And.intro t1 t2))
    have HB := hidq hB
    clear hX hB t0 t1 t2
    go_wp2_with fail
    obtain ⟨t0, t1, t2⟩ := HT.out
    refine bodyPost_ret (v := .tuple #[.agg #[.int .i64 kd, .slice a' n cap', .int .i64 N], .bool false]) (by simp [results, Try.results11, go_sem, t0, t1, t2]) rfl ?_
    rw [HC.out, hd, Bool.false_and]
    exact FIN.out _ _ HB.out

set_option maxRecDepth 20000 in
set_option maxHeartbeats 8000000 in
theorem after_next (N v d0 d1 av an p : Int) (f af : Nat) (a : Option Addr) (cap n : Nat) (l : List Value) (w : World) (h : SlAt 2 w a cap n l) (hn : n ≤ 1000000) (hN : -1000000 ≤ N ∧ N ≤ 1152921504606846976) :
    Calls Try.prog 11 #[.agg #[.int .i64 4, .slice a n cap, .int .i64 N], .agg #[.int .i64 7, .float .f64 f, .int .i64 v, .int .i64 d0, .int .i64 d1], .agg #[.bool true, .float .f64 af, .int .i64 av, .int .i64 an], .int .i64 p] w
      (AftEnd 4 (N + 1) n l true w) := by
  have hsf := run_store_float (P := Try.prog)
  obtain ⟨W1, hW1, hb1, hs1, hX4, hX5, hX6, hX8⟩ := four_new w (v12 4 a n cap N) (o12 7 f v d0 d1) (a12 true af av an) [.int .i64 0, .slice none 0 0, .int .i64 0] 28 42 44 28
  obtain ⟨b4, hb4⟩ : ∃ b4, w.heap.size = b4 := ⟨_, rfl⟩
  rw [hb4] at hX4 hX5 hX6 hX8 hs1
  have H1 := hidq (And.intro hb1 (And.intro hX4 (And.intro hX5 (And.intro hX6 (And.intro hX8 hs1)))))
  have hCl := hidq (sclone_any a cap n l W1 (h.below hb1) hn)
  have m41 := hX4.get 1 _ rfl
  obtain ⟨y41, z41⟩ := m41
  clear h hb1 hX4 hX5 hX6 hX8 hs1
  go_enter Try.func11, Try.ntmps11
  go_upto_region 1 with fail
  try rw [hb4]
  dsimp only [v12, o12, a12] at hW1
  try rw [hW1]
  go_wp2_with fail
  refine hCl.out.mono ?_
  rintro e w2 ⟨a', cap', rfl, hS2, hf2, hb2⟩
  obtain ⟨W3, hW3⟩ : ∃ W3, w2.setCell ⟨b4, 1, none⟩ (.slice a' n cap') = W3 := ⟨_, rfl⟩
  have hw4 := hidq hb4
  have H3 := hidq (show (But (fun j => j = b4) W1 W3 ∧ SlAt 2 W3 a' cap' n l ∧ ∀ j, inB a' j → b4 + 4 ≤ j) ∧ BoxAt W3 b4 (v12 4 a' n cap' N) ∧ BoxAt W3 (b4 + 1) (o12 7 f v d0 d1) ∧ BoxAt W3 (b4 + 1 + 1) (a12 true af av an) ∧ BoxAt W3 (b4 + 1 + 1 + 1) [.int .i64 0, .slice none 0 0, .int .i64 0] from by
    obtain ⟨h1, h2, h3, h4, h5, h6⟩ := H1.out
    have hb : But (fun j => j = b4) w2 W3 := by rw [← hW3]; exact (But.refl (fun j => j = b4) w2).set1 b4 1 rfl _
    refine ⟨⟨(But.of_below hb2).trans hb, hS2.but hb (fun j hj e => by have := hf2 j hj; omega), fun j hj => by have := hf2 j hj; omega⟩, ?_, (h3.below hb2).but hb (by omega), (h4.below hb2).but hb (by omega), (h5.below hb2).but hb (by omega)⟩
    rw [← hW3]
    exact (h2.below hb2).set 1 _)
  have q41 : w2.cell? ⟨b4, 1, none⟩ = some (.slice a n cap) := ((H1.out.2.1.below hb2).get 1 _ rfl).1
  have q42 : w2.frozen? ⟨b4, 1, none⟩ = false := ((H1.out.2.1.below hb2).get 1 _ rfl).2
  clear hS2 hf2 hb2 y41 z41 hCl
  have HCk := hidq (check_any 4 7 v d0 d1 f W3)
  rw [show chk 4 7 v = 0 from chk0 (by decide) (by omega)] at HCk
  go_upto_region 2 with fail
  try rw [hW3]
  clear hW3 q41 q42 hW1
  have x40 := (H3.out.2.1.get 0 _ rfl).1
  have x50 := (H3.out.2.2.1.get 0 _ rfl).1
  have x51 := (H3.out.2.2.1.get 1 _ rfl).1
  have x52 := (H3.out.2.2.1.get 2 _ rfl).1
  have x53 := (H3.out.2.2.1.get 3 _ rfl).1
  have x54 := (H3.out.2.2.1.get 4 _ rfl).1
  go_wp2_with fail
  refine HCk.out.mono ?_
  rintro e w4 ⟨rfl, hb34⟩
  have H4 := hidq (show (SlAt 2 w4 a' cap' n l ∧ (∀ j, inB a' j → b4 + 4 ≤ j) ∧ Below w.heap.size w w4 ∧ b4 + 4 ≤ w4.heap.size) ∧ BoxAt w4 b4 (v12 4 a' n cap' N) ∧ BoxAt w4 (b4 + 1) (o12 7 f v d0 d1) ∧ BoxAt w4 (b4 + 1 + 1) (a12 true af av an) ∧ BoxAt w4 (b4 + 1 + 1 + 1) [.int .i64 0, .slice none 0 0, .int .i64 0] from by
    obtain ⟨⟨h1, h2, h3⟩, h4, h5, h6, h7⟩ := H3.out
    obtain ⟨g1, g2, g3, g4, g5, g6⟩ := H1.out
    have z1 := g1.size
    have z2 := h1.size
    have z3 := hb34.size
    have e := hw4.out
    exact ⟨⟨h2.below hb34, h3, (g1.trans (h1.below z1 (fun k hk => by omega))).trans (hb34.mono (by omega)), by omega⟩, h4.below hb34, h5.below hb34, h6.below hb34, h7.below hb34⟩)
  clear x40 x50 x51 x52 x53 x54 hb34 HCk H1 H3
  obtain ⟨b8, hb8⟩ : ∃ b8, b4 + 1 + 1 + 1 = b8 := ⟨_, rfl⟩
  have x60 := (H4.out.2.2.2.1.get 0 _ rfl).1
  have x50 := (H4.out.2.2.1.get 0 _ rfl).1
  obtain ⟨x42, z42⟩ := H4.out.2.1.get 2 _ rfl
  have X8 := hidq H4.out.2.2.2.2
  rw [hb8] at X8
  rw [hb8]
  have hne : b4 ≠ b8 := by omega
  obtain ⟨W5, hW5⟩ : ∃ W5, w4.setCell ⟨b4, 2, none⟩ (.int .i64 (N + 1)) = W5 := ⟨_, rfl⟩
  have hB5 : But (fun j => j = b4) w4 W5 := by rw [← hW5]; exact (But.refl (fun j => j = b4) w4).set1 b4 2 rfl _
  have hX4 : BoxAt W5 b4 (v12 4 a' n cap' (N + 1)) := by rw [← hW5]; exact H4.out.2.1.set 2 _
  have hX8 := X8.out.but hB5 (fun e => hne e.symm)
  have HX := hidq (And.intro hB5 (And.intro hX4 hX8))
  have hw : wrap64 (N + 1) = N + 1 := by unfold wrap64; omega
  have hw2 : IntKind.i64.wrap (N + 1) = N + 1 := by simp [IntKind.wrap, IntKind.signed, IntKind.bits]; omega
  clear hB5 hX4 hX8
  go_upto_region 19 with fail
  try rw [hW5]
  clear hW5 x60 x50 x42 z42 hw hw2
  have x40 := (HX.out.2.1.get 0 _ rfl).1
  have x41 := (HX.out.2.1.get 1 _ rfl).1
  have x42 := (HX.out.2.1.get 2 _ rfl).1
  obtain ⟨x80, z80⟩ := HX.out.2.2.get 0 _ rfl
  obtain ⟨x81, z81⟩ := HX.out.2.2.get 1 _ rfl
  obtain ⟨x82, z82⟩ := HX.out.2.2.get 2 _ rfl
  obtain ⟨hX, hB⟩ := box_set3 HX.out.2.2 (.int .i64 4) (.slice a' n cap') (.int .i64 (N + 1))
  have t0 := (hX.get 0 _ rfl).1
  have t1 := (hX.get 1 _ rfl).1
  have t2 := (hX.get 2 _ rfl).1
  have HT := hidq (And.intro t0 (And.intro t1 (And.intro t2 hB)))
  clear hX hB t0 t1 t2
  go_wp2_with fail
  obtain ⟨t0, t1, t2, hB⟩ := HT.out
  refine bodyPost_ret (v := .tuple #[.agg #[.int .i64 4, .slice a' n cap', .int .i64 (N + 1)], .bool true]) (by simp [results, Try.results11, go_sem, t0, t1, t2]) rfl ?_
  obtain ⟨h1, h2, h3, h4⟩ := H4.out.1
  have e := hw4.out
  have hbb := HX.out.1
  exact ⟨a', cap', rfl, (h1.but hbb (fun j hj e => by have := h2 j hj; omega)).but hB (fun j hj e => by have := h2 j hj; omega), fun j hj => by have := h2 j hj; omega, (h3.trans (hbb.below h3.size (fun k hk => by omega))).trans (hB.below (by have := hbb.size; have := h3.size; omega) (fun k hk => by omega))⟩
end Go.Proofs.Ytbcmilfajeanbaa

namespace Go.Proofs.Ytbcmilfajeanbaa
open Go.RowKit Go.Sort
namespace Gb

/-- What each step leaves: the box, all but the box. -/
def Pres (x : Option Nat) (w : World) (x' : Option Nat) (w' : World) : Prop := (∀ b, x = some b → x' = some b) ∧ But (fun j => x = some j) w w' ∧ ∀ b, x' = some b → x = some b ∨ w.heap.size ≤ b
theorem Pres.refl (x : Option Nat) (w : World) : Pres x w x w := ⟨fun _ h => h, But.refl _ _, fun _ h => .inl h⟩
theorem Pres.below {x : Option Nat} {w w' : World} (h : Below w.heap.size w w') : Pres x w x w' := ⟨fun _ h => h, But.of_below h, fun _ h => .inl h⟩
/-- What lies in no box that is stored into. -/
def Apart (x : Option Nat) (g : Nat) : Prop := ∀ b, x = some b → b ≠ g
theorem Apart.kept {x x' : Option Nat} {w w' : World} {g : Nat} (h : Apart x g) (hp : Pres x w x' w') (hg : g < w.heap.size) : Apart x' g := fun b hb => by
  rcases hp.2.2 b hb with e | e
  · exact h b e
  · omega
structure GI (W1 : World) (Z : List Value) (V : World → Nat → Prop) (iL iS : Nat) (x : Option Nat) (L : Array Bool) (w : World) : Prop where
  bel : Below W1.heap.size W1 w
  no : L.getD iL false = false → x = none
  box : ∀ b, x = some b → W1.heap.size ≤ b ∧ b < w.heap.size ∧ (L.getD iS false = false → BoxAt w b Z) ∧ (L.getD iS false = true → V w b)
section
variable {W1 : World} {Z : List Value} {V : World → Nat → Prop} {iL iS : Nat} {x : Option Nat} {L : Array Bool} {w w' : World}
theorem getD_none (n i : Nat) : (Array.replicate n false).getD i false = false := by
  rw [Array.getD_eq_getD_getElem?, Array.getElem?_replicate]
  split <;> rfl
theorem GI.start (w : World) (Z : List Value) (V : World → Nat → Prop) (iL iS n : Nat) : GI w Z V iL iS none (Array.replicate n false) w.drew :=
  ⟨(Below.refl _ _).drew, fun _ => rfl, fun b hb => by cases hb⟩
theorem GI.quiet (h : GI W1 Z V iL iS x L w) (i : Nat) (h1 : i ≠ iL) (h2 : i ≠ iS) : GI W1 Z V iL iS x (L.setIfInBounds i true) w :=
  ⟨h.bel, by rw [Reg.getD_setb h1]; exact h.no, by rw [Reg.getD_setb h2]; exact h.box⟩
theorem GI.below (hV : ∀ w w' b, Below w.heap.size w w' → b < w.heap.size → V w b → V w' b) (h : GI W1 Z V iL iS x L w) (hb : Below w.heap.size w w') : GI W1 Z V iL iS x L w' :=
  ⟨h.bel.trans (hb.mono h.bel.size), h.no, fun b e => by
    obtain ⟨q1, q2, q3, q4⟩ := h.box b e
    exact ⟨q1, Nat.lt_of_lt_of_le q2 hb.size, fun e => (q3 e).below hb, fun e => hV _ _ _ hb q2 (q4 e)⟩⟩
theorem GI.alloc (h : GI W1 Z V iL iS x L w) (hk : L.getD iL true = false) (hS : L.getD iS false = false) (h1 : iL ≠ iS) (t : TypeId) : Pres x w (some w.heap.size) (w.alloc (.cells Z.toArray t)) ∧ GI W1 Z V iL iS (some w.heap.size) (L.setIfInBounds iL true) (w.alloc (.cells Z.toArray t)) := by
  have hx := h.no (Reg.getD_true hk)
  refine ⟨⟨fun b e => (by rw [hx] at e; cases e), (But.refl _ _).alloc _, fun b e => (by injection e with e; exact .inr (by omega))⟩, h.bel.trans (((Below.refl _ _).alloc (Nat.le_refl _) _).mono h.bel.size), fun e => ?_, fun b e => ?_⟩
  · rw [Reg.getD_sets hk] at e; cases e
  · injection e with e
    subst e
    refine ⟨h.bel.size, by rw [World.size_alloc]; omega, fun _ => BoxAt.new w Z t, fun e => ?_⟩
    rw [Reg.getD_setb h1, hS] at e
    cases e
theorem GI.store (h : GI W1 Z V iL iS x L w) (hk : L.getD iS true = false) (h1 : iS ≠ iL) {b : Nat} (hx : x = some b) (hb : But (fun j => j = b) w w') (hv : V w' b) : Pres x w x w' ∧ GI W1 Z V iL iS x (L.setIfInBounds iS true) w' := by
  obtain ⟨q1, q2, _, _⟩ := h.box b hx
  refine ⟨⟨fun _ e => e, hb.mono (fun j _ e => by rw [hx, e]), fun _ e => .inl e⟩, h.bel.trans (hb.below h.bel.size (fun k e => by omega)), by rw [Reg.getD_setb h1]; exact h.no, fun b' e => ?_⟩
  rw [hx] at e
  injection e with e
  subst e
  refine ⟨q1, Nat.lt_of_lt_of_le q2 hb.size, fun e => ?_, fun _ => hv⟩
  rw [Reg.getD_sets hk] at e
  cases e
end
end Gb
end Go.Proofs.Ytbcmilfajeanbaa

namespace Go.Proofs.Ytbcmilfajeanbaa
open Go.RowKit Go.Sort

set_option maxRecDepth 10000 in
theorem total5_any (cb5 : Nat) (w : World) (hl : cb5 < w.heap.size) (h : w.cell? ⟨cb5, 0, none⟩ = some (.int .i64 5)) : Calls Try.prog 55 #[.agg #[.int .i64 4, .int .i64 4, .int .u64 0, .slice none 0 0, .slice (some ⟨cb5, 0, none⟩) 1 1]] w fun e w' => e = .returned (.int .i64 5) ∧ Below w.heap.size w w' := by
  go_enter Try.func55, Try.ntmps55
  go_wp2
  go_loopw [3, 9] (fun n i wr => ((n = .int .i64 0 ∧ i = .int .i64 0) ∨ (n = .int .i64 5 ∧ i = .int .i64 1)) ∧ Below w.heap.size w wr) (fun _ i _ => 1 - (intOf i).toNat)
  case atStart => exact ⟨.inl ⟨rfl, rfl⟩, (Below.refl _ _).alloc (Nat.le_refl _) _⟩
  case round =>
    obtain ⟨⟨rfl, rfl⟩ | ⟨rfl, rfl⟩, hB⟩ := hrel
    · have hc := (hB.cell (p := ⟨cb5, 0, none⟩) hl).trans h
      have hgl : cb5 < wr.heap.size := Nat.lt_of_lt_of_le hl hB.size
      have HB := hidq hB
      clear hB
      go_wp2
      exact ⟨⟨.inr ⟨rfl, rfl⟩, HB.out⟩, by simp [intOf]⟩
    · have HB := hidq hB
      clear hB
      go_wp2
      go_ret
      exact ⟨rfl, HB.out⟩

def imgV (b1 : Nat) (cb5 : Nat) : List (Value → Option Nat → World → Prop) :=
  [fun v _ _ => v = .pointer (some ⟨b1, 0, none⟩),
   fun v _ _ => v = .int .i64 4,
   fun v _ _ => v = .pointer (some ⟨b1, 3, none⟩),
   fun v _ _ => v = .slice none 0 0,
   fun v _ _ => v = .slice none 0 0,
   fun v _ _ => v = .agg #[.int .i64 4, .int .i64 4, .int .u64 0, .slice none 0 0, .slice (some ⟨cb5, 0, none⟩) 1 1],
   fun v _ _ => v = .int .i64 5,
   fun v _ _ => v = .agg #[.int .i64 4, .slice none 0 0, .int .i64 5],
   fun v x _ => ∃ b, x = some b ∧ v = .pointer (some ⟨b, 0, none⟩),
   fun _ _ _ => True]
theorem imgV_kept (b1 : Nat) (cb5 : Nat) : Reg.GAllKept Gb.Pres (imgV b1 cb5) :=
  ⟨(fun _ _ _ _ _ _ h => h), (fun _ _ _ _ _ _ h => h), (fun _ _ _ _ _ _ h => h), (fun _ _ _ _ _ _ h => h), (fun _ _ _ _ _ _ h => h), (fun _ _ _ _ _ _ h => h), (fun _ _ _ _ _ _ h => h), (fun _ _ _ _ _ _ h => h), (fun v x w x' w' hp h => by obtain ⟨b, h1, h2⟩ := h; exact ⟨b, hp.1 b h1, h2⟩), (fun _ _ _ _ _ _ _ => trivial), trivial⟩

set_option maxRecDepth 20000 in
set_option maxHeartbeats 4000000 in
theorem value5_any (cb5 : Nat) (w : World) (hl : cb5 < w.heap.size) (h : w.cell? ⟨cb5, 0, none⟩ = some (.int .i64 5)) : Calls Try.prog 24 #[.agg #[.int .i64 4, .int .i64 4, .int .u64 0, .slice none 0 0, .slice (some ⟨cb5, 0, none⟩) 1 1]] w fun e w' => e = .returned (.agg #[.int .i64 4, .slice none 0 0, .int .i64 5]) ∧ Below w.heap.size w w' := by
  obtain ⟨b1, hb1⟩ : ∃ b1, w.heap.size = b1 := ⟨_, rfl⟩
  have HL := hidq (And.intro hl h)
  clear hl h
  go_enter Try.func24, Try.ntmps24
  go_upto_region 1 with fail
  try rw [hb1]
  obtain ⟨W1, hW1⟩ : ∃ W1, (w.alloc (.cells #[.int .i64 4, .int .i64 4, .int .u64 0, .slice none 0 0, .slice (some ⟨cb5, 0, none⟩) 1 1] 60)).alloc (.cells #[.int .i64 0, .slice none 0 0, .int .i64 0] 28) = W1 := ⟨_, rfl⟩
  have H1 := hidq (show Below w.heap.size w W1 ∧ BoxAt W1 b1 [.int .i64 4, .int .i64 4, .int .u64 0, .slice none 0 0, .slice (some ⟨cb5, 0, none⟩) 1 1] ∧ BoxAt W1 (b1 + 1) [.int .i64 0, .slice none 0 0, .int .i64 0] ∧ cb5 < W1.heap.size ∧ W1.cell? ⟨cb5, 0, none⟩ = some (.int .i64 5) from by
    have e1 : Below w.heap.size w W1 := by rw [← hW1]; exact ((Below.refl _ _).alloc (Nat.le_refl _) _).alloc (by simp) _
    refine ⟨e1, ?_, ?_, Nat.lt_of_lt_of_le HL.out.1 e1.size, (e1.cell (p := ⟨cb5, 0, none⟩) HL.out.1).trans HL.out.2⟩
    · rw [← hW1, ← hb1]
      exact (BoxAt.new w _ _).below ((Below.refl _ _).alloc (Nat.le_refl _) _)
    · have := BoxAt.new (w.alloc (.cells #[.int .i64 4, .int .i64 4, .int .u64 0, .slice none 0 0, .slice (some ⟨cb5, 0, none⟩) 1 1] 60)) [.int .i64 0, .slice none 0 0, .int .i64 0] 28
      rw [World.size_alloc, hb1] at this
      rw [← hW1]
      exact this)
  rw [hW1]
  clear hW1
  have HV : ∀ (w w' : World) (b : Nat), Below w.heap.size w w' → b < w.heap.size → BoxAt w b [.int .i64 4, .slice none 0 0, .int .i64 5] → BoxAt w' b [.int .i64 4, .slice none 0 0, .int .i64 5] := fun _ _ _ hb _ h => h.below hb
  have FC := hidq (fun W (hW : Below W1.heap.size W1 W) => (show W.cell? ⟨b1, 0, none⟩ = some (.int .i64 4) ∧ W.cell? ⟨b1, 1, none⟩ = some (.int .i64 4) ∧ W.cell? ⟨b1, 2, none⟩ = some (.int .u64 0) ∧ W.cell? ⟨b1, 3, none⟩ = some (.slice none 0 0) ∧ W.cell? ⟨b1, 4, none⟩ = some (.slice (some ⟨cb5, 0, none⟩) 1 1) ∧ W.cell? ⟨cb5, 0, none⟩ = some (.int .i64 5) ∧ cb5 < W.heap.size from by
    have q := H1.out.2.1.below hW
    exact ⟨(q.get 0 _ rfl).1, (q.get 1 _ rfl).1, (q.get 2 _ rfl).1, (q.get 3 _ rfl).1, (q.get 4 _ rfl).1, (hW.cell (p := ⟨cb5, 0, none⟩) H1.out.2.2.2.1).trans H1.out.2.2.2.2, Nat.lt_of_lt_of_le H1.out.2.2.2.1 hW.size⟩))
  refine Reg.wp_region_ghost (Reg.gofList (imgV b1 cb5)) Gb.Pres (Gb.GI W1 [.int .i64 0, .slice none 0 0, .int .i64 0] (fun w b => BoxAt w b [.int .i64 4, .slice none 0 0, .int .i64 5]) 8 9) none (by kernel_rfl) (by kernel_rfl) (Reg.GAllKept.at _ (imgV_kept b1 cb5)) (Gb.GI.start _ _ _ _ _ _) ⟨?_, ?_, ?_, ?_, ?_, ?_, ?_, ?_, ?_, ?_, trivial⟩ ?_
  · refine Reg.GStepAt.plain (i := 0) rfl ?_
    intro x L ev w hI hk hp hA
    have e1 : ev (.tmp 1) = .pointer (some ⟨b1, 0, none⟩) := hA.oldNone 1 (by kernel_rfl)
    have hcc := hA.const
    clear hA hp
    refine Reg.out_value (v := .pointer (some ⟨b1, 0, none⟩)) ?_ ⟨x, rfl, Gb.Pres.refl _ _, hI.quiet 0 (by decide) (by decide)⟩
    go_simp
  · refine Reg.GStepAt.plain (i := 1) rfl ?_
    intro x L ev w hI hk hp hA
    have e4 : ev (.tmp 4) = .pointer (some ⟨b1, 0, none⟩) := hA.val 0 _ 4 rfl (hp ⟨0, .data⟩ (by simp) rfl) rfl
    have hcc := hA.const
    clear hA hp
    obtain ⟨f0, f1, f2, f3, f4, f5, f6⟩ := FC.out w hI.bel
    refine Reg.out_value (v := .int .i64 4) ?_ ⟨x, rfl, Gb.Pres.refl _ _, hI.quiet 1 (by decide) (by decide)⟩
    go_simp
  · refine Reg.GStepAt.plain (i := 2) rfl ?_
    intro x L ev w hI hk hp hA
    have e1 : ev (.tmp 1) = .pointer (some ⟨b1, 0, none⟩) := hA.oldNone 1 (by kernel_rfl)
    have hcc := hA.const
    clear hA hp
    refine Reg.out_value (v := .pointer (some ⟨b1, 3, none⟩)) ?_ ⟨x, rfl, Gb.Pres.refl _ _, hI.quiet 2 (by decide) (by decide)⟩
    go_simp
  · refine Reg.GStepAt.plain (i := 3) rfl ?_
    intro x L ev w hI hk hp hA
    have e6 : ev (.tmp 6) = .pointer (some ⟨b1, 3, none⟩) := hA.val 2 _ 6 rfl (hp ⟨2, .data⟩ (by simp) rfl) rfl
    have hcc := hA.const
    clear hA hp
    obtain ⟨f0, f1, f2, f3, f4, f5, f6⟩ := FC.out w hI.bel
    refine Reg.out_value (v := .slice none 0 0) ?_ ⟨x, rfl, Gb.Pres.refl _ _, hI.quiet 3 (by decide) (by decide)⟩
    go_simp
  · refine Reg.GStepAt.plain (i := 4) rfl ?_
    intro x L ev w hI hk hp hA
    have e7 : ev (.tmp 7) = .slice none 0 0 := hA.val 3 _ 7 rfl (hp ⟨3, .data⟩ (by simp) rfl) rfl
    have hcc := hA.const
    have hcf := hA.func
    clear hA hp
    refine Reg.out_call (f := 54) (args := #[.slice none 0 0]) (w0 := w) ?_ ?_
    · go_simp
    refine (concat_nil w).mono ?_
    rintro e w' ⟨rfl, hb'⟩
    exact ⟨_, rfl, x, rfl, Gb.Pres.below hb', (hI.below HV hb').quiet 4 (by decide) (by decide)⟩
  · refine Reg.GStepAt.plain (i := 5) rfl ?_
    intro x L ev w hI hk hp hA
    have e1 : ev (.tmp 1) = .pointer (some ⟨b1, 0, none⟩) := hA.oldNone 1 (by kernel_rfl)
    have hcc := hA.const
    clear hA hp
    obtain ⟨f0, f1, f2, f3, f4, f5, f6⟩ := FC.out w hI.bel
    refine Reg.out_value (v := .agg #[.int .i64 4, .int .i64 4, .int .u64 0, .slice none 0 0, .slice (some ⟨cb5, 0, none⟩) 1 1]) ?_ ⟨x, rfl, Gb.Pres.refl _ _, hI.quiet 5 (by decide) (by decide)⟩
    go_simp
  · refine Reg.GStepAt.plain (i := 6) rfl ?_
    intro x L ev w hI hk hp hA
    have e9 : ev (.tmp 9) = .agg #[.int .i64 4, .int .i64 4, .int .u64 0, .slice none 0 0, .slice (some ⟨cb5, 0, none⟩) 1 1] := hA.val 5 _ 9 rfl (hp ⟨5, .data⟩ (by simp) rfl) rfl
    have hcc := hA.const
    have hcf := hA.func
    clear hA hp
    obtain ⟨f0, f1, f2, f3, f4, f5, f6⟩ := FC.out w hI.bel
    refine Reg.out_call (f := 55) (args := #[.agg #[.int .i64 4, .int .i64 4, .int .u64 0, .slice none 0 0, .slice (some ⟨cb5, 0, none⟩) 1 1]]) (w0 := w) ?_ ?_
    · go_simp
    refine (total5_any cb5 w f6 f5).mono ?_
    rintro e w' ⟨rfl, hb'⟩
    exact ⟨_, rfl, x, rfl, Gb.Pres.below hb', (hI.below HV hb').quiet 6 (by decide) (by decide)⟩
  · refine Reg.GStepAt.plain (i := 7) rfl ?_
    intro x L ev w hI hk hp hA
    have e5 : ev (.tmp 5) = .int .i64 4 := hA.val 1 _ 5 rfl (hp ⟨1, .data⟩ (by simp) rfl) rfl
    have e8 : ev (.tmp 8) = .slice none 0 0 := hA.val 4 _ 8 rfl (hp ⟨4, .data⟩ (by simp) rfl) rfl
    have e10 : ev (.tmp 10) = .int .i64 5 := hA.val 6 _ 10 rfl (hp ⟨6, .data⟩ (by simp) rfl) rfl
    have hcc := hA.const
    clear hA hp
    refine Reg.out_value (v := .agg #[.int .i64 4, .slice none 0 0, .int .i64 5]) ?_ ⟨x, rfl, Gb.Pres.refl _ _, hI.quiet 7 (by decide) (by decide)⟩
    go_simp
  · refine Reg.GStepAt.plain (i := 8) rfl ?_
    intro x L ev w hI hk hp hA
    have hcc := hA.const
    have NL := Reg.not_listed hA 8 9 _ rfl ⟨8, .data⟩ (by simp) rfl hk
    clear hA hp
    obtain ⟨hP, hG⟩ := hI.alloc hk NL (by decide) 28
    refine Reg.out_new (v := .pointer (some ⟨w.heap.size, 0, none⟩)) (w' := w.alloc (.cells #[.int .i64 0, .slice none 0 0, .int .i64 0] 28)) ?_ ⟨_, ⟨_, rfl, rfl⟩, hP, hG⟩
    clear hI hk hP hG NL
    go_simp
  · refine Reg.GStepAt.plain (i := 9) rfl ?_
    intro x L ev w hI hk hp hA
    have e3 : (fun v x _ => ∃ b, x = some b ∧ v = .pointer (some ⟨b, 0, none⟩)) (ev (.tmp 3)) x w := hA.val 8 _ 3 rfl (hp ⟨8, .data⟩ (by simp) rfl) rfl
    have e11 : ev (.tmp 11) = .agg #[.int .i64 4, .slice none 0 0, .int .i64 5] := hA.val 7 _ 11 rfl (hp ⟨7, .data⟩ (by simp) rfl) rfl
    have hcc := hA.const
    clear hA hp
    obtain ⟨b, hxb, e3⟩ := e3
    have hX := (hI.box b hxb).2.2.1 (Reg.getD_true hk)
    obtain ⟨hX', hbS⟩ := box_set3 hX (.int .i64 4) (.slice none 0 0) (.int .i64 5)
    obtain ⟨hP, hG⟩ := hI.store hk (by decide) hxb hbS hX'
    obtain ⟨x80, z80⟩ := hX.get 0 _ rfl
    obtain ⟨x81, z81⟩ := hX.get 1 _ rfl
    obtain ⟨x82, z82⟩ := hX.get 2 _ rfl
    refine Reg.out_skipP (w' := ((w.setCell ⟨b, 0, none⟩ (.int .i64 4)).setCell ⟨b, 1, none⟩ (.slice none 0 0)).setCell ⟨b, 2, none⟩ (.int .i64 5)) ?_ ⟨x, trivial, hP, hG⟩
    clear hI hk hP hG hX hX' hbS
    go_simp
  intro gx L act wz hall hI hF
  have g4 : act.eval (.tmp 4) = .pointer (some ⟨b1, 0, none⟩) := hF.val 0 _ 4 rfl (hall 0 (by simp)) rfl
  have g5 : act.eval (.tmp 5) = .int .i64 4 := hF.val 1 _ 5 rfl (hall 1 (by simp)) rfl
  have g6 : act.eval (.tmp 6) = .pointer (some ⟨b1, 3, none⟩) := hF.val 2 _ 6 rfl (hall 2 (by simp)) rfl
  have g7 : act.eval (.tmp 7) = .slice none 0 0 := hF.val 3 _ 7 rfl (hall 3 (by simp)) rfl
  have g8 : act.eval (.tmp 8) = .slice none 0 0 := hF.val 4 _ 8 rfl (hall 4 (by simp)) rfl
  have g9 : act.eval (.tmp 9) = .agg #[.int .i64 4, .int .i64 4, .int .u64 0, .slice none 0 0, .slice (some ⟨cb5, 0, none⟩) 1 1] := hF.val 5 _ 9 rfl (hall 5 (by simp)) rfl
  have g10 : act.eval (.tmp 10) = .int .i64 5 := hF.val 6 _ 10 rfl (hall 6 (by simp)) rfl
  have g11 : act.eval (.tmp 11) = .agg #[.int .i64 4, .slice none 0 0, .int .i64 5] := hF.val 7 _ 11 rfl (hall 7 (by simp)) rfl
  have g3 : (fun v x _ => ∃ b, x = some b ∧ v = .pointer (some ⟨b, 0, none⟩)) (act.eval (.tmp 3)) gx wz := hF.val 8 _ 3 rfl (hall 8 (by simp)) rfl
  have hact := hF.act [4, 5, 6, 7, 8, 9, 10, 11, 3] (by kernel_rfl)
  have hSz : L.getD 9 false = true := hall 9 (by simp)
  clear hF hall
  simp only [List.foldl_cons, List.foldl_nil] at hact
  rw [g4, g5, g6, g7, g8, g9, g10, g11] at hact
  clear g4 g5 g6 g7 g8 g9 g10 g11
  generalize act.eval (.tmp 3) = u3 at hact g3
  simp only [List.setIfInBounds_toArray, List.set_cons_succ, List.set_cons_zero] at hact
  subst hact
  obtain ⟨bb, hgx, rfl⟩ := g3
  obtain ⟨hlb, hbl, _, hVb⟩ := hI.box bb hgx
  have hX := hVb hSz
  have hIz : Below W1.heap.size W1 wz := hI.bel
  have hR := H1.out.2.2.1.below hIz
  have hK := H1.out.2.1.below hIz
  obtain ⟨k0, _⟩ := hK.get 0 _ rfl
  obtain ⟨x0, _⟩ := hX.get 0 _ rfl
  obtain ⟨x1, _⟩ := hX.get 1 _ rfl
  obtain ⟨x2, _⟩ := hX.get 2 _ rfl
  obtain ⟨r0, z0⟩ := hR.get 0 _ rfl
  obtain ⟨r1, z1⟩ := hR.get 1 _ rfl
  obtain ⟨r2, z2⟩ := hR.get 2 _ rfl
  have hrl := hR.lt
  have hkl := hK.lt
  have HE := hidq (show Below w.heap.size w wz from H1.out.1.trans (hIz.mono H1.out.1.size))
  have hne : bb ≠ b1 + 1 := by have := H1.out.2.2.1.lt; omega
  have hb0 : w.heap.size ≤ b1 + 1 := by omega
  clear hI hgx hlb hVb hIz hX hR hK hSz FC HV H1 HL
  go_wp2
  refine bodyPost_ret (v := .agg #[.int .i64 4, .slice none 0 0, .int .i64 5]) (by simp [results, Try.results24, go_sem, r0, r1, r2]) rfl ?_
  exact ⟨rfl, (((HE.out).setCell (p := ⟨b1 + 1, 0, none⟩) hb0 _).setCell (p := ⟨b1 + 1, 1, none⟩) hb0 _).setCell (p := ⟨b1 + 1, 2, none⟩) hb0 _⟩

set_option maxRecDepth 20000 in
set_option maxHeartbeats 4000000 in
theorem check0_any (w : World) : Calls Try.prog 20 #[.agg #[.int .i64 0, .int .i64 0, .int .u64 0, .slice none 0 0, .slice none 0 0]] w fun e w' => e = .returned (.int .i64 6) ∧ Below w.heap.size w w' := by
  have hL := fun w => legal_any 0 0 w
  rw [show legal 0 0 = 6 from legal_kind (by decide)] at hL
  go_enter Try.func20, Try.ntmps20
  go_wp2_with fail
  refine (hL _).mono ?_
  rintro e w1 hx
  obtain ⟨rfl, hx⟩ := hx
  try subst hx
  go_wp2
  go_ret
  exact ⟨rfl, by first | exact (Below.refl _ _).alloc (Nat.le_refl _) _ | exact ((Below.refl _ _).alloc (Nat.le_refl _) _).trans (hx.mono (by simp))⟩

set_option maxRecDepth 20000 in
set_option maxHeartbeats 4000000 in
theorem awake17_any (w : World) : Calls Try.prog 17 #[] w fun e w' => e = .returned (.bool true) ∧ Below w.heap.size w w' := by
  have hS := hidq (fun w => shape_any 1 3 w)
  have hR := hidq (fun w => room_any 16 w)
  rw [show shL 1 3 = 3 from rfl, show shC 1 3 = 0 from rfl] at hS
  rw [show roomI 16 = 992 by decide] at hR
  have hfv : ∀ (x y z : Value) (w : World), (Instr.field 28 (.agg #[x, y, z]) 2).run Try.prog w = .ok z w := fun x y z w => by kernel_rfl
  go_enter Try.func17, Try.ntmps17
  go_wp2_with fail
  refine (hS.out _).mono ?_
  rintro e w1 ⟨rfl, rfl⟩
  go_wp2_with fail
  refine (hR.out _).mono ?_
  rintro e w1 ⟨rfl, rfl⟩
  go_wp2_with fail
  refine (check0_any _).mono ?_
  rintro e w1 ⟨rfl, hb1⟩
  have HB := hidq hb1
  clear hb1
  go_wp2_with fail
  refine (value5_any w1.heap.size _ (by simp) (World.cell?_alloc_new _ _ _ _)).mono ?_
  rintro e w2 ⟨rfl, hb2⟩
  have HC := hidq hb2
  clear hb2
  go_wp2
  go_ret
  refine ⟨rfl, HB.out.trans (((Below.refl _ _).alloc (Nat.le_refl _) _).trans (HC.out.mono (by simp)) |>.mono HB.out.size)⟩

set_option maxRecDepth 20000 in
set_option maxHeartbeats 4000000 in
theorem imageShapes_any (k p r : Int) (w : World) : Calls Try.prog 6 #[.int .i64 k, .int .i64 p, .int .i64 r] w fun e w' => e = .returned (.bool true) ∧ Below w.heap.size w w' := by
  have hS := hidq (fun w => shape_any k p w)
  have hR := hidq (fun w => room_any r w)
  obtain ⟨r1, r2, r3, r4⟩ := room_rng r
  generalize roomI r = q at *
  rcases kinds k with rfl | rfl | rfl | rfl | ⟨h1, h2, h3, h4⟩
  · rw [show shL 1 p = p from rfl, show shC 1 p = 0 from rfl] at hS
    rcases Classical.em (r < 1) with h | h
    · have e : max r 1 = 1 := by omega
      rw [e] at r3 r4
      have r5 : 997 < q := by omega
      clear e r4 r3
      have r6 : q = 998 := by omega
      subst r6
      clear r1 r2 r5
      go_enter Try.func6, Try.ntmps6
      go_wp2_with fail
      refine (awake17_any _).mono ?_
      rintro e w1 ⟨rfl, hb1⟩
      have HB := hidq hb1
      clear hb1
      go_wp2_with fail
      refine (hS.out _).mono ?_
      rintro e w2 ⟨rfl, rfl⟩
      go_wp2_with fail
      refine (hR.out _).mono ?_
      rintro e w3 ⟨rfl, rfl⟩
      go_wp2
      go_ret
      exact ⟨rfl, HB.out⟩
    · have e : max r 1 = r := by omega
      have h2 : 1 ≤ r := by omega
      rw [e] at r3 r4
      clear e h
      rcases Classical.em (998 < r) with h5 | h5
      · clear r4
        go_enter Try.func6, Try.ntmps6
        go_wp2_with fail
        refine (awake17_any _).mono ?_
        rintro e w1 ⟨rfl, hb1⟩
        have HB := hidq hb1
        clear hb1
        go_wp2_with fail
        refine (hS.out _).mono ?_
        rintro e w2 ⟨rfl, rfl⟩
        go_wp2_with fail
        refine (hR.out _).mono ?_
        rintro e w3 ⟨rfl, rfl⟩
        go_wp2
        go_ret
        exact ⟨rfl, HB.out⟩
      · have r5 : 998 - r < q := by omega
        have h6 : r ≤ 998 := by omega
        have r7 : wrap64 (998 - r) = 998 - r := by unfold wrap64; omega
        clear r4 h5
        go_enter Try.func6, Try.ntmps6
        go_wp2_with fail
        refine (awake17_any _).mono ?_
        rintro e w1 ⟨rfl, hb1⟩
        have HB := hidq hb1
        clear hb1
        go_wp2_with fail
        refine (hS.out _).mono ?_
        rintro e w2 ⟨rfl, rfl⟩
        go_wp2_with fail
        refine (hR.out _).mono ?_
        rintro e w3 ⟨rfl, rfl⟩
        go_wp2
        go_ret
        exact ⟨rfl, HB.out⟩
  · rw [show shL 2 p = 1 from rfl, show shC 2 p = 0 from rfl] at hS
    rcases Classical.em (r < 1) with h | h
    · have e : max r 1 = 1 := by omega
      rw [e] at r3 r4
      have r5 : 997 < q := by omega
      clear e r4 r3
      have r6 : q = 998 := by omega
      subst r6
      clear r1 r2 r5
      go_enter Try.func6, Try.ntmps6
      go_wp2_with fail
      refine (awake17_any _).mono ?_
      rintro e w1 ⟨rfl, hb1⟩
      have HB := hidq hb1
      clear hb1
      go_wp2_with fail
      refine (hS.out _).mono ?_
      rintro e w2 ⟨rfl, rfl⟩
      go_wp2_with fail
      refine (hR.out _).mono ?_
      rintro e w3 ⟨rfl, rfl⟩
      go_wp2
      go_ret
      exact ⟨rfl, HB.out⟩
    · have e : max r 1 = r := by omega
      have h2 : 1 ≤ r := by omega
      rw [e] at r3 r4
      clear e h
      rcases Classical.em (998 < r) with h5 | h5
      · clear r4
        go_enter Try.func6, Try.ntmps6
        go_wp2_with fail
        refine (awake17_any _).mono ?_
        rintro e w1 ⟨rfl, hb1⟩
        have HB := hidq hb1
        clear hb1
        go_wp2_with fail
        refine (hS.out _).mono ?_
        rintro e w2 ⟨rfl, rfl⟩
        go_wp2_with fail
        refine (hR.out _).mono ?_
        rintro e w3 ⟨rfl, rfl⟩
        go_wp2
        go_ret
        exact ⟨rfl, HB.out⟩
      · have r5 : 998 - r < q := by omega
        have h6 : r ≤ 998 := by omega
        have r7 : wrap64 (998 - r) = 998 - r := by unfold wrap64; omega
        clear r4 h5
        go_enter Try.func6, Try.ntmps6
        go_wp2_with fail
        refine (awake17_any _).mono ?_
        rintro e w1 ⟨rfl, hb1⟩
        have HB := hidq hb1
        clear hb1
        go_wp2_with fail
        refine (hS.out _).mono ?_
        rintro e w2 ⟨rfl, rfl⟩
        go_wp2_with fail
        refine (hR.out _).mono ?_
        rintro e w3 ⟨rfl, rfl⟩
        go_wp2
        go_ret
        exact ⟨rfl, HB.out⟩
  · rw [show shL 3 p = 0 from rfl, show shC 3 p = p from rfl] at hS
    rcases Classical.em (r < 1) with h | h
    · have e : max r 1 = 1 := by omega
      rw [e] at r3 r4
      have r5 : 997 < q := by omega
      clear e r4 r3
      have r6 : q = 998 := by omega
      subst r6
      clear r1 r2 r5
      go_enter Try.func6, Try.ntmps6
      go_wp2_with fail
      refine (awake17_any _).mono ?_
      rintro e w1 ⟨rfl, hb1⟩
      have HB := hidq hb1
      clear hb1
      go_wp2_with fail
      refine (hS.out _).mono ?_
      rintro e w2 ⟨rfl, rfl⟩
      go_wp2_with fail
      refine (hR.out _).mono ?_
      rintro e w3 ⟨rfl, rfl⟩
      go_wp2
      go_ret
      exact ⟨rfl, HB.out⟩
    · have e : max r 1 = r := by omega
      have h2 : 1 ≤ r := by omega
      rw [e] at r3 r4
      clear e h
      rcases Classical.em (998 < r) with h5 | h5
      · clear r4
        go_enter Try.func6, Try.ntmps6
        go_wp2_with fail
        refine (awake17_any _).mono ?_
        rintro e w1 ⟨rfl, hb1⟩
        have HB := hidq hb1
        clear hb1
        go_wp2_with fail
        refine (hS.out _).mono ?_
        rintro e w2 ⟨rfl, rfl⟩
        go_wp2_with fail
        refine (hR.out _).mono ?_
        rintro e w3 ⟨rfl, rfl⟩
        go_wp2
        go_ret
        exact ⟨rfl, HB.out⟩
      · have r5 : 998 - r < q := by omega
        have h6 : r ≤ 998 := by omega
        have r7 : wrap64 (998 - r) = 998 - r := by unfold wrap64; omega
        clear r4 h5
        go_enter Try.func6, Try.ntmps6
        go_wp2_with fail
        refine (awake17_any _).mono ?_
        rintro e w1 ⟨rfl, hb1⟩
        have HB := hidq hb1
        clear hb1
        go_wp2_with fail
        refine (hS.out _).mono ?_
        rintro e w2 ⟨rfl, rfl⟩
        go_wp2_with fail
        refine (hR.out _).mono ?_
        rintro e w3 ⟨rfl, rfl⟩
        go_wp2
        go_ret
        exact ⟨rfl, HB.out⟩
  · rw [show shL 4 p = 0 from rfl, show shC 4 p = 1 from rfl] at hS
    rcases Classical.em (r < 1) with h | h
    · have e : max r 1 = 1 := by omega
      rw [e] at r3 r4
      have r5 : 997 < q := by omega
      clear e r4 r3
      have r6 : q = 998 := by omega
      subst r6
      clear r1 r2 r5
      go_enter Try.func6, Try.ntmps6
      go_wp2_with fail
      refine (awake17_any _).mono ?_
      rintro e w1 ⟨rfl, hb1⟩
      have HB := hidq hb1
      clear hb1
      go_wp2_with fail
      refine (hS.out _).mono ?_
      rintro e w2 ⟨rfl, rfl⟩
      go_wp2_with fail
      refine (hR.out _).mono ?_
      rintro e w3 ⟨rfl, rfl⟩
      go_wp2
      go_ret
      exact ⟨rfl, HB.out⟩
    · have e : max r 1 = r := by omega
      have h2 : 1 ≤ r := by omega
      rw [e] at r3 r4
      clear e h
      rcases Classical.em (998 < r) with h5 | h5
      · clear r4
        go_enter Try.func6, Try.ntmps6
        go_wp2_with fail
        refine (awake17_any _).mono ?_
        rintro e w1 ⟨rfl, hb1⟩
        have HB := hidq hb1
        clear hb1
        go_wp2_with fail
        refine (hS.out _).mono ?_
        rintro e w2 ⟨rfl, rfl⟩
        go_wp2_with fail
        refine (hR.out _).mono ?_
        rintro e w3 ⟨rfl, rfl⟩
        go_wp2
        go_ret
        exact ⟨rfl, HB.out⟩
      · have r5 : 998 - r < q := by omega
        have h6 : r ≤ 998 := by omega
        have r7 : wrap64 (998 - r) = 998 - r := by unfold wrap64; omega
        clear r4 h5
        go_enter Try.func6, Try.ntmps6
        go_wp2_with fail
        refine (awake17_any _).mono ?_
        rintro e w1 ⟨rfl, hb1⟩
        have HB := hidq hb1
        clear hb1
        go_wp2_with fail
        refine (hS.out _).mono ?_
        rintro e w2 ⟨rfl, rfl⟩
        go_wp2_with fail
        refine (hR.out _).mono ?_
        rintro e w3 ⟨rfl, rfl⟩
        go_wp2
        go_ret
        exact ⟨rfl, HB.out⟩
  · rw [show shL k p = 0 by unfold shL; rw [if_neg h1, if_neg h2], show shC k p = 0 by unfold shC; rw [if_neg h3, if_neg h4]] at hS
    have b1 : (k == 1) = false := by simpa using h1
    have b2 : (k == 2) = false := by simpa using h2
    have b3 : (k == 3) = false := by simpa using h3
    have b4 : (k == 4) = false := by simpa using h4
    clear h1 h2 h3 h4
    rcases Classical.em (r < 1) with h | h
    · have e : max r 1 = 1 := by omega
      rw [e] at r3 r4
      have r5 : 997 < q := by omega
      clear e r4 r3
      have r6 : q = 998 := by omega
      subst r6
      clear r1 r2 r5
      go_enter Try.func6, Try.ntmps6
      go_wp2_with fail
      refine (awake17_any _).mono ?_
      rintro e w1 ⟨rfl, hb1⟩
      have HB := hidq hb1
      clear hb1
      go_wp2_with fail
      refine (hS.out _).mono ?_
      rintro e w2 ⟨rfl, rfl⟩
      go_wp2_with fail
      refine (hR.out _).mono ?_
      rintro e w3 ⟨rfl, rfl⟩
      go_wp2
      go_ret
      exact ⟨rfl, HB.out⟩
    · have e : max r 1 = r := by omega
      have h2 : 1 ≤ r := by omega
      rw [e] at r3 r4
      clear e h
      rcases Classical.em (998 < r) with h5 | h5
      · clear r4
        go_enter Try.func6, Try.ntmps6
        go_wp2_with fail
        refine (awake17_any _).mono ?_
        rintro e w1 ⟨rfl, hb1⟩
        have HB := hidq hb1
        clear hb1
        go_wp2_with fail
        refine (hS.out _).mono ?_
        rintro e w2 ⟨rfl, rfl⟩
        go_wp2_with fail
        refine (hR.out _).mono ?_
        rintro e w3 ⟨rfl, rfl⟩
        go_wp2
        go_ret
        exact ⟨rfl, HB.out⟩
      · have r5 : 998 - r < q := by omega
        have h6 : r ≤ 998 := by omega
        have r7 : wrap64 (998 - r) = 998 - r := by unfold wrap64; omega
        clear r4 h5
        go_enter Try.func6, Try.ntmps6
        go_wp2_with fail
        refine (awake17_any _).mono ?_
        rintro e w1 ⟨rfl, hb1⟩
        have HB := hidq hb1
        clear hb1
        go_wp2_with fail
        refine (hS.out _).mono ?_
        rintro e w2 ⟨rfl, rfl⟩
        go_wp2_with fail
        refine (hR.out _).mono ?_
        rintro e w3 ⟨rfl, rfl⟩
        go_wp2
        go_ret
        exact ⟨rfl, HB.out⟩
end Go.Proofs.Ytbcmilfajeanbaa
