/-
  Layer 12: what is held behind an operation that did nothing, and behind a Next: contracts.
  How two words of 64 bits stand to each other as floats: by their rungs with signs. Plain numbers.
  The highest of 64 bits. Plain numbers.
  Layer 3, its calls and the document's answers by bits: contracts.
  A heap in an array: what sifting down and up keeps. Plain arrays.
  Layer 4: items, their order, their places: contracts.
  Canonical items, and their order.
  Layer 4's laws: items in the making, the document's answers: contracts.
  The document's items, one behind the other.
  Items in the making, as an argument; as the program's, as the document's.
  Layer 5: values, cells, memories: what they hold; copies: contracts.
  Layer 5: a memory: what it holds, and its calls: contracts.
  Layer 5's laws: a value in the making, as the program's: contract.
  Layer 5's laws: a value in the making, as the document's: contract.
  Layer 5's laws: is a value the document's? Where it is: contracts.
  Layer 5: items one by one: are they the same?
  Layer 12: are two values the same? Contracts.
  Layer 12: an item less: slices.Delete: contract.
-/
import Derived.Test.YtbcmilfajeanbaaOp6All
import Derived.Test.YtbcmilfajeanbaaPhaseAll
import Derived.Deep.CutBlock
import Ieee.Arith
import Derived.Laws.BitsAllLaws
import Derived.Test.YtbcmilfajeanbaaChecked
import Derived.WalkKit
import Derived.Laws.Cover2
import Derived.Laws.Externs
import Derived.Sort.Lot0
import Derived.Sort.LotA
import Derived.Test.YtbcmilfajeanbaaBoxGAll
import Derived.BigQuiet
import Derived.Deep.QuietTactic
import Derived.Deep.RegionLaw
import Derived.Deep.MidRow
import Derived.Laws.IdiomCopy
namespace Go.Proofs.Ytbcmilfajeanbaa
open Go.RowKit Go.Sort

/-- May an operation of this kind fail? -/
def mayF (k : Int) : Bool := !(k == 5 || k == 6 || k == 7)
theorem mayFail_any (k : Int) (w : World) : Calls Try.prog 37 #[.int .i64 k] w fun e w' => e = .returned (.bool (mayF k)) ∧ w' = w := by
  by_cases h : k = 5 ∨ k = 6 ∨ k = 7
  · rcases h with rfl | rfl | rfl
    all_goals
      go_enter Try.func37, Try.ntmps37
      go_wp2_with fail
      go_ret
      exact ⟨rfl, rfl⟩
  · have h5 : (k == 5) = false := by simp; omega
    have h6 : (k == 6) = false := by simp; omega
    have h7 : (k == 7) = false := by simp; omega
    have hm : mayF k = true := by unfold mayF; rw [h5, h6, h7]; rfl
    rw [hm]
    clear h hm
    go_enter Try.func37, Try.ntmps37
    go_wp2_with fail
    go_ret
    exact ⟨rfl, rfl⟩
/-- A value, an operation, an answer as they lie in memory. -/
abbrev v12 (kd : Int) (a : Option Addr) (n cap : Nat) (N : Int) : List Value := [.int .i64 kd, .slice a n cap, .int .i64 N]
abbrev o12 (k : Int) (f : Nat) (v d0 d1 : Int) : List Value := [.int .i64 k, .float .f64 f, .int .i64 v, .int .i64 d0, .int .i64 d1]
abbrev a12 (ok : Bool) (f : Nat) (v n : Int) : List Value := [.bool ok, .float .f64 f, .int .i64 v, .int .i64 n]
/-- How After ends: a value with other items, and whether it may be. -/
def AftEnd (kd N : Int) (n : Nat) (l : List Value) (r : Bool) (w : World) (e : Ending) (w' : World) : Prop :=
  ∃ a' cap', e = .returned (.tuple #[.agg #[.int .i64 kd, .slice a' n cap', .int .i64 N], .bool r]) ∧ SlAt 2 w' a' cap' n l ∧ (∀ j, inB a' j → w.heap.size ≤ j) ∧ Below w.heap.size w w'

theorem four_new (w : World) (l1 l2 l3 l4 : List Value) (t1 t2 t3 t4 : TypeId) : ∃ W, (((w.alloc (.cells l1.toArray t1)).alloc (.cells l2.toArray t2)).alloc (.cells l3.toArray t3)).alloc (.cells l4.toArray t4) = W ∧ Below w.heap.size w W ∧ W.heap.size = w.heap.size + 4 ∧ BoxAt W w.heap.size l1 ∧ BoxAt W (w.heap.size + 1) l2 ∧ BoxAt W (w.heap.size + 1 + 1) l3 ∧ BoxAt W (w.heap.size + 1 + 1 + 1) l4 := by
  have al : ∀ (w : World) (o : Obj), Below w.heap.size w (w.alloc o) := fun w o => (Below.refl _ _).alloc (Nat.le_refl _) _
  have h1 := BoxAt.new w l1 t1
  have h2 := BoxAt.new (w.alloc (.cells l1.toArray t1)) l2 t2
  have h3 := BoxAt.new ((w.alloc (.cells l1.toArray t1)).alloc (.cells l2.toArray t2)) l3 t3
  have h4 := BoxAt.new (((w.alloc (.cells l1.toArray t1)).alloc (.cells l2.toArray t2)).alloc (.cells l3.toArray t3)) l4 t4
  simp only [World.size_alloc] at h2 h3 h4
  refine ⟨_, rfl, ?_, by simp, ((h1.below (al _ _)).below (al _ _)).below (al _ _), (h2.below (al _ _)).below (al _ _), h3.below (al _ _), h4⟩
  exact (((Below.refl _ _).alloc (Nat.le_refl _) _).alloc (by simp) _).alloc (by simp; omega) _ |>.alloc (by simp; omega) _

def aft5R (_b4 b5 n cap' : Nat) (a' : Option Addr) (kd N k : Int) (mf : Bool) (_b8 : Nat) : List (Value → Nat → World → Prop) :=
  [fun v _ _ => v = .agg #[.int .i64 kd, .slice a' n cap', .int .i64 N],
   fun v _ _ => v = .pointer (some ⟨b5, 0, none⟩),
   fun v _ _ => v = .int .i64 k,
   fun v _ _ => v = .bool mf,
   fun _ _ _ => True,
   fun v _ _ => v = .bool mf]
theorem aft5R_kept (b4 b5 n cap' : Nat) (a' : Option Addr) (kd N k : Int) (mf : Bool) (b8 : Nat) : Reg.GAllKept (Reg.PPres (fun j => j = b8)) (aft5R b4 b5 n cap' a' kd N k mf b8) :=
  ⟨(fun _ _ _ _ _ _ h => h), (fun _ _ _ _ _ _ h => h), (fun _ _ _ _ _ _ h => h), (fun _ _ _ _ _ _ h => h), (fun _ _ _ _ _ _ _ => trivial), (fun _ _ _ _ _ _ h => h), trivial⟩
theorem box_set3 {w : World} {b : Nat} {x y z : Value} (h : BoxAt w b [x, y, z]) (u0 u1 u2 : Value) : BoxAt (((w.setCell ⟨b, 0, none⟩ u0).setCell ⟨b, 1, none⟩ u1).setCell ⟨b, 2, none⟩ u2) b [u0, u1, u2] ∧ But (fun j => j = b) w (((w.setCell ⟨b, 0, none⟩ u0).setCell ⟨b, 1, none⟩ u1).setCell ⟨b, 2, none⟩ u2) :=
  ⟨((h.set 0 u0).set 1 u1).set 2 u2, (((But.refl (fun j => j = b) w).set1 b 0 rfl _).set1 b 1 rfl _).set1 b 2 rfl _⟩

set_option maxRecDepth 20000 in
set_option maxHeartbeats 8000000 in
theorem after_any (kd N k v d0 d1 av an p : Int) (f af : Nat) (ok : Bool) (a : Option Addr) (cap n : Nat) (l : List Value) (w : World) (h : SlAt 2 w a cap n l) (hn : n ≤ 1000000) (hno : ok = false ∨ ¬ chk kd k v = 0) :
    Calls Try.prog 11 #[.agg #[.int .i64 kd, .slice a n cap, .int .i64 N], .agg #[.int .i64 k, .float .f64 f, .int .i64 v, .int .i64 d0, .int .i64 d1], .agg #[.bool ok, .float .f64 af, .int .i64 av, .int .i64 an], .int .i64 p] w
      (AftEnd kd N n l (decide (chk kd k v = 0) && mayF k) w) := by
  have hsf := run_store_float (P := Try.prog)
  obtain ⟨W1, hW1, hb1, hs1, hX4, hX5, hX6, hX8⟩ := four_new w (v12 kd a n cap N) (o12 k f v d0 d1) (a12 ok af av an) [.int .i64 0, .slice none 0 0, .int .i64 0] 28 42 44 28
  obtain ⟨b4, hb4⟩ : ∃ b4, w.heap.size = b4 := ⟨_, rfl⟩
  rw [hb4] at hX4 hX5 hX6 hX8 hs1
  have H1 := hidq (And.intro hb1 (And.intro hX4 (And.intro hX5 (And.intro hX6 (And.intro hX8 hs1)))))
  have hCl := hidq (sclone_any a cap n l W1 (h.below hb1) hn)
  have m41 := hX4.get 1 _ rfl
  obtain ⟨y41, z41⟩ := m41
  clear h hb1 hX4 hX5 hX6 hX8 hs1
  go_enter Try.func11, Try.ntmps11
  go_upto_region 1 with fail
  try rw [hb4]
  dsimp only [v12, o12, a12] at hW1
  try rw [hW1]
  go_wp2_with fail
  refine hCl.out.mono ?_
  rintro e w2 ⟨a', cap', rfl, hS2, hf2, hb2⟩
  obtain ⟨W3, hW3⟩ : ∃ W3, w2.setCell ⟨b4, 1, none⟩ (.slice a' n cap') = W3 := ⟨_, rfl⟩
  have hw4 := hidq hb4
  have H3 := hidq (show (But (fun j => j = b4) W1 W3 ∧ SlAt 2 W3 a' cap' n l ∧ ∀ j, inB a' j → b4 + 4 ≤ j) ∧ BoxAt W3 b4 (v12 kd a' n cap' N) ∧ BoxAt W3 (b4 + 1) (o12 k f v d0 d1) ∧ BoxAt W3 (b4 + 1 + 1) (a12 ok af av an) ∧ BoxAt W3 (b4 + 1 + 1 + 1) [.int .i64 0, .slice none 0 0, .int .i64 0] from by
    obtain ⟨h1, h2, h3, h4, h5, h6⟩ := H1.out
    have hb : But (fun j => j = b4) w2 W3 := by rw [← hW3]; exact (But.refl (fun j => j = b4) w2).set1 b4 1 rfl _
    refine ⟨⟨(But.of_below hb2).trans hb, hS2.but hb (fun j hj e => by have := hf2 j hj; omega), fun j hj => by have := hf2 j hj; omega⟩, ?_, (h3.below hb2).but hb (by omega), (h4.below hb2).but hb (by omega), (h5.below hb2).but hb (by omega)⟩
    rw [← hW3]
    exact (h2.below hb2).set 1 _)
  have q41 : w2.cell? ⟨b4, 1, none⟩ = some (.slice a n cap) := ((H1.out.2.1.below hb2).get 1 _ rfl).1
  have q42 : w2.frozen? ⟨b4, 1, none⟩ = false := ((H1.out.2.1.below hb2).get 1 _ rfl).2
  clear hS2 hf2 hb2 y41 z41 hCl
  have HCk := hidq (check_any kd k v d0 d1 f W3)
  obtain ⟨c, hc⟩ : ∃ c, chk kd k v = c := ⟨_, rfl⟩
  rw [hc] at HCk hno
  have HC := hidq hc
  clear hc
  go_upto_region 2 with fail
  try rw [hW3]
  clear hW3 q41 q42 hW1
  have x40 := (H3.out.2.1.get 0 _ rfl).1
  have x50 := (H3.out.2.2.1.get 0 _ rfl).1
  have x51 := (H3.out.2.2.1.get 1 _ rfl).1
  have x52 := (H3.out.2.2.1.get 2 _ rfl).1
  have x53 := (H3.out.2.2.1.get 3 _ rfl).1
  have x54 := (H3.out.2.2.1.get 4 _ rfl).1
  go_wp2_with fail
  refine HCk.out.mono ?_
  rintro e w4 ⟨rfl, hb34⟩
  have H4 := hidq (show (SlAt 2 w4 a' cap' n l ∧ (∀ j, inB a' j → b4 + 4 ≤ j) ∧ Below w.heap.size w w4 ∧ b4 + 4 ≤ w4.heap.size) ∧ BoxAt w4 b4 (v12 kd a' n cap' N) ∧ BoxAt w4 (b4 + 1) (o12 k f v d0 d1) ∧ BoxAt w4 (b4 + 1 + 1) (a12 ok af av an) ∧ BoxAt w4 (b4 + 1 + 1 + 1) [.int .i64 0, .slice none 0 0, .int .i64 0] from by
    obtain ⟨⟨h1, h2, h3⟩, h4, h5, h6, h7⟩ := H3.out
    obtain ⟨g1, g2, g3, g4, g5, g6⟩ := H1.out
    have z1 := g1.size
    have z2 := h1.size
    have z3 := hb34.size
    have e := hw4.out
    exact ⟨⟨h2.below hb34, h3, (g1.trans (h1.below z1 (fun k hk => by omega))).trans (hb34.mono (by omega)), by omega⟩, h4.below hb34, h5.below hb34, h6.below hb34, h7.below hb34⟩)
  clear x40 x50 x51 x52 x53 x54 hb34 HCk H1 H3
  obtain ⟨b8, hb8⟩ : ∃ b8, b4 + 1 + 1 + 1 = b8 := ⟨_, rfl⟩
  have x40 := (H4.out.2.1.get 0 _ rfl).1
  have x41 := (H4.out.2.1.get 1 _ rfl).1
  have x42 := (H4.out.2.1.get 2 _ rfl).1
  have x60 := (H4.out.2.2.2.1.get 0 _ rfl).1
  have x50 := (H4.out.2.2.1.get 0 _ rfl).1
  have X8 := hidq H4.out.2.2.2.2
  rw [hb8] at X8
  rw [hb8]
  have hne : b4 ≠ b8 := by omega
  have hge : b4 ≤ b8 := by omega
  have FIN := hidq (fun W (r : Bool) (hB : But (fun j => j = b8) w4 W) => (show AftEnd kd N n l r w (.returned (.tuple #[.agg #[.int .i64 kd, .slice a' n cap', .int .i64 N], .bool r])) W from by
    obtain ⟨h1, h2, h3, h4⟩ := H4.out.1
    have e := hw4.out
    exact ⟨a', cap', rfl, h1.but hB (fun j hj e => by have := h2 j hj; omega), fun j hj => by have := h2 j hj; omega, h3.trans (hB.below h3.size (fun k hk => by omega))⟩))
  have hw4' := hw4.out
  by_cases hc0 : c = 0
  · subst hc0
    have hok : ok = false := by rcases hno with e | e; exact e; exact absurd rfl e
    subst hok
    clear hno
    have HMF0 := fun W => mayFail_any k W
    obtain ⟨mf, hmf⟩ : ∃ mf, mayF k = mf := ⟨_, rfl⟩
    rw [hmf] at HMF0
    have HMF := hidq HMF0
    clear HMF0
    have HMFE := hidq hmf
    clear hmf
    obtain ⟨x80, z80⟩ := X8.out.get 0 _ rfl
    obtain ⟨x81, z81⟩ := X8.out.get 1 _ rfl
    obtain ⟨x82, z82⟩ := X8.out.get 2 _ rfl
    go_upto_region 5 with fail
    have hb5 : ¬ b4 + 1 = b8 := by omega
    obtain ⟨b5, hb5e⟩ : ∃ b5, b4 + 1 = b5 := ⟨_, rfl⟩
    have FA := hidq (fun W (hW : But (fun j => j = b8) w4 W) => (show W.cell? ⟨b4, 0, none⟩ = some (.int .i64 kd) ∧ W.cell? ⟨b4, 1, none⟩ = some (.slice a' n cap') ∧ W.cell? ⟨b4, 2, none⟩ = some (.int .i64 N) ∧ W.cell? ⟨b5, 0, none⟩ = some (.int .i64 k) from by
      have h1 := H4.out.2.1.but hW hne
      have h2 := H4.out.2.2.1.but hW hb5
      rw [hb5e] at h2
      exact ⟨(h1.get 0 _ rfl).1, (h1.get 1 _ rfl).1, (h1.get 2 _ rfl).1, (h2.get 0 _ rfl).1⟩))
    have HF : ∀ (x : Nat) (w w' : World), Below w.heap.size w w' → ((x = 0 → BoxAt w b8 [.int .i64 0, .slice none 0 0, .int .i64 0]) ∧ (x = 1 → BoxAt w b8 [.int .i64 kd, .slice a' n cap', .int .i64 N])) → ((x = 0 → BoxAt w' b8 [.int .i64 0, .slice none 0 0, .int .i64 0]) ∧ (x = 1 → BoxAt w' b8 [.int .i64 kd, .slice a' n cap', .int .i64 N])) :=
      fun _ _ _ hB h => ⟨fun e => (h.1 e).below hB, fun e => (h.2 e).below hB⟩
    rw [hb5e]
    clear x80 x81 x82 z80 z81 z82 x40 x41 x42 x60 x50
    refine Reg.wp_region_ghost (Reg.gofList (aft5R b4 b5 n cap' a' kd N k mf b8)) (Reg.PPres (fun j => j = b8)) (Reg.PInv [4] (fun j => j = b8) w4 (fun x w => (x = 0 → BoxAt w b8 [.int .i64 0, .slice none 0 0, .int .i64 0]) ∧ (x = 1 → BoxAt w b8 [.int .i64 kd, .slice a' n cap', .int .i64 N]))) 0 (by kernel_rfl) (by kernel_rfl) (Reg.GAllKept.at _ (aft5R_kept b4 b5 n cap' a' kd N k mf b8)) (Reg.PInv.start 6 ⟨fun _ => X8.out.drew, fun e => by cases e⟩) ⟨?_, ?_, ?_, ?_, ?_, ?_, trivial⟩ ?_
    · refine Reg.GStepAt.plain (i := 0) rfl ?_
      intro x L ev w hI hk hp hA
      have e4 : ev (.tmp 4) = .pointer (some ⟨b4, 0, none⟩) := hA.oldNone 4 (by kernel_rfl)
      have hcc := hA.const
      clear hA hp
      obtain ⟨f0, f1, f2, f3⟩ := FA.out w hI.2.1
      refine Reg.out_value (v := .agg #[.int .i64 kd, .slice a' n cap', .int .i64 N]) ?_ ⟨x, rfl, Reg.PPres.refl _ _ _, Reg.PInv.light HF hI 0 (by decide) (Below.refl _ _)⟩
      go_simp
    · refine Reg.GStepAt.plain (i := 1) rfl ?_
      intro x L ev w hI hk hp hA
      have e5 : ev (.tmp 5) = .pointer (some ⟨b5, 0, none⟩) := hA.oldNone 5 (by kernel_rfl)
      have hcc := hA.const
      clear hA hp
      refine Reg.out_value (v := .pointer (some ⟨b5, 0, none⟩)) ?_ ⟨x, rfl, Reg.PPres.refl _ _ _, Reg.PInv.light HF hI 1 (by decide) (Below.refl _ _)⟩
      go_simp
    · refine Reg.GStepAt.plain (i := 2) rfl ?_
      intro x L ev w hI hk hp hA
      have e24 : ev (.tmp 24) = .pointer (some ⟨b5, 0, none⟩) := hA.val 1 _ 24 rfl (hp ⟨1, .data⟩ (by simp) rfl) rfl
      have hcc := hA.const
      clear hA hp
      obtain ⟨f0, f1, f2, f3⟩ := FA.out w hI.2.1
      refine Reg.out_value (v := .int .i64 k) ?_ ⟨x, rfl, Reg.PPres.refl _ _ _, Reg.PInv.light HF hI 2 (by decide) (Below.refl _ _)⟩
      go_simp
    · refine Reg.GStepAt.plain (i := 3) rfl ?_
      intro x L ev w hI hk hp hA
      have e25 : ev (.tmp 25) = .int .i64 k := hA.val 2 _ 25 rfl (hp ⟨2, .data⟩ (by simp) rfl) rfl
      have hcc := hA.const
      have hcf := hA.func
      clear hA hp
      refine Reg.out_call (f := 37) (args := #[.int .i64 k]) (w0 := w) ?_ ?_
      · go_simp
      refine (HMF.out w).mono ?_
      rintro e w' ⟨rfl, rfl⟩
      exact ⟨_, rfl, x, rfl, Reg.PPres.refl _ _ _, Reg.PInv.light HF hI 3 (by decide) (Below.refl _ _)⟩
    · refine Reg.GStepAt.plain (i := 4) rfl ?_
      intro x L ev w hI hk hp hA
      have e8 : ev (.tmp 8) = .pointer (some ⟨b8, 0, none⟩) := hA.oldNone 8 (by kernel_rfl)
      have e23 : ev (.tmp 23) = .agg #[.int .i64 kd, .slice a' n cap', .int .i64 N] := hA.val 0 _ 23 rfl (hp ⟨0, .data⟩ (by simp) rfl) rfl
      have hcc := hA.const
      clear hA hp
      have hx0 : x = 0 := hI.1.trans (Reg.cnt_zero1 (Reg.getD_true hk))
      have hX := hI.2.2.1 hx0
      obtain ⟨hX', hbS⟩ := box_set3 hX (.int .i64 kd) (.slice a' n cap') (.int .i64 N)
      obtain ⟨x80, z80⟩ := hX.get 0 _ rfl
      obtain ⟨x81, z81⟩ := hX.get 1 _ rfl
      obtain ⟨x82, z82⟩ := hX.get 2 _ rfl
      refine Reg.out_skipP (w' := ((w.setCell ⟨b8, 0, none⟩ (.int .i64 kd)).setCell ⟨b8, 1, none⟩ (.slice a' n cap')).setCell ⟨b8, 2, none⟩ (.int .i64 N)) ?_ ⟨x + 1, trivial, Reg.PPres.heavy hbS, Reg.PInv.heavy hI 4 (by decide) (by simp) hk hbS ⟨fun e => by omega, fun _ => hX'⟩⟩
      clear hI hbS hX hX'
      go_simp
    · refine Reg.GStepAt.plain (i := 5) rfl ?_
      intro x L ev w hI hk hp hA
      have e26 : ev (.tmp 26) = .bool mf := hA.val 3 _ 26 rfl (hp ⟨3, .data⟩ (by simp) rfl) rfl
      have hcc := hA.const
      clear hA hp
      refine Reg.out_value (v := .bool mf) ?_ ⟨x, rfl, Reg.PPres.refl _ _ _, Reg.PInv.light HF hI 5 (by decide) (Below.refl _ _)⟩
      go_simp
    intro gx L act wz hall hI hF
    have g23 : act.eval (.tmp 23) = .agg #[.int .i64 kd, .slice a' n cap', .int .i64 N] := hF.val 0 _ 23 rfl (hall 0 (by simp)) rfl
    have g24 : act.eval (.tmp 24) = .pointer (some ⟨b5, 0, none⟩) := hF.val 1 _ 24 rfl (hall 1 (by simp)) rfl
    have g25 : act.eval (.tmp 25) = .int .i64 k := hF.val 2 _ 25 rfl (hall 2 (by simp)) rfl
    have g26 : act.eval (.tmp 26) = .bool mf := hF.val 3 _ 26 rfl (hall 3 (by simp)) rfl
    have g9 : act.eval (.tmp 9) = .bool mf := hF.val 5 _ 9 rfl (hall 5 (by simp)) rfl
    have hact := hF.act [23, 24, 25, 26, 9] (by kernel_rfl)
    obtain ⟨hxz, hBz, hFz⟩ := Reg.PInv.done hI (fun j hj => hall j (by simp at hj ⊢; omega))
    clear hF hall
    simp only [List.foldl_cons, List.foldl_nil] at hact
    rw [g23, g24, g25, g26, g9] at hact
    clear g23 g24 g25 g26 g9
    simp only [List.setIfInBounds_toArray, List.set_cons_succ, List.set_cons_zero] at hact
    subst hact
    have hX := hFz.2 rfl
    have t0 := (hX.get 0 _ rfl).1
    have t1 := (hX.get 1 _ rfl).1
    have t2 := (hX.get 2 _ rfl).1
    have HT := hidq (And.intro t0 (And.intro t1 (And.intro t2 hBz)))
    clear hX hFz hBz hI t0 t1 t2 HF FA hxz
    go_wp2_with fail
    obtain ⟨t0, t1, t2, hB⟩ := HT.out
    refine bodyPost_ret (v := .tuple #[.agg #[.int .i64 kd, .slice a' n cap', .int .i64 N], .bool mf]) (by simp [results, Try.results11, go_sem, t0, t1, t2]) rfl ?_
    rw [HC.out, HMFE.out]
    exact FIN.out _ _ hB
  · have hd : decide (c = 0) = false := by simpa using hc0
    have hc1 : (c != 0) = true := by simpa using hc0
    clear hno hw4'
    obtain ⟨x80, z80⟩ := X8.out.get 0 _ rfl
    obtain ⟨x81, z81⟩ := X8.out.get 1 _ rfl
    obtain ⟨x82, z82⟩ := X8.out.get 2 _ rfl
    obtain ⟨hX, hB⟩ := box_set3 X8.out (.int .i64 kd) (.slice a' n cap') (.int .i64 N)
    have t0 := (hX.get 0 _ rfl).1
    have t1 := (hX.get 1 _ rfl).1
    have t2 := (hX.get 2 _ rfl).1
    have HT := hidq (And.intro t0 (And.intro t1 t2))
    have HB := hidq hB
    clear hX hB t0 t1 t2
    go_wp2_with fail
    obtain ⟨t0, t1, t2⟩ := HT.out
    refine bodyPost_ret (v := .tuple #[.agg #[.int .i64 kd, .slice a' n cap', .int .i64 N], .bool false]) (by simp [results, Try.results11, go_sem, t0, t1, t2]) rfl ?_
    rw [HC.out, hd, Bool.false_and]
    exact FIN.out _ _ HB.out

set_option maxRecDepth 20000 in
set_option maxHeartbeats 8000000 in
theorem after_next (N v d0 d1 av an p : Int) (f af : Nat) (a : Option Addr) (cap n : Nat) (l : List Value) (w : World) (h : SlAt 2 w a cap n l) (hn : n ≤ 1000000) (hN : -1000000 ≤ N ∧ N ≤ 1152921504606846976) :
    Calls Try.prog 11 #[.agg #[.int .i64 4, .slice a n cap, .int .i64 N], .agg #[.int .i64 7, .float .f64 f, .int .i64 v, .int .i64 d0, .int .i64 d1], .agg #[.bool true, .float .f64 af, .int .i64 av, .int .i64 an], .int .i64 p] w
      (AftEnd 4 (N + 1) n l true w) := by
  have hsf := run_store_float (P := Try.prog)
  obtain ⟨W1, hW1, hb1, hs1, hX4, hX5, hX6, hX8⟩ := four_new w (v12 4 a n cap N) (o12 7 f v d0 d1) (a12 true af av an) [.int .i64 0, .slice none 0 0, .int .i64 0] 28 42 44 28
  obtain ⟨b4, hb4⟩ : ∃ b4, w.heap.size = b4 := ⟨_, rfl⟩
  rw [hb4] at hX4 hX5 hX6 hX8 hs1
  have H1 := hidq (And.intro hb1 (And.intro hX4 (And.intro hX5 (And.intro hX6 (And.intro hX8 hs1)))))
  have hCl := hidq (sclone_any a cap n l W1 (h.below hb1) hn)
  have m41 := hX4.get 1 _ rfl
  obtain ⟨y41, z41⟩ := m41
  clear h hb1 hX4 hX5 hX6 hX8 hs1
  go_enter Try.func11, Try.ntmps11
  go_upto_region 1 with fail
  try rw [hb4]
  dsimp only [v12, o12, a12] at hW1
  try rw [hW1]
  go_wp2_with fail
  refine hCl.out.mono ?_
  rintro e w2 ⟨a', cap', rfl, hS2, hf2, hb2⟩
  obtain ⟨W3, hW3⟩ : ∃ W3, w2.setCell ⟨b4, 1, none⟩ (.slice a' n cap') = W3 := ⟨_, rfl⟩
  have hw4 := hidq hb4
  have H3 := hidq (show (But (fun j => j = b4) W1 W3 ∧ SlAt 2 W3 a' cap' n l ∧ ∀ j, inB a' j → b4 + 4 ≤ j) ∧ BoxAt W3 b4 (v12 4 a' n cap' N) ∧ BoxAt W3 (b4 + 1) (o12 7 f v d0 d1) ∧ BoxAt W3 (b4 + 1 + 1) (a12 true af av an) ∧ BoxAt W3 (b4 + 1 + 1 + 1) [.int .i64 0, .slice none 0 0, .int .i64 0] from by
    obtain ⟨h1, h2, h3, h4, h5, h6⟩ := H1.out
    have hb : But (fun j => j = b4) w2 W3 := by rw [← hW3]; exact (But.refl (fun j => j = b4) w2).set1 b4 1 rfl _
    refine ⟨⟨(But.of_below hb2).trans hb, hS2.but hb (fun j hj e => by have := hf2 j hj; omega), fun j hj => by have := hf2 j hj; omega⟩, ?_, (h3.below hb2).but hb (by omega), (h4.below hb2).but hb (by omega), (h5.below hb2).but hb (by omega)⟩
    rw [← hW3]
    exact (h2.below hb2).set 1 _)
  have q41 : w2.cell? ⟨b4, 1, none⟩ = some (.slice a n cap) := ((H1.out.2.1.below hb2).get 1 _ rfl).1
  have q42 : w2.frozen? ⟨b4, 1, none⟩ = false := ((H1.out.2.1.below hb2).get 1 _ rfl).2
  clear hS2 hf2 hb2 y41 z41 hCl
  have HCk := hidq (check_any 4 7 v d0 d1 f W3)
  rw [show chk 4 7 v = 0 from chk0 (by decide) (by omega)] at HCk
  go_upto_region 2 with fail
  try rw [hW3]
  clear hW3 q41 q42 hW1
  have x40 := (H3.out.2.1.get 0 _ rfl).1
  have x50 := (H3.out.2.2.1.get 0 _ rfl).1
  have x51 := (H3.out.2.2.1.get 1 _ rfl).1
  have x52 := (H3.out.2.2.1.get 2 _ rfl).1
  have x53 := (H3.out.2.2.1.get 3 _ rfl).1
  have x54 := (H3.out.2.2.1.get 4 _ rfl).1
  go_wp2_with fail
  refine HCk.out.mono ?_
  rintro e w4 ⟨rfl, hb34⟩
  have H4 := hidq (show (SlAt 2 w4 a' cap' n l ∧ (∀ j, inB a' j → b4 + 4 ≤ j) ∧ Below w.heap.size w w4 ∧ b4 + 4 ≤ w4.heap.size) ∧ BoxAt w4 b4 (v12 4 a' n cap' N) ∧ BoxAt w4 (b4 + 1) (o12 7 f v d0 d1) ∧ BoxAt w4 (b4 + 1 + 1) (a12 true af av an) ∧ BoxAt w4 (b4 + 1 + 1 + 1) [.int .i64 0, .slice none 0 0, .int .i64 0] from by
    obtain ⟨⟨h1, h2, h3⟩, h4, h5, h6, h7⟩ := H3.out
    obtain ⟨g1, g2, g3, g4, g5, g6⟩ := H1.out
    have z1 := g1.size
    have z2 := h1.size
    have z3 := hb34.size
    have e := hw4.out
    exact ⟨⟨h2.below hb34, h3, (g1.trans (h1.below z1 (fun k hk => by omega))).trans (hb34.mono (by omega)), by omega⟩, h4.below hb34, h5.below hb34, h6.below hb34, h7.below hb34⟩)
  clear x40 x50 x51 x52 x53 x54 hb34 HCk H1 H3
  obtain ⟨b8, hb8⟩ : ∃ b8, b4 + 1 + 1 + 1 = b8 := ⟨_, rfl⟩
  have x60 := (H4.out.2.2.2.1.get 0 _ rfl).1
  have x50 := (H4.out.2.2.1.get 0 _ rfl).1
  obtain ⟨x42, z42⟩ := H4.out.2.1.get 2 _ rfl
  have X8 := hidq H4.out.2.2.2.2
  rw [hb8] at X8
  rw [hb8]
  have hne : b4 ≠ b8 := by omega
  obtain ⟨W5, hW5⟩ : ∃ W5, w4.setCell ⟨b4, 2, none⟩ (.int .i64 (N + 1)) = W5 := ⟨_, rfl⟩
  have hB5 : But (fun j => j = b4) w4 W5 := by rw [← hW5]; exact (But.refl (fun j => j = b4) w4).set1 b4 2 rfl _
  have hX4 : BoxAt W5 b4 (v12 4 a' n cap' (N + 1)) := by rw [← hW5]; exact H4.out.2.1.set 2 _
  have hX8 := X8.out.but hB5 (fun e => hne e.symm)
  have HX := hidq (And.intro hB5 (And.intro hX4 hX8))
  have hw : wrap64 (N + 1) = N + 1 := by unfold wrap64; omega
  have hw2 : IntKind.i64.wrap (N + 1) = N + 1 := by simp [IntKind.wrap, IntKind.signed, IntKind.bits]; omega
  clear hB5 hX4 hX8
  go_upto_region 19 with fail
  try rw [hW5]
  clear hW5 x60 x50 x42 z42 hw hw2
  have x40 := (HX.out.2.1.get 0 _ rfl).1
  have x41 := (HX.out.2.1.get 1 _ rfl).1
  have x42 := (HX.out.2.1.get 2 _ rfl).1
  obtain ⟨x80, z80⟩ := HX.out.2.2.get 0 _ rfl
  obtain ⟨x81, z81⟩ := HX.out.2.2.get 1 _ rfl
  obtain ⟨x82, z82⟩ := HX.out.2.2.get 2 _ rfl
  obtain ⟨hX, hB⟩ := box_set3 HX.out.2.2 (.int .i64 4) (.slice a' n cap') (.int .i64 (N + 1))
  have t0 := (hX.get 0 _ rfl).1
  have t1 := (hX.get 1 _ rfl).1
  have t2 := (hX.get 2 _ rfl).1
  have HT := hidq (And.intro t0 (And.intro t1 (And.intro t2 hB)))
  clear hX hB t0 t1 t2
  go_wp2_with fail
  obtain ⟨t0, t1, t2, hB⟩ := HT.out
  refine bodyPost_ret (v := .tuple #[.agg #[.int .i64 4, .slice a' n cap', .int .i64 (N + 1)], .bool true]) (by simp [results, Try.results11, go_sem, t0, t1, t2]) rfl ?_
  obtain ⟨h1, h2, h3, h4⟩ := H4.out.1
  have e := hw4.out
  have hbb := HX.out.1
  exact ⟨a', cap', rfl, (h1.but hbb (fun j hj e => by have := h2 j hj; omega)).but hB (fun j hj e => by have := h2 j hj; omega), fun j hj => by have := h2 j hj; omega, (h3.trans (hbb.below h3.size (fun k hk => by omega))).trans (hB.below (by have := hbb.size; have := h3.size; omega) (fun k hk => by omega))⟩
end Go.Proofs.Ytbcmilfajeanbaa

namespace Go.Proofs.Ytbcmilfajeanbaa.Flt
open Ieee

/-- The rung with its sign. -/
def srung (x : Nat) : Int := if x / 9223372036854775808 % 2 = 1 then -((x % 9223372036854775808 : Nat) : Int) else ((x % 9223372036854775808 : Nat) : Int)

def mag (r : Nat) : Nat := if r < 4503599627370496 then r else 4503599627370496 + r % 4503599627370496
def ex (r : Nat) : Nat := r / 4503599627370496 - 1
def val (r : Nat) : Nat := mag r * 2 ^ ex r

theorem val_succ (r : Nat) : val r < val (r + 1) := by
  unfold val mag ex
  by_cases h1 : r + 1 < 4503599627370496
  · have h2 : r < 4503599627370496 := by omega
    have e1 : r / 4503599627370496 - 1 = 0 := by omega
    have e2 : (r + 1) / 4503599627370496 - 1 = 0 := by omega
    rw [if_pos h2, if_pos h1, e1, e2]; omega
  · rw [if_neg h1]
    by_cases h2 : r < 4503599627370496
    · have e1 : r / 4503599627370496 - 1 = 0 := by omega
      have e2 : (r + 1) / 4503599627370496 - 1 = 0 := by omega
      have e3 : (r + 1) % 4503599627370496 = 0 := by omega
      rw [if_pos h2, e1, e2, e3]; omega
    · rw [if_neg h2]
      by_cases h3 : (r + 1) % 4503599627370496 = 0
      · have e2 : (r + 1) / 4503599627370496 - 1 = (r / 4503599627370496 - 1) + 1 := by omega
        have e3 : r % 4503599627370496 = 4503599627370495 := by omega
        rw [h3, e2, e3, Nat.pow_succ]
        have : 0 < 2 ^ (r / 4503599627370496 - 1) := Nat.two_pow_pos _
        generalize 2 ^ (r / 4503599627370496 - 1) = p at *
        omega
      · have e2 : (r + 1) / 4503599627370496 - 1 = r / 4503599627370496 - 1 := by omega
        have e3 : (r + 1) % 4503599627370496 = r % 4503599627370496 + 1 := by omega
        rw [e2, e3]
        have : 0 < 2 ^ (r / 4503599627370496 - 1) := Nat.two_pow_pos _
        exact Nat.mul_lt_mul_of_pos_right (by omega) this

theorem val_mono {r s : Nat} (h : r < s) : val r < val s := by
  induction s with
  | zero => omega
  | succ s ih =>
    by_cases e : r = s
    · subst e; exact val_succ r
    · exact Nat.lt_trans (ih (by omega)) (val_succ s)
theorem val_zero : val 0 = 0 := by simp [val, mag]
theorem val_lt_iff (r s : Nat) : val r < val s ↔ r < s := by
  constructor
  · intro h
    rcases Nat.lt_trichotomy r s with h1 | h1 | h1
    · exact h1
    · subst h1; omega
    · have := val_mono h1; omega
  · exact val_mono
theorem val_pos {r : Nat} (h : 0 < r) : 0 < val r := by have := val_mono h; omega

theorem read_num (x : Nat) (h : x % 9223372036854775808 < 9218868437227405312) :
    double.read x = .number (decide (x / 9223372036854775808 % 2 = 1)) (mag (x % 9223372036854775808)) (double.leastPlace + (ex (x % 9223372036854775808) : Nat)) := by
  unfold Format.read
  have e1 : double.signWeight = 9223372036854775808 := rfl
  have e2 : double.binade = 4503599627370496 := rfl
  have e3 : double.infRung = 9218868437227405312 := rfl
  simp only [e1, e2, e3]
  generalize x % 9223372036854775808 = r at *
  by_cases h1 : r < 4503599627370496
  · have e : r / 4503599627370496 - 1 = 0 := by omega
    simp [h1, mag, ex, e, BEq.beq]
  · simp [h1, h, mag, ex]
    rfl
theorem read_inf (x : Nat) (h : x % 9223372036854775808 = 9218868437227405312) : double.read x = .infinity (decide (x / 9223372036854775808 % 2 = 1)) := by
  unfold Format.read
  have e1 : double.signWeight = 9223372036854775808 := rfl
  have e2 : double.binade = 4503599627370496 := rfl
  have e3 : double.infRung = 9218868437227405312 := rfl
  simp only [e1, e2, e3, h]
  rfl
theorem read_nan (x : Nat) (h : 9218868437227405312 < x % 9223372036854775808) : ∃ s t, double.read x = .nan s t := by
  unfold Format.read
  have e1 : double.signWeight = 9223372036854775808 := rfl
  have e2 : double.binade = 4503599627370496 := rfl
  have e3 : double.infRung = 9218868437227405312 := rfl
  simp only [e1, e2, e3]
  rw [if_neg (by omega), if_neg (by omega), if_neg (by omega)]
  exact ⟨_, _, rfl⟩

theorem compare_int (a b : Int) : compare a b = if a < b then .lt else if a = b then .eq else .gt := rfl
theorem compare_scale (a b c d : Int) (h1 : a < b ↔ c < d) (h2 : a = b ↔ c = d) : compare a b = compare c d := by
  rw [compare_int, compare_int]; simp only [h1, h2]

def sval (s : Bool) (r : Nat) : Int := if s then -(val r : Int) else val r

theorem signed_scale (s : Bool) (r k : Nat) (hk : k ≤ ex r) : signed s (mag r) (ex r - k) * (2 ^ k : Nat) = sval s r := by
  have : mag r <<< (ex r - k) * 2 ^ k = val r := by
    rw [Nat.shiftLeft_eq, Nat.mul_assoc, ← Nat.pow_add, Nat.sub_add_cancel hk]; rfl
  unfold signed sval
  cases s
  · simp only [Bool.false_eq_true, if_false]; exact_mod_cast this
  · simp only [if_true]; rw [Int.neg_mul]; congr 1; exact_mod_cast this

theorem order_val (s t : Bool) (x y : Nat) : Datum.order (.number s (mag x) (double.leastPlace + (ex x : Nat))) (.number t (mag y) (double.leastPlace + (ex y : Nat))) = some (compare (sval s x) (sval t y)) := by
  unfold Datum.order
  simp only
  have e1 : (double.leastPlace + (ex x : Nat) - min (double.leastPlace + (ex x : Nat)) (double.leastPlace + (ex y : Nat))).toNat = ex x - min (ex x) (ex y) := by omega
  have e2 : (double.leastPlace + (ex y : Nat) - min (double.leastPlace + (ex x : Nat)) (double.leastPlace + (ex y : Nat))).toNat = ex y - min (ex x) (ex y) := by omega
  rw [e1, e2]
  have h1 := signed_scale s x (min (ex x) (ex y)) (Nat.min_le_left _ _)
  have h2 := signed_scale t y (min (ex x) (ex y)) (Nat.min_le_right _ _)
  have hp : (0 : Int) < ((2 ^ min (ex x) (ex y) : Nat) : Int) := by exact_mod_cast Nat.two_pow_pos _
  rw [← h1, ← h2]
  congr 1
  refine compare_scale _ _ _ _ ?_ ?_
  · exact (Int.mul_lt_mul_right hp).symm
  · exact (Int.mul_eq_mul_right_iff (by omega)).symm

theorem compare_sval (s t : Bool) (x y : Nat) : compare (sval s x) (sval t y) = compare (if s then -(x : Int) else x) (if t then -(y : Int) else y) := by
  have h1 := val_lt_iff x y
  have h2 := val_lt_iff y x
  have h3 : 0 < val x ↔ 0 < x := by have := val_lt_iff 0 x; rw [val_zero] at this; exact this
  have h4 : 0 < val y ↔ 0 < y := by have := val_lt_iff 0 y; rw [val_zero] at this; exact this
  refine compare_scale _ _ _ _ ?_ ?_ <;> cases s <;> cases t <;> simp only [sval, if_true, Bool.false_eq_true, if_false] <;> omega

theorem lt_of_word {x : Nat} (_h : x < 18446744073709551616) : x % 9223372036854775808 < 9223372036854775808 := by omega

/-- Of two that are numbers. -/
theorem order_eq (x y : Nat) (hx : x % 9223372036854775808 ≤ 9218868437227405312) (hy : y % 9223372036854775808 ≤ 9218868437227405312) :
    double.order x y = some (compare (srung x) (srung y)) := by
  unfold Format.order
  by_cases ix : x % 9223372036854775808 = 9218868437227405312
  · rw [read_inf x ix]
    by_cases iy : y % 9223372036854775808 = 9218868437227405312
    · rw [read_inf y iy]
      unfold srung
      rw [ix, iy]
      by_cases sx : x / 9223372036854775808 % 2 = 1 <;> by_cases sy : y / 9223372036854775808 % 2 = 1 <;> simp only [sx, sy, decide_true, decide_false, Datum.order, if_true, if_false] <;> rfl
    · rw [read_num y (by omega)]
      unfold srung
      rw [ix]
      by_cases sx : x / 9223372036854775808 % 2 = 1
      · simp only [sx, decide_true, Datum.order, if_true]
        rw [compare_int, if_pos (by split <;> omega)]
      · simp only [sx, decide_false, Datum.order, if_false, Bool.false_eq_true]
        rw [compare_int, if_neg (by split <;> omega), if_neg (by split <;> omega)]
  · rw [read_num x (by omega)]
    by_cases iy : y % 9223372036854775808 = 9218868437227405312
    · rw [read_inf y iy]
      unfold srung
      rw [iy]
      by_cases sy : y / 9223372036854775808 % 2 = 1
      · simp only [sy, decide_true, Datum.order, if_true]
        rw [compare_int, if_neg (by split <;> omega), if_neg (by split <;> omega)]
      · simp only [sy, decide_false, Datum.order, if_false, Bool.false_eq_true]
        rw [compare_int, if_pos (by split <;> omega)]
    · rw [read_num y (by omega), order_val, compare_sval]
      unfold srung
      congr 2
      · by_cases sx : x / 9223372036854775808 % 2 = 1 <;> simp only [sx, decide_true, decide_false, if_true, if_false, Bool.false_eq_true]
      · by_cases sy : y / 9223372036854775808 % 2 = 1 <;> simp only [sy, decide_true, decide_false, if_true, if_false, Bool.false_eq_true]
theorem order_nan_left (x y : Nat) (h : 9218868437227405312 < x % 9223372036854775808) : double.order x y = none := by
  obtain ⟨s, t, e⟩ := read_nan x h
  unfold Format.order; rw [e]; cases double.read y <;> rfl
theorem order_nan_right (x y : Nat) (h : 9218868437227405312 < y % 9223372036854775808) : double.order x y = none := by
  obtain ⟨s, t, e⟩ := read_nan y h
  unfold Format.order; rw [e]; cases double.read x <;> rfl
end Go.Proofs.Ytbcmilfajeanbaa.Flt

namespace Go.Proofs.Ytbcmilfajeanbaa.Top
open Go

theorem and_top (a : Nat) (h : a < 18446744073709551616) : a &&& 9223372036854775808 = a / 9223372036854775808 * 9223372036854775808 := by
  apply Nat.eq_of_testBit_eq
  intro i
  rw [Nat.testBit_and, show (9223372036854775808 : Nat) = 2 ^ 63 by decide, Nat.testBit_two_pow]
  have hc : a / 2 ^ 63 = 0 ∨ a / 2 ^ 63 = 1 := by rw [show (2 : Nat) ^ 63 = 9223372036854775808 by decide]; omega
  have ht : a.testBit 63 = decide (a / 2 ^ 63 % 2 = 1) := Nat.testBit_eq_decide_div_mod_eq
  rcases hc with h0 | h0
  · rw [h0, Nat.zero_mul, Nat.zero_testBit]
    by_cases hi : 63 = i
    · subst hi; rw [ht, h0]; rfl
    · simp [hi]
  · rw [h0, Nat.one_mul, Nat.testBit_two_pow]
    by_cases hi : 63 = i
    · subst hi; rw [ht, h0]; rfl
    · simp [hi]
theorem or_top (a : Nat) (h : a < 9223372036854775808) : a ||| 9223372036854775808 = a + 9223372036854775808 := by
  have e := Nat.two_pow_add_eq_or_of_lt (i := 63) (b := a) (by rw [show (2 : Nat) ^ 63 = 9223372036854775808 by decide]; exact h) 1
  rw [show (2 : Nat) ^ 63 = 9223372036854775808 by decide] at e
  rw [Nat.or_comm]; simp at e; omega
theorem xor_top_lo (a : Nat) (h : a < 9223372036854775808) : a ^^^ 9223372036854775808 = a + 9223372036854775808 := by
  rw [← or_top a h]
  apply Nat.eq_of_testBit_eq
  intro i
  rw [Nat.testBit_xor, Nat.testBit_or, show (9223372036854775808 : Nat) = 2 ^ 63 by decide, Nat.testBit_two_pow]
  by_cases hi : 63 = i
  · subst hi
    rw [Nat.testBit_lt_two_pow (by rw [show (2 : Nat) ^ 63 = 9223372036854775808 by decide]; exact h)]; rfl
  · simp [hi]
theorem xor_top_hi (a : Nat) (h : 9223372036854775808 ≤ a) (h2 : a < 18446744073709551616) : a ^^^ 9223372036854775808 = a - 9223372036854775808 := by
  have e := xor_top_lo (a - 9223372036854775808) (by omega)
  rw [show a - 9223372036854775808 + 9223372036854775808 = a by omega] at e
  generalize a - 9223372036854775808 = b at *
  rw [← e, Nat.xor_assoc, Nat.xor_self, Nat.xor_zero]
theorem andNot_top (a : Nat) : a &&& (18446744073709551615 - 9223372036854775808) = a % 9223372036854775808 := by
  have e := Nat.and_two_pow_sub_one_eq_mod a 63
  rw [show (2 : Nat) ^ 63 = 9223372036854775808 by decide] at e
  exact e

theorem u64_and_top (x : Int) (h0 : 0 ≤ x) (h1 : x < 18446744073709551616) : bits .and .u64 x 9223372036854775808 = x / 9223372036854775808 * 9223372036854775808 := by
  rw [u64_and x _ h0 h1 (by decide) (by decide), show (9223372036854775808 : Int).toNat = 9223372036854775808 from rfl, and_top _ (by omega)]; omega
theorem u64_or_top (x : Int) (h0 : 0 ≤ x) (h1 : x < 9223372036854775808) : bits .or .u64 x 9223372036854775808 = x + 9223372036854775808 := by
  rw [u64_or x _ h0 (by omega) (by decide) (by decide), show (9223372036854775808 : Int).toNat = 9223372036854775808 from rfl, or_top _ (by omega)]; omega
theorem u64_xor_lo (x : Int) (h0 : 0 ≤ x) (h1 : x < 9223372036854775808) : bits .xor .u64 x 9223372036854775808 = x + 9223372036854775808 := by
  rw [u64_xor x _ h0 (by omega) (by decide) (by decide), show (9223372036854775808 : Int).toNat = 9223372036854775808 from rfl, xor_top_lo _ (by omega)]; omega
theorem u64_xor_hi (x : Int) (h0 : 9223372036854775808 ≤ x) (h1 : x < 18446744073709551616) : bits .xor .u64 x 9223372036854775808 = x - 9223372036854775808 := by
  rw [u64_xor x _ (by omega) (by omega) (by decide) (by decide), show (9223372036854775808 : Int).toNat = 9223372036854775808 from rfl, xor_top_hi _ (by omega) (by omega)]; omega
theorem u64_not_top (x : Int) (h0 : 0 ≤ x) (h1 : x < 18446744073709551616) : bits .andNot .u64 x 9223372036854775808 = x % 9223372036854775808 := by
  rw [u64_andNot x _ h0 h1 (by decide) (by decide), show (9223372036854775808 : Int).toNat = 9223372036854775808 from rfl, andNot_top]; omega
theorem u64_flip (x : Int) (h0 : 0 ≤ x) (h1 : x < 18446744073709551616) : bits .xor .u64 IntKind.u64.max x = 18446744073709551615 - x := by
  rw [u64_xor _ x (by decide) (by decide) h0 h1, show (IntKind.u64.max).toNat = 2 ^ 64 - 1 from rfl]
  obtain ⟨n, rfl⟩ := Int.eq_ofNat_of_zero_le h0
  have hn : n < 2 ^ 64 := by rw [show (2 : Nat) ^ 64 = 18446744073709551616 by decide]; omega
  have e : (2 ^ 64 - 1) ^^^ n = 2 ^ 64 - 1 - n := by
    apply Nat.eq_of_testBit_eq
    intro i
    have e1 : 2 ^ 64 - 1 - n = 2 ^ 64 - (n + 1) := by omega
    rw [e1, Nat.testBit_two_pow_sub_succ hn, Nat.testBit_xor, Nat.testBit_two_pow_sub_one]
    by_cases hi : i < 64
    · simp [hi]
    · simp [hi]
      exact Nat.testBit_lt_two_pow (Nat.lt_of_lt_of_le hn (Nat.pow_le_pow_right (by decide) (by omega)))
  rw [Int.toNat_natCast, e]
  have : (2 : Nat) ^ 64 = 18446744073709551616 := by decide
  omega
end Go.Proofs.Ytbcmilfajeanbaa.Top

namespace Go.Proofs.Ytbcmilfajeanbaa
open Go.RowKit

/-- A number of bits as an integer, and back. -/
def ni (n : Nat) : Int := n
def nf (x : Int) : Nat := x.toNat
theorem ni_nf {x : Int} (h : 0 ≤ x) : ni (nf x) = x := Int.toNat_of_nonneg h
theorem nf_ni (n : Nat) : nf (ni n) = n := rfl

/-- Not a number. -/
def nanB (n : Nat) : Bool := decide (9218868437227405312 < n % 9223372036854775808)
theorem nanB_order (n : Nat) : (FloatKind.f64.format.order n n != some Ordering.eq) = nanB n := by
  show (Ieee.double.order n n != some Ordering.eq) = _
  unfold nanB
  by_cases h : 9218868437227405312 < n % 9223372036854775808
  · rw [Flt.order_nan_left n n h, decide_eq_true h]; rfl
  · rw [Flt.order_eq n n (by omega) (by omega), decide_eq_false h, Flt.compare_int, if_neg (by omega), if_pos rfl]; rfl

theorem run_bits (n : Nat) (w : World) : (callFunc 82 #[.float .f64 n]).run Try.prog w = .ok (.value (.int .u64 (ni n))) w := by
  rw [run_callFunc_extern (e := Extern.MathFloatBits.float64bits) Try.func82 (by kernel_rfl) (by kernel_rfl) (by kernel_rfl) (by kernel_rfl)]
  rfl
theorem run_frombits (x : Int) (w : World) : (callFunc 80 #[.int .u64 x]).run Try.prog w = .ok (.value (.float .f64 (nf x))) w := by
  rw [run_callFunc_extern (e := Extern.MathFloatBits.float64frombits) Try.func80 (by kernel_rfl) (by kernel_rfl) (by kernel_rfl) (by kernel_rfl)]
  rfl

theorem cisNaN64_any (x : Int) (w : World) : Calls Try.prog 90 #[.int .u64 x] w fun e w' => e = .returned (.bool false) ∧ w' = w := by
  go_enter Try.func90, Try.ntmps90
  go_wp2
  go_ret
  exact ⟨rfl, rfl⟩

theorem isNaN_any (n : Nat) (w : World) : Calls Try.prog 94 #[.float .f64 n] w fun e w' => e = .returned (.bool (nanB n)) ∧ w' = w := by
  go_enter Try.func94, Try.ntmps94
  have h := nanB_order n
  go_wp2
  go_ret
  exact ⟨rfl, rfl⟩

/-- Canonical bits. -/
def cbits (n : Nat) : Nat := if nanB n = true then 9221120237041090560 else n
theorem cbits_nan {n : Nat} (h : nanB n = true) : cbits n = 9221120237041090560 := if_pos h
theorem cbits_num {n : Nat} (h : nanB n = false) : cbits n = n := if_neg (by rw [h]; decide)
theorem cbits_lt {n : Nat} (h : n < 18446744073709551616) : cbits n < 18446744073709551616 := by
  unfold cbits; split <;> omega

theorem canon_any (n : Nat) (w : World) : Calls Try.prog 74 #[.float .f64 n] w fun e w' => e = .returned (.float .f64 (cbits n)) ∧ w' = w := by
  have h31 := run_frombits
  go_enter Try.func74, Try.ntmps74
  go_wp2_with (go_at_call 94; refine (isNaN_any _ _).mono ?_; rintro e w' ⟨rfl, rfl⟩)
  · have h : nanB n = true := by assumption
    go_ret
    exact ⟨by rw [cbits_nan h]; rfl, rfl⟩
  · have h : nanB n = false := by assumption
    go_ret
    exact ⟨by rw [cbits_num h]; rfl, rfl⟩

theorem canonBits_any (n : Nat) (w : World) : Calls Try.prog 119 #[.float .f64 n] w fun e w' => e = .returned (.int .u64 (ni (cbits n))) ∧ w' = w := by
  have h15 := run_bits
  go_enter Try.func119, Try.ntmps119
  go_wp2_with (go_at_call 74; refine (canon_any _ _).mono ?_; rintro e w' ⟨rfl, rfl⟩)
  go_ret
  exact ⟨rfl, rfl⟩

/-- The key of canonical bits. -/
def keyI (x : Int) : Int := if x < 9223372036854775808 then x + 9223372036854775808 else 18446744073709551615 - x
theorem keyI_lo {x : Int} (h : x < 9223372036854775808) : keyI x = x + 9223372036854775808 := if_pos h
theorem keyI_hi {x : Int} (h : ¬ x < 9223372036854775808) : keyI x = 18446744073709551615 - x := if_neg h
def key (n : Nat) : Int := keyI (ni (cbits n))
theorem ni_rng {n : Nat} (h : n < 18446744073709551616) : 0 ≤ ni n ∧ ni n < 18446744073709551616 := by unfold ni; omega
theorem key_rng {n : Nat} (h : n < 18446744073709551616) : 0 ≤ key n ∧ key n < 18446744073709551616 := by
  have := ni_rng (cbits_lt h)
  unfold key keyI; split <;> omega

theorem key_any (n : Nat) (w : World) (hn : n < 18446744073709551616) : Calls Try.prog 95 #[.float .f64 n] w fun e w' => e = .returned (.int .u64 (key n)) ∧ w' = w := by
  obtain ⟨x, hx⟩ : ∃ x, ni (cbits n) = x := ⟨_, rfl⟩
  have hr := ni_rng (cbits_lt hn)
  have hk : key n = keyI x := by unfold key; rw [hx]
  rw [hx] at hr
  rw [hk]
  obtain ⟨hx0, hx1⟩ := hr
  have ha := Top.u64_and_top x hx0 hx1
  by_cases hl : x < 9223372036854775808
  · have h0 : bits .and .u64 x 9223372036854775808 = 0 := by rw [ha]; omega
    rw [keyI_lo hl, ← Top.u64_or_top x hx0 hl]
    clear ha hk
    go_enter Try.func95, Try.ntmps95
    go_wp2_with (go_at_call 119; refine (canonBits_any _ _).mono ?_; rw [hx]; rintro e w' ⟨rfl, rfl⟩)
    go_ret
    exact ⟨rfl, rfl⟩
  · have h0 : bits .and .u64 x 9223372036854775808 = 9223372036854775808 := by rw [ha]; omega
    rw [keyI_hi hl, ← Top.u64_flip x hx0 hx1]
    clear ha hk
    go_enter Try.func95, Try.ntmps95
    go_wp2_with (go_at_call 119; refine (canonBits_any _ _).mono ?_; rw [hx]; rintro e w' ⟨rfl, rfl⟩)
    go_ret
    exact ⟨rfl, rfl⟩

/-- How two integers stand. -/
def cmpI (x y : Int) : Int := if x < y then -1 else if y < x then 1 else 0
theorem cmpI_lt {x y : Int} (h : x < y) : cmpI x y = -1 := if_pos h
theorem cmpI_gt {x y : Int} (h : y < x) : cmpI x y = 1 := by unfold cmpI; rw [if_neg (by omega), if_pos h]
theorem cmpI_eq {x y : Int} (h : x = y) : cmpI x y = 0 := by unfold cmpI; rw [if_neg (by omega), if_neg (by omega)]
theorem cmpI_rng (x y : Int) : -1 ≤ cmpI x y ∧ cmpI x y ≤ 1 := by unfold cmpI; split <;> (try split) <;> omega
theorem cmpI_neg (x y : Int) : cmpI y x = - cmpI x y := by unfold cmpI; split <;> split <;> (try split) <;> omega
theorem cmpI_le (x y : Int) : cmpI x y ≤ 0 ↔ x ≤ y := by unfold cmpI; split <;> (try split) <;> omega
theorem cmpI_zero (x y : Int) : cmpI x y = 0 ↔ x = y := by unfold cmpI; split <;> (try split) <;> omega
theorem cmpI_neg_iff (x y : Int) : cmpI x y < 0 ↔ x < y := by unfold cmpI; split <;> (try split) <;> omega
theorem cmpI_pos_iff (x y : Int) : 0 < cmpI x y ↔ y < x := by unfold cmpI; split <;> (try split) <;> omega
theorem cmpI_mone (x y : Int) : cmpI x y = -1 ↔ x < y := by unfold cmpI; split <;> (try split) <;> omega

theorem compare64_any (x y : Int) (w : World) : Calls Try.prog 67 #[.int .u64 x, .int .u64 y] w fun e w' => e = .returned (.int .i64 (cmpI x y)) ∧ w' = w := by
  have hc := cisNaN64_any
  rcases Int.lt_trichotomy x y with h | h | h
  · rw [cmpI_lt h]
    go_enter Try.func67, Try.ntmps67
    go_wp2_with (go_at_call 90; refine (cisNaN64_any _ _).mono ?_; rintro e w' ⟨rfl, rfl⟩)
    go_ret
    exact ⟨rfl, rfl⟩
  · rw [cmpI_eq h]
    subst h
    go_enter Try.func67, Try.ntmps67
    go_wp2_with (go_at_call 90; refine (cisNaN64_any _ _).mono ?_; rintro e w' ⟨rfl, rfl⟩)
    go_ret
    exact ⟨rfl, rfl⟩
  · rw [cmpI_gt h]
    have h' : ¬ x < y := by omega
    go_enter Try.func67, Try.ntmps67
    go_wp2_with (go_at_call 90; refine (cisNaN64_any _ _).mono ?_; rintro e w' ⟨rfl, rfl⟩)
    go_ret
    exact ⟨rfl, rfl⟩

theorem cmp_any (m n : Nat) (w : World) (hm : m < 18446744073709551616) (hn : n < 18446744073709551616) :
    Calls Try.prog 78 #[.float .f64 m, .float .f64 n] w fun e w' => e = .returned (.int .i64 (cmpI (key m) (key n))) ∧ w' = w := by
  go_enter Try.func78, Try.ntmps78
  go_wp2_with (first
    | (go_at_call 95; refine (key_any _ _ (by assumption)).mono ?_; rintro e w' ⟨rfl, rfl⟩)
    | (go_at_call 67; refine (compare64_any _ _ _).mono ?_; rintro e w' ⟨rfl, rfl⟩))
  go_ret
  exact ⟨rfl, rfl⟩

/-! The document's. -/
theorem rbits_any (x : Int) (w : World) (h0 : 0 ≤ x) (h1 : x < 18446744073709551616) : Calls Try.prog 81 #[.int .u64 x] w fun e w' => e = .returned (.int .u64 (ni (cbits (nf x)))) ∧ w' = w := by
  by_cases h : 9218868437227405312 < x % 9223372036854775808
  · have hb : nanB (nf x) = true := by unfold nanB nf; exact decide_eq_true (by omega)
    rw [cbits_nan hb]
    go_enter Try.func81, Try.ntmps81
    go_wp2
    go_ret
    exact ⟨rfl, rfl⟩
  · have hb : nanB (nf x) = false := by unfold nanB nf; exact decide_eq_false (by omega)
    rw [cbits_num hb, ni_nf h0]
    go_enter Try.func81, Try.ntmps81
    go_wp2
    go_ret
    exact ⟨rfl, rfl⟩

theorem nf_lt {x : Int} (h1 : x < 18446744073709551616) : nf x < 18446744073709551616 := by unfold nf; omega

theorem rkey_any (x : Int) (w : World) (h0 : 0 ≤ x) (h1 : x < 18446744073709551616) : Calls Try.prog 98 #[.int .u64 x] w fun e w' => e = .returned (.int .u64 (key (nf x))) ∧ w' = w := by
  obtain ⟨y, hy⟩ : ∃ y, ni (cbits (nf x)) = y := ⟨_, rfl⟩
  have hr := ni_rng (cbits_lt (nf_lt h1))
  have hk : key (nf x) = keyI y := by unfold key; rw [hy]
  rw [hy] at hr
  rw [hk]
  obtain ⟨hy0, hy1⟩ := hr
  clear hk
  have hB : ∀ w, Calls Try.prog 81 #[.int .u64 x] w fun e w' => e = .returned (.int .u64 y) ∧ w' = w := fun w => by rw [← hy]; exact rbits_any x w h0 h1
  clear hy
  by_cases hl : y < 9223372036854775808
  · rw [keyI_lo hl]
    have hl' : ¬ 9223372036854775808 ≤ y := by omega
    go_enter Try.func98, Try.ntmps98
    go_wp2_with (go_at_call 81; refine (hB _).mono ?_; rintro e w' ⟨rfl, rfl⟩)
    go_ret
    exact ⟨rfl, rfl⟩
  · rw [keyI_hi hl]
    have hl' : 9223372036854775808 ≤ y := by omega
    go_enter Try.func98, Try.ntmps98
    go_wp2_with (go_at_call 81; refine (hB _).mono ?_; rintro e w' ⟨rfl, rfl⟩)
    go_ret
    exact ⟨rfl, rfl⟩

theorem rcmp_any (x y : Int) (w : World) (h0 : 0 ≤ x) (h1 : x < 18446744073709551616) (h2 : 0 ≤ y) (h3 : y < 18446744073709551616) :
    Calls Try.prog 84 #[.int .u64 x, .int .u64 y] w fun e w' => e = .returned (.int .i64 (cmpI (key (nf x)) (key (nf y)))) ∧ w' = w := by
  obtain ⟨kk, hkk⟩ : ∃ kk : Int → Int, ∀ z, key (nf z) = kk z := ⟨_, fun _ => rfl⟩
  rw [hkk, hkk]
  have hR : ∀ z w, (z = x ∨ z = y) → Calls Try.prog 98 #[.int .u64 z] w fun e w' => e = .returned (.int .u64 (kk z)) ∧ w' = w := by
    rintro z w (rfl | rfl)
    · rw [← hkk]; exact rkey_any _ w h0 h1
    · rw [← hkk]; exact rkey_any _ w h2 h3
  clear h0 h1 h2 h3 hkk
  rcases Int.lt_trichotomy (kk x) (kk y) with h | h | h
  · rw [cmpI_lt h]
    go_enter Try.func84, Try.ntmps84
    go_wp2_with (go_at_call 98; refine (hR _ _ (by first | exact .inl rfl | exact .inr rfl)).mono ?_; rintro e w' ⟨rfl, rfl⟩)
    go_ret
    exact ⟨rfl, rfl⟩
  · rw [cmpI_eq h]
    go_enter Try.func84, Try.ntmps84
    go_wp2_with (go_at_call 98; refine (hR _ _ (by first | exact .inl rfl | exact .inr rfl)).mono ?_; rintro e w' ⟨rfl, rfl⟩)
    go_ret
    exact ⟨rfl, rfl⟩
  · rw [cmpI_gt h]
    have h' : decide (kk x < kk y) = false := decide_eq_false (by omega)
    go_enter Try.func84, Try.ntmps84
    go_wp2_with (go_at_call 98; refine (hR _ _ (by first | exact .inl rfl | exact .inr rfl)).mono ?_; rintro e w' ⟨rfl, rfl⟩)
    go_ret
    exact ⟨rfl, rfl⟩

theorem f_any (x : Int) (w : World) : Calls Try.prog 45 #[.int .u64 x] w fun e w' => e = .returned (.float .f64 (nf x)) ∧ w' = w := by
  have h31 := run_frombits
  go_enter Try.func45, Try.ntmps45
  go_wp2
  go_ret
  exact ⟨rfl, rfl⟩

def infN (s : Int) : Nat := if 0 ≤ s then 9218868437227405312 else 18442240474082181120
theorem infN_pos : infN 1 = 9218868437227405312 := rfl
theorem infN_neg : infN (-1) = 18442240474082181120 := rfl
end Go.Proofs.Ytbcmilfajeanbaa

namespace Go.Proofs.Ytbcmilfajeanbaa.Hp
open Go Go.Sort
variable {α : Type} [Inhabited α] (lt : α → α → Bool)

def Child (c p : Nat) : Prop := c = 2 * p + 1 ∨ c = 2 * p + 2
/-- All parents from k on have no lesser child. -/
def Heap (d : Array α) (n k : Nat) : Prop := ∀ p c, k ≤ p → Child c p → c < n → lt d[c]! d[p]! = false
/-- The same but at i, whose parent is no greater than its children. -/
structure Down (d : Array α) (n k i : Nat) : Prop where
  ok : ∀ p c, k ≤ p → p ≠ i → Child c p → c < n → lt d[c]! d[p]! = false
  up : ∀ p c, k ≤ p → Child i p → Child c i → c < n → lt d[c]! d[p]! = false
  le : k ≤ i
/-- All but j against its parent. -/
structure Up (d : Array α) (n j : Nat) : Prop where
  ok : ∀ p c, c ≠ j → Child c p → c < n → lt d[c]! d[p]! = false
  up : ∀ p c, Child j p → Child c j → c < n → lt d[c]! d[p]! = false

variable {lt}
theorem asym {β : Type} {lt : β → β → Bool} (hS : SWO lt) {x y : β} (h : lt x y = true) : lt y x = false := by
  cases e : lt y x
  · rfl
  · have := hS.trans x y x h e; rw [hS.irrefl] at this; cases this

theorem Down.start {d : Array α} {n k : Nat} (h : Heap lt d n (k + 1)) : Down lt d n k k :=
  ⟨fun p c hp hne hc hn => h p c (by omega) hc hn, fun p c hp hc => by unfold Child at hc; omega, Nat.le_refl _⟩
theorem Down.done {d : Array α} {n k i : Nat} (h : Down lt d n k i) (hi : n ≤ 2 * i + 1) : Heap lt d n k := by
  intro p c hp hc hn
  by_cases e : p = i
  · subst e; unfold Child at hc; omega
  · exact h.ok p c hp e hc hn
/-- c is the lesser child. -/
structure Least (lt : α → α → Bool) (d : Array α) (n i c : Nat) : Prop where
  child : Child c i
  inn : c < n
  le : ∀ o, Child o i → o < n → lt d[o]! d[c]! = false
theorem Down.stop (hS : SWO lt) {d : Array α} {n k i c : Nat} (h : Down lt d n k i) (hc : Least lt d n i c) (hl : lt d[c]! d[i]! = false) : Heap lt d n k := by
  intro p o hp ho hn
  by_cases e : p = i
  · subst e; exact hS.ntrans _ _ _ (hc.le o ho hn) hl
  · exact h.ok p o hp e ho hn
theorem Down.step (hS : SWO lt) {d : Array α} {n k i c : Nat} (h : Down lt d n k i) (hc : Least lt d n i c) (hl : lt d[c]! d[i]! = true) (hn : n ≤ d.size) : Down lt (swp d i c) n k c := by
  have hci : c ≠ i := by have := hc.child; unfold Child at this; omega
  have hcn := hc.inn
  have hcc := hc.child
  have hin : i < n := by unfold Child at hcc; omega
  have e1 : (swp d i c)[i]! = d[c]! := swp_left d i c (by omega) (by omega)
  have e2 : (swp d i c)[c]! = d[i]! := swp_right d i c (by omega)
  have e3 : ∀ x, x ≠ i → x ≠ c → (swp d i c)[x]! = d[x]! := fun x h1 h2 => swp_other d i c x h1 h2
  refine ⟨fun p o hp hpc ho hon => ?_, fun p o hp hcp ho hon => ?_, ?_⟩
  · by_cases ei : p = i
    · subst ei
      by_cases eo : o = c
      · subst eo; rw [e1, e2]; exact asym hS hl
      · have : o ≠ p := by unfold Child at ho; omega
        rw [e1, e3 o this eo]; exact hc.le o ho hon
    · rw [e3 p ei hpc]
      by_cases eo : o = i
      · subst eo; rw [e1]; exact h.up p c hp ho hc.child hc.inn
      · by_cases eo2 : o = c
        · subst eo2; exfalso; unfold Child at ho hcc; omega
        · rw [e3 o eo eo2]; exact h.ok p o hp ei ho hon
  · have ep : p = i := by unfold Child at hcp hcc; omega
    subst ep
    have o1 : o ≠ p := by unfold Child at ho hcc; omega
    have o2 : o ≠ c := by unfold Child at ho; omega
    rw [e1, e3 o o1 o2]
    exact h.ok c o (by have := h.le; unfold Child at hcc; omega) hci ho hon
  · have := h.le; unfold Child at hcc; omega

theorem Up.start {d : Array α} {n : Nat} (h : Heap lt d n 0) (x : α) (hn : n = d.size) : Up lt (d.push x) (n + 1) n := by
  refine ⟨fun p c hc hcp hcn => ?_, fun p c hp hc hcn => by unfold Child at hc; omega⟩
  have h1 : c < d.size := by omega
  have h2 : p < d.size := by unfold Child at hcp; omega
  have e : ∀ i, i < d.size → (d.push x)[i]! = d[i]! := fun i hi => by
    rw [getElem!_pos (d.push x) i (by simp; omega), getElem!_pos d i hi, Array.getElem_push_lt hi]
  rw [e c h1, e p h2]
  exact h p c (Nat.zero_le _) hcp (by omega)
theorem Up.top {d : Array α} {n : Nat} (h : Up lt d n 0) : Heap lt d n 0 := fun p c _ hc hn => h.ok p c (by unfold Child at hc; omega) hc hn
theorem Up.stop {d : Array α} {n j i : Nat} (h : Up lt d n j) (hi : Child j i) (hl : lt d[j]! d[i]! = false) : Heap lt d n 0 := by
  intro p c _ hc hn
  by_cases e : c = j
  · subst e
    have : p = i := by unfold Child at hc hi; omega
    subst this; exact hl
  · exact h.ok p c e hc hn
theorem Up.step (hS : SWO lt) {d : Array α} {n j i : Nat} (h : Up lt d n j) (hi : Child j i) (hl : lt d[j]! d[i]! = true) (hj : j < n) (hn : n ≤ d.size) : Up lt (swp d i j) n i := by
  have hij : i ≠ j := by unfold Child at hi; omega
  have hil : i < n := by unfold Child at hi; omega
  have e1 : (swp d i j)[i]! = d[j]! := swp_left d i j (by omega) hij
  have e2 : (swp d i j)[j]! = d[i]! := swp_right d i j (by omega)
  have e3 : ∀ x, x ≠ i → x ≠ j → (swp d i j)[x]! = d[x]! := fun x h1 h2 => swp_other d i j x h1 h2
  refine ⟨fun p c hci hc hcn => ?_, fun p c hp hc hcn => ?_⟩
  · by_cases ej : c = j
    · subst ej
      have : p = i := by unfold Child at hc hi; omega
      subst this
      rw [e1, e2]; exact asym hS hl
    · rw [e3 c hci ej]
      by_cases ep : p = i
      · subst ep
        rw [e1]
        have hh := h.ok p c ej hc hcn
        cases e : lt d[c]! d[j]!
        · rfl
        · have := hS.trans _ _ _ e hl; rw [hh] at this; cases this
      · by_cases ep2 : p = j
        · subst ep2; rw [e2]; exact h.up i c hi hc hcn
        · rw [e3 p ep ep2]; exact h.ok p c ej hc hcn
  · have p1 : p ≠ i := by unfold Child at hp; omega
    have p2 : p ≠ j := by unfold Child at hp hi; omega
    rw [e3 p p1 p2]
    have hip := h.ok p i hij hp hil
    by_cases ej : c = j
    · subst ej; rw [e2]; exact hip
    · have c1 : c ≠ i := by unfold Child at hc; omega
      rw [e3 c c1 ej]
      exact hS.ntrans _ _ _ (h.ok i c ej hc hcn) hip

/-- The first one is least. -/
theorem Heap.first (hS : SWO lt) {d : Array α} {n : Nat} (h : Heap lt d n 0) : ∀ i, i < n → lt d[i]! d[0]! = false := by
  intro i
  induction i using Nat.strongRecOn with
  | ind i ih =>
    intro hi
    by_cases e : i = 0
    · subst e; exact hS.irrefl _
    · have hc : Child i ((i - 1) / 2) := by unfold Child; omega
      exact hS.ntrans _ _ _ (h _ _ (Nat.zero_le _) hc hi) (ih ((i - 1) / 2) (by omega) (by omega))
theorem Heap.mono {d : Array α} {n m k : Nat} (h : Heap lt d n k) (hm : m ≤ n) : Heap lt d m k := fun p c hp hc hn => h p c hp hc (by omega)
theorem Heap.none {d : Array α} {n k : Nat} (h : n ≤ 2 * k + 1) : Heap lt d n k := fun p c hp hc hn => by unfold Child at hc; omega
/-- After the first and the last one are exchanged. -/
theorem Heap.swapped {d : Array α} {n : Nat} (h : Heap lt d (n + 1) 0) : Heap lt (swp d 0 n) n 1 := by
  intro p c hp hc hcn
  have h1 : c ≠ 0 := by unfold Child at hc; omega
  rw [swp_other d 0 n c h1 (by omega), swp_other d 0 n p (by omega) (by unfold Child at hc; omega)]
  exact h p c (Nat.zero_le _) hc (by omega)

theorem swp_perm (d : Array α) (i j : Nat) (hi : i < d.size) (hj : j < d.size) : (swp d i j).toList.Perm d.toList := by
  have := swp_permIn d 0 d.size i j (Nat.zero_le _) hi (Nat.zero_le _) hj (Nat.le_refl _)
  have h2 := this.2.2
  have e : (swp d i j).extract 0 d.size = swp d i j := by rw [← size_swp d i j]; exact Array.extract_size
  rw [e, Array.extract_size] at h2
  exact h2
end Go.Proofs.Ytbcmilfajeanbaa.Hp

namespace Go.Proofs.Ytbcmilfajeanbaa
open Go.RowKit Go.Sort

theorem cisNaNi_any (x : Int) (w : World) : Calls Try.prog 96 #[.int .i64 x] w fun e w' => e = .returned (.bool false) ∧ w' = w := by
  go_enter Try.func96, Try.ntmps96
  go_wp2
  go_ret
  exact ⟨rfl, rfl⟩
theorem comparei_any (x y : Int) (w : World) : Calls Try.prog 79 #[.int .i64 x, .int .i64 y] w fun e w' => e = .returned (.int .i64 (cmpI x y)) ∧ w' = w := by
  rcases Int.lt_trichotomy x y with h | h | h
  · rw [cmpI_lt h]
    go_enter Try.func79, Try.ntmps79
    go_wp2_with (go_at_call 96; refine (cisNaNi_any _ _).mono ?_; rintro e w' ⟨rfl, rfl⟩)
    go_ret
    exact ⟨rfl, rfl⟩
  · rw [cmpI_eq h]
    subst h
    go_enter Try.func79, Try.ntmps79
    go_wp2_with (go_at_call 96; refine (cisNaNi_any _ _).mono ?_; rintro e w' ⟨rfl, rfl⟩)
    go_ret
    exact ⟨rfl, rfl⟩
  · rw [cmpI_gt h]
    have h' : ¬ x < y := by omega
    go_enter Try.func79, Try.ntmps79
    go_wp2_with (go_at_call 96; refine (cisNaNi_any _ _).mono ?_; rintro e w' ⟨rfl, rfl⟩)
    go_ret
    exact ⟨rfl, rfl⟩


/-- How two items stand, by bits. -/
def cmpN (m : Nat) (a : Int) (n : Nat) (b : Int) : Int := if cmpI (key m) (key n) = 0 then cmpI a b else cmpI (key m) (key n)
theorem cmpN_same {m n : Nat} (h : cmpI (key m) (key n) = 0) (a b : Int) : cmpN m a n b = cmpI a b := if_pos h
theorem cmpN_other {m n : Nat} (h : ¬ cmpI (key m) (key n) = 0) (a b : Int) : cmpN m a n b = cmpI (key m) (key n) := if_neg h

/-- An item in a box. -/
abbrev boxI (m : Nat) (a : Int) : Obj := .cells #[.float .f64 m, .int .i64 a] 39

theorem icmp_any (m n : Nat) (a b : Int) (w : World) (hm : m < 18446744073709551616) (hn : n < 18446744073709551616) :
    Calls Try.prog 43 #[.agg #[.float .f64 m, .int .i64 a], .agg #[.float .f64 n, .int .i64 b]] w fun e w' => e = .returned (.int .i64 (cmpN m a n b)) ∧ w' = (w.alloc (boxI m a)).alloc (boxI n b) := by
  have hC := fun w => cmp_any m n w hm hn
  obtain ⟨c, hc⟩ : ∃ c, cmpI (key m) (key n) = c := ⟨_, rfl⟩
  by_cases h0 : c = 0
  · rw [cmpN_same (by rw [hc]; exact h0)]
    subst h0
    rw [hc] at hC
    clear hc hm hn
    go_enter Try.func43, Try.ntmps43
    go_wp2_with (first
      | (go_at_call 78; refine (hC _).mono ?_; rintro e w1 ⟨rfl, hw1⟩; replace hw1 := hw1.symm; subst hw1)
      | (go_at_call 79; refine (comparei_any _ _ _).mono ?_; rintro e w1 ⟨rfl, hw1⟩; replace hw1 := hw1.symm; subst hw1))
    go_ret
    exact ⟨rfl, rfl⟩
  · rw [cmpN_other (by rw [hc]; exact h0), hc]
    have hb : (c != 0) = true := by simpa using h0
    rw [hc] at hC
    clear hc hm hn
    go_enter Try.func43, Try.ntmps43
    go_wp2_with (first
      | (go_at_call 78; refine (hC _).mono ?_; rintro e w1 ⟨rfl, hw1⟩; replace hw1 := hw1.symm; subst hw1))
    go_ret
    exact ⟨rfl, rfl⟩

theorem icanon_any (m : Nat) (a : Int) (w : World) :
    Calls Try.prog 39 #[.agg #[.float .f64 m, .int .i64 a]] w fun e w' => e = .returned (.agg #[.float .f64 (cbits m), .int .i64 a]) ∧ Below w.heap.size w w' := by
  have hsf := run_store_float (P := Try.prog)
  go_enter Try.func39, Try.ntmps39
  go_wp2_with (go_at_call 74; refine (canon_any _ _).mono ?_; rintro e w1 ⟨rfl, hw1⟩; replace hw1 := hw1.symm; subst hw1)
  exact bodyPost_ret (v := .agg #[.float .f64 (cbits m), .int .i64 a]) (by simp [results, Try.results39, go_sem]) rfl ⟨rfl, ((Below.refl _ _).alloc (Nat.le_refl _) _).alloc (by simp) _⟩
end Go.Proofs.Ytbcmilfajeanbaa

namespace Go.Proofs.Ytbcmilfajeanbaa
open Go.RowKit Go.Sort

/-- A canonical item: none is that of bits 0 and value 0. -/
abbrev KI := Option { p : Nat × Int // (p.1 < 18446744073709551616 ∧ cbits p.1 = p.1) ∧ p ≠ (0, 0) }
def KI.b (x : KI) : Nat := match x with | none => 0 | some p => p.1.1
def KI.v (x : KI) : Int := match x with | none => 0 | some p => p.1.2
theorem KI.ok (x : KI) : x.b < 18446744073709551616 ∧ cbits x.b = x.b := by
  match x with
  | none => exact ⟨by decide, by decide⟩
  | some p => exact p.2.1
theorem KI.ext' {x y : KI} (hb : x.b = y.b) (hv : x.v = y.v) : x = y := by
  match x, y with
  | none, none => rfl
  | none, some q => exact absurd (Prod.ext hb.symm hv.symm) q.2.2
  | some p, none => exact absurd (Prod.ext hb hv) p.2.2
  | some p, some q => exact congrArg some (Subtype.ext (Prod.ext hb hv))
def KI.of (b : Nat) (v : Int) (ok : b < 18446744073709551616 ∧ cbits b = b) : KI := if h : (b, v) = (0, 0) then none else some ⟨(b, v), ok, h⟩
theorem KI.of_b (b : Nat) (v : Int) (ok : b < 18446744073709551616 ∧ cbits b = b) : (KI.of b v ok).b = b := by
  unfold KI.of
  split
  case isTrue h => injection h with h1 h2; exact h1.symm
  case isFalse h => rfl
theorem KI.of_v (b : Nat) (v : Int) (ok : b < 18446744073709551616 ∧ cbits b = b) : (KI.of b v ok).v = v := by
  unfold KI.of
  split
  case isTrue h => injection h with h1 h2; exact h2.symm
  case isFalse h => rfl
def KI.lt (x y : KI) : Bool := decide (cmpN x.b x.v y.b y.v < 0)
theorem key_canon {m n : Nat} (hm : m < 18446744073709551616 ∧ cbits m = m) (hn : n < 18446744073709551616 ∧ cbits n = n) (h : key m = key n) : m = n := by
  unfold key keyI ni at h
  rw [hm.2, hn.2] at h
  split at h <;> split at h <;> omega
theorem cmpN_lt (m n : Nat) (a b : Int) : cmpN m a n b < 0 ↔ key m < key n ∨ (key m = key n ∧ a < b) := by
  unfold cmpN
  have h1 := cmpI_neg_iff (key m) (key n)
  have h2 := cmpI_zero (key m) (key n)
  have h3 := cmpI_neg_iff a b
  generalize cmpI (key m) (key n) = c at *
  generalize key m = p at *
  generalize key n = q at *
  split
  · rw [h3]
    constructor
    · intro h; exact .inr ⟨h2.1 ‹_›, h⟩
    · rintro (h | h)
      · omega
      · exact h.2
  · rw [h1]
    constructor
    · intro h; exact .inl h
    · rintro (h | h)
      · exact h
      · exact absurd (h2.2 h.1) ‹_›
theorem KI.lt_iff (x y : KI) : x.lt y = true ↔ key x.b < key y.b ∨ (key x.b = key y.b ∧ x.v < y.v) := by
  unfold KI.lt; rw [decide_eq_true_eq, cmpN_lt]
theorem KI.lt_false (x y : KI) : x.lt y = false ↔ ¬ (key x.b < key y.b ∨ (key x.b = key y.b ∧ x.v < y.v)) := by
  rw [← KI.lt_iff]; cases x.lt y <;> simp
theorem KI.swo : SWO KI.lt where
  irrefl x := by rw [KI.lt_false]; omega
  trans x y z h1 h2 := by
    rw [KI.lt_iff] at *
    generalize key x.b = p at *; generalize key y.b = q at *; generalize key z.b = r at *
    omega
  ntrans x y z h1 h2 := by
    rw [KI.lt_false] at *
    generalize key x.b = p at *; generalize key y.b = q at *; generalize key z.b = r at *
    omega
theorem KI.total (x y : KI) (h1 : x.lt y = false) (h2 : y.lt x = false) : x = y := by
  rw [KI.lt_false] at h1 h2
  have hk : key x.b = key y.b := by
    generalize key x.b = p at *; generalize key y.b = q at *; omega
  have hb := key_canon x.ok y.ok hk
  have hv : x.v = y.v := by
    rw [hk] at h1 h2; omega
  exact KI.ext' hb hv

theorem cbits_idem (n : Nat) : cbits (cbits n) = cbits n := by
  cases h : nanB n
  · rw [cbits_num h, cbits_num h]
  · rw [cbits_nan h]; decide
/-- Made canonical. -/
def mkKI (p : Nat) (v : Int) : KI := if h : p < 18446744073709551616 then KI.of (cbits p) v ⟨cbits_lt h, cbits_idem p⟩ else none
theorem mkKI_b {p : Nat} (h : p < 18446744073709551616) (v : Int) : (mkKI p v).b = cbits p := by unfold mkKI; rw [dif_pos h]; exact KI.of_b _ _ _
theorem mkKI_v {p : Nat} (h : p < 18446744073709551616) (v : Int) : (mkKI p v).v = v := by unfold mkKI; rw [dif_pos h]; exact KI.of_v _ _ _
theorem mkKI_self (x : KI) : mkKI x.b x.v = x := by
  have h1 := mkKI_b x.ok.1 x.v
  rw [x.ok.2] at h1
  exact KI.ext' h1 (mkKI_v x.ok.1 x.v)
def kiOf (P V : Nat → Int) (i : Nat) : KI := mkKI (nf (P i)) (V i)
end Go.Proofs.Ytbcmilfajeanbaa

namespace Go.Proofs.Ytbcmilfajeanbaa
open Go.RowKit Go.Sort

theorem run_equalIn_float {P : Program} (d : Nat) (t : TypeId) (a b : Nat) (w : World) (h : P.underlying t = some (.float .f64)) : (Op.equalIn (d + 1) t (.float .f64 a) (.float .f64 b)).run P w = .ok (Op.floatEq .f64 a b) w := by
  simp [Op.equalIn, run_underlying h]

theorem own_any (p v : Int) (w : World) : Calls Try.prog 14 #[.agg #[.int .u64 p, .int .i64 v]] w fun e w' => e = .returned (.agg #[.float .f64 (nf p), .int .i64 v]) ∧ Below w.heap.size w w' := by
  have hsf := run_store_float (P := Try.prog)
  go_enter Try.func14, Try.ntmps14
  go_wp2
  go_region_with (go_at_call 45; refine (f_any _ _).mono ?_; rintro e w1 ⟨rfl, hw1⟩; replace hw1 := hw1.symm; subst hw1)
  all_goals go_wp2
  all_goals exact bodyPost_ret (v := .agg #[.float .f64 (nf p), .int .i64 v]) (by simp [results, Try.results14, go_sem]) rfl ⟨rfl, ((((Below.refl _ _).alloc (Nat.le_refl _) _).alloc (by simp) _)).drew⟩

/-- Is an item the document's? -/
def isV (m : Nat) (a q b : Int) : Int := if ni m = q ∧ a = b then 0 else -1
theorem is_any (m : Nat) (a q b : Int) (w : World) : Calls Try.prog 85 #[.agg #[.float .f64 m, .int .i64 a], .agg #[.int .u64 q, .int .i64 b]] w fun e w' => e = .returned (.int .i64 (isV m a q b)) ∧ Below w.heap.size w w' := by
  have h15 := run_bits
  by_cases h1 : ni m = q
  · by_cases h2 : a = b
    · have : isV m a q b = 0 := if_pos ⟨h1, h2⟩
      rw [this]
      subst h1; subst h2
      clear this
      go_enter Try.func85, Try.ntmps85
      go_wp2
      go_quiet (fail)
      go_wp2
      go_ret
      exact ⟨rfl, below_drewN (((Below.refl _ _).alloc (Nat.le_refl _) _).alloc (by simp) _) _⟩
    · have : isV m a q b = -1 := if_neg (fun e => h2 e.2)
      rw [this]
      subst h1
      clear this
      have hb : (a != b) = true := by simpa using h2
      go_enter Try.func85, Try.ntmps85
      go_wp2
      go_quiet (fail)
      go_wp2
      go_ret
      exact ⟨rfl, below_drewN (((Below.refl _ _).alloc (Nat.le_refl _) _).alloc (by simp) _) _⟩
  · have : isV m a q b = -1 := if_neg (fun e => h1 e.1)
    rw [this]
    clear this
    have hb : (ni m != q) = true := by simpa using h1
    go_enter Try.func85, Try.ntmps85
    go_wp2
    go_quiet (fail)
    go_wp2
    go_ret
    exact ⟨rfl, below_drewN (((Below.refl _ _).alloc (Nat.le_refl _) _).alloc (by simp) _) _⟩

theorem rcmp4_any (p a q b : Int) (w : World) (h0 : 0 ≤ p) (h1 : p < 18446744073709551616) (h2 : 0 ≤ q) (h3 : q < 18446744073709551616) :
    Calls Try.prog 52 #[.agg #[.int .u64 p, .int .i64 a], .agg #[.int .u64 q, .int .i64 b]] w fun e w' => e = .returned (.int .i64 (cmpN (nf p) a (nf q) b)) ∧ Below w.heap.size w w' := by
  have hC := fun w => rcmp_any p q w h0 h1 h2 h3
  obtain ⟨c, hc⟩ : ∃ c, cmpI (key (nf p)) (key (nf q)) = c := ⟨_, rfl⟩
  rw [hc] at hC
  clear h0 h1 h2 h3
  by_cases e : c = 0
  · rw [cmpN_same (by rw [hc]; exact e)]
    subst e
    clear hc
    rcases Int.lt_trichotomy a b with h | h | h
    · rw [cmpI_lt h]
      go_enter Try.func52, Try.ntmps52
      go_wp2_with (go_at_call 84; refine (hC _).mono ?_; rintro e w1 ⟨rfl, hw1⟩; replace hw1 := hw1.symm; subst hw1)
      go_ret
      exact ⟨rfl, ((Below.refl _ _).alloc (Nat.le_refl _) _).alloc (by simp) _⟩
    · rw [cmpI_eq h]
      subst h
      go_enter Try.func52, Try.ntmps52
      go_wp2_with (go_at_call 84; refine (hC _).mono ?_; rintro e w1 ⟨rfl, hw1⟩; replace hw1 := hw1.symm; subst hw1)
      go_ret
      exact ⟨rfl, ((Below.refl _ _).alloc (Nat.le_refl _) _).alloc (by simp) _⟩
    · rw [cmpI_gt h]
      have hd : decide (a < b) = false := decide_eq_false (by omega)
      go_enter Try.func52, Try.ntmps52
      go_wp2_with (go_at_call 84; refine (hC _).mono ?_; rintro e w1 ⟨rfl, hw1⟩; replace hw1 := hw1.symm; subst hw1)
      go_ret
      exact ⟨rfl, ((Below.refl _ _).alloc (Nat.le_refl _) _).alloc (by simp) _⟩
  · rw [cmpN_other (by rw [hc]; exact e), hc]
    have hb : (c == 0) = false := by simpa using e
    clear hc e
    go_enter Try.func52, Try.ntmps52
    go_wp2_with (go_at_call 84; refine (hC _).mono ?_; rintro e w1 ⟨rfl, hw1⟩; replace hw1 := hw1.symm; subst hw1)
    go_ret
    exact ⟨rfl, ((Below.refl _ _).alloc (Nat.le_refl _) _).alloc (by simp) _⟩
end Go.Proofs.Ytbcmilfajeanbaa

namespace Go.Proofs.Ytbcmilfajeanbaa
open Go.RowKit Go.Sort

theorem plainR : PlainK Try.prog 2 49 100 := by
  have h : (Try.prog.info? 100).map (fun i => (i.zero, i.size, i.bytes)) = some (some (.agg #[.int .u64 0, .int .i64 0]), 2, 16) := by kernel_rfl
  obtain ⟨i, hi, he⟩ := Option.map_eq_some_iff.1 h
  simp only [Prod.mk.injEq] at he
  exact ⟨i, _, Try.underlying49, hi, he.1, he.2.1, rfl, by rw [he.2.2]; decide⟩

def encR (x : KI) : List Value := [.int .u64 (ni x.b), .int .i64 x.v]
def flatR (L : List KI) : List Value := L.flatMap encR
theorem flatR_length (L : List KI) : (flatR L).length = L.length * 2 := by
  induction L with
  | nil => rfl
  | cons x L ih => simp only [flatR, List.flatMap_cons, List.length_append, List.length_cons] at *; rw [ih]; simp [encR]; omega
theorem flatR_append (L M : List KI) : flatR (L ++ M) = flatR L ++ flatR M := by simp [flatR]
theorem flatR_get : ∀ (L : List KI) (i : Nat) (h : i < L.length), (flatR L)[i * 2]? = some (.int .u64 (ni L[i].b)) ∧ (flatR L)[i * 2 + 1]? = some (.int .i64 L[i].v)
  | x :: L, 0, h => ⟨rfl, rfl⟩
  | x :: L, i + 1, h => by
    have := flatR_get L i (by simpa using h)
    simp only [List.getElem_cons_succ]
    have e : flatR (x :: L) = .int .u64 (ni x.b) :: .int .i64 x.v :: flatR L := rfl
    rw [e, show (i + 1) * 2 = i * 2 + 1 + 1 by omega]
    exact this
theorem flatR_one (L : List KI) : ∀ u ∈ flatR L, u.oneCell' = true := by
  intro u hu
  simp only [flatR, List.mem_flatMap, encR] at hu
  obtain ⟨x, _, hx⟩ := hu
  simp at hx
  rcases hx with rfl | rfl <;> rfl

/-- Items that are read one by one, wherever their slice begins. -/
def RdR (w : World) (a : Option Addr) (L : List KI) : Prop :=
  ∀ i (h : i < L.length), ∃ g off, a = some ⟨g, off, none⟩ ∧ g < w.heap.size ∧ w.cell? ⟨g, off + i * 2, none⟩ = some (.int .u64 (ni L[i].b)) ∧ w.cell? ⟨g, off + i * 2 + 1, none⟩ = some (.int .i64 L[i].v)
theorem RdR.of_flat {w : World} {g cap : Nat} {L : List KI} (h : Flat 2 w g cap L.length (flatR L)) : RdR w (some ⟨g, 0, none⟩) L := fun i hi => by
  refine ⟨g, 0, rfl, h.lt, ?_, ?_⟩
  · rw [Nat.zero_add]; exact h.cell _ _ (flatR_get L i hi).1
  · rw [Nat.zero_add]; exact h.cell _ _ (flatR_get L i hi).2
theorem RdR.but {S : Nat → Prop} {w w' : World} {a : Option Addr} {L : List KI} (h : RdR w a L) (hb : But S w w') (hS : ∀ j, inB a j → ¬ S j) : RdR w' a L := fun i hi => by
  obtain ⟨g, off, h1, h2, h3, h4⟩ := h i hi
  have hn : ¬ S g := hS g ⟨_, h1, rfl⟩
  exact ⟨g, off, h1, Nat.lt_of_lt_of_le h2 hb.size, (hb.cell (p := ⟨g, off + i * 2, none⟩) h2 hn).trans h3, (hb.cell (p := ⟨g, off + i * 2 + 1, none⟩) h2 hn).trans h4⟩
theorem RdR.below {w w' : World} {a : Option Addr} {L : List KI} (h : RdR w a L) (hb : Below w.heap.size w w') : RdR w' a L := h.but (S := fun _ => False) (But.of_below hb) (fun _ _ e => e)

theorem src_two {P : Program} {T E : TypeId} (w : World) (hk : P.underlying T = some (.slice E)) (b : Nat) (u v : Value) (h0 : w.cell? ⟨b, 0, none⟩ = some u) (h1 : w.cell? ⟨b, 1, none⟩ = some v) (o0 : u.oneCell' = true) (o1 : v.oneCell' = true) : Src P 2 T (.slice (some ⟨b, 0, none⟩) 1 1) 1 [u, v] w := by
  refine Src.ofSlice w hk _ 1 1 _ rfl (fun j z hz => ?_) (fun z hz => by simp at hz; rcases hz with rfl | rfl <;> assumption)
  rw [Addr.add_lit]
  rcases j with _ | _ | j
  · simp at hz; subst hz; exact h0
  · simp at hz; subst hz; exact h1
  · simp at hz

end Go.Proofs.Ytbcmilfajeanbaa

namespace Go.Proofs.Ytbcmilfajeanbaa
open Go.RowKit Go.Sort

/-- Items in the making, as an argument. -/
def Raws (w : World) (a : Option Addr) (n : Nat) (K M : Nat → Int) : Prop :=
  ∀ i, i < n → ∃ g off, a = some ⟨g, off, none⟩ ∧ g < w.heap.size ∧ w.cell? ⟨g, off + i * 2, none⟩ = some (.int .u64 (K i)) ∧ w.cell? ⟨g, off + i * 2 + 1, none⟩ = some (.int .i64 (M i)) ∧ 0 ≤ K i ∧ K i < 18446744073709551616
theorem Raws.below {w w' : World} {a : Option Addr} {n : Nat} {K M : Nat → Int} (h : Raws w a n K M) (hb : Below w.heap.size w w') : Raws w' a n K M := fun i hi => by
  obtain ⟨g, off, h1, h2, h3, h4, h5⟩ := h i hi
  exact ⟨g, off, h1, Nat.lt_of_lt_of_le h2 hb.size, by rw [hb.cell (p := ⟨g, off + i * 2, none⟩) h2]; exact h3, by rw [hb.cell (p := ⟨g, off + i * 2 + 1, none⟩) h2]; exact h4, h5⟩
theorem Raws.but {S : Nat → Prop} {w w' : World} {a : Option Addr} {n : Nat} {K M : Nat → Int} (h : Raws w a n K M) (hb : But S w w') (hS : ∀ k, inB a k → ¬ S k) : Raws w' a n K M := fun i hi => by
  obtain ⟨g, off, h1, h2, h3, h4, h5⟩ := h i hi
  have hn : ¬ S g := hS g ⟨_, h1, rfl⟩
  exact ⟨g, off, h1, Nat.lt_of_lt_of_le h2 hb.size, by rw [hb.cell (p := ⟨g, off + i * 2, none⟩) h2 hn]; exact h3, by rw [hb.cell (p := ⟨g, off + i * 2 + 1, none⟩) h2 hn]; exact h4, h5⟩

/-- The items that are made of them. -/
def rawL (K V : Nat → Int) (n : Nat) : List KI := (List.range n).map (kiOf K V)
theorem rawL_length (K V : Nat → Int) (n : Nat) : (rawL K V n).length = n := by simp [rawL]
theorem rawL_succ (K V : Nat → Int) (n : Nat) : rawL K V (n + 1) = rawL K V n ++ [kiOf K V n] := by simp [rawL, List.range_succ]
def kt (x : KI) : It := (x.b, x.v)
def kts (L : List KI) : List It := L.map kt
theorem kts_length (L : List KI) : (kts L).length = L.length := by simp [kts]
theorem kts_append (L M : List KI) : kts (L ++ M) = kts L ++ kts M := by simp [kts]
end Go.Proofs.Ytbcmilfajeanbaa

namespace Go.Proofs.Ytbcmilfajeanbaa
open Go.RowKit Go.Sort

/-- A value in a box. -/
abbrev boxV (n : Int) (s : Value) : Obj := .cells #[.int .i64 n, s] 112

theorem vclone_any (x : Int) (a : Option Addr) (cap n : Nat) (l : List Value) (w : World) (h : SlAt 2 w a cap n l) (hn : n ≤ 1000000) :
    Calls Try.prog 99 #[.agg #[.int .i64 x, .slice a n cap]] w fun e w' => ∃ a' cap', e = .returned (.agg #[.int .i64 x, .slice a' n cap']) ∧ SlAt 2 w' a' cap' n l ∧ (∀ j, inB a' j → w.heap.size ≤ j) ∧ Below w.heap.size w w' := by
  have hC := hidq (sclone_any a cap n l ((w.alloc (boxV x (.slice a n cap))).alloc (boxV 0 (.slice none 0 0))) (h.but (S := fun _ => False) (((But.refl _ _).alloc _).alloc _) (fun _ _ e => e)) hn)
  clear h
  go_enter Try.func99, Try.ntmps99
  go_wp2_with fail
  refine hC.out.mono ?_
  rintro e w1 ⟨a', cap', rfl, hS, hf, hb⟩
  have HS := hidq hS
  have HF := hidq hf
  clear hS hf
  have hz : w.heap.size + 1 < w1.heap.size := by have := hb.size; simp at this; omega
  have c0 : w1.cell? ⟨w.heap.size, 0, none⟩ = some (.int .i64 x) := by rw [hb.cell (p := ⟨w.heap.size, 0, none⟩) (by simp; omega)]; simp
  have c1 : w1.cell? ⟨w.heap.size, 1, none⟩ = some (.slice a n cap) := by rw [hb.cell (p := ⟨w.heap.size, 1, none⟩) (by simp; omega)]; simp
  have d0 : w1.cell? ⟨w.heap.size + 1, 0, none⟩ = some (.int .i64 0) := by rw [hb.cell (p := ⟨w.heap.size + 1, 0, none⟩) (by simp)]; simp
  have d1 : w1.cell? ⟨w.heap.size + 1, 1, none⟩ = some (.slice none 0 0) := by rw [hb.cell (p := ⟨w.heap.size + 1, 1, none⟩) (by simp)]; simp
  have z1 : w1.frozen? ⟨w.heap.size, 1, none⟩ = false := by rw [hb.frozen (p := ⟨w.heap.size, 1, none⟩) (by simp; omega)]; simp
  have y0 : w1.frozen? ⟨w.heap.size + 1, 0, none⟩ = false := by rw [hb.frozen (p := ⟨w.heap.size + 1, 0, none⟩) (by simp)]; simp
  have y1 : w1.frozen? ⟨w.heap.size + 1, 1, none⟩ = false := by rw [hb.frozen (p := ⟨w.heap.size + 1, 1, none⟩) (by simp)]; simp
  have hb0 : Below w.heap.size w w1 := (((Below.refl _ _).alloc (Nat.le_refl _) _).alloc (by simp) _).trans (hb.mono (by simp; omega))
  have hfin : ∀ w2, But (fun k => k = w.heap.size ∨ k = w.heap.size + 1) w1 w2 → SlAt 2 w2 a' cap' n l ∧ (∀ j, inB a' j → w.heap.size ≤ j) ∧ Below w.heap.size w w2 := fun w2 h2 =>
    ⟨HS.out.but h2 (fun j hj e => by have := HF.out j hj; simp at this; omega), fun j hj => by have := HF.out j hj; simp at this; omega, hb0.trans (h2.below hb0.size (fun k e => by omega))⟩
  have HFIN := hidq hfin
  clear hb hb0 hfin
  go_wp2
  refine bodyPost_ret (v := .agg #[.int .i64 x, .slice a' n cap']) (by simp [results, Try.results99, go_sem, d0, d1]) rfl ⟨a', cap', rfl, HFIN.out _ ?_⟩
  exact (((But.refl _ _).set1 _ _ (.inl rfl) _).set1 _ _ (.inr rfl) _).set1 _ _ (.inr rfl) _

abbrev boxC (v x : Int) (s : Value) : Obj := .cells #[.int .u64 v, .int .i64 x, s] 114
set_option maxHeartbeats 1000000 in
theorem copied_any (v x : Int) (a : Option Addr) (cap n : Nat) (l : List Value) (w : World) (h : SlAt 2 w a cap n l) (hn : n ≤ 1000000) :
    Calls Try.prog 87 #[.agg #[.int .u64 v, .int .i64 x, .slice a n cap]] w fun e w' => ∃ a' cap', e = .returned (.agg #[.int .u64 v, .int .i64 x, .slice a' n cap']) ∧ SlAt 2 w' a' cap' n l ∧ (∀ j, inB a' j → w.heap.size ≤ j) ∧ Below w.heap.size w w' := by
  have hC := hidq (fun W (hW : But (fun _ => False) w W) => vclone_any x a cap n l W (h.but hW (fun _ _ e => e)) hn)
  have hfin : ∀ a' cap' w1 w2, SlAt 2 w1 a' cap' n l → (∀ j, inB a' j → w.heap.size + 2 ≤ j) → Below (w.heap.size + 2) ((w.alloc (boxC v x (.slice a n cap))).alloc (boxC 0 0 (.slice none 0 0))) w1 → But (fun k => k = w.heap.size ∨ k = w.heap.size + 1) w1 w2 → SlAt 2 w2 a' cap' n l ∧ (∀ j, inB a' j → w.heap.size ≤ j) ∧ Below w.heap.size w w2 := fun a' cap' w1 w2 hS hF hb h2 => by
    have hb0 : Below w.heap.size w w1 := (((Below.refl _ _).alloc (Nat.le_refl _) _).alloc (by simp) _).trans (hb.mono (by omega))
    exact ⟨hS.but h2 (fun j hj e => by have := hF j hj; omega), fun j hj => by have := hF j hj; omega, hb0.trans (h2.below hb0.size (fun k e => by omega))⟩
  have hcells : ∀ w1, Below (w.heap.size + 2) ((w.alloc (boxC v x (.slice a n cap))).alloc (boxC 0 0 (.slice none 0 0))) w1 →
      (w.heap.size + 1 < w1.heap.size ∧ w1.cell? ⟨w.heap.size, 0, none⟩ = some (.int .u64 v)) ∧ (w1.cell? ⟨w.heap.size + 1, 0, none⟩ = some (.int .u64 0) ∧ w1.cell? ⟨w.heap.size + 1, 1, none⟩ = some (.int .i64 0) ∧ w1.cell? ⟨w.heap.size + 1, 2, none⟩ = some (.slice none 0 0)) ∧
      w1.frozen? ⟨w.heap.size + 1, 0, none⟩ = false ∧ w1.frozen? ⟨w.heap.size + 1, 1, none⟩ = false ∧ w1.frozen? ⟨w.heap.size + 1, 2, none⟩ = false := fun w1 hb => by
    refine ⟨⟨by have := hb.size; simp at this; omega, ?_⟩, ⟨?_, ?_, ?_⟩, ?_, ?_, ?_⟩
    · rw [hb.cell (p := ⟨w.heap.size, 0, none⟩) (by simp)]; simp
    · rw [hb.cell (p := ⟨w.heap.size + 1, 0, none⟩) (by simp)]; simp
    · rw [hb.cell (p := ⟨w.heap.size + 1, 1, none⟩) (by simp)]; simp
    · rw [hb.cell (p := ⟨w.heap.size + 1, 2, none⟩) (by simp)]; simp
    · rw [hb.frozen (p := ⟨w.heap.size + 1, 0, none⟩) (by simp)]; simp
    · rw [hb.frozen (p := ⟨w.heap.size + 1, 1, none⟩) (by simp)]; simp
    · rw [hb.frozen (p := ⟨w.heap.size + 1, 2, none⟩) (by simp)]; simp
  have HFIN := hidq hfin
  have HCEL := hidq hcells
  have hsz : ((w.alloc (boxC v x (.slice a n cap))).alloc (boxC 0 0 (.slice none 0 0))).drew.heap.size = w.heap.size + 2 := by simp
  have HSZ := hidq hsz
  clear h hfin hcells hsz
  go_enter Try.func87, Try.ntmps87
  go_wp2
  go_region_with (go_at_call 99; refine (hC.out _ (((But.refl _ w).alloc _).alloc _).drew).mono ?_; rintro e w1 ⟨a', cap', rfl, hS, hf, hb⟩; have HS := hidq hS; rw [HSZ.out] at hf hb; have HF := hidq hf; have HB := hidq hb; obtain ⟨⟨hz, c0⟩, ⟨d0, d1, d2⟩, z0, z1, z2⟩ := HCEL.out w1 (by exact ⟨hb.os, hb.tape, hb.output, hb.size, hb.block⟩); clear hS hf hb)
  all_goals go_wp2
  all_goals refine bodyPost_ret (v := .agg #[.int .u64 v, .int .i64 x, .slice a' n cap']) (by simp [results, Try.results87, go_sem, d0, d1, d2]) rfl ⟨a', cap', rfl, HFIN.out _ _ w1 _ HS.out HF.out ?_ ?_⟩
  all_goals first
    | exact ⟨HB.out.os, HB.out.tape, HB.out.output, HB.out.size, HB.out.block⟩
    | exact (((But.refl _ _).set1 _ _ (.inr rfl) _).set1 _ _ (.inr rfl) _).set1 _ _ (.inr rfl) _
end Go.Proofs.Ytbcmilfajeanbaa

namespace Go.Proofs.Ytbcmilfajeanbaa
open Go.RowKit Go.Sort

/-- A cell: its version, its number, its items. -/
structure CV where
  ver : Int
  n : Int
  L : List It
def CV.zero : CV := ⟨0, 0, []⟩
/-- A memory: how many cells, each of them, how many writes. -/
structure Mem where
  len : Nat
  cell : Nat → CV
  clock : Nat
def Mem.empty : Mem := ⟨0, fun _ => CV.zero, 0⟩
def Mem.reach (M : Mem) (n : Nat) : Mem := { M with len := max M.len n }
def Mem.put (M : Mem) (i : Nat) (n : Int) (L : List It) : Mem := ⟨max M.len (i + 1), fun j => if j = i then ⟨((M.clock + 1 : Nat) : Int), n, L⟩ else M.cell j, M.clock + 1⟩

def cellC (M : Mem) (A : Nat → Option Addr) (C : Nat → Nat) (t : Nat) : Value :=
  if t % 3 = 0 then .int .u64 (M.cell (t / 3)).ver else if t % 3 = 1 then .int .i64 (M.cell (t / 3)).n else .slice (A (t / 3)) (M.cell (t / 3)).L.length (C (t / 3))
def flatC (M : Mem) (A : Nat → Option Addr) (C : Nat → Nat) : List Value := (List.range (M.len * 3)).map (cellC M A C)
theorem flatC_length (M : Mem) (A : Nat → Option Addr) (C : Nat → Nat) : (flatC M A C).length = M.len * 3 := by simp [flatC]
theorem flatC_get (M : Mem) (A : Nat → Option Addr) (C : Nat → Nat) (t : Nat) (h : t < M.len * 3) : (flatC M A C)[t]? = some (cellC M A C t) := by simp [flatC, h]
theorem flatC_0 (M : Mem) (A : Nat → Option Addr) (C : Nat → Nat) (i : Nat) (h : i < M.len) : (flatC M A C)[i * 3]? = some (.int .u64 (M.cell i).ver) := by
  rw [flatC_get M A C _ (by omega)]; unfold cellC; rw [if_pos (by omega), show i * 3 / 3 = i by omega]
theorem flatC_1 (M : Mem) (A : Nat → Option Addr) (C : Nat → Nat) (i : Nat) (h : i < M.len) : (flatC M A C)[i * 3 + 1]? = some (.int .i64 (M.cell i).n) := by
  rw [flatC_get M A C _ (by omega)]; unfold cellC; rw [if_neg (by omega), if_pos (by omega), show (i * 3 + 1) / 3 = i by omega]
theorem flatC_2 (M : Mem) (A : Nat → Option Addr) (C : Nat → Nat) (i : Nat) (h : i < M.len) : (flatC M A C)[i * 3 + 2]? = some (.slice (A i) (M.cell i).L.length (C i)) := by
  rw [flatC_get M A C _ (by omega)]; unfold cellC; rw [if_neg (by omega), if_neg (by omega), show (i * 3 + 2) / 3 = i by omega]

/-- The row of a memory's cells, and their items. -/
structure RowC (w : World) (b : Nat) (O : Nat → Prop) (M : Mem) (a : Option Addr) (cap : Nat) (A : Nat → Option Addr) (C : Nat → Nat) : Prop where
  hd : w.cell? ⟨b, 0, none⟩ = some (.slice a M.len cap)
  sl : SlAt 3 w a cap M.len (flatC M A C)
  own : ∀ j, inB a j → O j ∧ j ≠ b
  its : ∀ i, i < M.len → SlAt 2 w (A i) (C i) (M.cell i).L.length (flatI (M.cell i).L)
  ito : ∀ i, i < M.len → ∀ j, inB (A i) j → O j ∧ j ≠ b ∧ ¬ inB a j
structure MemAt (w : World) (b : Nat) (O : Nat → Prop) (M : Mem) : Prop where
  ob : O b
  lt : ∀ k, O k → k < w.heap.size
  row : ∃ a cap A C, RowC w b O M a cap A C
  clk : w.cell? ⟨b, 1, none⟩ = some (.int .u64 (M.clock : Int))
  fz0 : w.frozen? ⟨b, 0, none⟩ = false
  fz1 : w.frozen? ⟨b, 1, none⟩ = false
  max : M.len ≤ 1000
  rest : ∀ i, M.len ≤ i → M.cell i = CV.zero
  few : ∀ i, (M.cell i).L.length ≤ 1000000

section
variable {w w' : World} {b : Nat} {O S : Nat → Prop} {M : Mem}
theorem RowC.but {a : Option Addr} {cap : Nat} {A : Nat → Option Addr} {C : Nat → Nat} (h : RowC w b O M a cap A C) (hl : b < w.heap.size) (hb : But S w w') (hS : ∀ k, O k → ¬ S k) (hO : O b) : RowC w' b O M a cap A C :=
  ⟨by rw [hb.cell (p := ⟨b, 0, none⟩) hl (hS b hO)]; exact h.hd, h.sl.but hb (fun j hj => hS j (h.own j hj).1), h.own, fun i hi => (h.its i hi).but hb (fun j hj => hS j (h.ito i hi j hj).1), h.ito⟩
theorem MemAt.but (h : MemAt w b O M) (hb : But S w w') (hS : ∀ k, O k → ¬ S k) : MemAt w' b O M := by
  have hl := h.lt b h.ob
  obtain ⟨a, cap, A, C, hr⟩ := h.row
  exact ⟨h.ob, fun k hk => Nat.lt_of_lt_of_le (h.lt k hk) hb.size, ⟨a, cap, A, C, hr.but hl hb hS h.ob⟩, by rw [hb.cell (p := ⟨b, 1, none⟩) hl (hS b h.ob)]; exact h.clk,
    by rw [hb.frozen (p := ⟨b, 0, none⟩) hl (hS b h.ob)]; exact h.fz0, by rw [hb.frozen (p := ⟨b, 1, none⟩) hl (hS b h.ob)]; exact h.fz1, h.max, h.rest, h.few⟩
theorem MemAt.below (h : MemAt w b O M) (hb : Below w.heap.size w w') : MemAt w' b O M := h.but (S := fun _ => False) (But.of_below hb) (fun _ _ e => e)
end

/-- What is owned, with what has come since. -/
def own' (O : Nat → Prop) (w w' : World) (k : Nat) : Prop := O k ∨ (w.heap.size ≤ k ∧ k < w'.heap.size)

theorem new5_any (w : World) : Calls Try.prog 9 #[] w fun e w' => e = .returned (.pointer (some ⟨w.heap.size, 0, none⟩)) ∧ MemAt w' w.heap.size (fun k => k = w.heap.size) Mem.empty ∧ Below w.heap.size w w' := by
  go_enter Try.func9, Try.ntmps9
  go_wp2
  go_ret
  refine ⟨rfl, ⟨rfl, fun k hk => by rw [hk]; simp, ⟨none, 0, fun _ => none, fun _ => 0, ?_⟩, ?_, ?_, ?_, Nat.zero_le _, fun _ _ => rfl, fun _ => Nat.zero_le _⟩, (Below.refl _ _).alloc (Nat.le_refl _) _⟩
  · refine ⟨by rw [World.cell?_alloc_new]; rfl, SlAt.nil _ _, (fun j hj => by obtain ⟨x, hx, _⟩ := hj; cases hx), fun i hi => absurd hi (Nat.not_lt_zero _), fun i hi => absurd hi (Nat.not_lt_zero _)⟩
  · rw [World.cell?_alloc_new]; rfl
  · exact World.frozen?_alloc_new w _ _ _
  · exact World.frozen?_alloc_new w _ _ _
/-- The cell of a number, or a zero one. -/
def Mem.look (M : Mem) (i : Int) : CV := if i < 0 then CV.zero else M.cell i.toNat
theorem look_neg {M : Mem} {i : Int} (h : i < 0) : M.look i = CV.zero := if_pos h
theorem look_nat {M : Mem} (i : Nat) : M.look (i : Int) = M.cell i := by unfold Mem.look; rw [if_neg (by omega)]; rfl

theorem read5_any (b : Nat) (O : Nat → Prop) (M : Mem) (i : Int) (w : World) (h : MemAt w b O M) :
    Calls Try.prog 63 #[.pointer (some ⟨b, 0, none⟩), .int .i64 i] w fun e w' => ∃ a' cap', e = .returned (.agg #[.int .u64 (M.look i).ver, .int .i64 (M.look i).n, .slice a' (M.look i).L.length cap']) ∧
      SlAt 2 w' a' cap' (M.look i).L.length (flatI (M.look i).L) ∧ (∀ j, inB a' j → w.heap.size ≤ j) ∧ Below w.heap.size w w' := by
  obtain ⟨a, cap, A, C, hr⟩ := h.row
  have hd := hr.hd
  have hmax := h.max
  have hbl := h.lt b h.ob
  have hz : ∀ W, M.look i = CV.zero → Below w.heap.size w W → ∃ a' cap', Value.agg #[.int .u64 0, .int .i64 0, .slice none 0 0] = Value.agg #[.int .u64 (M.look i).ver, .int .i64 (M.look i).n, .slice a' (M.look i).L.length cap'] ∧
      SlAt 2 W a' cap' (M.look i).L.length (flatI (M.look i).L) ∧ (∀ j, inB a' j → w.heap.size ≤ j) ∧ Below w.heap.size w W := fun W e hB => by
    rw [e]
    exact ⟨none, 0, rfl, SlAt.nil _ _, (fun j hj => by obtain ⟨x, hx, _⟩ := hj; cases hx), hB⟩
  by_cases h0 : i < 0
  · have HZ := hidq (fun W => hz W (look_neg h0))
    clear hr h hz
    go_enter Try.func63, Try.ntmps63
    go_wp2
    obtain ⟨a', cap', hv, hq⟩ := HZ.out _ ((Below.refl _ _).alloc (Nat.le_refl _) _)
    exact bodyPost_ret (v := .agg #[.int .u64 0, .int .i64 0, .slice none 0 0]) (by simp [results, Try.results63, go_sem]) rfl ⟨a', cap', congrArg _ hv, hq⟩
  · have h0' : decide (i < 0) = false := decide_eq_false h0
    obtain ⟨k, rfl⟩ : ∃ k : Nat, i = (k : Int) := ⟨i.toNat, by omega⟩
    by_cases h1 : M.len ≤ k
    · have HZ := hidq (fun W => hz W (by rw [look_nat]; exact h.rest k h1))
      have h1i : (M.len : Int) ≤ (k : Int) := by omega
      clear hr h hz
      generalize M.len = n at *
      go_enter Try.func63, Try.ntmps63
      go_wp2
      obtain ⟨a', cap', hv, hq⟩ := HZ.out _ ((Below.refl _ _).alloc (Nat.le_refl _) _)
      exact bodyPost_ret (v := .agg #[.int .u64 0, .int .i64 0, .slice none 0 0]) (by simp [results, Try.results63, go_sem]) rfl ⟨a', cap', congrArg _ hv, hq⟩
    · rw [look_nat]
      have h1' : decide ((M.len : Int) ≤ (k : Int)) = false := decide_eq_false (by omega)
      have h1i : (k : Int) < (M.len : Int) := by omega
      obtain ⟨g, rfl, hg, hc0⟩ := hr.sl.cell (flatC_0 M A C k (by omega))
      obtain ⟨g1, e1, _, hc1⟩ := hr.sl.cell (flatC_1 M A C k (by omega))
      obtain ⟨g2, e2, _, hc2⟩ := hr.sl.cell (flatC_2 M A C k (by omega))
      cases e1; cases e2
      have hcp := hidq (copied_any (M.cell k).ver (M.cell k).n (A k) (C k) _ _ (w.alloc (boxC 0 0 (.slice none 0 0))) ((hr.its k (by omega)).but (S := fun _ => False) ((But.refl _ _).alloc _) (fun _ _ e => e)) (h.few k))
      have hle := hr.sl.le
      generalize (M.cell k).ver = v at *
      generalize (M.cell k).n = x at *
      generalize (M.cell k).L = L at *
      generalize A k = ak at *
      generalize C k = ck at *
      clear hr h hz
      generalize M.len = n at *
      go_enter Try.func63, Try.ntmps63
      go_wp2_with fail
      refine hcp.out.mono ?_
      rintro e w1 ⟨a', cap', rfl, hS, hF, hb⟩
      have hz2 : w.heap.size < w1.heap.size := by have := hb.size; simp at this; omega
      have d0 : w1.cell? ⟨w.heap.size, 0, none⟩ = some (.int .u64 0) := by rw [hb.cell (p := ⟨w.heap.size, 0, none⟩) (by simp)]; simp
      have d1 : w1.cell? ⟨w.heap.size, 1, none⟩ = some (.int .i64 0) := by rw [hb.cell (p := ⟨w.heap.size, 1, none⟩) (by simp)]; simp
      have d2 : w1.cell? ⟨w.heap.size, 2, none⟩ = some (.slice none 0 0) := by rw [hb.cell (p := ⟨w.heap.size, 2, none⟩) (by simp)]; simp
      have z0 : w1.frozen? ⟨w.heap.size, 0, none⟩ = false := by rw [hb.frozen (p := ⟨w.heap.size, 0, none⟩) (by simp)]; simp
      have z1 : w1.frozen? ⟨w.heap.size, 1, none⟩ = false := by rw [hb.frozen (p := ⟨w.heap.size, 1, none⟩) (by simp)]; simp
      have z2 : w1.frozen? ⟨w.heap.size, 2, none⟩ = false := by rw [hb.frozen (p := ⟨w.heap.size, 2, none⟩) (by simp)]; simp
      have hB0 : Below w.heap.size w w1 := ((Below.refl _ _).alloc (Nat.le_refl _) _).trans (hb.mono (by simp))
      have hfin := hidq (fun w2 (h2 : But (fun j => j = w.heap.size) w1 w2) => (show SlAt 2 w2 a' cap' L.length (flatI L) ∧ (∀ j, inB a' j → w.heap.size ≤ j) ∧ Below w.heap.size w w2 from
        ⟨hS.but h2 (fun j hj e => by have := hF j hj; simp at this; omega), fun j hj => by have := hF j hj; simp at this; omega, hB0.trans (h2.below hB0.size (fun j e => by omega))⟩))
      clear hb hS hF hB0 hcp
      go_wp2
      refine bodyPost_ret (v := .agg #[.int .u64 v, .int .i64 x, .slice a' L.length cap']) (by simp [results, Try.results63, go_sem, d0, d1, d2]) rfl ⟨a', cap', rfl, hfin.out _ ?_⟩
      exact (((But.refl (fun j => j = w.heap.size) w1).set1 _ _ rfl _).set1 _ _ rfl _).set1 _ _ rfl _

/-- How many cells a memory's row has. -/
def lenIn (w : World) (b : Nat) : Nat := match w.cell? ⟨b, 0, none⟩ with | some (.slice _ n _) => n | _ => 0
theorem lenIn_at {w : World} {b : Nat} {O : Nat → Prop} {M : Mem} (h : MemAt w b O M) : lenIn w b = M.len := by
  obtain ⟨a, cap, A, C, hr⟩ := h.row
  unfold lenIn; rw [hr.hd]
theorem plainC : PlainK Try.prog 3 86 114 := by
  have h : (Try.prog.info? 114).map (fun i => (i.zero, i.size, i.bytes)) = some (some (.agg #[.int .u64 0, .int .i64 0, .slice none 0 0]), 3, 40) := by kernel_rfl
  obtain ⟨i, hi, he⟩ := Option.map_eq_some_iff.1 h
  simp only [Prod.mk.injEq] at he
  exact ⟨i, _, Try.underlying86, hi, he.1, he.2.1, rfl, by rw [he.2.2]; decide⟩

/-- One cell more at the end. -/
theorem flatC_snoc (M : Mem) (A : Nat → Option Addr) (C : Nat → Nat) (hz : M.cell M.len = CV.zero) :
    flatC (M.reach (M.len + 1)) (fun i => if i = M.len then none else A i) (fun i => if i = M.len then 0 else C i) = flatC M A C ++ [.int .u64 0, .int .i64 0, .slice none 0 0] := by
  have hm : (M.reach (M.len + 1)).len = M.len + 1 := by show max M.len (M.len + 1) = _; omega
  have hcell : ∀ j, (M.reach (M.len + 1)).cell j = M.cell j := fun _ => rfl
  apply List.ext_getElem?
  intro t
  by_cases ht : t < M.len * 3
  · rw [flatC_get _ _ _ t (by rw [hm]; omega), List.getElem?_append_left (by rw [flatC_length]; exact ht), flatC_get _ _ _ t ht]
    unfold cellC
    dsimp only
    rw [hcell, if_neg (show ¬ t / 3 = M.len by omega), if_neg (show ¬ t / 3 = M.len by omega)]
  · rw [List.getElem?_append_right (by rw [flatC_length]; omega), flatC_length]
    by_cases ht2 : t < (M.len + 1) * 3
    · rw [flatC_get _ _ _ t (by rw [hm]; exact ht2)]
      have : t = M.len * 3 ∨ t = M.len * 3 + 1 ∨ t = M.len * 3 + 2 := by omega
      unfold cellC
      rw [hcell]
      rcases this with rfl | rfl | rfl
      · rw [if_pos (by omega), show M.len * 3 / 3 = M.len by omega, hz, show M.len * 3 - M.len * 3 = 0 by omega]; rfl
      · rw [if_neg (by omega), if_pos (by omega), show (M.len * 3 + 1) / 3 = M.len by omega, hz, show M.len * 3 + 1 - M.len * 3 = 1 by omega]; rfl
      · rw [if_neg (by omega), if_neg (by omega), show (M.len * 3 + 2) / 3 = M.len by omega, hz, show M.len * 3 + 2 - M.len * 3 = 2 by omega]; dsimp only; rw [if_pos rfl, if_pos rfl]; rfl
    · rw [List.getElem?_eq_none (by rw [flatC_length, hm]; omega), List.getElem?_eq_none (by simp; omega)]

/-! Parts of a cell, of a value. -/
theorem fldC_0 (x y z : Value) (w : World) : (Instr.field 114 (.agg #[x, y, z]) 0).run Try.prog w = .ok x w := by kernel_rfl
theorem fldC_1 (x y z : Value) (w : World) : (Instr.field 114 (.agg #[x, y, z]) 1).run Try.prog w = .ok (.agg #[y, z]) w := by kernel_rfl
theorem fldV_0 (x y : Value) (w : World) : (Instr.field 112 (.agg #[x, y]) 0).run Try.prog w = .ok x w := by kernel_rfl
theorem fldV_1 (x y : Value) (w : World) : (Instr.field 112 (.agg #[x, y]) 1).run Try.prog w = .ok y w := by kernel_rfl
end Go.Proofs.Ytbcmilfajeanbaa

namespace Go.Proofs.Ytbcmilfajeanbaa
open Go.RowKit Go.Sort

/-- A value that was made: what was made of the first six. -/
def OwnEnd (x : Int) (n : Nat) (K V : Nat → Int) (w : World) (e : Ending) (w' : World) : Prop :=
  ∃ m a' cap', m = min n 6 ∧ e = .returned (.agg #[.int .i64 x, .slice a' m cap']) ∧ SlAt 2 w' a' cap' m (flatI (kts (rawL K V m))) ∧ (∀ j, inB a' j → w.heap.size ≤ j) ∧ Below w.heap.size w w'

end Go.Proofs.Ytbcmilfajeanbaa

namespace Go.Proofs.Ytbcmilfajeanbaa
open Go.RowKit Go.Sort

abbrev boxRI (q v : Int) : Obj := .cells #[.int .u64 q, .int .i64 v] 100

/-- A value that was made: what was made of the first six. -/
def ToldEnd (x : Int) (n : Nat) (K V : Nat → Int) (w : World) (e : Ending) (w' : World) : Prop :=
  ∃ m a' cap', m = min n 6 ∧ e = .returned (.agg #[.int .i64 x, .slice a' m cap']) ∧ SlAt 2 w' a' cap' m (flatR (rawL K V m)) ∧ (∀ j, inB a' j → w.heap.size ≤ j) ∧ Below w.heap.size w w'

end Go.Proofs.Ytbcmilfajeanbaa

namespace Go.Proofs.Ytbcmilfajeanbaa
open Go.RowKit Go.Sort

theorem isV_eq (x : KI) : isV x.b x.v (ni x.b) x.v = 0 := if_pos ⟨rfl, rfl⟩
set_option maxHeartbeats 1000000 in
theorem are5_any (a1 a2 : Option Addr) (c1 c2 n : Nat) (L : List KI) (w : World) (hL : L.length = n) (h1 : SlAt 2 w a1 c1 n (flatI (kts L))) (h2 : SlAt 2 w a2 c2 n (flatR L)) (hn : n ≤ 1000000) :
    Calls Try.prog 53 #[.slice a1 n c1, .slice a2 n c2] w fun e w' => e = .returned (.int .i64 0) ∧ Below w.heap.size w w' := by
  have hn1 : (n : Int) ≤ 1000000 := by omega
  go_enter Try.func53, Try.ntmps53
  go_wp2
  go_loopw [13] (fun c wr => ∃ (k : Nat), c = .int .i64 (k : Int) ∧ k ≤ n ∧ Below w.heap.size w wr) (fun c _ => n - (intOf c).toNat)
  case atStart => exact ⟨0, rfl, Nat.zero_le _, Below.refl _ _⟩
  case round =>
    obtain ⟨k, rfl, hk, hB⟩ := hrel
    by_cases hlt : k < n
    · have hkl : k < L.length := by omega
      have hkl2 : k < (kts L).length := by rw [kts_length]; exact hkl
      obtain ⟨g1, rfl, hl1, e0⟩ := h1.cell (flatI_get (kts L) k hkl2).1
      obtain ⟨g1', q1, _, e1⟩ := h1.cell (flatI_get (kts L) k hkl2).2
      cases q1
      obtain ⟨g2, rfl, hl2, f0⟩ := h2.cell (flatR_get L k hkl).1
      obtain ⟨g2', q2, _, f1⟩ := h2.cell (flatR_get L k hkl).2
      cases q2
      have hx : (kts L)[k] = (L[k].b, L[k].v) := by simp [kts, kt]
      rw [hx] at e0 e1
      have e0' := (hB.cell (p := ⟨g1, k * 2, none⟩) hl1).trans e0
      have e1' := (hB.cell (p := ⟨g1, k * 2 + 1, none⟩) hl1).trans e1
      have f0' := (hB.cell (p := ⟨g2, k * 2, none⟩) hl2).trans f0
      have f1' := (hB.cell (p := ⟨g2, k * 2 + 1, none⟩) hl2).trans f1
      have hle1 := h1.le
      have hle2 := h2.le
      generalize L[k] = x at *
      have his := hidd (fun w => is_any x.b x.v (ni x.b) x.v w)
      rw [isV_eq] at his
      have k1 : (k : Int) < (n : Int) := by omega
      clear hx e0 e1 f0 f1 hL
      go_wp2
      go_region_with (go_at_call 85; refine (his.out _).mono ?_; rintro e w3 ⟨rfl, hb3⟩)
      all_goals go_wp2
      all_goals exact ⟨⟨k + 1, rfl, by omega, hB.trans ((((But.refl (fun _ => False) wr).drew).trans (But.of_below hb3)).below hB.size (fun _ e => e.elim))⟩, by simp [intOf]; omega⟩
    · have hkn : k = n := by omega
      subst hkn
      clear hL
      go_wp2
      go_ret
      exact ⟨rfl, hB⟩

end Go.Proofs.Ytbcmilfajeanbaa

namespace Go.Proofs.Ytbcmilfajeanbaa
open Go.RowKit Go.Sort

def eqK (x y : KI) : Bool := decide (cmpN x.b x.v y.b y.v = 0)
def sameK (L M : List KI) : Bool := decide (L.length = M.length ∧ ∀ k, k < L.length → eqK L[k]! M[k]! = true)
theorem eqK_self (x : KI) : eqK x x = true := by
  unfold eqK; rw [decide_eq_true_eq, cmpN_same (by rw [cmpI_zero]), cmpI_zero]
theorem sameK_self (L : List KI) : sameK L L = true := decide_eq_true ⟨rfl, fun _ _ => eqK_self _⟩
theorem SlAt.item {w : World} {a : Option Addr} {cap n : Nat} {L : List KI} (h : SlAt 2 w a cap n (flatI (kts L))) (hL : L.length = n) {k : Nat} (hk : k < n) : ∃ g, a = some ⟨g, 0, none⟩ ∧ g < w.heap.size ∧ w.cell? ⟨g, k * 2, none⟩ = some (.float .f64 L[k]!.b) ∧ w.cell? ⟨g, k * 2 + 1, none⟩ = some (.int .i64 L[k]!.v) := by
  have hkl : k < L.length := by omega
  have hk2 : k < (kts L).length := by rw [kts_length]; exact hkl
  obtain ⟨g, rfl, hl, e0⟩ := h.cell (flatI_get (kts L) k hk2).1
  obtain ⟨g', q, _, e1⟩ := h.cell (flatI_get (kts L) k hk2).2
  cases q
  have hx : (kts L)[k] = (L[k]!.b, L[k]!.v) := by rw [getElem!_pos L k hkl]; simp [kts, kt]
  rw [hx] at e0 e1
  exact ⟨g, rfl, hl, e0, e1⟩
theorem SlAt.itemR {w : World} {a : Option Addr} {cap n : Nat} {L : List KI} (h : SlAt 2 w a cap n (flatR L)) (hL : L.length = n) {k : Nat} (hk : k < n) : ∃ g, a = some ⟨g, 0, none⟩ ∧ g < w.heap.size ∧ w.cell? ⟨g, k * 2, none⟩ = some (.int .u64 (ni L[k]!.b)) ∧ w.cell? ⟨g, k * 2 + 1, none⟩ = some (.int .i64 L[k]!.v) := by
  have hkl : k < L.length := by omega
  obtain ⟨g, rfl, hl, e0⟩ := h.cell (flatR_get L k hkl).1
  obtain ⟨g', q, _, e1⟩ := h.cell (flatR_get L k hkl).2
  cases q
  rw [← getElem!_pos L k hkl] at e0 e1
  exact ⟨g, rfl, hl, e0, e1⟩
end Go.Proofs.Ytbcmilfajeanbaa

namespace Go.Proofs.Ytbcmilfajeanbaa
open Go.RowKit Go.Sort

theorem item_at {w : World} {a : Option Addr} {cap n : Nat} {L : List It} (h : SlAt 2 w a cap n (flatI L)) (hL : L.length = n) {k : Nat} (hk : k < n) : ∃ g, a = some ⟨g, 0, none⟩ ∧ g < w.heap.size ∧ w.cell? ⟨g, k * 2, none⟩ = some (.float .f64 L[k]!.1) ∧ w.cell? ⟨g, k * 2 + 1, none⟩ = some (.int .i64 L[k]!.2) := by
  have hkl : k < L.length := by omega
  obtain ⟨g, rfl, hl, e0⟩ := h.cell (flatI_get L k hkl).1
  obtain ⟨g', q, _, e1⟩ := h.cell (flatI_get L k hkl).2
  cases q
  rw [← getElem!_pos L k hkl] at e0 e1
  exact ⟨g, rfl, hl, e0, e1⟩
/-- Are two items the same, of any bits? -/
def eqI (x y : It) : Bool := decide (cmpN x.1 x.2 y.1 y.2 = 0)
def sameI (L M : List It) : Bool := decide (L.length = M.length ∧ ∀ k, k < L.length → eqI L[k]! M[k]! = true)
theorem wsame1_any (x y : It) (hx : x.1 < 18446744073709551616) (hy : y.1 < 18446744073709551616) (w : World) : Calls Try.prog 42 #[.agg #[.float .f64 x.1, .int .i64 x.2], .agg #[.float .f64 y.1, .int .i64 y.2]] w fun e w' => e = .returned (.bool (eqI x y)) ∧ Below w.heap.size w w' := by
  have hC := hidq (fun w => icmp_any x.1 y.1 x.2 y.2 w hx hy)
  cases he : eqI x y
  · have hb : (cmpN x.1 x.2 y.1 y.2 == 0) = false := by unfold eqI at he; simpa using he
    generalize cmpN x.1 x.2 y.1 y.2 = c at *
    clear he
    go_enter Try.func42, Try.ntmps42
    go_wp2_with (go_at_call 43; refine (hC.out _).mono ?_; rintro e w1 ⟨rfl, hw⟩; replace hw := hw.symm; subst hw)
    go_ret
    exact ⟨rfl, ((((Below.refl _ _).alloc (Nat.le_refl _) _).alloc (by simp) _).alloc (by simp; omega) _).alloc (by simp; omega) _⟩
  · have hb : cmpN x.1 x.2 y.1 y.2 = 0 := by unfold eqI at he; simpa using he
    rw [hb] at hC
    clear he hb
    go_enter Try.func42, Try.ntmps42
    go_wp2_with (go_at_call 43; refine (hC.out _).mono ?_; rintro e w1 ⟨rfl, hw⟩; replace hw := hw.symm; subst hw)
    go_ret
    exact ⟨rfl, ((((Below.refl _ _).alloc (Nat.le_refl _) _).alloc (by simp) _).alloc (by simp; omega) _).alloc (by simp; omega) _⟩

set_option maxHeartbeats 2000000 in
theorem wequalFunc_any (a1 a2 : Option Addr) (c1 c2 n1 n2 : Nat) (L M : List It) (w : World) (hL : L.length = n1) (hM : M.length = n2) (h1 : SlAt 2 w a1 c1 n1 (flatI L)) (h2 : SlAt 2 w a2 c2 n2 (flatI M)) (hn : n1 ≤ 1000000) (hBL : ∀ k, k < n1 → L[k]!.1 < 18446744073709551616) (hBM : ∀ k, k < n2 → M[k]!.1 < 18446744073709551616) :
    Calls Try.prog 41 #[.slice a1 n1 c1, .slice a2 n2 c2, .func (.func 42) #[] #[]] w fun e w' => e = .returned (.bool (sameI L M)) ∧ Below w.heap.size w w' := by
  have hsf := run_store_float (P := Try.prog)
  by_cases hnn : n1 = n2
  · subst hnn
    have hn1 : (n1 : Int) ≤ 1000000 := by omega
    have hle1 := h1.le
    have hle2 := h2.le
    go_enter Try.func41, Try.ntmps41
    have HL := hidq hL
    have HM := hidq hM
    have HbL := hidq hBL
    have HbM := hidq hBM
    clear hL hM hBL hBM
    go_wp2
    go_loopw [17] (fun c wr => ∃ (k : Nat), c = .int .i64 (k : Int) ∧ k ≤ n1 ∧ Below w.heap.size w wr ∧ ∀ j, j < k → eqI L[j]! M[j]! = true) (fun c _ => n1 - (intOf c).toNat)
    case atStart => exact ⟨0, rfl, Nat.zero_le _, Below.refl _ _, fun j hj => absurd hj (Nat.not_lt_zero _)⟩
    case round =>
      obtain ⟨k, rfl, hk, hB, hall⟩ := hrel
      by_cases hlt : k < n1
      · obtain ⟨g1, rfl, hl1, e0, e1⟩ := item_at h1 HL.out hlt
        obtain ⟨g2, rfl, hl2, f0, f1⟩ := item_at h2 HM.out hlt
        have e0' := (hB.cell (p := ⟨g1, k * 2, none⟩) hl1).trans e0
        have e1' := (hB.cell (p := ⟨g1, k * 2 + 1, none⟩) hl1).trans e1
        have f0' := (hB.cell (p := ⟨g2, k * 2, none⟩) hl2).trans f0
        have f1' := (hB.cell (p := ⟨g2, k * 2 + 1, none⟩) hl2).trans f1
        have k1 : (k : Int) < (n1 : Int) := by omega
        have hS := hidq (fun w => wsame1_any L[k]! M[k]! (HbL.out k hlt) (HbM.out k hlt) w)
        have hg1 : g1 < wr.heap.size := by have := hB.size; omega
        have hg2 : g2 < wr.heap.size := by have := hB.size; omega
        cases hq : eqI L[k]! M[k]!
        · have hF : sameI L M = false := decide_eq_false (fun e => by have := e.2 k (by have := HL.out; omega); rw [hq] at this; cases this)
          have HF := hidq hF
          rw [hq] at hS
          clear hall hq hF e0 e1 f0 f1
          generalize L[k]! = x at *
          generalize M[k]! = y at *
          go_wp2_with fail
          refine (hS.out _).mono ?_
          rintro e w3 ⟨rfl, hb3⟩
          go_wp2
          go_ret
          refine ⟨by rw [HF.out]; rfl, ?_⟩
          exact (((hB.trans ((Below.refl _ _).alloc hB.size _)).trans ((Below.refl _ _).alloc (by have := hB.size; simp; omega) _))).trans (hb3.mono (by have := hB.size; simp; omega))
        · have hnx : ∀ j, j < k + 1 → eqI L[j]! M[j]! = true := fun j hj => by
            rcases Nat.lt_succ_iff_lt_or_eq.1 hj with h | h
            · exact hall j h
            · rw [h]; exact hq
          have HX := hidq hnx
          rw [hq] at hS
          clear hall hq hnx e0 e1 f0 f1
          generalize L[k]! = x at *
          generalize M[k]! = y at *
          go_wp2_with fail
          refine (hS.out _).mono ?_
          rintro e w3 ⟨rfl, hb3⟩
          go_wp2
          refine ⟨⟨k + 1, rfl, by omega, ?_, HX.out⟩, by simp [intOf]; omega⟩
          exact (((hB.trans ((Below.refl _ _).alloc hB.size _)).trans ((Below.refl _ _).alloc (by have := hB.size; simp; omega) _))).trans (hb3.mono (by have := hB.size; simp; omega))
      · have hkn : k = n1 := by omega
        have hT : sameI L M = true := decide_eq_true ⟨HL.out.trans HM.out.symm, fun j hj => hall j (by have := HL.out; omega)⟩
        have HT := hidq hT
        have hd : decide ((k : Int) < (n1 : Int)) = false := decide_eq_false (by omega)
        clear hT hall hkn
        go_wp2
        go_ret
        exact ⟨by rw [HT.out]; rfl, hB⟩
  · have hF : sameI L M = false := decide_eq_false (fun e => hnn (by omega))
    rw [hF]
    have hb : ((n1 : Int) != (n2 : Int)) = true := by simp; omega
    clear h1 h2 hF hL hM hBL hBM
    go_enter Try.func41, Try.ntmps41
    go_wp2
    go_ret
    exact ⟨rfl, Below.refl _ _⟩

/-- Two values. -/
def sameV12 (kx ky x y : Int) (L M : List It) : Bool := decide (kx = ky) && (decide (x = y) && sameI L M)
set_option maxRecDepth 20000 in
set_option maxHeartbeats 4000000 in
theorem wsameI_any (kx ky x y : Int) (a1 a2 : Option Addr) (c1 c2 n1 n2 : Nat) (L M : List It) (w : World) (hL : L.length = n1) (hM : M.length = n2) (h1 : SlAt 2 w a1 c1 n1 (flatI L)) (h2 : SlAt 2 w a2 c2 n2 (flatI M)) (hn : n1 ≤ 1000000) (hBL : ∀ k, k < n1 → L[k]!.1 < 18446744073709551616) (hBM : ∀ k, k < n2 → M[k]!.1 < 18446744073709551616) :
    Calls Try.prog 12 #[.agg #[.int .i64 kx, .slice a1 n1 c1, .int .i64 x], .agg #[.int .i64 ky, .slice a2 n2 c2, .int .i64 y]] w fun e w' => e = .returned (.bool (sameV12 kx ky x y L M)) ∧ Below w.heap.size w w' := by
  have hb : Below w.heap.size w ((w.alloc (.cells #[.int .i64 kx, .slice a1 n1 c1, .int .i64 x] 28)).alloc (.cells #[.int .i64 ky, .slice a2 n2 c2, .int .i64 y] 28)) := ((Below.refl _ _).alloc (Nat.le_refl _) _).alloc (by simp) _
  have HB := hidq hb
  by_cases hk : kx = ky
  · subst hk
    by_cases hxy : x = y
    · subst hxy
      have hv : sameV12 kx kx x x L M = sameI L M := by unfold sameV12; simp
      rw [hv]
      have hE := hidq (wequalFunc_any a1 a2 c1 c2 n1 n2 L M _ hL hM (h1.below hb) (h2.below hb) hn hBL hBM)
      generalize sameI L M = s at *
      clear h1 h2 hL hM hBL hBM hb hv
      go_enter Try.func12, Try.ntmps12
      go_wp2_with fail
      refine hE.out.mono ?_
      rintro e w1 ⟨rfl, hb1⟩
      have HC := hidq hb1
      clear hb1
      go_wp2
      go_ret
      exact ⟨rfl, HB.out.trans (HC.out.mono HB.out.size)⟩
    · have hv : sameV12 kx kx x y L M = false := by unfold sameV12; simp [hxy]
      rw [hv]
      have hbx : (x == y) = false := by simpa using hxy
      clear h1 h2 hL hM hBL hBM hb hv hxy
      go_enter Try.func12, Try.ntmps12
      go_wp2
      go_ret
      exact ⟨rfl, HB.out⟩
  · have hv : sameV12 kx ky x y L M = false := by unfold sameV12; simp [hk]
    rw [hv]
    have hbx : (kx == ky) = false := by simpa using hk
    clear h1 h2 hL hM hBL hBM hb hv hk
    go_enter Try.func12, Try.ntmps12
    go_wp2
    go_ret
    exact ⟨rfl, HB.out⟩

/-- Two values of canonical items. -/
def sameW (kx ky x y : Int) (L M : List KI) : Bool := decide (kx = ky) && (decide (x = y) && sameK L M)
theorem sameW_self (k x : Int) (L : List KI) : sameW k k x x L L = true := by unfold sameW; rw [sameK_self]; simp
theorem kts_at (L : List KI) (k : Nat) (hk : k < L.length) : (kts L)[k]! = kt L[k]! := by
  rw [getElem!_pos (kts L) k (by rw [kts_length]; exact hk), getElem!_pos L k hk]; simp [kts]
theorem sameI_kts (L M : List KI) : sameI (kts L) (kts M) = sameK L M := by
  unfold sameI sameK
  refine decide_eq_decide.2 ?_
  rw [kts_length, kts_length]
  refine ⟨fun h => ⟨h.1, fun k hk => ?_⟩, fun h => ⟨h.1, fun k hk => ?_⟩⟩
  · have := h.2 k hk
    rw [kts_at L k hk, kts_at M k (by omega)] at this
    exact this
  · rw [kts_at L k hk, kts_at M k (by have := h.1; omega)]
    exact h.2 k hk
theorem kts_bits (L : List KI) (k : Nat) (hk : k < L.length) : (kts L)[k]!.1 < 18446744073709551616 := by
  rw [kts_at L k hk]; exact (KI.ok _).1
theorem wsame_any (kx ky x y : Int) (a1 a2 : Option Addr) (c1 c2 n1 n2 : Nat) (L M : List KI) (w : World) (hL : L.length = n1) (hM : M.length = n2) (h1 : SlAt 2 w a1 c1 n1 (flatI (kts L))) (h2 : SlAt 2 w a2 c2 n2 (flatI (kts M))) (hn : n1 ≤ 1000000) :
    Calls Try.prog 12 #[.agg #[.int .i64 kx, .slice a1 n1 c1, .int .i64 x], .agg #[.int .i64 ky, .slice a2 n2 c2, .int .i64 y]] w fun e w' => e = .returned (.bool (sameW kx ky x y L M)) ∧ Below w.heap.size w w' := by
  have := wsameI_any kx ky x y a1 a2 c1 c2 n1 n2 (kts L) (kts M) w (by rw [kts_length]; exact hL) (by rw [kts_length]; exact hM) h1 h2 hn (fun k hk => kts_bits L k (by omega)) (fun k hk => kts_bits M k (by omega))
  unfold sameV12 at this
  rw [sameI_kts] at this
  exact this
end Go.Proofs.Ytbcmilfajeanbaa

namespace Go.Proofs.Ytbcmilfajeanbaa
open Go.RowKit Go.Sort

theorem clear1 (g o c : Nat) (ty : TypeId) (W : World) (hc : ∀ j, j < 2 → (W.cell? ⟨g, o + j, none⟩).isSome = true ∧ W.frozen? ⟨g, o + j, none⟩ = false) :
    (Builtin.clear_ #[26] ty #[.slice (some ⟨g, o, none⟩) 1 c]).run Try.prog W = .ok (.tuple #[]) (W.setCells g o [.float .f64 0, .int .i64 0]) := by
  have hst := run_storeCells_cells (P := Try.prog) g o [.float .f64 0, .int .i64 0] 0 W (fun j hj => (hc j hj).1) (fun j hj => (hc j hj).2) (fun v hv => by simp at hv; rcases hv with rfl | rfl <;> rfl)
  rw [Nat.add_zero] at hst
  have hz : (Builtin.zeroCells #[Value.float .f64 0, Value.int .i64 0] 1).toList = [.float .f64 0, .int .i64 0] := by simp [Builtin.zeroCells, Array.range]
  simp [Builtin.clear_, run_underlying Try.underlying26, Try.zeroValue39, Value.cells, hz, hst]
theorem But.cells {S : Nat → Prop} (g : Nat) (hg : S g) : ∀ (vs : List Value) (o : Nat) (a b : World), But S a b → But S a (b.setCells g o vs)
  | [], _, _, _, h => h
  | v :: r, o, a, _, h => But.cells g hg r (o + 1) a _ (h.set1 g o hg v)
set_option maxHeartbeats 4000000 in
set_option maxRecDepth 100000 in
theorem delete_any (g cap n i : Nat) (L : List It) (w : World) (h : Flat 2 w g cap n (flatI L)) (hL : L.length = n) (hi : i < n) (hn : n ≤ 1000000) :
    Calls Try.prog 77 #[.slice (some ⟨g, 0, none⟩) n cap, .int .i64 (i : Int), .int .i64 ((i + 1 : Nat) : Int)] w fun e w' => e = .returned (.slice (some ⟨g, 0, none⟩) (n - 1) cap) ∧ Flat 2 w' g cap (n - 1) (flatI (L.eraseIdx i)) ∧ But (fun j => j = g) w w' := by
  obtain ⟨i0, z0, hT, hi0, hz0, hz1, hz2, hby⟩ := plainI
  obtain ⟨news, hnw⟩ : ∃ news, flatI (L.drop (i + 1)) = news := ⟨_, rfl⟩
  have hnl : news.length = (n - (i + 1)) * 2 := by rw [← hnw, flatI_length, List.length_drop, hL]
  have hle := h.le
  have hmx := h.cmax
  have hcell : ∀ j u, news[j]? = some u → w.cell? ⟨g, (i + 1) * 2 + j, none⟩ = some u := fun j u hu => by
    refine h.cell _ u ?_
    rw [← hnw] at hu
    rw [← hu]
    have := List.take_append_drop (i + 1) L
    conv => lhs; rw [← this]
    rw [flatI_append, List.getElem?_append_right (by rw [flatI_length, List.length_take]; omega), flatI_length, List.length_take, show min (i + 1) L.length = i + 1 by omega]
    congr 1
    omega
  obtain ⟨A, hA, hnews⟩ : ∃ A : Addr, (if cap = i + 1 then some (⟨g, 0, none⟩ : Addr) else some ⟨g, (i + 1) * 2, none⟩) = some A ∧ Hid (∀ j u, news[j]? = some u → w.drew.cell? (A.add j) = some u) := by
    by_cases hc : cap = i + 1
    · refine ⟨⟨g, 0, none⟩, by simp [hc], fun j u hu => ?_⟩
      have h0 : news.length = 0 := by rw [hnl]; omega
      rw [List.length_eq_zero_iff.1 h0] at hu
      simp at hu
    · exact ⟨⟨g, (i + 1) * 2, none⟩, by simp [hc], fun j u hu => by rw [Addr.add_lit]; exact hcell j u hu⟩
  have s1 : Hid (news.length = (n - (i + 1)) * 2) := hnl
  have s2 : Hid (∀ u ∈ news, u.oneCell' = true) := fun u hu => by rw [← hnw] at hu; exact flatI_one _ u hu
  have s3 : Hid (∀ j, j < news.length → (w.drew.cell? ⟨g, 0 + i * 2 + j, none⟩).isSome = true ∧ w.drew.frozen? ⟨g, 0 + i * 2 + j, none⟩ = false) := fun j hj => by
    rw [hnl] at hj
    exact h.there (0 + i * 2 + j) (by omega)
  have hic : i ≤ cap := by omega
  have hin : (i : Int) ≤ (n : Int) := by omega
  have hj1 : ((i + 1 : Nat) : Int) ≤ (n : Int) := by omega
  have hjc : ((i + 1 : Nat) : Int) ≤ (cap : Int) := by omega
  have hnc : (n : Int) ≤ (cap : Int) := by omega
  have hij : ((i : Int) == ((i + 1 : Nat) : Int)) = false := by simp; omega
  have hp0 : (0 : Int) ≤ (i : Int) + 1 := by omega
  have hp1 : (i : Int) + 1 ≤ (n : Int) := by omega
  have hp2 : ((i : Int) + 1).toNat = i + 1 := by omega
  have hm : i + (n - (i + 1)) = n - 1 := by omega
  have HH := hidq h
  clear h hcell
  go_enter Try.func77, Try.ntmps77
  go_wp2_with fail
  go_region_law (refine step_append_room rfl (.tmp 22) (.tmp 25) 26 rfl 39 i0 2 hT hi0 hz1 g 0 i cap (by simp [Act.eval, Act.put]) A (n - (i + 1)) (cap - (i + 1)) news (by simp [Act.eval, Act.put]) s1.out hnews.out s2.out (by omega) s3.out ?_)
  go_wp2_with fail
  have hn1 : n - (n - 1) = 1 := by omega
  rw [hn1]
  have hW1 : ∀ j, j < 2 → ((w.drew.setCells g (i * 2) news).cell? ⟨g, (n - 1) * 2 + j, none⟩).isSome = true ∧ (w.drew.setCells g (i * 2) news).frozen? ⟨g, (n - 1) * 2 + j, none⟩ = false := fun j hj => by
    obtain ⟨q1, q2⟩ := HH.out.there ((n - 1) * 2 + j) (by omega)
    exact ⟨World.isSome_setCells g news (i * 2) w.drew _ q1, by rw [World.frozen?_setCells]; exact q2⟩
  rw [clear1 g ((n - 1) * 2) (cap - (n - 1)) _ _ hW1]
  go_wp2
  go_ret
  have h := HH.out
  have hf : flatI (L.eraseIdx i) = flatI (L.take i) ++ flatI (L.drop (i + 1)) := by rw [List.eraseIdx_eq_take_drop_succ, flatI_append]
  have hfl : (flatI (L.take i)).length = i * 2 := by rw [flatI_length, List.length_take, hL]; omega
  have hB : But (fun j => j = g) w ((w.drew.setCells g (i * 2) news).setCells g ((n - 1) * 2) [.float .f64 0, .int .i64 0]) :=
    But.cells (S := fun j => j = g) g rfl _ _ _ _ (But.cells (S := fun j => j = g) g rfl _ _ _ _ (But.refl _ w).drew)
  refine ⟨rfl, ⟨Nat.lt_of_lt_of_le h.lt hB.size, ?_, by omega, hmx, fun t u hu => ?_, flatI_one _, fun j hj => ?_⟩, hB⟩
  · rw [flatI_length, List.length_eraseIdx, if_pos (by omega), hL]
  · rw [hf, hnw] at hu
    have ht : t < (n - 1) * 2 := by
      have := (List.getElem?_eq_some_iff.1 hu).1
      rw [List.length_append, hfl, hnl] at this
      omega
    rw [World.cell?_setCells_out g _ _ _ _ (fun _ _ => .inl ht)]
    by_cases hti : t < i * 2
    · rw [World.cell?_setCells_out g _ _ _ _ (fun _ _ => .inl hti)]
      rw [List.getElem?_append_left (by omega)] at hu
      refine h.cell t u ?_
      have := List.take_append_drop i L
      rw [← this, flatI_append, List.getElem?_append_left (by omega)]
      exact hu
    · rw [List.getElem?_append_right (by omega), hfl] at hu
      have hj : t - i * 2 < news.length := (List.getElem?_eq_some_iff.1 hu).1
      have hin := World.cell?_setCells_in g news (i * 2) w.drew (fun j hj => by
        rw [hnl] at hj
        exact (h.there (i * 2 + j) (by omega)).1) (t - i * 2) hj
      rw [show i * 2 + (t - i * 2) = t by omega] at hin
      rw [hin, ← hu, List.getElem?_eq_getElem hj]
  · obtain ⟨q1, q2⟩ := h.there j hj
    exact ⟨World.isSome_setCells g _ _ _ _ (World.isSome_setCells g news (i * 2) w.drew _ q1), by rw [World.frozen?_setCells, World.frozen?_setCells]; exact q2⟩
end Go.Proofs.Ytbcmilfajeanbaa
