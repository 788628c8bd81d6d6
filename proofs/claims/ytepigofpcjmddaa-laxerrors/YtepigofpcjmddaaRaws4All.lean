/-
  Layer 15: what its laws ask first; its law of what isn't looked at.
  Layer 15's law of what isn't looked at: the call returns true.
  Canonical items, and their order.
  Layer 4's laws: items in the making, the document's answers: contracts.
  The document's items, one behind the other.
  Items in the making, as an argument; as the program's, as the document's.
-/
import Derived.Test.YtepigofpcjmddaaGBoxAll
import Derived.Test.YtepigofpcjmddaaPileWAll
import Derived.Test.YtepigofpcjmddaaFrame6All
namespace Go.Proofs.Ytepigofpcjmddaa
open Go.RowKit Go.Sort

theorem lnext_any (n : Int) (w : World) : Calls Try.prog 77 #[.int .i64 n] w fun e w' => ∃ g, e = .returned (.slice (some ⟨g, 0, none⟩) 1 1) ∧ SlAt 12 w' (some ⟨g, 0, none⟩) 1 1 (flatCl [⟨0, 7, 0, 0, 0, 0, 0, 3, ⟨true, 0, 0, n⟩⟩]) ∧ w.heap.size ≤ g ∧ Below w.heap.size w w' := by
  have hsf := run_store_float (P := Try.prog)
  have hF := hidq (Flat.new w (flatCl [⟨0, 7, 0, 0, 0, 0, 0, 3, ⟨true, 0, 0, n⟩⟩]) 101 12 1 rfl (by decide) (fun u hu => by simp [flatCl] at hu; rcases hu with rfl | rfl | rfl | rfl | rfl | rfl | rfl | rfl | rfl | rfl | rfl | rfl <;> rfl))
  go_enter Try.func77, Try.ntmps77
  go_wp2_with fail
  go_ret
  exact ⟨_, rfl, .inr ⟨_, rfl, hF.out⟩, Nat.le_refl _, (Below.refl _ _).alloc (Nat.le_refl _) _⟩

def aw15a (_b1 : Nat) : List (Value → Option Nat → World → Prop) :=
  [fun v _ _ => v = .agg #[.int .i64 4, .slice none 0 0, .int .i64 5],
   fun v _ _ => v = .func (.func 77) #[] #[],
   fun v x w => ∃ g, v = .slice (some ⟨g, 0, none⟩) 1 1 ∧ SlAt 12 w (some ⟨g, 0, none⟩) 1 1 (flatCl [⟨0, 7, 0, 0, 0, 0, 0, 3, ⟨true, 0, 0, 5⟩⟩]) ∧ Gb.Apart x g,
   fun v _ _ => ∃ a' cap', v = .tuple #[.agg #[.int .i64 4, .slice a' 0 cap', .int .i64 6], .int .i64 (-1), .int .i64 0],
   fun v _ _ => ∃ a' cap', v = .tuple #[.agg #[.int .i64 4, .slice a' 0 cap', .int .i64 6], .int .i64 (-1), .int .i64 0],
   fun v _ _ => ∃ a' cap', v = .agg #[.int .i64 4, .slice a' 0 cap', .int .i64 6],
   fun v _ _ => v = .int .i64 (-1),
   fun v _ _ => v = .int .i64 0,
   fun v x _ => ∃ b, x = some b ∧ v = .pointer (some ⟨b, 0, none⟩),
   fun _ _ _ => True,
   fun v _ _ => v = .int .i64 (-1),
   fun v _ _ => v = .int .i64 0]
theorem aw15a_kept (b1 : Nat) : Reg.GAllKept Gb.Pres (aw15a b1) :=
  ⟨(fun _ _ _ _ _ _ h => h), (fun _ _ _ _ _ _ h => h), (fun v x w x' w' hp h => by obtain ⟨g, h1, h2, h3⟩ := h; exact ⟨g, h1, h2.but hp.2.1 (fun j hj e => by obtain ⟨z, hz, rfl⟩ := hj; cases hz; exact h3 g e rfl), h3.kept hp (h2.lt g ⟨_, rfl, rfl⟩)⟩), (fun _ _ _ _ _ _ h => h), (fun _ _ _ _ _ _ h => h), (fun _ _ _ _ _ _ h => h), (fun _ _ _ _ _ _ h => h), (fun _ _ _ _ _ _ h => h), (fun v x w x' w' hp h => by obtain ⟨b, h1, h2⟩ := h; exact ⟨b, hp.1 b h1, h2⟩), (fun _ _ _ _ _ _ _ => trivial), (fun _ _ _ _ _ _ h => h), (fun _ _ _ _ _ _ h => h), trivial⟩
def aw15b (_b1 : Nat) : List (Value → Option Nat → World → Prop) :=
  [fun v _ _ => v = .agg #[.int .i64 4, .slice none 0 0, .int .i64 5],
   fun v _ _ => v = .func (.func 77) #[] #[],
   fun v x w => ∃ g, v = .slice (some ⟨g, 0, none⟩) 1 1 ∧ SlAt 12 w (some ⟨g, 0, none⟩) 1 1 (flatCl [⟨0, 7, 0, 0, 0, 0, 0, 3, ⟨true, 0, 0, 6⟩⟩]) ∧ Gb.Apart x g,
   fun v _ _ => ∃ a' cap', v = .tuple #[.agg #[.int .i64 4, .slice a' 0 cap', .int .i64 5], .int .i64 0, .int .i64 12],
   fun v _ _ => ∃ a' cap', v = .tuple #[.agg #[.int .i64 4, .slice a' 0 cap', .int .i64 5], .int .i64 0, .int .i64 12],
   fun v _ _ => ∃ a' cap', v = .agg #[.int .i64 4, .slice a' 0 cap', .int .i64 5],
   fun v _ _ => v = .int .i64 0,
   fun v _ _ => v = .int .i64 12,
   fun v x _ => ∃ b, x = some b ∧ v = .pointer (some ⟨b, 0, none⟩),
   fun _ _ _ => True,
   fun v _ _ => v = .int .i64 0,
   fun v _ _ => v = .int .i64 12]
theorem aw15b_kept (b1 : Nat) : Reg.GAllKept Gb.Pres (aw15b b1) :=
  ⟨(fun _ _ _ _ _ _ h => h), (fun _ _ _ _ _ _ h => h), (fun v x w x' w' hp h => by obtain ⟨g, h1, h2, h3⟩ := h; exact ⟨g, h1, h2.but hp.2.1 (fun j hj e => by obtain ⟨z, hz, rfl⟩ := hj; cases hz; exact h3 g e rfl), h3.kept hp (h2.lt g ⟨_, rfl, rfl⟩)⟩), (fun _ _ _ _ _ _ h => h), (fun _ _ _ _ _ _ h => h), (fun _ _ _ _ _ _ h => h), (fun _ _ _ _ _ _ h => h), (fun _ _ _ _ _ _ h => h), (fun v x w x' w' hp h => by obtain ⟨b, h1, h2⟩ := h; exact ⟨b, hp.1 b h1, h2⟩), (fun _ _ _ _ _ _ _ => trivial), (fun _ _ _ _ _ _ h => h), (fun _ _ _ _ _ _ h => h), trivial⟩

set_option maxRecDepth 20000 in
set_option maxHeartbeats 8000000 in
theorem awake15_any (w : World) : Calls Try.prog 39 #[] w fun e w' => e = .returned (.bool true) ∧ Below w.heap.size w w' := by
  have hsf := run_store_float (P := Try.prog)
  obtain ⟨b1, hb1⟩ : ∃ b1, w.heap.size = b1 := ⟨_, rfl⟩
  go_enter Try.func39, Try.ntmps39
  go_upto_region 3 with fail
  try rw [hb1]
  obtain ⟨W1, hW1⟩ : ∃ W1, w.alloc (.cells #[.int .i64 4, .slice none 0 0, .int .i64 5] 81) = W1 := ⟨_, rfl⟩
  have H1 := hidq (show Below w.heap.size w W1 ∧ BoxAt W1 b1 [.int .i64 4, .slice none 0 0, .int .i64 5] from by
    rw [← hW1, ← hb1]
    exact ⟨(Below.refl _ _).alloc (Nat.le_refl _) _, BoxAt.new w _ _⟩)
  rw [hW1]
  clear hW1
  have HV : ∀ (w w' : World) (b : Nat), Below w.heap.size w w' → b < w.heap.size → (∃ a' cap', BoxAt w b [.int .i64 4, .slice a' 0 cap', .int .i64 6]) → ∃ a' cap', BoxAt w' b [.int .i64 4, .slice a' 0 cap', .int .i64 6] := fun _ _ _ hb _ h => by obtain ⟨a', c', h⟩ := h; exact ⟨a', c', h.below hb⟩
  have FC3 := hidq (fun W (hW : Below W1.heap.size W1 W) => (show W.cell? ⟨b1, 0, none⟩ = some (.int .i64 4) ∧ W.cell? ⟨b1, 1, none⟩ = some (.slice none 0 0) ∧ W.cell? ⟨b1, 2, none⟩ = some (.int .i64 5) from by
    have q := H1.out.2.below hW
    exact ⟨(q.get 0 _ rfl).1, (q.get 1 _ rfl).1, (q.get 2 _ rfl).1⟩))
  refine Reg.wp_region_ghost (Reg.gofList (aw15a b1)) Gb.Pres (Gb.GI W1 [.int .i64 0, .slice none 0 0, .int .i64 0] (fun w b => ∃ a' cap', BoxAt w b [.int .i64 4, .slice a' 0 cap', .int .i64 6]) 8 9) none (by kernel_rfl) (by kernel_rfl) (Reg.GAllKept.at _ (aw15a_kept b1)) (Gb.GI.start _ _ _ _ _ _) ⟨?_, ?_, ?_, ?_, ?_, ?_, ?_, ?_, ?_, ?_, ?_, ?_, trivial⟩ ?_
  · refine Reg.GStepAt.plain (i := 0) rfl ?_
    intro x L ev w hI hk hp hA
    have e1 : ev (.tmp 1) = .pointer (some ⟨b1, 0, none⟩) := hA.oldNone 1 (by kernel_rfl)
    have hcc := hA.const
    clear hA hp
    obtain ⟨f0, f1, f2⟩ := FC3.out w hI.bel
    refine Reg.out_value (v := .agg #[.int .i64 4, .slice none 0 0, .int .i64 5]) ?_ ⟨x, rfl, Gb.Pres.refl _ _, hI.quiet 0 (by decide) (by decide)⟩
    go_simp
  · refine Reg.GStepAt.plain (i := 1) rfl ?_
    intro x L ev w hI hk hp hA
    have e2 : ev (.tmp 2) = .func (.func 77) #[] #[] := hA.oldNone 2 (by kernel_rfl)
    have hcc := hA.const
    clear hA hp
    refine Reg.out_value (v := .func (.func 77) #[] #[]) ?_ ⟨x, rfl, Gb.Pres.refl _ _, hI.quiet 1 (by decide) (by decide)⟩
    go_simp
  · refine Reg.GStepAt.plain (i := 2) rfl ?_
    intro x L ev w hI hk hp hA
    have e12 : ev (.tmp 12) = .func (.func 77) #[] #[] := hA.val 1 _ 12 rfl (hp ⟨1, .data⟩ (by simp) rfl) rfl
    have hcc := hA.const
    clear hA hp
    refine Reg.out_call (f := 77) (args := #[.int .i64 5]) (w0 := w) ?_ ?_
    · go_simp
    refine (lnext_any 5 w).mono ?_
    rintro e w' ⟨g, rfl, hS', hgs, hb'⟩
    exact ⟨_, rfl, x, ⟨g, rfl, hS', fun b e => by have := (hI.box b e).2.1; omega⟩, Gb.Pres.below hb', (hI.below HV hb').quiet 2 (by decide) (by decide)⟩
  · refine Reg.GStepAt.plain (i := 3) rfl ?_
    intro x L ev w hI hk hp hA
    have e11 : ev (.tmp 11) = .agg #[.int .i64 4, .slice none 0 0, .int .i64 5] := hA.val 0 _ 11 rfl (hp ⟨0, .data⟩ (by simp) rfl) rfl
    have e13 : (fun v x w => ∃ g, v = .slice (some ⟨g, 0, none⟩) 1 1 ∧ SlAt 12 w (some ⟨g, 0, none⟩) 1 1 (flatCl [⟨0, 7, 0, 0, 0, 0, 0, 3, ⟨true, 0, 0, 5⟩⟩]) ∧ Gb.Apart x g) (ev (.tmp 13)) x w := hA.val 2 _ 13 rfl (hp ⟨2, .data⟩ (by simp) rfl) rfl
    have hcc := hA.const
    have hcf := hA.func
    clear hA hp
    obtain ⟨g, e13, hS', _⟩ := e13
    refine Reg.out_call (f := 40) (args := #[.agg #[.int .i64 4, .slice none 0 0, .int .i64 5], .int .i64 4, .slice (some ⟨g, 0, none⟩) 1 1]) (w0 := w) ?_ ?_
    · go_simp
    refine (lax_next 5 (by decide) w (some ⟨g, 0, none⟩) 1 hS' 6 (-1) 0 (by decide)).mono ?_
    rintro e w' ⟨a', cap', rfl, hb'⟩
    exact ⟨_, rfl, x, ⟨a', cap', rfl⟩, Gb.Pres.below hb', (hI.below HV hb').quiet 3 (by decide) (by decide)⟩
  · refine Reg.GStepAt.plain (i := 4) rfl ?_
    intro x L ev w hI hk hp hA
    have e14 : (fun v _ _ => ∃ a' cap', v = .tuple #[.agg #[.int .i64 4, .slice a' 0 cap', .int .i64 6], .int .i64 (-1), .int .i64 0]) (ev (.tmp 14)) x w := hA.val 3 _ 14 rfl (hp ⟨3, .data⟩ (by simp) rfl) rfl
    have hcc := hA.const
    clear hA hp
    exact Reg.out_value rfl ⟨x, e14, Gb.Pres.refl _ _, hI.quiet 4 (by decide) (by decide)⟩
  · refine Reg.GStepAt.plain (i := 5) rfl ?_
    intro x L ev w hI hk hp hA
    have e10 : (fun v _ _ => ∃ a' cap', v = .tuple #[.agg #[.int .i64 4, .slice a' 0 cap', .int .i64 6], .int .i64 (-1), .int .i64 0]) (ev (.tmp 10)) x w := hA.val 4 _ 10 rfl (hp ⟨4, .data⟩ (by simp) rfl) rfl
    have hcc := hA.const
    clear hA hp
    obtain ⟨a', cap', e10⟩ := e10
    refine Reg.out_value (v := .agg #[.int .i64 4, .slice a' 0 cap', .int .i64 6]) ?_ ⟨x, ⟨a', cap', rfl⟩, Gb.Pres.refl _ _, hI.quiet 5 (by decide) (by decide)⟩
    clear hI hk
    go_simp
  · refine Reg.GStepAt.plain (i := 6) rfl ?_
    intro x L ev w hI hk hp hA
    have e10 : (fun v _ _ => ∃ a' cap', v = .tuple #[.agg #[.int .i64 4, .slice a' 0 cap', .int .i64 6], .int .i64 (-1), .int .i64 0]) (ev (.tmp 10)) x w := hA.val 4 _ 10 rfl (hp ⟨4, .data⟩ (by simp) rfl) rfl
    have hcc := hA.const
    clear hA hp
    obtain ⟨a', cap', e10⟩ := e10
    refine Reg.out_value (v := .int .i64 (-1)) ?_ ⟨x, rfl, Gb.Pres.refl _ _, hI.quiet 6 (by decide) (by decide)⟩
    clear hI hk
    go_simp
  · refine Reg.GStepAt.plain (i := 7) rfl ?_
    intro x L ev w hI hk hp hA
    have e10 : (fun v _ _ => ∃ a' cap', v = .tuple #[.agg #[.int .i64 4, .slice a' 0 cap', .int .i64 6], .int .i64 (-1), .int .i64 0]) (ev (.tmp 10)) x w := hA.val 4 _ 10 rfl (hp ⟨4, .data⟩ (by simp) rfl) rfl
    have hcc := hA.const
    clear hA hp
    obtain ⟨a', cap', e10⟩ := e10
    refine Reg.out_value (v := .int .i64 0) ?_ ⟨x, rfl, Gb.Pres.refl _ _, hI.quiet 7 (by decide) (by decide)⟩
    clear hI hk
    go_simp
  · refine Reg.GStepAt.plain (i := 8) rfl ?_
    intro x L ev w hI hk hp hA
    have hcc := hA.const
    have NL := Reg.not_listed hA 8 9 _ rfl ⟨8, .data⟩ (by simp) rfl hk
    clear hA hp
    obtain ⟨hP, hG⟩ := hI.alloc hk NL (by decide) 81
    refine Reg.out_new (v := .pointer (some ⟨w.heap.size, 0, none⟩)) (w' := w.alloc (.cells #[.int .i64 0, .slice none 0 0, .int .i64 0] 81)) ?_ ⟨some w.heap.size, ⟨w.heap.size, rfl, rfl⟩, hP, hG⟩
    clear hI hk hP hG NL
    go_simp
  · refine Reg.GStepAt.plain (i := 9) rfl ?_
    intro x L ev w hI hk hp hA
    have e3 : (fun v x _ => ∃ b, x = some b ∧ v = .pointer (some ⟨b, 0, none⟩)) (ev (.tmp 3)) x w := hA.val 8 _ 3 rfl (hp ⟨8, .data⟩ (by simp) rfl) rfl
    have e15 : (fun v _ _ => ∃ a' cap', v = .agg #[.int .i64 4, .slice a' 0 cap', .int .i64 6]) (ev (.tmp 15)) x w := hA.val 5 _ 15 rfl (hp ⟨5, .data⟩ (by simp) rfl) rfl
    have hcc := hA.const
    clear hA hp
    obtain ⟨b, hxb, e3⟩ := e3
    obtain ⟨a', cap', e15⟩ := e15
    have hX := (hI.box b hxb).2.2.1 (Reg.getD_true hk)
    obtain ⟨hX', hbS⟩ := box_set3 hX (.int .i64 4) (.slice a' 0 cap') (.int .i64 6)
    obtain ⟨hP, hG⟩ := hI.store hk (by decide) hxb hbS ⟨a', cap', hX'⟩
    obtain ⟨x80, z80⟩ := hX.get 0 _ rfl
    obtain ⟨x81, z81⟩ := hX.get 1 _ rfl
    obtain ⟨x82, z82⟩ := hX.get 2 _ rfl
    refine Reg.out_skipP (w' := ((w.setCell ⟨b, 0, none⟩ (.int .i64 4)).setCell ⟨b, 1, none⟩ (.slice a' 0 cap')).setCell ⟨b, 2, none⟩ (.int .i64 6)) ?_ ⟨x, trivial, hP, hG⟩
    clear hI hk hP hG hX hX' hbS
    go_simp
  · refine Reg.GStepAt.plain (i := 10) rfl ?_
    intro x L ev w hI hk hp hA
    have e16 : ev (.tmp 16) = .int .i64 (-1) := hA.val 6 _ 16 rfl (hp ⟨6, .data⟩ (by simp) rfl) rfl
    have hcc := hA.const
    clear hA hp
    refine Reg.out_value (v := .int .i64 (-1)) ?_ ⟨x, rfl, Gb.Pres.refl _ _, hI.quiet 10 (by decide) (by decide)⟩
    go_simp
  · refine Reg.GStepAt.plain (i := 11) rfl ?_
    intro x L ev w hI hk hp hA
    have e17 : ev (.tmp 17) = .int .i64 0 := hA.val 7 _ 17 rfl (hp ⟨7, .data⟩ (by simp) rfl) rfl
    have hcc := hA.const
    clear hA hp
    refine Reg.out_value (v := .int .i64 0) ?_ ⟨x, rfl, Gb.Pres.refl _ _, hI.quiet 11 (by decide) (by decide)⟩
    go_simp
  intro gx L act wz hall hI hF
  have g11 : act.eval (.tmp 11) = .agg #[.int .i64 4, .slice none 0 0, .int .i64 5] := hF.val 0 _ 11 rfl (hall 0 (by simp)) rfl
  have g12 : act.eval (.tmp 12) = .func (.func 77) #[] #[] := hF.val 1 _ 12 rfl (hall 1 (by simp)) rfl
  have g13 : (fun v x w => ∃ g, v = .slice (some ⟨g, 0, none⟩) 1 1 ∧ SlAt 12 w (some ⟨g, 0, none⟩) 1 1 (flatCl [⟨0, 7, 0, 0, 0, 0, 0, 3, ⟨true, 0, 0, 5⟩⟩]) ∧ Gb.Apart x g) (act.eval (.tmp 13)) gx wz := hF.val 2 _ 13 rfl (hall 2 (by simp)) rfl
  have g14 : (fun v _ _ => ∃ a' cap', v = .tuple #[.agg #[.int .i64 4, .slice a' 0 cap', .int .i64 6], .int .i64 (-1), .int .i64 0]) (act.eval (.tmp 14)) gx wz := hF.val 3 _ 14 rfl (hall 3 (by simp)) rfl
  have g10 : (fun v _ _ => ∃ a' cap', v = .tuple #[.agg #[.int .i64 4, .slice a' 0 cap', .int .i64 6], .int .i64 (-1), .int .i64 0]) (act.eval (.tmp 10)) gx wz := hF.val 4 _ 10 rfl (hall 4 (by simp)) rfl
  have g15 : (fun v _ _ => ∃ a' cap', v = .agg #[.int .i64 4, .slice a' 0 cap', .int .i64 6]) (act.eval (.tmp 15)) gx wz := hF.val 5 _ 15 rfl (hall 5 (by simp)) rfl
  have g16 : act.eval (.tmp 16) = .int .i64 (-1) := hF.val 6 _ 16 rfl (hall 6 (by simp)) rfl
  have g17 : act.eval (.tmp 17) = .int .i64 0 := hF.val 7 _ 17 rfl (hall 7 (by simp)) rfl
  have g3 : (fun v x _ => ∃ b, x = some b ∧ v = .pointer (some ⟨b, 0, none⟩)) (act.eval (.tmp 3)) gx wz := hF.val 8 _ 3 rfl (hall 8 (by simp)) rfl
  have g4 : act.eval (.tmp 4) = .int .i64 (-1) := hF.val 10 _ 4 rfl (hall 10 (by simp)) rfl
  have g5 : act.eval (.tmp 5) = .int .i64 0 := hF.val 11 _ 5 rfl (hall 11 (by simp)) rfl
  have hact := hF.act [11, 12, 13, 14, 10, 15, 16, 17, 3, 4, 5] (by kernel_rfl)
  have hSz : L.getD 9 false = true := hall 9 (by simp)
  clear hF hall
  simp only [List.foldl_cons, List.foldl_nil] at hact
  rw [g11, g12, g16, g17, g4, g5] at hact
  clear g11 g12 g16 g17 g4 g5
  generalize act.eval (.tmp 13) = u13 at hact g13
  generalize act.eval (.tmp 14) = u14 at hact g14
  generalize act.eval (.tmp 10) = u10 at hact g10
  generalize act.eval (.tmp 15) = u15 at hact g15
  generalize act.eval (.tmp 3) = u3 at hact g3
  simp only [List.setIfInBounds_toArray, List.set_cons_succ, List.set_cons_zero] at hact
  subst hact
  obtain ⟨bb, hgx, rfl⟩ := g3
  obtain ⟨hlb, hbl, _, hVb⟩ := hI.box bb hgx
  obtain ⟨a3, cap3, hBB6⟩ := hVb hSz
  have hIz : Below W1.heap.size W1 wz := hI.bel
  obtain ⟨W6, hW6⟩ : ∃ W6, W6 = wz := ⟨_, rfl⟩
  subst hW6
  have H6 := hidq (show Below w.heap.size w W6 ∧ BoxAt W6 b1 [.int .i64 4, .slice none 0 0, .int .i64 5] ∧ BoxAt W6 bb [.int .i64 4, .slice a3 0 cap3, .int .i64 6] from by
    obtain ⟨q1, q2⟩ := H1.out
    exact ⟨q1.trans (hIz.mono q1.size), q2.below hIz, hBB6⟩)
  clear hI hgx hlb hbl hVb hIz hBB6 hSz FC3 g10 g14 g13 g15 HV
  go_upto_region 4 with fail
  have HV : ∀ (w w' : World) (b : Nat), Below w.heap.size w w' → b < w.heap.size → (∃ a' cap', BoxAt w b [.int .i64 4, .slice a' 0 cap', .int .i64 5]) → ∃ a' cap', BoxAt w' b [.int .i64 4, .slice a' 0 cap', .int .i64 5] := fun _ _ _ hb _ h => by obtain ⟨a', c', h⟩ := h; exact ⟨a', c', h.below hb⟩
  have FC4 := hidq (fun W (hW : Below W6.heap.size W6 W) => (show W.cell? ⟨b1, 0, none⟩ = some (.int .i64 4) ∧ W.cell? ⟨b1, 1, none⟩ = some (.slice none 0 0) ∧ W.cell? ⟨b1, 2, none⟩ = some (.int .i64 5) from by
    have q := H6.out.2.1.below hW
    exact ⟨(q.get 0 _ rfl).1, (q.get 1 _ rfl).1, (q.get 2 _ rfl).1⟩))
  refine Reg.wp_region_ghost (Reg.gofList (aw15b b1)) Gb.Pres (Gb.GI W6 [.int .i64 0, .slice none 0 0, .int .i64 0] (fun w b => ∃ a' cap', BoxAt w b [.int .i64 4, .slice a' 0 cap', .int .i64 5]) 8 9) none (by kernel_rfl) (by kernel_rfl) (Reg.GAllKept.at _ (aw15b_kept b1)) (Gb.GI.start _ _ _ _ _ _) ⟨?_, ?_, ?_, ?_, ?_, ?_, ?_, ?_, ?_, ?_, ?_, ?_, trivial⟩ ?_
  · refine Reg.GStepAt.plain (i := 0) rfl ?_
    intro x L ev w hI hk hp hA
    have e1 : ev (.tmp 1) = .pointer (some ⟨b1, 0, none⟩) := hA.oldNone 1 (by kernel_rfl)
    have hcc := hA.const
    clear hA hp
    obtain ⟨f0, f1, f2⟩ := FC4.out w hI.bel
    refine Reg.out_value (v := .agg #[.int .i64 4, .slice none 0 0, .int .i64 5]) ?_ ⟨x, rfl, Gb.Pres.refl _ _, hI.quiet 0 (by decide) (by decide)⟩
    go_simp
  · refine Reg.GStepAt.plain (i := 1) rfl ?_
    intro x L ev w hI hk hp hA
    have e2 : ev (.tmp 2) = .func (.func 77) #[] #[] := hA.oldNone 2 (by kernel_rfl)
    have hcc := hA.const
    clear hA hp
    refine Reg.out_value (v := .func (.func 77) #[] #[]) ?_ ⟨x, rfl, Gb.Pres.refl _ _, hI.quiet 1 (by decide) (by decide)⟩
    go_simp
  · refine Reg.GStepAt.plain (i := 2) rfl ?_
    intro x L ev w hI hk hp hA
    have e20 : ev (.tmp 20) = .func (.func 77) #[] #[] := hA.val 1 _ 20 rfl (hp ⟨1, .data⟩ (by simp) rfl) rfl
    have hcc := hA.const
    clear hA hp
    refine Reg.out_call (f := 77) (args := #[.int .i64 6]) (w0 := w) ?_ ?_
    · go_simp
    refine (lnext_any 6 w).mono ?_
    rintro e w' ⟨g, rfl, hS', hgs, hb'⟩
    exact ⟨_, rfl, x, ⟨g, rfl, hS', fun b e => by have := (hI.box b e).2.1; omega⟩, Gb.Pres.below hb', (hI.below HV hb').quiet 2 (by decide) (by decide)⟩
  · refine Reg.GStepAt.plain (i := 3) rfl ?_
    intro x L ev w hI hk hp hA
    have e19 : ev (.tmp 19) = .agg #[.int .i64 4, .slice none 0 0, .int .i64 5] := hA.val 0 _ 19 rfl (hp ⟨0, .data⟩ (by simp) rfl) rfl
    have e21 : (fun v x w => ∃ g, v = .slice (some ⟨g, 0, none⟩) 1 1 ∧ SlAt 12 w (some ⟨g, 0, none⟩) 1 1 (flatCl [⟨0, 7, 0, 0, 0, 0, 0, 3, ⟨true, 0, 0, 6⟩⟩]) ∧ Gb.Apart x g) (ev (.tmp 21)) x w := hA.val 2 _ 21 rfl (hp ⟨2, .data⟩ (by simp) rfl) rfl
    have hcc := hA.const
    have hcf := hA.func
    clear hA hp
    obtain ⟨g, e21, hS', _⟩ := e21
    refine Reg.out_call (f := 40) (args := #[.agg #[.int .i64 4, .slice none 0 0, .int .i64 5], .int .i64 4, .slice (some ⟨g, 0, none⟩) 1 1]) (w0 := w) ?_ ?_
    · go_simp
    refine (lax_next 6 (by decide) w (some ⟨g, 0, none⟩) 1 hS' 5 0 12 (by decide)).mono ?_
    rintro e w' ⟨a', cap', rfl, hb'⟩
    exact ⟨_, rfl, x, ⟨a', cap', rfl⟩, Gb.Pres.below hb', (hI.below HV hb').quiet 3 (by decide) (by decide)⟩
  · refine Reg.GStepAt.plain (i := 4) rfl ?_
    intro x L ev w hI hk hp hA
    have e22 : (fun v _ _ => ∃ a' cap', v = .tuple #[.agg #[.int .i64 4, .slice a' 0 cap', .int .i64 5], .int .i64 0, .int .i64 12]) (ev (.tmp 22)) x w := hA.val 3 _ 22 rfl (hp ⟨3, .data⟩ (by simp) rfl) rfl
    have hcc := hA.const
    clear hA hp
    exact Reg.out_value rfl ⟨x, e22, Gb.Pres.refl _ _, hI.quiet 4 (by decide) (by decide)⟩
  · refine Reg.GStepAt.plain (i := 5) rfl ?_
    intro x L ev w hI hk hp hA
    have e18 : (fun v _ _ => ∃ a' cap', v = .tuple #[.agg #[.int .i64 4, .slice a' 0 cap', .int .i64 5], .int .i64 0, .int .i64 12]) (ev (.tmp 18)) x w := hA.val 4 _ 18 rfl (hp ⟨4, .data⟩ (by simp) rfl) rfl
    have hcc := hA.const
    clear hA hp
    obtain ⟨a', cap', e18⟩ := e18
    refine Reg.out_value (v := .agg #[.int .i64 4, .slice a' 0 cap', .int .i64 5]) ?_ ⟨x, ⟨a', cap', rfl⟩, Gb.Pres.refl _ _, hI.quiet 5 (by decide) (by decide)⟩
    clear hI hk
    go_simp
  · refine Reg.GStepAt.plain (i := 6) rfl ?_
    intro x L ev w hI hk hp hA
    have e18 : (fun v _ _ => ∃ a' cap', v = .tuple #[.agg #[.int .i64 4, .slice a' 0 cap', .int .i64 5], .int .i64 0, .int .i64 12]) (ev (.tmp 18)) x w := hA.val 4 _ 18 rfl (hp ⟨4, .data⟩ (by simp) rfl) rfl
    have hcc := hA.const
    clear hA hp
    obtain ⟨a', cap', e18⟩ := e18
    refine Reg.out_value (v := .int .i64 0) ?_ ⟨x, rfl, Gb.Pres.refl _ _, hI.quiet 6 (by decide) (by decide)⟩
    clear hI hk
    go_simp
  · refine Reg.GStepAt.plain (i := 7) rfl ?_
    intro x L ev w hI hk hp hA
    have e18 : (fun v _ _ => ∃ a' cap', v = .tuple #[.agg #[.int .i64 4, .slice a' 0 cap', .int .i64 5], .int .i64 0, .int .i64 12]) (ev (.tmp 18)) x w := hA.val 4 _ 18 rfl (hp ⟨4, .data⟩ (by simp) rfl) rfl
    have hcc := hA.const
    clear hA hp
    obtain ⟨a', cap', e18⟩ := e18
    refine Reg.out_value (v := .int .i64 12) ?_ ⟨x, rfl, Gb.Pres.refl _ _, hI.quiet 7 (by decide) (by decide)⟩
    clear hI hk
    go_simp
  · refine Reg.GStepAt.plain (i := 8) rfl ?_
    intro x L ev w hI hk hp hA
    have hcc := hA.const
    have NL := Reg.not_listed hA 8 9 _ rfl ⟨8, .data⟩ (by simp) rfl hk
    clear hA hp
    obtain ⟨hP, hG⟩ := hI.alloc hk NL (by decide) 81
    refine Reg.out_new (v := .pointer (some ⟨w.heap.size, 0, none⟩)) (w' := w.alloc (.cells #[.int .i64 0, .slice none 0 0, .int .i64 0] 81)) ?_ ⟨some w.heap.size, ⟨w.heap.size, rfl, rfl⟩, hP, hG⟩
    clear hI hk hP hG NL
    go_simp
  · refine Reg.GStepAt.plain (i := 9) rfl ?_
    intro x L ev w hI hk hp hA
    have e6 : (fun v x _ => ∃ b, x = some b ∧ v = .pointer (some ⟨b, 0, none⟩)) (ev (.tmp 6)) x w := hA.val 8 _ 6 rfl (hp ⟨8, .data⟩ (by simp) rfl) rfl
    have e23 : (fun v _ _ => ∃ a' cap', v = .agg #[.int .i64 4, .slice a' 0 cap', .int .i64 5]) (ev (.tmp 23)) x w := hA.val 5 _ 23 rfl (hp ⟨5, .data⟩ (by simp) rfl) rfl
    have hcc := hA.const
    clear hA hp
    obtain ⟨b, hxb, e6⟩ := e6
    obtain ⟨a', cap', e23⟩ := e23
    have hX := (hI.box b hxb).2.2.1 (Reg.getD_true hk)
    obtain ⟨hX', hbS⟩ := box_set3 hX (.int .i64 4) (.slice a' 0 cap') (.int .i64 5)
    obtain ⟨hP, hG⟩ := hI.store hk (by decide) hxb hbS ⟨a', cap', hX'⟩
    obtain ⟨x80, z80⟩ := hX.get 0 _ rfl
    obtain ⟨x81, z81⟩ := hX.get 1 _ rfl
    obtain ⟨x82, z82⟩ := hX.get 2 _ rfl
    refine Reg.out_skipP (w' := ((w.setCell ⟨b, 0, none⟩ (.int .i64 4)).setCell ⟨b, 1, none⟩ (.slice a' 0 cap')).setCell ⟨b, 2, none⟩ (.int .i64 5)) ?_ ⟨x, trivial, hP, hG⟩
    clear hI hk hP hG hX hX' hbS
    go_simp
  · refine Reg.GStepAt.plain (i := 10) rfl ?_
    intro x L ev w hI hk hp hA
    have e24 : ev (.tmp 24) = .int .i64 0 := hA.val 6 _ 24 rfl (hp ⟨6, .data⟩ (by simp) rfl) rfl
    have hcc := hA.const
    clear hA hp
    refine Reg.out_value (v := .int .i64 0) ?_ ⟨x, rfl, Gb.Pres.refl _ _, hI.quiet 10 (by decide) (by decide)⟩
    go_simp
  · refine Reg.GStepAt.plain (i := 11) rfl ?_
    intro x L ev w hI hk hp hA
    have e25 : ev (.tmp 25) = .int .i64 12 := hA.val 7 _ 25 rfl (hp ⟨7, .data⟩ (by simp) rfl) rfl
    have hcc := hA.const
    clear hA hp
    refine Reg.out_value (v := .int .i64 12) ?_ ⟨x, rfl, Gb.Pres.refl _ _, hI.quiet 11 (by decide) (by decide)⟩
    go_simp
  intro gx L act wy hall hI hF
  have g19 : act.eval (.tmp 19) = .agg #[.int .i64 4, .slice none 0 0, .int .i64 5] := hF.val 0 _ 19 rfl (hall 0 (by simp)) rfl
  have g20 : act.eval (.tmp 20) = .func (.func 77) #[] #[] := hF.val 1 _ 20 rfl (hall 1 (by simp)) rfl
  have g21 : (fun v x w => ∃ g, v = .slice (some ⟨g, 0, none⟩) 1 1 ∧ SlAt 12 w (some ⟨g, 0, none⟩) 1 1 (flatCl [⟨0, 7, 0, 0, 0, 0, 0, 3, ⟨true, 0, 0, 6⟩⟩]) ∧ Gb.Apart x g) (act.eval (.tmp 21)) gx wy := hF.val 2 _ 21 rfl (hall 2 (by simp)) rfl
  have g22 : (fun v _ _ => ∃ a' cap', v = .tuple #[.agg #[.int .i64 4, .slice a' 0 cap', .int .i64 5], .int .i64 0, .int .i64 12]) (act.eval (.tmp 22)) gx wy := hF.val 3 _ 22 rfl (hall 3 (by simp)) rfl
  have g18 : (fun v _ _ => ∃ a' cap', v = .tuple #[.agg #[.int .i64 4, .slice a' 0 cap', .int .i64 5], .int .i64 0, .int .i64 12]) (act.eval (.tmp 18)) gx wy := hF.val 4 _ 18 rfl (hall 4 (by simp)) rfl
  have g23 : (fun v _ _ => ∃ a' cap', v = .agg #[.int .i64 4, .slice a' 0 cap', .int .i64 5]) (act.eval (.tmp 23)) gx wy := hF.val 5 _ 23 rfl (hall 5 (by simp)) rfl
  have g24 : act.eval (.tmp 24) = .int .i64 0 := hF.val 6 _ 24 rfl (hall 6 (by simp)) rfl
  have g25 : act.eval (.tmp 25) = .int .i64 12 := hF.val 7 _ 25 rfl (hall 7 (by simp)) rfl
  have g6 : (fun v x _ => ∃ b, x = some b ∧ v = .pointer (some ⟨b, 0, none⟩)) (act.eval (.tmp 6)) gx wy := hF.val 8 _ 6 rfl (hall 8 (by simp)) rfl
  have g7 : act.eval (.tmp 7) = .int .i64 0 := hF.val 10 _ 7 rfl (hall 10 (by simp)) rfl
  have g8 : act.eval (.tmp 8) = .int .i64 12 := hF.val 11 _ 8 rfl (hall 11 (by simp)) rfl
  have hact := hF.act [19, 20, 21, 22, 18, 23, 24, 25, 6, 7, 8] (by kernel_rfl)
  have hSz : L.getD 9 false = true := hall 9 (by simp)
  clear hF hall
  simp only [List.foldl_cons, List.foldl_nil] at hact
  rw [g19, g20, g24, g25, g7, g8] at hact
  clear g19 g20 g24 g25 g7 g8
  generalize act.eval (.tmp 21) = u21 at hact g21
  generalize act.eval (.tmp 22) = u22 at hact g22
  generalize act.eval (.tmp 18) = u18 at hact g18
  generalize act.eval (.tmp 23) = u23 at hact g23
  generalize act.eval (.tmp 6) = u6 at hact g6
  simp only [List.setIfInBounds_toArray, List.set_cons_succ, List.set_cons_zero] at hact
  subst hact
  have H7 := hidq (show Below w.heap.size w wy ∧ BoxAt wy bb [.int .i64 4, .slice a3 0 cap3, .int .i64 6] from by
    obtain ⟨q1, q2, q3⟩ := H6.out
    have hIz : Below W6.heap.size W6 wy := hI.bel
    exact ⟨q1.trans (hIz.mono q1.size), q3.below hIz⟩)
  have m2 := (H7.out.2.get 2 _ rfl).1
  clear hI hSz FC4 g18 g21 g22 g23 H6 HV
  go_wp2_with fail
  go_ret
  exact ⟨rfl, H7.out.1⟩
end Go.Proofs.Ytepigofpcjmddaa

namespace Go.Proofs.Ytepigofpcjmddaa
open Go.RowKit Go.Sort

set_option maxRecDepth 20000 in
set_option maxHeartbeats 8000000 in
theorem laxErrors_any (kd p th bg fi : Int) (w : World) :
    Calls Try.prog 7 #[.int .i64 kd, .int .i64 p, .int .i64 th, .int .i64 bg, .int .i64 fi] w fun e w' => e = .returned (.bool true) ∧ Below w.heap.size w w' := by
  have hsf := run_store_float (P := Try.prog)
  obtain ⟨lg, hlg⟩ : ∃ lg, legal kd p = lg := ⟨_, rfl⟩
  obtain ⟨ck, hck⟩ : ∃ ck, hchk [⟨th, 0, 0, 0, 0, 0, bg, fi, ⟨false, 0, 0, 0⟩⟩] 0 (fun _ => none) = ck := ⟨_, rfl⟩
  obtain ⟨KD, I, ER, hC, hcase⟩ : ∃ KD I ER : Int, (∀ (W : World) (g : Nat), SlAt 12 W (some ⟨g, 0, none⟩) 1 1 (flatCl [⟨th, 0, 0, 0, 0, 0, bg, fi, ⟨false, 0, 0, 0⟩⟩]) → Calls Try.prog 40 #[.agg #[.int .i64 kd, .slice none 0 0, .int .i64 0], .int .i64 p, .slice (some ⟨g, 0, none⟩) 1 1] W (LaxEnd KD 0 I ER W)) ∧
      ((¬ lg = 0 ∧ KD = 0 ∧ I = -1 ∧ ER = lg) ∨ (lg = 0 ∧ ¬ ck = 0 ∧ KD = 0 ∧ I = -1 ∧ ER = ck) ∨ (lg = 0 ∧ ck = 0 ∧ fi < 0 ∧ KD = kd ∧ I = -1 ∧ ER = 0) ∨ (lg = 0 ∧ ck = 0 ∧ 0 ≤ fi ∧ KD = kd ∧ I = 0 ∧ ER = 12)) := by
    by_cases h1 : lg = 0
    · by_cases h2 : ck = 0
      · by_cases h3 : fi < 0
        · exact ⟨kd, -1, 0, fun W g h => lax_no kd p W _ 1 _ h (hlg.trans h1) (hck.trans h2) rfl rfl (-1) 0 (.inl ⟨h3, rfl, rfl⟩), .inr (.inr (.inl ⟨h1, h2, h3, rfl, rfl, rfl⟩))⟩
        · exact ⟨kd, 0, 12, fun W g h => lax_no kd p W _ 1 _ h (hlg.trans h1) (hck.trans h2) rfl rfl 0 12 (.inr ⟨by show 0 ≤ fi; omega, rfl, rfl⟩), .inr (.inr (.inr ⟨h1, h2, by omega, rfl, rfl, rfl⟩))⟩
      · exact ⟨0, -1, ck, fun W g h => lax_chk kd p W _ 1 _ h (hlg.trans h1) ck hck h2, .inr (.inl ⟨h1, h2, rfl, rfl, rfl⟩)⟩
    · exact ⟨0, -1, lg, fun W g h => lax_leg kd p W _ 1 _ h lg hlg h1, .inl ⟨h1, rfl, rfl, rfl⟩⟩
  have HC := hidq hC
  have HCASE := hidq hcase
  have HLG := hidq (fun W => rlegal6_any kd p W)
  rw [hlg] at HLG
  have HCK := hidq (fun W g (h : SlAt 3 W (some ⟨g, 0, none⟩) 1 1 (flat14 [⟨th, 0, 0, 0, 0, 0, bg, fi, ⟨false, 0, 0, 0⟩⟩])) => rcheck14_any [⟨th, 0, 0, 0, 0, 0, bg, fi, ⟨false, 0, 0, 0⟩⟩] (some ⟨g, 0, none⟩) 1 1 W h rfl (by decide))
  rw [hck] at HCK
  clear hC hcase hlg hck
  go_enter Try.func7, Try.ntmps7
  go_wp2_with fail
  refine (awake15_any w).mono ?_
  rintro e w1 ⟨rfl, hb1⟩
  have HB1 := hidq hb1
  have hF := Flat.new w1 (flatCl [⟨th, 0, 0, 0, 0, 0, bg, fi, ⟨false, 0, 0, 0⟩⟩]) 101 12 1 rfl (by decide) (fun u hu => by simp [flatCl] at hu; rcases hu with rfl | rfl | rfl | rfl | rfl | rfl | rfl | rfl | rfl | rfl | rfl | rfl <;> rfl)
  obtain ⟨g, hg⟩ : ∃ g, w1.heap.size = g := ⟨_, rfl⟩
  rw [hg] at hF
  obtain ⟨w2, hw2⟩ : ∃ w2, w1.alloc (.cells #[.int .i64 th, .int .i64 0, .float .f64 0, .int .i64 0, .int .i64 0, .int .i64 0, .int .i64 bg, .int .i64 fi, .bool false, .float .f64 0, .int .i64 0, .int .i64 0] 101) = w2 := ⟨_, rfl⟩
  have hF2 : Flat 12 w2 g 1 1 (flatCl [⟨th, 0, 0, 0, 0, 0, bg, fi, ⟨false, 0, 0, 0⟩⟩]) := by rw [← hw2]; exact hF
  have hb2 : Below w.heap.size w w2 := by rw [← hw2]; exact hb1.trans (((Below.refl _ _).alloc (Nat.le_refl _) _).mono hb1.size)
  have HC2 := hidq (HC.out w2 g (.inr ⟨g, rfl, hF2⟩))
  have HB2 := hidq hb2
  clear hb1 hF hF2 hb2 HC
  go_upto_region 4 with fail
  try rw [hg]
  try rw [hw2]
  clear hg hw2
  go_wp2_with fail
  refine HC2.out.mono ?_
  rintro e w3 ⟨a3, cap3, rfl, hb3⟩
  have HB3 := hidq (show Below w.heap.size w w3 from HB2.out.trans (hb3.mono HB2.out.size))
  clear hb3 HC2 HB2 HB1
  go_upto_region 5 with fail
  obtain ⟨b12, hb12⟩ : ∃ b12, w3.heap.size = b12 := ⟨_, rfl⟩
  obtain ⟨w4, hw4⟩ : ∃ w4, w3.alloc (.cells #[.int .i64 KD, .slice a3 0 cap3, .int .i64 0] 81) = w4 := ⟨_, rfl⟩
  have H4 := hidq (show Below w.heap.size w w4 ∧ BoxAt w4 b12 [.int .i64 KD, .slice a3 0 cap3, .int .i64 0] from by
    have hba : Below w3.heap.size w3 w4 := by rw [← hw4]; exact (Below.refl _ _).alloc (Nat.le_refl _) _
    exact ⟨HB3.out.trans (hba.mono HB3.out.size), by rw [← hw4, ← hb12]; exact BoxAt.new w3 _ _⟩)
  rw [hw4, hb12]
  clear hw4 hb12 HB3
  go_wp2_with fail
  refine (HLG.out w4).mono ?_
  rintro e w5 ⟨rfl, hw5⟩
  have hw5' := hw5.symm
  subst hw5'
  clear hw5 HLG
  have mk := (H4.out.2.get 0 _ rfl).1
  rcases HCASE.out with ⟨h1, rfl, rfl, rfl⟩ | h2
  · have hn : (ER != 0) = true := by simpa using h1
    have hn2 : ¬ ER = 0 := h1
    clear h1
    go_wp2_with fail
    go_ret
    exact ⟨rfl, H4.out.1⟩
  · have hl0 : lg = 0 := by rcases h2 with h | h | h <;> exact h.1
    subst hl0
    obtain ⟨gr, hgr⟩ : ∃ gr, w4.heap.size = gr := ⟨_, rfl⟩
    obtain ⟨w6, hw6⟩ : ∃ w6, w4.alloc (.cells #[.int .i64 th, .int .i64 bg, .int .i64 fi] 107) = w6 := ⟨_, rfl⟩
    have hba : Below w4.heap.size w4 w6 := by rw [← hw6]; exact (Below.refl _ _).alloc (Nat.le_refl _) _
    have hF6 : Flat 3 w6 gr 1 1 (flat14 [⟨th, 0, 0, 0, 0, 0, bg, fi, ⟨false, 0, 0, 0⟩⟩]) := by
      have := Flat.new w4 (flat14 [⟨th, 0, 0, 0, 0, 0, bg, fi, ⟨false, 0, 0, 0⟩⟩]) 107 3 1 rfl (by decide) (fun u hu => by simp [flat14] at hu; rcases hu with rfl | rfl | rfl <;> rfl)
      rw [hgr] at this
      rw [← hw6]
      exact this
    have HK6 := hidq (HCK.out w6 gr (.inr ⟨gr, rfl, hF6⟩))
    have H6 := hidq (And.intro (H4.out.1.trans (hba.mono H4.out.1.size)) (H4.out.2.below hba))
    clear hba hF6 HCK mk
    go_wp2_with fail
    try rw [hw6]
    try rw [hgr]
    refine HK6.out.mono ?_
    rintro e w7 ⟨rfl, hb7⟩
    have H7 := hidq (And.intro (H6.out.1.trans (hb7.mono H6.out.1.size)) (H6.out.2.below hb7))
    clear hb7 HK6 H6 hw6 hgr
    have mk := (H7.out.2.get 0 _ rfl).1
    rcases h2 with ⟨_, hk, rfl, rfl, rfl⟩ | ⟨_, rfl, hf, rfl, rfl, rfl⟩ | ⟨_, rfl, hf, rfl, rfl, rfl⟩
    · have hn : (ER != 0) = true := by simpa using hk
      have hn2 : ¬ ER = 0 := hk
      clear hk
      go_wp2_with fail
      go_ret
      exact ⟨rfl, H7.out.1⟩
    · go_wp2_with fail
      go_ret
      exact ⟨rfl, H7.out.1⟩
    · have hd : decide (fi < 0) = false := decide_eq_false (by omega)
      go_wp2_with fail
      go_ret
      exact ⟨rfl, H7.out.1⟩
end Go.Proofs.Ytepigofpcjmddaa

namespace Go.Proofs.Ytepigofpcjmddaa
open Go.RowKit Go.Sort

/-- A canonical item: none is that of bits 0 and value 0. -/
abbrev KI := Option { p : Nat × Int // (p.1 < 18446744073709551616 ∧ cbits p.1 = p.1) ∧ p ≠ (0, 0) }
def KI.b (x : KI) : Nat := match x with | none => 0 | some p => p.1.1
def KI.v (x : KI) : Int := match x with | none => 0 | some p => p.1.2
theorem KI.ok (x : KI) : x.b < 18446744073709551616 ∧ cbits x.b = x.b := by
  match x with
  | none => exact ⟨by decide, by decide⟩
  | some p => exact p.2.1
theorem KI.ext' {x y : KI} (hb : x.b = y.b) (hv : x.v = y.v) : x = y := by
  match x, y with
  | none, none => rfl
  | none, some q => exact absurd (Prod.ext hb.symm hv.symm) q.2.2
  | some p, none => exact absurd (Prod.ext hb hv) p.2.2
  | some p, some q => exact congrArg some (Subtype.ext (Prod.ext hb hv))
def KI.of (b : Nat) (v : Int) (ok : b < 18446744073709551616 ∧ cbits b = b) : KI := if h : (b, v) = (0, 0) then none else some ⟨(b, v), ok, h⟩
theorem KI.of_b (b : Nat) (v : Int) (ok : b < 18446744073709551616 ∧ cbits b = b) : (KI.of b v ok).b = b := by
  unfold KI.of
  split
  case isTrue h => injection h with h1 h2; exact h1.symm
  case isFalse h => rfl
theorem KI.of_v (b : Nat) (v : Int) (ok : b < 18446744073709551616 ∧ cbits b = b) : (KI.of b v ok).v = v := by
  unfold KI.of
  split
  case isTrue h => injection h with h1 h2; exact h2.symm
  case isFalse h => rfl
def KI.lt (x y : KI) : Bool := decide (cmpN x.b x.v y.b y.v < 0)
theorem key_canon {m n : Nat} (hm : m < 18446744073709551616 ∧ cbits m = m) (hn : n < 18446744073709551616 ∧ cbits n = n) (h : key m = key n) : m = n := by
  unfold key keyI ni at h
  rw [hm.2, hn.2] at h
  split at h <;> split at h <;> omega
theorem cmpN_lt (m n : Nat) (a b : Int) : cmpN m a n b < 0 ↔ key m < key n ∨ (key m = key n ∧ a < b) := by
  unfold cmpN
  have h1 := cmpI_neg_iff (key m) (key n)
  have h2 := cmpI_zero (key m) (key n)
  have h3 := cmpI_neg_iff a b
  generalize cmpI (key m) (key n) = c at *
  generalize key m = p at *
  generalize key n = q at *
  split
  · rw [h3]
    constructor
    · intro h; exact .inr ⟨h2.1 ‹_›, h⟩
    · rintro (h | h)
      · omega
      · exact h.2
  · rw [h1]
    constructor
    · intro h; exact .inl h
    · rintro (h | h)
      · exact h
      · exact absurd (h2.2 h.1) ‹_›
theorem KI.lt_iff (x y : KI) : x.lt y = true ↔ key x.b < key y.b ∨ (key x.b = key y.b ∧ x.v < y.v) := by
  unfold KI.lt; rw [decide_eq_true_eq, cmpN_lt]
theorem KI.lt_false (x y : KI) : x.lt y = false ↔ ¬ (key x.b < key y.b ∨ (key x.b = key y.b ∧ x.v < y.v)) := by
  rw [← KI.lt_iff]; cases x.lt y <;> simp
theorem KI.swo : SWO KI.lt where
  irrefl x := by rw [KI.lt_false]; omega
  trans x y z h1 h2 := by
    rw [KI.lt_iff] at *
    generalize key x.b = p at *; generalize key y.b = q at *; generalize key z.b = r at *
    omega
  ntrans x y z h1 h2 := by
    rw [KI.lt_false] at *
    generalize key x.b = p at *; generalize key y.b = q at *; generalize key z.b = r at *
    omega
theorem KI.total (x y : KI) (h1 : x.lt y = false) (h2 : y.lt x = false) : x = y := by
  rw [KI.lt_false] at h1 h2
  have hk : key x.b = key y.b := by
    generalize key x.b = p at *; generalize key y.b = q at *; omega
  have hb := key_canon x.ok y.ok hk
  have hv : x.v = y.v := by
    rw [hk] at h1 h2; omega
  exact KI.ext' hb hv

theorem cbits_idem (n : Nat) : cbits (cbits n) = cbits n := by
  cases h : nanB n
  · rw [cbits_num h, cbits_num h]
  · rw [cbits_nan h]; decide
/-- Made canonical. -/
def mkKI (p : Nat) (v : Int) : KI := if h : p < 18446744073709551616 then KI.of (cbits p) v ⟨cbits_lt h, cbits_idem p⟩ else none
theorem mkKI_b {p : Nat} (h : p < 18446744073709551616) (v : Int) : (mkKI p v).b = cbits p := by unfold mkKI; rw [dif_pos h]; exact KI.of_b _ _ _
theorem mkKI_v {p : Nat} (h : p < 18446744073709551616) (v : Int) : (mkKI p v).v = v := by unfold mkKI; rw [dif_pos h]; exact KI.of_v _ _ _
theorem mkKI_self (x : KI) : mkKI x.b x.v = x := by
  have h1 := mkKI_b x.ok.1 x.v
  rw [x.ok.2] at h1
  exact KI.ext' h1 (mkKI_v x.ok.1 x.v)
def kiOf (P V : Nat → Int) (i : Nat) : KI := mkKI (nf (P i)) (V i)
end Go.Proofs.Ytepigofpcjmddaa

namespace Go.Proofs.Ytepigofpcjmddaa
open Go.RowKit Go.Sort

theorem run_equalIn_float {P : Program} (d : Nat) (t : TypeId) (a b : Nat) (w : World) (h : P.underlying t = some (.float .f64)) : (Op.equalIn (d + 1) t (.float .f64 a) (.float .f64 b)).run P w = .ok (Op.floatEq .f64 a b) w := by
  simp [Op.equalIn, run_underlying h]

theorem own_any (p v : Int) (w : World) : Calls Try.prog 9 #[.agg #[.int .u64 p, .int .i64 v]] w fun e w' => e = .returned (.agg #[.float .f64 (nf p), .int .i64 v]) ∧ Below w.heap.size w w' := by
  have hsf := run_store_float (P := Try.prog)
  go_enter Try.func9, Try.ntmps9
  go_wp2
  go_region_with (go_at_call 43; refine (f_any _ _).mono ?_; rintro e w1 ⟨rfl, hw1⟩; replace hw1 := hw1.symm; subst hw1)
  all_goals go_wp2
  all_goals exact bodyPost_ret (v := .agg #[.float .f64 (nf p), .int .i64 v]) (by simp [results, Try.results9, go_sem]) rfl ⟨rfl, ((((Below.refl _ _).alloc (Nat.le_refl _) _).alloc (by simp) _)).drew⟩

theorem make_any (p v : Int) (w : World) (h0 : 0 ≤ p) (h1 : p < 18446744073709551616) :
    Calls Try.prog 45 #[.int .u64 p, .int .i64 v] w fun e w' => e = .returned (.agg #[.int .u64 (ni (cbits (nf p))), .int .i64 v]) ∧ Below w.heap.size w w' := by
  have hR := fun w => rbits_any p w h0 h1
  clear h0 h1
  go_enter Try.func45, Try.ntmps45
  go_wp2_with (go_at_call 86; refine (hR _).mono ?_; rintro e w1 ⟨rfl, hw1⟩; replace hw1 := hw1.symm; subst hw1)
  exact bodyPost_ret (v := .agg #[.int .u64 (ni (cbits (nf p))), .int .i64 v]) (by simp [results, Try.results45, go_sem]) rfl ⟨rfl, (Below.refl _ _).alloc (Nat.le_refl _) _⟩
theorem told_any (p v : Int) (w : World) (h0 : 0 ≤ p) (h1 : p < 18446744073709551616) :
    Calls Try.prog 11 #[.agg #[.int .u64 p, .int .i64 v]] w fun e w' => e = .returned (.agg #[.int .u64 (ni (cbits (nf p))), .int .i64 v]) ∧ Below w.heap.size w w' := by
  have hM := fun w => make_any p v w h0 h1
  obtain ⟨q, hq⟩ : ∃ q, ni (cbits (nf p)) = q := ⟨_, rfl⟩
  rw [hq] at hM ⊢
  clear h0 h1 hq
  go_enter Try.func11, Try.ntmps11
  go_wp2_with fail
  refine (hM _).mono ?_
  rintro e w1 ⟨rfl, hb1⟩
  have hz : w.heap.size + 1 < w1.heap.size := by have := hb1.size; simp at this; omega
  have c0 : w1.cell? ⟨w.heap.size + 1, 0, none⟩ = some (.int .u64 0) := by rw [hb1.cell (p := ⟨w.heap.size + 1, 0, none⟩) (by simp)]; simp
  have c1 : w1.cell? ⟨w.heap.size + 1, 1, none⟩ = some (.int .i64 0) := by rw [hb1.cell (p := ⟨w.heap.size + 1, 1, none⟩) (by simp)]; simp
  have z0 : w1.frozen? ⟨w.heap.size + 1, 0, none⟩ = false := by rw [hb1.frozen (p := ⟨w.heap.size + 1, 0, none⟩) (by simp)]; simp
  have z1 : w1.frozen? ⟨w.heap.size + 1, 1, none⟩ = false := by rw [hb1.frozen (p := ⟨w.heap.size + 1, 1, none⟩) (by simp)]; simp
  go_wp2
  refine bodyPost_ret (v := .agg #[.int .u64 q, .int .i64 v]) (by simp [results, Try.results11, go_sem, c0, c1]) rfl ⟨rfl, ?_⟩
  exact ((((((Below.refl _ _).alloc (Nat.le_refl _) _).alloc (by simp) _).trans (hb1.mono (by simp; omega))).setCell (by simp) _).setCell (by simp) _)

/-- Is an item the document's? -/
def isV (m : Nat) (a q b : Int) : Int := if ni m = q ∧ a = b then 0 else -1
theorem is_any (m : Nat) (a q b : Int) (w : World) : Calls Try.prog 15 #[.agg #[.float .f64 m, .int .i64 a], .agg #[.int .u64 q, .int .i64 b]] w fun e w' => e = .returned (.int .i64 (isV m a q b)) ∧ Below w.heap.size w w' := by
  have h15 := run_bits
  by_cases h1 : ni m = q
  · by_cases h2 : a = b
    · have : isV m a q b = 0 := if_pos ⟨h1, h2⟩
      rw [this]
      subst h1; subst h2
      clear this
      go_enter Try.func15, Try.ntmps15
      go_wp2
      go_quiet (fail)
      go_wp2
      go_ret
      exact ⟨rfl, below_drewN (((Below.refl _ _).alloc (Nat.le_refl _) _).alloc (by simp) _) _⟩
    · have : isV m a q b = -1 := if_neg (fun e => h2 e.2)
      rw [this]
      subst h1
      clear this
      have hb : (a != b) = true := by simpa using h2
      go_enter Try.func15, Try.ntmps15
      go_wp2
      go_quiet (fail)
      go_wp2
      go_ret
      exact ⟨rfl, below_drewN (((Below.refl _ _).alloc (Nat.le_refl _) _).alloc (by simp) _) _⟩
  · have : isV m a q b = -1 := if_neg (fun e => h1 e.1)
    rw [this]
    clear this
    have hb : (ni m != q) = true := by simpa using h1
    go_enter Try.func15, Try.ntmps15
    go_wp2
    go_quiet (fail)
    go_wp2
    go_ret
    exact ⟨rfl, below_drewN (((Below.refl _ _).alloc (Nat.le_refl _) _).alloc (by simp) _) _⟩

theorem rcmp4_any (p a q b : Int) (w : World) (h0 : 0 ≤ p) (h1 : p < 18446744073709551616) (h2 : 0 ≤ q) (h3 : q < 18446744073709551616) :
    Calls Try.prog 44 #[.agg #[.int .u64 p, .int .i64 a], .agg #[.int .u64 q, .int .i64 b]] w fun e w' => e = .returned (.int .i64 (cmpN (nf p) a (nf q) b)) ∧ Below w.heap.size w w' := by
  have hC := fun w => rcmp_any p q w h0 h1 h2 h3
  obtain ⟨c, hc⟩ : ∃ c, cmpI (key (nf p)) (key (nf q)) = c := ⟨_, rfl⟩
  rw [hc] at hC
  clear h0 h1 h2 h3
  by_cases e : c = 0
  · rw [cmpN_same (by rw [hc]; exact e)]
    subst e
    clear hc
    rcases Int.lt_trichotomy a b with h | h | h
    · rw [cmpI_lt h]
      go_enter Try.func44, Try.ntmps44
      go_wp2_with (go_at_call 85; refine (hC _).mono ?_; rintro e w1 ⟨rfl, hw1⟩; replace hw1 := hw1.symm; subst hw1)
      go_ret
      exact ⟨rfl, ((Below.refl _ _).alloc (Nat.le_refl _) _).alloc (by simp) _⟩
    · rw [cmpI_eq h]
      subst h
      go_enter Try.func44, Try.ntmps44
      go_wp2_with (go_at_call 85; refine (hC _).mono ?_; rintro e w1 ⟨rfl, hw1⟩; replace hw1 := hw1.symm; subst hw1)
      go_ret
      exact ⟨rfl, ((Below.refl _ _).alloc (Nat.le_refl _) _).alloc (by simp) _⟩
    · rw [cmpI_gt h]
      have hd : decide (a < b) = false := decide_eq_false (by omega)
      go_enter Try.func44, Try.ntmps44
      go_wp2_with (go_at_call 85; refine (hC _).mono ?_; rintro e w1 ⟨rfl, hw1⟩; replace hw1 := hw1.symm; subst hw1)
      go_ret
      exact ⟨rfl, ((Below.refl _ _).alloc (Nat.le_refl _) _).alloc (by simp) _⟩
  · rw [cmpN_other (by rw [hc]; exact e), hc]
    have hb : (c == 0) = false := by simpa using e
    clear hc e
    go_enter Try.func44, Try.ntmps44
    go_wp2_with (go_at_call 85; refine (hC _).mono ?_; rintro e w1 ⟨rfl, hw1⟩; replace hw1 := hw1.symm; subst hw1)
    go_ret
    exact ⟨rfl, ((Below.refl _ _).alloc (Nat.le_refl _) _).alloc (by simp) _⟩
end Go.Proofs.Ytepigofpcjmddaa

namespace Go.Proofs.Ytepigofpcjmddaa
open Go.RowKit Go.Sort

theorem plainR : PlainK Try.prog 2 26 35 := by
  have h : (Try.prog.info? 35).map (fun i => (i.zero, i.size, i.bytes)) = some (some (.agg #[.int .u64 0, .int .i64 0]), 2, 16) := by kernel_rfl
  obtain ⟨i, hi, he⟩ := Option.map_eq_some_iff.1 h
  simp only [Prod.mk.injEq] at he
  exact ⟨i, _, Try.underlying26, hi, he.1, he.2.1, rfl, by rw [he.2.2]; decide⟩

def encR (x : KI) : List Value := [.int .u64 (ni x.b), .int .i64 x.v]
def flatR (L : List KI) : List Value := L.flatMap encR
theorem flatR_length (L : List KI) : (flatR L).length = L.length * 2 := by
  induction L with
  | nil => rfl
  | cons x L ih => simp only [flatR, List.flatMap_cons, List.length_append, List.length_cons] at *; rw [ih]; simp [encR]; omega
theorem flatR_append (L M : List KI) : flatR (L ++ M) = flatR L ++ flatR M := by simp [flatR]
theorem flatR_get : ∀ (L : List KI) (i : Nat) (h : i < L.length), (flatR L)[i * 2]? = some (.int .u64 (ni L[i].b)) ∧ (flatR L)[i * 2 + 1]? = some (.int .i64 L[i].v)
  | x :: L, 0, h => ⟨rfl, rfl⟩
  | x :: L, i + 1, h => by
    have := flatR_get L i (by simpa using h)
    simp only [List.getElem_cons_succ]
    have e : flatR (x :: L) = .int .u64 (ni x.b) :: .int .i64 x.v :: flatR L := rfl
    rw [e, show (i + 1) * 2 = i * 2 + 1 + 1 by omega]
    exact this
theorem flatR_one (L : List KI) : ∀ u ∈ flatR L, u.oneCell' = true := by
  intro u hu
  simp only [flatR, List.mem_flatMap, encR] at hu
  obtain ⟨x, _, hx⟩ := hu
  simp at hx
  rcases hx with rfl | rfl <;> rfl

/-- Items that are read one by one, wherever their slice begins. -/
def RdR (w : World) (a : Option Addr) (L : List KI) : Prop :=
  ∀ i (h : i < L.length), ∃ g off, a = some ⟨g, off, none⟩ ∧ g < w.heap.size ∧ w.cell? ⟨g, off + i * 2, none⟩ = some (.int .u64 (ni L[i].b)) ∧ w.cell? ⟨g, off + i * 2 + 1, none⟩ = some (.int .i64 L[i].v)
theorem RdR.of_flat {w : World} {g cap : Nat} {L : List KI} (h : Flat 2 w g cap L.length (flatR L)) : RdR w (some ⟨g, 0, none⟩) L := fun i hi => by
  refine ⟨g, 0, rfl, h.lt, ?_, ?_⟩
  · rw [Nat.zero_add]; exact h.cell _ _ (flatR_get L i hi).1
  · rw [Nat.zero_add]; exact h.cell _ _ (flatR_get L i hi).2
theorem RdR.but {S : Nat → Prop} {w w' : World} {a : Option Addr} {L : List KI} (h : RdR w a L) (hb : But S w w') (hS : ∀ j, inB a j → ¬ S j) : RdR w' a L := fun i hi => by
  obtain ⟨g, off, h1, h2, h3, h4⟩ := h i hi
  have hn : ¬ S g := hS g ⟨_, h1, rfl⟩
  exact ⟨g, off, h1, Nat.lt_of_lt_of_le h2 hb.size, (hb.cell (p := ⟨g, off + i * 2, none⟩) h2 hn).trans h3, (hb.cell (p := ⟨g, off + i * 2 + 1, none⟩) h2 hn).trans h4⟩
theorem RdR.below {w w' : World} {a : Option Addr} {L : List KI} (h : RdR w a L) (hb : Below w.heap.size w w') : RdR w' a L := h.but (S := fun _ => False) (But.of_below hb) (fun _ _ e => e)

theorem src_two {P : Program} {T E : TypeId} (w : World) (hk : P.underlying T = some (.slice E)) (b : Nat) (u v : Value) (h0 : w.cell? ⟨b, 0, none⟩ = some u) (h1 : w.cell? ⟨b, 1, none⟩ = some v) (o0 : u.oneCell' = true) (o1 : v.oneCell' = true) : Src P 2 T (.slice (some ⟨b, 0, none⟩) 1 1) 1 [u, v] w := by
  refine Src.ofSlice w hk _ 1 1 _ rfl (fun j z hz => ?_) (fun z hz => by simp at hz; rcases hz with rfl | rfl <;> assumption)
  rw [Addr.add_lit]
  rcases j with _ | _ | j
  · simp at hz; subst hz; exact h0
  · simp at hz; subst hz; exact h1
  · simp at hz

end Go.Proofs.Ytepigofpcjmddaa

namespace Go.Proofs.Ytepigofpcjmddaa
open Go.RowKit Go.Sort

/-- Items in the making, as an argument. -/
def Raws (w : World) (a : Option Addr) (n : Nat) (K M : Nat → Int) : Prop :=
  ∀ i, i < n → ∃ g off, a = some ⟨g, off, none⟩ ∧ g < w.heap.size ∧ w.cell? ⟨g, off + i * 2, none⟩ = some (.int .u64 (K i)) ∧ w.cell? ⟨g, off + i * 2 + 1, none⟩ = some (.int .i64 (M i)) ∧ 0 ≤ K i ∧ K i < 18446744073709551616
theorem Raws.below {w w' : World} {a : Option Addr} {n : Nat} {K M : Nat → Int} (h : Raws w a n K M) (hb : Below w.heap.size w w') : Raws w' a n K M := fun i hi => by
  obtain ⟨g, off, h1, h2, h3, h4, h5⟩ := h i hi
  exact ⟨g, off, h1, Nat.lt_of_lt_of_le h2 hb.size, by rw [hb.cell (p := ⟨g, off + i * 2, none⟩) h2]; exact h3, by rw [hb.cell (p := ⟨g, off + i * 2 + 1, none⟩) h2]; exact h4, h5⟩
theorem Raws.but {S : Nat → Prop} {w w' : World} {a : Option Addr} {n : Nat} {K M : Nat → Int} (h : Raws w a n K M) (hb : But S w w') (hS : ∀ k, inB a k → ¬ S k) : Raws w' a n K M := fun i hi => by
  obtain ⟨g, off, h1, h2, h3, h4, h5⟩ := h i hi
  have hn : ¬ S g := hS g ⟨_, h1, rfl⟩
  exact ⟨g, off, h1, Nat.lt_of_lt_of_le h2 hb.size, by rw [hb.cell (p := ⟨g, off + i * 2, none⟩) h2 hn]; exact h3, by rw [hb.cell (p := ⟨g, off + i * 2 + 1, none⟩) h2 hn]; exact h4, h5⟩

/-- The items that are made of them. -/
def rawL (K V : Nat → Int) (n : Nat) : List KI := (List.range n).map (kiOf K V)
theorem rawL_length (K V : Nat → Int) (n : Nat) : (rawL K V n).length = n := by simp [rawL]
theorem rawL_succ (K V : Nat → Int) (n : Nat) : rawL K V (n + 1) = rawL K V n ++ [kiOf K V n] := by simp [rawL, List.range_succ]
def kt (x : KI) : It := (x.b, x.v)
def kts (L : List KI) : List It := L.map kt
theorem kts_length (L : List KI) : (kts L).length = L.length := by simp [kts]
theorem kts_append (L M : List KI) : kts (L ++ M) = kts L ++ kts M := by simp [kts]
end Go.Proofs.Ytepigofpcjmddaa
