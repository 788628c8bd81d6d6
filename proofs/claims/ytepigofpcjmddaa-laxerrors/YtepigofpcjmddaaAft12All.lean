/-
  Layer 15's count over one call: contracts.
  Layer 15: how many Nexts had begun, of one: contract.
  Layer 15: may a Next's number be, and it is taken: contracts.
  Layer 6's reference: the operations of a kind: contract.
  Layer 6: Check: contracts.
  A region that draws its order in which some operations turn memory that was there (an append, a store), one behind the other: their number is carried on as a ghost; all others only read, or make memory.
  Layer 12: what is held behind an operation that did nothing, and behind a Next: contracts.
-/
import Derived.Test.YtepigofpcjmddaaFlatCl14All
import Derived.Test.YtepigofpcjmddaaFits5All
import Derived.Test.YtepigofpcjmddaaTail
import Derived.Maps.OwnSet
import Derived.Maps.OwnOps
import Derived.Maps.Views
import Derived.Deep.CutBlock
import Derived.Maps.RangeWalk
import Derived.Test.YtepigofpcjmddaaFrame6All
namespace Go.Proofs.Ytepigofpcjmddaa
open Go.RowKit Go.Sort Go.Maps

def cnt6R (kb : Nat) (cb : Nat) (lo : Nat) (bg : Int) : List (Value → World → Prop) :=
  [fun v _ => v = .pointer (some ⟨kb, 0, none⟩),
   fun v _ => v = .pointer (some ⟨kb, 0, none⟩),
   fun v _ => v = .pointer (some ⟨kb, 0, none⟩),
   fun v _ => v = .pointer (some ⟨kb, 2, none⟩),
   fun v _ => v = .slice none 0 0,
   fun v _ => v = .pointer (some ⟨cb, 6, none⟩),
   fun v _ => v = .int .i64 bg,
   fun v w => ∃ g, v = .slice (some ⟨g, 0, none⟩) 1 1 ∧ BoxAt w g [.int .i64 bg],
   fun v w => ∃ g q, v = .slice (some ⟨g, 0, none⟩) 1 q ∧ Flat 1 w g q 1 [.int .i64 bg] ∧ lo ≤ g]
theorem cnt6R_kept (kb : Nat) (cb : Nat) (lo : Nat) (bg : Int) : Reg.AllKept Reg.Keeps (cnt6R kb cb lo bg) :=
  ⟨(fun _ _ _ _ h => h), (fun _ _ _ _ h => h), (fun _ _ _ _ h => h), (fun _ _ _ _ h => h), (fun _ _ _ _ h => h), (fun _ _ _ _ h => h), (fun _ _ _ _ h => h), (fun v w w' hk h => by obtain ⟨g, h1, h2⟩ := h; exact ⟨g, h1, h2.below hk⟩), (fun v w w' hk h => by obtain ⟨g, q, h1, h2, h3⟩ := h; exact ⟨g, q, h1, h2.but (S := fun _ => False) (But.of_below hk) id, h3⟩), trivial⟩

theorem lawI : Keyed Try.prog 2 := int_keyed Try.underlying2
theorem owns_b {w w' : World} {S : Nat → Prop} {R : Value → Option (DataW Unit × List MemPlace)} {t : TypeId} {b n : Nat} {D : DataW Unit} (h : w.ownsMap Try.prog t R b n D) (hb : But S w w') (hS : ¬ S b) : w'.ownsMap Try.prog t R b n D := by
  have hl := h.lt
  obtain ⟨es, clock, hb0, F, hs, hD⟩ := h
  exact ⟨es, clock, (hb.block b hl hS).trans hb0, F, hs, hD⟩
theorem but_gr {w w' : World} {g : Nat} (h : w.grownBy w' (some g)) : But (fun k => k = g) w w' := ⟨h.os, h.tape, h.output, h.size, fun k hk hn => h.block k hk (fun e => hn (by injection e))⟩
/-- A count of one Next that began at bg: nothing was taken. -/
def CntAt (w : World) (lo kb : Nat) (first bg : Int) : Prop :=
  ∃ hb gb gc mb, BoxAt w kb [.slice (some ⟨hb, 0, none⟩) 1 1, .slice none 0 0, .slice (some ⟨gb, 0, none⟩) 1 gc, .map (some mb)] ∧ BoxAt w hb [.int .i64 first] ∧ Flat 1 w gb gc 1 [.int .i64 bg] ∧ w.ownsMap Try.prog 2 (unitElem (H := Unit)) mb 0 (.map []) ∧
    lo ≤ kb ∧ lo ≤ hb ∧ lo ≤ gb ∧ lo ≤ mb

set_option maxRecDepth 20000 in
set_option maxHeartbeats 8000000 in
theorem countOf_no (first : Int) (c : Cl) (a : Option Addr) (cap : Nat) (w : World) (h : SlAt 12 w a cap 1 (flatCl [c])) (hk : ¬ c.kind = 7) :
    Calls Try.prog 79 #[.int .i64 first, .slice a 1 cap] w fun e w' => ∃ kb, e = .returned (.pointer (some ⟨kb, 0, none⟩)) ∧ Below w.heap.size w w' := by
  have hsf := run_store_float (P := Try.prog)
  have hmm := @run_makeMap Try.prog
  rcases h with ⟨_, h0, _⟩ | ⟨g, rfl, hF⟩
  · cases h0
  have hk7 : (c.kind == 7) = false := by simpa using hk
  have hgl := hF.lt
  obtain ⟨W1, hW1⟩ : ∃ W1, (((w.alloc (.cells #[.int .i64 first] 2)).alloc (.map #[] 0)).alloc (.cells #[.slice (some ⟨w.heap.size, 0, none⟩) 1 1, .slice none 0 0, .slice none 0 0, .map (some (w.heap.size + 1))] 195)) = W1 := ⟨_, rfl⟩
  have hb1 : Below w.heap.size w W1 := by rw [← hW1]; exact (((Below.refl _ _).alloc (Nat.le_refl _) _).alloc (by simp) _).alloc (by simp; omega) _
  have hF1 := hF.but (S := fun _ => False) (But.of_below hb1) id
  have HB1 := hidq hb1
  have m0 := hF1.cell 0 _ rfl
  have m1 := hF1.cell 1 _ rfl
  have m2 := hF1.cell 2 _ rfl
  have m3 := hF1.cell 3 _ rfl
  have m4 := hF1.cell 4 _ rfl
  have m5 := hF1.cell 5 _ rfl
  have m6 := hF1.cell 6 _ rfl
  have m7 := hF1.cell 7 _ rfl
  have m8 := hF1.cell 8 _ rfl
  have m9 := hF1.cell 9 _ rfl
  have m10 := hF1.cell 10 _ rfl
  have m11 := hF1.cell 11 _ rfl
  obtain ⟨th, kd, pr, vl, d0, d1, bg, fi, ⟨ok, ap, av, an⟩⟩ := c
  dsimp only at *
  clear hk hF hF1 hb1
  go_enter Try.func79, Try.ntmps79
  go_upto_block 0 with fail
  try rw [hW1]
  clear hW1
  go_wp2_with fail
  refine wp_loop_rounds 2 ?_
  rw [rounds_succ]
  go_wp2_with fail
  rw [rounds_succ]
  go_wp2_with fail
  go_ret
  exact ⟨_, rfl, HB1.out.trans (((Below.refl _ _).alloc (Nat.le_refl _) _).mono HB1.out.size)⟩

set_option maxRecDepth 20000 in
set_option maxHeartbeats 8000000 in
theorem countOf_next (first : Int) (c : Cl) (a : Option Addr) (cap : Nat) (w : World) (h : SlAt 12 w a cap 1 (flatCl [c])) (hk : c.kind = 7) :
    Calls Try.prog 79 #[.int .i64 first, .slice a 1 cap] w fun e w' => ∃ kb, e = .returned (.pointer (some ⟨kb, 0, none⟩)) ∧ CntAt w' w.heap.size kb first c.beg ∧ Below w.heap.size w w' := by
  have hsf := run_store_float (P := Try.prog)
  have hmm := @run_makeMap Try.prog
  rcases h with ⟨_, h0, _⟩ | ⟨g, rfl, hF⟩
  · cases h0
  have hgl := hF.lt
  obtain ⟨hbk, hhb⟩ : ∃ hbk, w.heap.size = hbk := ⟨_, rfl⟩
  obtain ⟨W1, hW1⟩ : ∃ W1, (((w.alloc (.cells #[.int .i64 first] 2)).alloc (.map #[] 0)).alloc (.cells #[.slice (some ⟨hbk, 0, none⟩) 1 1, .slice none 0 0, .slice none 0 0, .map (some (hbk + 1))] 195)) = W1 := ⟨_, rfl⟩
  have H1 := hidq (show Below w.heap.size w W1 ∧ BoxAt W1 hbk [.int .i64 first] ∧ W1.ownsMap Try.prog 2 (unitElem (H := Unit)) (hbk + 1) 0 (.map []) ∧ BoxAt W1 (hbk + 1 + 1) [.slice (some ⟨hbk, 0, none⟩) 1 1, .slice none 0 0, .slice none 0 0, .map (some (hbk + 1))] ∧ W1.heap.size = hbk + 3 from by
    rw [← hW1, ← hhb]
    have e1 : (w.alloc (.cells #[.int .i64 first] 2)).heap.size = w.heap.size + 1 := by simp
    have e2 : ((w.alloc (.cells #[.int .i64 first] 2)).alloc (.map #[] 0)).heap.size = w.heap.size + 1 + 1 := by simp
    have q1 := BoxAt.new w [.int .i64 first] 2
    have q2 := World.ownsMap_made (H := Unit) (w.alloc (.cells #[.int .i64 first] 2)) Try.prog 2 unitElem
    have q3 := BoxAt.new ((w.alloc (.cells #[.int .i64 first] 2)).alloc (.map #[] 0)) [.slice (some ⟨w.heap.size, 0, none⟩) 1 1, .slice none 0 0, .slice none 0 0, .map (some (w.heap.size + 1))] 195
    rw [e1] at q2
    rw [e2] at q3
    exact ⟨(((Below.refl _ _).alloc (Nat.le_refl _) _).alloc (by simp) _).alloc (by simp; omega) _, (q1.below ((Below.refl _ _).alloc (Nat.le_refl _) _)).below ((Below.refl _ _).alloc (Nat.le_refl _) _), q2.alloc _, q3, by simp⟩)
  have hF1 := hF.but (S := fun _ => False) (But.of_below H1.out.1) id
  have m0 := hF1.cell 0 _ rfl
  have m1 := hF1.cell 1 _ rfl
  have m2 := hF1.cell 2 _ rfl
  have m3 := hF1.cell 3 _ rfl
  have m4 := hF1.cell 4 _ rfl
  have m5 := hF1.cell 5 _ rfl
  have m6 := hF1.cell 6 _ rfl
  have m7 := hF1.cell 7 _ rfl
  have m8 := hF1.cell 8 _ rfl
  have m9 := hF1.cell 9 _ rfl
  have m10 := hF1.cell 10 _ rfl
  have m11 := hF1.cell 11 _ rfl
  obtain ⟨th, kd, pr, vl, d0, d1, bg, fi, ⟨ok, ap, av, an⟩⟩ := c
  dsimp only at *
  subst hk
  clear hF hF1
  go_enter Try.func79, Try.ntmps79
  go_upto_block 0 with fail
  try rw [hhb]
  try rw [hW1]
  clear hW1
  obtain ⟨kb, hkb⟩ : ∃ kb, hbk + 1 + 1 = kb := ⟨_, rfl⟩
  try rw [hkb]
  obtain ⟨cb, hcb⟩ : ∃ cb, W1.heap.size = cb := ⟨_, rfl⟩
  obtain ⟨w5, hw5⟩ : ∃ w5, W1.alloc (.cells #[.int .i64 th, .int .i64 7, .float .f64 pr, .int .i64 vl, .int .i64 d0, .int .i64 d1, .int .i64 bg, .int .i64 fi, .bool ok, .float .f64 ap, .int .i64 av, .int .i64 an] 101) = w5 := ⟨_, rfl⟩
  have H5 := hidq (show Below W1.heap.size W1 w5 ∧ BoxAt w5 cb [.int .i64 th, .int .i64 7, .float .f64 pr, .int .i64 vl, .int .i64 d0, .int .i64 d1, .int .i64 bg, .int .i64 fi, .bool ok, .float .f64 ap, .int .i64 av, .int .i64 an] ∧ BoxAt w5 kb [.slice (some ⟨hbk, 0, none⟩) 1 1, .slice none 0 0, .slice none 0 0, .map (some (hbk + 1))] from by
    have hba : Below W1.heap.size W1 w5 := by rw [← hw5]; exact (Below.refl _ _).alloc (Nat.le_refl _) _
    have := H1.out.2.2.2.1
    rw [hkb] at this
    exact ⟨hba, by rw [← hw5, ← hcb]; exact BoxAt.new W1 _ _, this.below hba⟩)
  have FC := hidq (fun W (hW : Reg.Keeps w5 W) => (show W.cell? ⟨kb, 2, none⟩ = some (.slice none 0 0) ∧ W.cell? ⟨cb, 6, none⟩ = some (.int .i64 bg) from
    ⟨((H5.out.2.2.below (show Below w5.heap.size w5 W from hW)).get 2 _ rfl).1, ((H5.out.2.1.below (show Below w5.heap.size w5 W from hW)).get 6 _ rfl).1⟩))
  obtain ⟨lo, hlo⟩ : ∃ lo, w5.heap.size = lo := ⟨_, rfl⟩
  have y1 := (H5.out.2.1.get 1 _ rfl).1
  go_wp2_with fail
  refine wp_loop_rounds 2 ?_
  rw [rounds_succ]
  go_upto_region 6 with fail
  try rw [hw5]
  try rw [hcb]
  clear hw5 m0 m1 m2 m3 m4 m5 m6 m7 m8 m9 m10 m11 y1
  have hrefl : ∀ w : World, Reg.Keeps w w := Reg.Keeps.refl
  refine Reg.wp_region_props_tail 9 (Reg.ofList (cnt6R kb cb lo bg)) Reg.Keeps (fun _ w => Reg.Keeps w5 w) (by kernel_rfl) (by kernel_rfl) (by kernel_rfl) (Reg.AllKept.at _ (cnt6R_kept kb cb lo bg)) hrefl (Reg.Keeps.drewN (Reg.Keeps.refl _) 1) ⟨?_, ?_, ?_, ?_, ?_, ?_, ?_, ?_, ?_, trivial⟩ ?_
  · refine Reg.StepAt.plain (i := 0) rfl ?_
    intro L ev w hI hk hp hA
    have e5 : ev (.tmp 5) = .pointer (some ⟨kb, 0, none⟩) := hA.oldNone 5 (by kernel_rfl)
    have hcc := hA.const
    clear hA hp
    refine Reg.out_value (v := .pointer (some ⟨kb, 0, none⟩)) ?_ ⟨rfl, hrefl _, hI⟩
    go_simp
  · refine Reg.StepAt.plain (i := 1) rfl ?_
    intro L ev w hI hk hp hA
    have e5 : ev (.tmp 5) = .pointer (some ⟨kb, 0, none⟩) := hA.oldNone 5 (by kernel_rfl)
    have hcc := hA.const
    clear hA hp
    refine Reg.out_value (v := .pointer (some ⟨kb, 0, none⟩)) ?_ ⟨rfl, hrefl _, hI⟩
    go_simp
  · refine Reg.StepAt.plain (i := 2) rfl ?_
    intro L ev w hI hk hp hA
    have e24 : ev (.tmp 24) = .pointer (some ⟨kb, 0, none⟩) := hA.val 1 _ 24 rfl (hp ⟨1, .data⟩ (by simp) rfl) rfl
    have hcc := hA.const
    clear hA hp
    refine Reg.out_value (v := .pointer (some ⟨kb, 0, none⟩)) ?_ ⟨rfl, hrefl _, hI⟩
    go_simp
  · refine Reg.StepAt.plain (i := 3) rfl ?_
    intro L ev w hI hk hp hA
    have e25 : ev (.tmp 25) = .pointer (some ⟨kb, 0, none⟩) := hA.val 2 _ 25 rfl (hp ⟨2, .data⟩ (by simp) rfl) rfl
    have hcc := hA.const
    clear hA hp
    refine Reg.out_value (v := .pointer (some ⟨kb, 2, none⟩)) ?_ ⟨rfl, hrefl _, hI⟩
    go_simp
  · refine Reg.StepAt.plain (i := 4) rfl ?_
    intro L ev w hI hk hp hA
    have e26 : ev (.tmp 26) = .pointer (some ⟨kb, 2, none⟩) := hA.val 3 _ 26 rfl (hp ⟨3, .data⟩ (by simp) rfl) rfl
    have hcc := hA.const
    clear hA hp
    obtain ⟨f0, f1⟩ := FC.out w hI
    refine Reg.out_value (v := .slice none 0 0) ?_ ⟨rfl, hrefl _, hI⟩
    go_simp
  · refine Reg.StepAt.plain (i := 5) rfl ?_
    intro L ev w hI hk hp hA
    have e7 : ev (.tmp 7) = .pointer (some ⟨cb, 0, none⟩) := hA.oldNone 7 (by kernel_rfl)
    have hcc := hA.const
    clear hA hp
    refine Reg.out_value (v := .pointer (some ⟨cb, 6, none⟩)) ?_ ⟨rfl, hrefl _, hI⟩
    go_simp
  · refine Reg.StepAt.plain (i := 6) rfl ?_
    intro L ev w hI hk hp hA
    have e28 : ev (.tmp 28) = .pointer (some ⟨cb, 6, none⟩) := hA.val 5 _ 28 rfl (hp ⟨5, .data⟩ (by simp) rfl) rfl
    have hcc := hA.const
    clear hA hp
    obtain ⟨f0, f1⟩ := FC.out w hI
    refine Reg.out_value (v := .int .i64 bg) ?_ ⟨rfl, hrefl _, hI⟩
    go_simp
  · refine Reg.StepAt.plain (i := 7) rfl ?_
    intro L ev w hI hk hp hA
    have e29 : ev (.tmp 29) = .int .i64 bg := hA.val 6 _ 29 rfl (hp ⟨6, .data⟩ (by simp) rfl) rfl
    have hcc := hA.const
    clear hA hp
    refine Reg.out_new (v := .slice (some ⟨w.heap.size, 0, none⟩) 1 1) (w' := w.alloc (.cells #[.int .i64 bg] 3)) ?_ ⟨⟨w.heap.size, rfl, BoxAt.new w [.int .i64 bg] 3⟩, (Reg.Keeps.refl _).alloc _, Reg.Keeps.alloc hI _⟩
    go_simp
  · refine Reg.StepAt.plain (i := 8) rfl ?_
    intro L ev w hI hk hp hA
    have e27 : ev (.tmp 27) = .slice none 0 0 := hA.val 4 _ 27 rfl (hp ⟨4, .data⟩ (by simp) rfl) rfl
    have e30 : (fun v w => ∃ g, v = .slice (some ⟨g, 0, none⟩) 1 1 ∧ BoxAt w g [.int .i64 bg]) (ev (.tmp 30)) w := hA.val 7 _ 30 rfl (hp ⟨7, .data⟩ (by simp) rfl) rfl
    have hcc := hA.const
    clear hA hp
    obtain ⟨g, e30, hG⟩ := e30
    obtain ⟨g', q', w', hrun, hF', hb', hg'⟩ := sl_append plainN 56 w none 0 0 [] (SlAt.nil _ _) _ 1 [.int .i64 bg] (src_new 1 w Try.underlying56 g [.int .i64 bg] rfl (fun j u hu => hG.cell j u hu) (by intro u hu; simp at hu; subst hu; rfl)) (by omega) (by omega)
    have hbk : Reg.Keeps w w' := hb'.below (Nat.le_refl _) (fun k e => by obtain ⟨z, hz, _⟩ := e; cases hz)
    have hlg : lo ≤ g' := by rcases hg' with ⟨z, hz, _⟩ | h; cases hz; have h1 : w5.heap.size ≤ w.heap.size := hI.size; omega
    refine Reg.out_new (v := .slice (some ⟨g', 0, none⟩) 1 q') (w' := w') ?_ ⟨⟨g', q', rfl, hF', hlg⟩, hbk, Reg.Keeps.trans hI hbk⟩
    simp [execOp, resolve, invoke, builtin, e27, e30, hrun, Result.andThen]
  intro act wz hI hF
  have g23 : act.eval (.tmp 23) = .pointer (some ⟨kb, 0, none⟩) := hF.val 0 _ 23 rfl (by kernel_rfl) rfl
  have g24 : act.eval (.tmp 24) = .pointer (some ⟨kb, 0, none⟩) := hF.val 1 _ 24 rfl (by kernel_rfl) rfl
  have g25 : act.eval (.tmp 25) = .pointer (some ⟨kb, 0, none⟩) := hF.val 2 _ 25 rfl (by kernel_rfl) rfl
  have g26 : act.eval (.tmp 26) = .pointer (some ⟨kb, 2, none⟩) := hF.val 3 _ 26 rfl (by kernel_rfl) rfl
  have g27 : act.eval (.tmp 27) = .slice none 0 0 := hF.val 4 _ 27 rfl (by kernel_rfl) rfl
  have g28 : act.eval (.tmp 28) = .pointer (some ⟨cb, 6, none⟩) := hF.val 5 _ 28 rfl (by kernel_rfl) rfl
  have g29 : act.eval (.tmp 29) = .int .i64 bg := hF.val 6 _ 29 rfl (by kernel_rfl) rfl
  have g30 : (fun v w => ∃ g, v = .slice (some ⟨g, 0, none⟩) 1 1 ∧ BoxAt w g [.int .i64 bg]) (act.eval (.tmp 30)) wz := hF.val 7 _ 30 rfl (by kernel_rfl) rfl
  have g31 : (fun v w => ∃ g q, v = .slice (some ⟨g, 0, none⟩) 1 q ∧ Flat 1 w g q 1 [.int .i64 bg] ∧ lo ≤ g) (act.eval (.tmp 31)) wz := hF.val 8 _ 31 rfl (by kernel_rfl) rfl
  have hact := hF.actHead [23, 24, 25, 26, 27, 28, 29, 30, 31] (by kernel_rfl)
  clear hF
  simp only [List.foldl_cons, List.foldl_nil] at hact
  rw [g23, g24, g25, g26, g27, g28, g29] at hact
  clear g23 g24 g25 g26 g27 g28 g29
  generalize act.eval (.tmp 30) = u30 at hact g30
  generalize act.eval (.tmp 31) = u31 at hact g31
  simp only [List.setIfInBounds_toArray, List.set_cons_succ, List.set_cons_zero] at hact
  subst hact
  simp only [List.drop_succ_cons, List.drop_zero]
  obtain ⟨gb, gc, rfl, hG, hgl2⟩ := g31
  have hI5 : Below w5.heap.size w5 wz := hI
  obtain ⟨W7, hW7⟩ : ∃ W7, wz.setCell ⟨kb, 2, none⟩ (.slice (some ⟨gb, 0, none⟩) 1 gc) = W7 := ⟨_, rfl⟩
  have HN := hidq (show CntAt W7 w.heap.size kb first bg ∧ Below w.heap.size w W7 from by
    obtain ⟨q1, q2, q3, q4, q5⟩ := H1.out
    obtain ⟨h1, h2, h3⟩ := H5.out
    have hB : But (fun j => j = kb) wz W7 := by rw [← hW7]; exact (But.refl (fun j => j = kb) wz).set1 kb 2 rfl _
    have z1 := h1.size
    have z2 := hI5.size
    have hk7 : BoxAt W7 kb [.slice (some ⟨hbk, 0, none⟩) 1 1, .slice none 0 0, .slice (some ⟨gb, 0, none⟩) 1 gc, .map (some (hbk + 1))] := by rw [← hW7]; exact (h3.below hI5).set 2 _
    have hm := owns_b (owns_b (owns_b q3 (But.of_below (S := fun _ => False) h1) id) (But.of_below (S := fun _ => False) hI5) id) hB (by omega)
    have s1 := q1.size
    exact ⟨⟨hbk, gb, gc, hbk + 1, hk7, ((q2.below h1).below hI5).but hB (by omega), hG.but hB (by omega), hm, by omega, by omega, by omega, by omega⟩, ((q1.trans (h1.mono s1)).trans (hI5.mono (by omega))).trans (hB.below (by omega) (fun k e => by omega))⟩)
  obtain ⟨z2, f2⟩ := (H5.out.2.2.below hI5).get 2 _ rfl
  clear hG hI hI5 FC H5
  go_wp2_with fail
  try rw [hW7]
  clear z2 f2 hW7
  rw [rounds_succ]
  go_wp2_with fail
  go_ret
  exact ⟨kb, rfl, HN.out.1, HN.out.2⟩
end Go.Proofs.Ytepigofpcjmddaa

namespace Go.Proofs.Ytepigofpcjmddaa
open Go.RowKit Go.Sort Go.Maps

set_option maxRecDepth 20000 in
theorem begun_fn (lo kb : Nat) (first bg step : Int) (b2 b3 : Nat) (w : World) (h : CntAt w lo kb first bg) (h2 : BoxAt w b2 [.pointer (some ⟨kb, 0, none⟩)]) (h3 : BoxAt w b3 [.int .i64 step]) (hbs : bg ≤ step) :
    Calls Try.prog 129 #[.int .i64 0, .pointer (some ⟨b2, 0, none⟩), .pointer (some ⟨b3, 0, none⟩)] w fun e w' => e = .returned (.bool false) ∧ Below w.heap.size w w' := by
  obtain ⟨hb, gb, gc, mb, hK, hH, hG, _⟩ := h
  have m2 := (h2.get 0 _ rfl).1
  have m3 := (h3.get 0 _ rfl).1
  have mk := (hK.get 2 _ rfl).1
  have mg := hG.cell 0 _ rfl
  have hd : decide (step < bg) = false := decide_eq_false (by omega)
  clear hK hH hG h2 h3 hbs
  go_enter Try.func129, Try.ntmps129
  go_wp2_with fail
  go_region
  go_wp2
  go_ret
  exact ⟨rfl, (Below.refl _ _).drew⟩

set_option maxRecDepth 20000 in
theorem search1_any (b2 b3 : Nat) (w : World) (hC : ∀ W, Below w.heap.size w W → Calls Try.prog 129 #[.int .i64 0, .pointer (some ⟨b2, 0, none⟩), .pointer (some ⟨b3, 0, none⟩)] W fun e w' => e = .returned (.bool false) ∧ Below W.heap.size W w') :
    Calls Try.prog 128 #[.int .i64 1, .func (.func 129) #[] #[.pointer (some ⟨b2, 0, none⟩), .pointer (some ⟨b3, 0, none⟩)]] w fun e w' => e = .returned (.int .i64 1) ∧ Below w.heap.size w w' := by
  have HC := hidq hC
  clear hC
  go_enter Try.func128, Try.ntmps128
  go_wp2_with fail
  refine wp_loop_rounds 2 ?_
  rw [rounds_succ]
  go_wp2_with fail
  refine (HC.out _ (Below.refl _ _)).mono ?_
  rintro e w2 ⟨rfl, hb2⟩
  go_wp2_with fail
  rw [rounds_succ]
  go_wp2_with fail
  go_ret
  exact ⟨rfl, hb2⟩

theorem CntAt.below {w w' : World} {lo kb : Nat} {first bg : Int} (h : CntAt w lo kb first bg) (hb : Below w.heap.size w w') : CntAt w' lo kb first bg := by
  obtain ⟨hb1, gb, gc, mb, h1, h2, h3, h4, h5⟩ := h
  exact ⟨hb1, gb, gc, mb, h1.below hb, h2.below hb, h3.but (S := fun _ => False) (But.of_below hb) id, owns_b h4 (But.of_below (S := fun _ => False) hb) id, h5⟩

set_option maxRecDepth 20000 in
theorem begun_any (lo kb : Nat) (first bg step : Int) (w : World) (h : CntAt w lo kb first bg) (hbs : bg ≤ step) :
    Calls Try.prog 113 #[.pointer (some ⟨kb, 0, none⟩), .int .i64 step] w fun e w' => e = .returned (.int .i64 1) ∧ Below w.heap.size w w' := by
  have hmf : ∀ (fn : Fn) (first cap : Array Value) (w : World), (Instr.makeFunc fn first cap).run Try.prog w = .ok (.func fn first cap) w := fun _ _ _ _ => rfl
  obtain ⟨b2, hb2⟩ : ∃ b2, w.heap.size = b2 := ⟨_, rfl⟩
  obtain ⟨W1, hW1⟩ : ∃ W1, (w.alloc (.cells #[.pointer (some ⟨kb, 0, none⟩)] 153)).alloc (.cells #[.int .i64 step] 3) = W1 := ⟨_, rfl⟩
  have H1 := hidq (show Below w.heap.size w W1 ∧ BoxAt W1 b2 [.pointer (some ⟨kb, 0, none⟩)] ∧ BoxAt W1 (b2 + 1) [.int .i64 step] from by
    have q2 := BoxAt.new (w.alloc (.cells #[.pointer (some ⟨kb, 0, none⟩)] 153)) [.int .i64 step] 3
    rw [show (w.alloc (.cells #[.pointer (some ⟨kb, 0, none⟩)] 153)).heap.size = w.heap.size + 1 from by simp] at q2
    rw [← hW1, ← hb2]
    exact ⟨((Below.refl _ _).alloc (Nat.le_refl _) _).alloc (by simp) _, (BoxAt.new w [.pointer (some ⟨kb, 0, none⟩)] 153).below ((Below.refl _ _).alloc (Nat.le_refl _) _), q2⟩)
  have hC := h.below H1.out.1
  have HS := hidq (search1_any b2 (b2 + 1) W1 (fun W hW => begun_fn lo kb first bg step b2 (b2 + 1) W (hC.below hW) (H1.out.2.1.below hW) (H1.out.2.2.below hW) hbs))
  obtain ⟨hb, gb, gc, mb, hK, _⟩ := hC
  have m2 := (H1.out.2.1.get 0 _ rfl).1
  have mk := (hK.get 2 _ rfl).1
  clear hK h
  go_enter Try.func113, Try.ntmps113
  go_upto_region 1 with fail
  try rw [hb2]
  try rw [hW1]
  clear hW1
  go_wp2_with fail
  refine HS.out.mono ?_
  rintro e w2 ⟨rfl, hb2'⟩
  have HN := hidq (show Below w.heap.size w w2 from H1.out.1.trans (hb2'.mono H1.out.1.size))
  clear hb2' HS
  go_wp2_with fail
  go_ret
  exact ⟨rfl, HN.out⟩
end Go.Proofs.Ytepigofpcjmddaa

namespace Go.Proofs.Ytepigofpcjmddaa
open Go.RowKit Go.Sort Go.Maps

def alw7R (kb : Nat) (cb : Nat) (hb : Nat) (first : Int) (nn : Int) (fi : Int) (q : Bool) : List (Value → World → Prop) :=
  [fun v _ => v = .bool false,
   fun v _ => v = .bool true,
   fun v _ => v = .bool true,
   fun v _ => v = .pointer (some ⟨kb, 0, none⟩),
   fun v _ => v = .pointer (some ⟨kb, 0, none⟩),
   fun v _ => v = .pointer (some ⟨kb, 0, none⟩),
   fun v _ => v = .slice (some ⟨hb, 0, none⟩) 1 1,
   fun v _ => v = .pointer (some ⟨hb, 0, none⟩),
   fun v _ => v = .int .i64 first,
   fun v _ => v = .int .i64 nn,
   fun v _ => v = .bool true,
   fun v _ => v = .bool true,
   fun v _ => v = .bool true,
   fun v _ => v = .int .i64 nn,
   fun v _ => v = .pointer (some ⟨kb, 0, none⟩),
   fun v _ => v = .pointer (some ⟨kb, 0, none⟩),
   fun v _ => v = .pointer (some ⟨kb, 0, none⟩),
   fun v _ => v = .slice (some ⟨hb, 0, none⟩) 1 1,
   fun v _ => v = .pointer (some ⟨hb, 0, none⟩),
   fun v _ => v = .int .i64 first,
   fun v _ => v = .pointer (some ⟨kb, 0, none⟩),
   fun v _ => v = .pointer (some ⟨cb, 7, none⟩),
   fun v _ => v = .int .i64 fi,
   fun v _ => v = .int .i64 1,
   fun v _ => v = .int .i64 (first + 1),
   fun v _ => v = .bool q,
   fun v _ => v = .bool q,
   fun v _ => v = .bool q]
theorem alw7R_kept (kb : Nat) (cb : Nat) (hb : Nat) (first : Int) (nn : Int) (fi : Int) (q : Bool) : Reg.AllKept Reg.Keeps (alw7R kb cb hb first nn fi q) :=
  ⟨(fun _ _ _ _ h => h), (fun _ _ _ _ h => h), (fun _ _ _ _ h => h), (fun _ _ _ _ h => h), (fun _ _ _ _ h => h), (fun _ _ _ _ h => h), (fun _ _ _ _ h => h), (fun _ _ _ _ h => h), (fun _ _ _ _ h => h), (fun _ _ _ _ h => h), (fun _ _ _ _ h => h), (fun _ _ _ _ h => h), (fun _ _ _ _ h => h), (fun _ _ _ _ h => h), (fun _ _ _ _ h => h), (fun _ _ _ _ h => h), (fun _ _ _ _ h => h), (fun _ _ _ _ h => h), (fun _ _ _ _ h => h), (fun _ _ _ _ h => h), (fun _ _ _ _ h => h), (fun _ _ _ _ h => h), (fun _ _ _ _ h => h), (fun _ _ _ _ h => h), (fun _ _ _ _ h => h), (fun _ _ _ _ h => h), (fun _ _ _ _ h => h), (fun _ _ _ _ h => h), trivial⟩
def tak6R (kb : Nat) (cb : Nat) (mb : Nat) (nn : Int) : List (Value → World → Prop) :=
  [fun v _ => v = .pointer (some ⟨kb, 0, none⟩),
   fun v _ => v = .pointer (some ⟨kb, 0, none⟩),
   fun v _ => v = .pointer (some ⟨kb, 3, none⟩),
   fun v _ => v = .map (some mb),
   fun v _ => v = .pointer (some ⟨cb, 8, none⟩),
   fun v _ => v = .pointer (some ⟨cb, 11, none⟩),
   fun v _ => v = .int .i64 nn,
   fun v _ => v = .agg #[]]
theorem tak6R_kept (kb : Nat) (cb : Nat) (mb : Nat) (nn : Int) : Reg.AllKept Reg.Keeps (tak6R kb cb mb nn) :=
  ⟨(fun _ _ _ _ h => h), (fun _ _ _ _ h => h), (fun _ _ _ _ h => h), (fun _ _ _ _ h => h), (fun _ _ _ _ h => h), (fun _ _ _ _ h => h), (fun _ _ _ _ h => h), (fun _ _ _ _ h => h), trivial⟩

theorem zeroS (w : World) : (zeroValue 198).run Try.prog w = .ok (.agg #[]) w := by kernel_rfl

set_option maxRecDepth 20000 in
set_option maxHeartbeats 8000000 in
theorem allows_next (lo kb : Nat) (first bg nn th vl d0 d1 b0 fi av : Int) (pr ap : Nat) (w : World) (h : CntAt w lo kb first bg) (hbs : bg ≤ fi) (h1 : first ≤ nn) (hN : -1000000 ≤ first ∧ first ≤ 1152921504606846976) (hwf : (Lit.int .i64 nn).wf = true) :
    Calls Try.prog 81 #[.pointer (some ⟨kb, 0, none⟩), .agg #[.int .i64 th, .int .i64 7, .float .f64 pr, .int .i64 vl, .int .i64 d0, .int .i64 d1, .int .i64 b0, .int .i64 fi, .bool true, .float .f64 ap, .int .i64 av, .int .i64 nn]] w fun e w' => e = .returned (.bool (decide (nn < first + 1))) ∧ Below w.heap.size w w' := by
  obtain ⟨hb, gb, gc, mb, hK, hH, hG, hM, hl⟩ := h
  obtain ⟨cb, hcb⟩ : ∃ cb, w.heap.size = cb := ⟨_, rfl⟩
  obtain ⟨W1, hW1⟩ : ∃ W1, w.alloc (.cells #[.int .i64 th, .int .i64 7, .float .f64 pr, .int .i64 vl, .int .i64 d0, .int .i64 d1, .int .i64 b0, .int .i64 fi, .bool true, .float .f64 ap, .int .i64 av, .int .i64 nn] 101) = W1 := ⟨_, rfl⟩
  have hb1 : Below w.heap.size w W1 := by rw [← hW1]; exact (Below.refl _ _).alloc (Nat.le_refl _) _
  have hX1 : BoxAt W1 cb [.int .i64 th, .int .i64 7, .float .f64 pr, .int .i64 vl, .int .i64 d0, .int .i64 d1, .int .i64 b0, .int .i64 fi, .bool true, .float .f64 ap, .int .i64 av, .int .i64 nn] := by rw [← hW1, ← hcb]; exact BoxAt.new w _ _
  have hC1 : CntAt W1 lo kb first bg := CntAt.below ⟨hb, gb, gc, mb, hK, hH, hG, hM, hl⟩ hb1
  have hown := owns_b hM (But.of_below (S := fun _ => False) hb1) id
  have hK1 := hK.below hb1
  have hH1 := hH.below hb1
  have mk3 := (hK1.get 3 _ rfl).1
  have c1 := (hX1.get 1 _ rfl).1
  have c11 := (hX1.get 11 _ rfl).1
  obtain ⟨w5, hw5⟩ : ∃ w5, W1.alloc (.cells #[] 198) = w5 := ⟨_, rfl⟩
  have hb5 : Below W1.heap.size W1 w5 := by rw [← hw5]; exact (Below.refl _ _).alloc (Nat.le_refl _) _
  have H5 := hidq (And.intro (hb1.trans (hb5.mono hb1.size)) (And.intro (hC1.below hb5) (And.intro (hK1.below hb5) (And.intro (hH1.below hb5) (hX1.below hb5)))))
  have HBG := hidq (fun W (hW : Reg.Keeps w5 W) => begun_any lo kb first bg fi W ((H5.out.2.1).below (show Below w5.heap.size w5 W from hW)) hbs)
  have FC := hidq (fun W (hW : Reg.Keeps w5 W) => (show W.cell? ⟨kb, 0, none⟩ = some (.slice (some ⟨hb, 0, none⟩) 1 1) ∧ W.cell? ⟨hb, 0, none⟩ = some (.int .i64 first) ∧ W.cell? ⟨cb, 7, none⟩ = some (.int .i64 fi) from by
    obtain ⟨_, _, q3, q4, q5⟩ := H5.out
    have hW' : Below w5.heap.size w5 W := hW
    exact ⟨((q3.below hW').get 0 _ rfl).1, ((q4.below hW').get 0 _ rfl).1, ((q5.below hW').get 7 _ rfl).1⟩))
  have HLE : decide (first ≤ nn) = true := decide_eq_true h1
  have HW1 := hidq (show IntKind.i64.wrap (first + 1) = first + 1 from by simp [IntKind.wrap, IntKind.signed, IntKind.bits]; omega)
  obtain ⟨q, hq⟩ : ∃ q, decide (nn < first + 1) = q := ⟨_, rfl⟩
  have HLQ := hq
  rw [hq]
  have hkey : keyOf Try.prog 2 (.int .i64 nn) = some (.int .i64 nn) := keyOf_int_mk Try.underlying2 hwf
  clear hK hH hG hM hl hb1 hX1 hC1 hK1 hH1 hb5 hq h1 hbs hN
  go_enter Try.func81, Try.ntmps81
  go_upto_region 1 with fail
  try rw [hcb]
  try rw [hW1]
  clear hW1
  go_upto_region 7 with (at_lookup; refine wpList_lookup_own_unit _ rfl _ _ 193 rfl 2 198 lawI Try.underlying193 (zeroS _) mb 0 _ rfl hown _ _ rfl hkey ?_)
  rw [show Maps.has (DataW.map [] : DataW Unit) (Lit.int .i64 nn) = false from rfl]
  try rw [hw5]
  clear hw5 mk3 c1 c11 hown hkey
  have hrefl : ∀ w : World, Reg.Keeps w w := Reg.Keeps.refl
  refine Reg.wp_region_props (Reg.ofList (alw7R kb cb hb first nn fi q)) Reg.Keeps (fun _ w => Reg.Keeps w5 w) (by kernel_rfl) (by kernel_rfl) (Reg.AllKept.at _ (alw7R_kept kb cb hb first nn fi q)) hrefl (Reg.Keeps.drewN (Reg.Keeps.refl _) 1) ⟨?_, ?_, ?_, ?_, ?_, ?_, ?_, ?_, ?_, ?_, ?_, ?_, ?_, ?_, ?_, ?_, ?_, ?_, ?_, ?_, ?_, ?_, ?_, ?_, ?_, ?_, ?_, ?_, trivial⟩ ?_
  · refine Reg.StepAt.plain (i := 0) rfl ?_
    intro L ev w hI hk hp hA
    have e7 : ev (.tmp 7) = .bool false := hA.oldNone 7 (by kernel_rfl)
    have hcc := hA.const
    clear hA hp
    refine Reg.out_value (v := .bool false) ?_ ⟨rfl, hrefl _, hI⟩
    go_simp
  · refine Reg.StepAt.plain (i := 1) rfl ?_
    intro L ev w hI hk hp hA
    have e41 : ev (.tmp 41) = .bool false := hA.val 0 _ 41 rfl (hp ⟨0, .data⟩ (by simp) rfl) rfl
    have hcc := hA.const
    clear hA hp
    refine Reg.out_value (v := .bool true) ?_ ⟨rfl, hrefl _, hI⟩
    go_simp
  · refine Reg.StepAt.plain (i := 2) rfl ?_
    intro L ev w hI hk hp hA
    have e42 : ev (.tmp 42) = .bool true := hA.val 1 _ 42 rfl (hp ⟨1, .data⟩ (by simp) rfl) rfl
    have hcc := hA.const
    clear hA hp
    refine Reg.out_value (v := .bool true) ?_ ⟨rfl, hrefl _, hI⟩
    go_simp
  · refine Reg.StepAt.guarded (i := 3) rfl ?_
    intro L ev w hI hk hp hA
    have e0 : ev (.tmp 0) = .pointer (some ⟨kb, 0, none⟩) := hA.oldNone 0 (by kernel_rfl)
    have eg : ev (.tmp 43) = .bool true := hA.val 2 _ 43 rfl (hp ⟨2, .guard⟩ (by simp) rfl) rfl
    refine ⟨_, 43, true, rfl, rfl, eg, ?_⟩
    rw [if_pos rfl]
    have hcc := hA.const
    clear hA hp
    refine Reg.out_value (v := .pointer (some ⟨kb, 0, none⟩)) ?_ ⟨rfl, hrefl _, hI⟩
    go_simp
  · refine Reg.StepAt.guarded (i := 4) rfl ?_
    intro L ev w hI hk hp hA
    have e44 : ev (.tmp 44) = .pointer (some ⟨kb, 0, none⟩) := hA.val 3 _ 44 rfl (hp ⟨3, .data⟩ (by simp) rfl) rfl
    have eg : ev (.tmp 43) = .bool true := hA.val 2 _ 43 rfl (hp ⟨2, .guard⟩ (by simp) rfl) rfl
    refine ⟨_, 43, true, rfl, rfl, eg, ?_⟩
    rw [if_pos rfl]
    have hcc := hA.const
    clear hA hp
    refine Reg.out_value (v := .pointer (some ⟨kb, 0, none⟩)) ?_ ⟨rfl, hrefl _, hI⟩
    go_simp
  · refine Reg.StepAt.guarded (i := 5) rfl ?_
    intro L ev w hI hk hp hA
    have e45 : ev (.tmp 45) = .pointer (some ⟨kb, 0, none⟩) := hA.val 4 _ 45 rfl (hp ⟨4, .data⟩ (by simp) rfl) rfl
    have eg : ev (.tmp 43) = .bool true := hA.val 2 _ 43 rfl (hp ⟨2, .guard⟩ (by simp) rfl) rfl
    refine ⟨_, 43, true, rfl, rfl, eg, ?_⟩
    rw [if_pos rfl]
    have hcc := hA.const
    clear hA hp
    refine Reg.out_value (v := .pointer (some ⟨kb, 0, none⟩)) ?_ ⟨rfl, hrefl _, hI⟩
    go_simp
  · refine Reg.StepAt.guarded (i := 6) rfl ?_
    intro L ev w hI hk hp hA
    have e46 : ev (.tmp 46) = .pointer (some ⟨kb, 0, none⟩) := hA.val 5 _ 46 rfl (hp ⟨5, .data⟩ (by simp) rfl) rfl
    have eg : ev (.tmp 43) = .bool true := hA.val 2 _ 43 rfl (hp ⟨2, .guard⟩ (by simp) rfl) rfl
    refine ⟨_, 43, true, rfl, rfl, eg, ?_⟩
    rw [if_pos rfl]
    have hcc := hA.const
    clear hA hp
    obtain ⟨f0, f1, f2⟩ := FC.out w hI
    refine Reg.out_value (v := .slice (some ⟨hb, 0, none⟩) 1 1) ?_ ⟨rfl, hrefl _, hI⟩
    go_simp
  · refine Reg.StepAt.guarded (i := 7) rfl ?_
    intro L ev w hI hk hp hA
    have e47 : ev (.tmp 47) = .slice (some ⟨hb, 0, none⟩) 1 1 := hA.val 6 _ 47 rfl (hp ⟨6, .data⟩ (by simp) rfl) rfl
    have eg : ev (.tmp 43) = .bool true := hA.val 2 _ 43 rfl (hp ⟨2, .guard⟩ (by simp) rfl) rfl
    refine ⟨_, 43, true, rfl, rfl, eg, ?_⟩
    rw [if_pos rfl]
    have hcc := hA.const
    clear hA hp
    refine Reg.out_value (v := .pointer (some ⟨hb, 0, none⟩)) ?_ ⟨rfl, hrefl _, hI⟩
    go_simp
  · refine Reg.StepAt.guarded (i := 8) rfl ?_
    intro L ev w hI hk hp hA
    have e48 : ev (.tmp 48) = .pointer (some ⟨hb, 0, none⟩) := hA.val 7 _ 48 rfl (hp ⟨7, .data⟩ (by simp) rfl) rfl
    have eg : ev (.tmp 43) = .bool true := hA.val 2 _ 43 rfl (hp ⟨2, .guard⟩ (by simp) rfl) rfl
    refine ⟨_, 43, true, rfl, rfl, eg, ?_⟩
    rw [if_pos rfl]
    have hcc := hA.const
    clear hA hp
    obtain ⟨f0, f1, f2⟩ := FC.out w hI
    refine Reg.out_value (v := .int .i64 first) ?_ ⟨rfl, hrefl _, hI⟩
    go_simp
  · refine Reg.StepAt.guarded (i := 9) rfl ?_
    intro L ev w hI hk hp hA
    have e5 : ev (.tmp 5) = .int .i64 nn := hA.oldNone 5 (by kernel_rfl)
    have eg : ev (.tmp 43) = .bool true := hA.val 2 _ 43 rfl (hp ⟨2, .guard⟩ (by simp) rfl) rfl
    refine ⟨_, 43, true, rfl, rfl, eg, ?_⟩
    rw [if_pos rfl]
    have hcc := hA.const
    clear hA hp
    refine Reg.out_value (v := .int .i64 nn) ?_ ⟨rfl, hrefl _, hI⟩
    go_simp
  · refine Reg.StepAt.guarded (i := 10) rfl ?_
    intro L ev w hI hk hp hA
    have e49 : ev (.tmp 49) = .int .i64 first := hA.val 8 _ 49 rfl (hp ⟨8, .data⟩ (by simp) rfl) rfl
    have e50 : ev (.tmp 50) = .int .i64 nn := hA.val 9 _ 50 rfl (hp ⟨9, .data⟩ (by simp) rfl) rfl
    have eg : ev (.tmp 43) = .bool true := hA.val 2 _ 43 rfl (hp ⟨2, .guard⟩ (by simp) rfl) rfl
    refine ⟨_, 43, true, rfl, rfl, eg, ?_⟩
    rw [if_pos rfl]
    have hcc := hA.const
    clear hA hp
    refine Reg.out_value (v := .bool true) ?_ ⟨rfl, hrefl _, hI⟩
    (have hq := HLE; go_simp)
  · refine Reg.StepAt.plain (i := 11) rfl ?_
    intro L ev w hI hk hp hA
    have e43 : ev (.tmp 43) = .bool true := hA.val 2 _ 43 rfl (hp ⟨2, .data⟩ (by simp) rfl) rfl
    have e51 : ev (.tmp 51) = .bool true := hA.val 10 _ 51 rfl (hp ⟨10, .data⟩ (by simp) rfl) rfl
    have hcc := hA.const
    clear hA hp
    refine Reg.out_value (v := .bool true) ?_ ⟨rfl, hrefl _, hI⟩
    go_simp
  · refine Reg.StepAt.plain (i := 12) rfl ?_
    intro L ev w hI hk hp hA
    have e52 : ev (.tmp 52) = .bool true := hA.val 11 _ 52 rfl (hp ⟨11, .data⟩ (by simp) rfl) rfl
    have hcc := hA.const
    clear hA hp
    refine Reg.out_value (v := .bool true) ?_ ⟨rfl, hrefl _, hI⟩
    go_simp
  · refine Reg.StepAt.guarded (i := 13) rfl ?_
    intro L ev w hI hk hp hA
    have e5 : ev (.tmp 5) = .int .i64 nn := hA.oldNone 5 (by kernel_rfl)
    have eg : ev (.tmp 53) = .bool true := hA.val 12 _ 53 rfl (hp ⟨12, .guard⟩ (by simp) rfl) rfl
    refine ⟨_, 53, true, rfl, rfl, eg, ?_⟩
    rw [if_pos rfl]
    have hcc := hA.const
    clear hA hp
    refine Reg.out_value (v := .int .i64 nn) ?_ ⟨rfl, hrefl _, hI⟩
    go_simp
  · refine Reg.StepAt.guarded (i := 14) rfl ?_
    intro L ev w hI hk hp hA
    have e0 : ev (.tmp 0) = .pointer (some ⟨kb, 0, none⟩) := hA.oldNone 0 (by kernel_rfl)
    have eg : ev (.tmp 53) = .bool true := hA.val 12 _ 53 rfl (hp ⟨12, .guard⟩ (by simp) rfl) rfl
    refine ⟨_, 53, true, rfl, rfl, eg, ?_⟩
    rw [if_pos rfl]
    have hcc := hA.const
    clear hA hp
    refine Reg.out_value (v := .pointer (some ⟨kb, 0, none⟩)) ?_ ⟨rfl, hrefl _, hI⟩
    go_simp
  · refine Reg.StepAt.guarded (i := 15) rfl ?_
    intro L ev w hI hk hp hA
    have e55 : ev (.tmp 55) = .pointer (some ⟨kb, 0, none⟩) := hA.val 14 _ 55 rfl (hp ⟨14, .data⟩ (by simp) rfl) rfl
    have eg : ev (.tmp 53) = .bool true := hA.val 12 _ 53 rfl (hp ⟨12, .guard⟩ (by simp) rfl) rfl
    refine ⟨_, 53, true, rfl, rfl, eg, ?_⟩
    rw [if_pos rfl]
    have hcc := hA.const
    clear hA hp
    refine Reg.out_value (v := .pointer (some ⟨kb, 0, none⟩)) ?_ ⟨rfl, hrefl _, hI⟩
    go_simp
  · refine Reg.StepAt.guarded (i := 16) rfl ?_
    intro L ev w hI hk hp hA
    have e56 : ev (.tmp 56) = .pointer (some ⟨kb, 0, none⟩) := hA.val 15 _ 56 rfl (hp ⟨15, .data⟩ (by simp) rfl) rfl
    have eg : ev (.tmp 53) = .bool true := hA.val 12 _ 53 rfl (hp ⟨12, .guard⟩ (by simp) rfl) rfl
    refine ⟨_, 53, true, rfl, rfl, eg, ?_⟩
    rw [if_pos rfl]
    have hcc := hA.const
    clear hA hp
    refine Reg.out_value (v := .pointer (some ⟨kb, 0, none⟩)) ?_ ⟨rfl, hrefl _, hI⟩
    go_simp
  · refine Reg.StepAt.guarded (i := 17) rfl ?_
    intro L ev w hI hk hp hA
    have e57 : ev (.tmp 57) = .pointer (some ⟨kb, 0, none⟩) := hA.val 16 _ 57 rfl (hp ⟨16, .data⟩ (by simp) rfl) rfl
    have eg : ev (.tmp 53) = .bool true := hA.val 12 _ 53 rfl (hp ⟨12, .guard⟩ (by simp) rfl) rfl
    refine ⟨_, 53, true, rfl, rfl, eg, ?_⟩
    rw [if_pos rfl]
    have hcc := hA.const
    clear hA hp
    obtain ⟨f0, f1, f2⟩ := FC.out w hI
    refine Reg.out_value (v := .slice (some ⟨hb, 0, none⟩) 1 1) ?_ ⟨rfl, hrefl _, hI⟩
    go_simp
  · refine Reg.StepAt.guarded (i := 18) rfl ?_
    intro L ev w hI hk hp hA
    have e58 : ev (.tmp 58) = .slice (some ⟨hb, 0, none⟩) 1 1 := hA.val 17 _ 58 rfl (hp ⟨17, .data⟩ (by simp) rfl) rfl
    have eg : ev (.tmp 53) = .bool true := hA.val 12 _ 53 rfl (hp ⟨12, .guard⟩ (by simp) rfl) rfl
    refine ⟨_, 53, true, rfl, rfl, eg, ?_⟩
    rw [if_pos rfl]
    have hcc := hA.const
    clear hA hp
    refine Reg.out_value (v := .pointer (some ⟨hb, 0, none⟩)) ?_ ⟨rfl, hrefl _, hI⟩
    go_simp
  · refine Reg.StepAt.guarded (i := 19) rfl ?_
    intro L ev w hI hk hp hA
    have e59 : ev (.tmp 59) = .pointer (some ⟨hb, 0, none⟩) := hA.val 18 _ 59 rfl (hp ⟨18, .data⟩ (by simp) rfl) rfl
    have eg : ev (.tmp 53) = .bool true := hA.val 12 _ 53 rfl (hp ⟨12, .guard⟩ (by simp) rfl) rfl
    refine ⟨_, 53, true, rfl, rfl, eg, ?_⟩
    rw [if_pos rfl]
    have hcc := hA.const
    clear hA hp
    obtain ⟨f0, f1, f2⟩ := FC.out w hI
    refine Reg.out_value (v := .int .i64 first) ?_ ⟨rfl, hrefl _, hI⟩
    go_simp
  · refine Reg.StepAt.guarded (i := 20) rfl ?_
    intro L ev w hI hk hp hA
    have e0 : ev (.tmp 0) = .pointer (some ⟨kb, 0, none⟩) := hA.oldNone 0 (by kernel_rfl)
    have eg : ev (.tmp 53) = .bool true := hA.val 12 _ 53 rfl (hp ⟨12, .guard⟩ (by simp) rfl) rfl
    refine ⟨_, 53, true, rfl, rfl, eg, ?_⟩
    rw [if_pos rfl]
    have hcc := hA.const
    clear hA hp
    refine Reg.out_value (v := .pointer (some ⟨kb, 0, none⟩)) ?_ ⟨rfl, hrefl _, hI⟩
    go_simp
  · refine Reg.StepAt.guarded (i := 21) rfl ?_
    intro L ev w hI hk hp hA
    have e3 : ev (.tmp 3) = .pointer (some ⟨cb, 0, none⟩) := hA.oldNone 3 (by kernel_rfl)
    have eg : ev (.tmp 53) = .bool true := hA.val 12 _ 53 rfl (hp ⟨12, .guard⟩ (by simp) rfl) rfl
    refine ⟨_, 53, true, rfl, rfl, eg, ?_⟩
    rw [if_pos rfl]
    have hcc := hA.const
    clear hA hp
    refine Reg.out_value (v := .pointer (some ⟨cb, 7, none⟩)) ?_ ⟨rfl, hrefl _, hI⟩
    go_simp
  · refine Reg.StepAt.guarded (i := 22) rfl ?_
    intro L ev w hI hk hp hA
    have e62 : ev (.tmp 62) = .pointer (some ⟨cb, 7, none⟩) := hA.val 21 _ 62 rfl (hp ⟨21, .data⟩ (by simp) rfl) rfl
    have eg : ev (.tmp 53) = .bool true := hA.val 12 _ 53 rfl (hp ⟨12, .guard⟩ (by simp) rfl) rfl
    refine ⟨_, 53, true, rfl, rfl, eg, ?_⟩
    rw [if_pos rfl]
    have hcc := hA.const
    clear hA hp
    obtain ⟨f0, f1, f2⟩ := FC.out w hI
    refine Reg.out_value (v := .int .i64 fi) ?_ ⟨rfl, hrefl _, hI⟩
    go_simp
  · refine Reg.StepAt.guarded (i := 23) rfl ?_
    intro L ev w hI hk hp hA
    have e61 : ev (.tmp 61) = .pointer (some ⟨kb, 0, none⟩) := hA.val 20 _ 61 rfl (hp ⟨20, .data⟩ (by simp) rfl) rfl
    have e63 : ev (.tmp 63) = .int .i64 fi := hA.val 22 _ 63 rfl (hp ⟨22, .data⟩ (by simp) rfl) rfl
    have eg : ev (.tmp 53) = .bool true := hA.val 12 _ 53 rfl (hp ⟨12, .chain⟩ (by simp) rfl) rfl
    refine ⟨_, 53, true, rfl, rfl, eg, ?_⟩
    rw [if_pos rfl]
    have hcc := hA.const
    have hcf := hA.func
    clear hA hp
    refine Reg.out_call (f := 113) (args := #[.pointer (some ⟨kb, 0, none⟩), .int .i64 fi]) (w0 := w) ?_ ?_
    · go_simp
    refine (HBG.out w hI).mono ?_
    rintro e w' ⟨rfl, hb'⟩
    exact ⟨_, rfl, rfl, hb', Reg.Keeps.trans hI hb'⟩
  · refine Reg.StepAt.guarded (i := 24) rfl ?_
    intro L ev w hI hk hp hA
    have e60 : ev (.tmp 60) = .int .i64 first := hA.val 19 _ 60 rfl (hp ⟨19, .data⟩ (by simp) rfl) rfl
    have e64 : ev (.tmp 64) = .int .i64 1 := hA.val 23 _ 64 rfl (hp ⟨23, .data⟩ (by simp) rfl) rfl
    have eg : ev (.tmp 53) = .bool true := hA.val 12 _ 53 rfl (hp ⟨12, .guard⟩ (by simp) rfl) rfl
    refine ⟨_, 53, true, rfl, rfl, eg, ?_⟩
    rw [if_pos rfl]
    have hcc := hA.const
    clear hA hp
    refine Reg.out_value (v := .int .i64 (first + 1)) ?_ ⟨rfl, hrefl _, hI⟩
    (go_simp; exact HW1.out)
  · refine Reg.StepAt.guarded (i := 25) rfl ?_
    intro L ev w hI hk hp hA
    have e54 : ev (.tmp 54) = .int .i64 nn := hA.val 13 _ 54 rfl (hp ⟨13, .data⟩ (by simp) rfl) rfl
    have e65 : ev (.tmp 65) = .int .i64 (first + 1) := hA.val 24 _ 65 rfl (hp ⟨24, .data⟩ (by simp) rfl) rfl
    have eg : ev (.tmp 53) = .bool true := hA.val 12 _ 53 rfl (hp ⟨12, .guard⟩ (by simp) rfl) rfl
    refine ⟨_, 53, true, rfl, rfl, eg, ?_⟩
    rw [if_pos rfl]
    have hcc := hA.const
    clear hA hp
    refine Reg.out_value (v := .bool q) ?_ ⟨rfl, hrefl _, hI⟩
    (have hq := HLQ; go_simp)
  · refine Reg.StepAt.plain (i := 26) rfl ?_
    intro L ev w hI hk hp hA
    have e53 : ev (.tmp 53) = .bool true := hA.val 12 _ 53 rfl (hp ⟨12, .data⟩ (by simp) rfl) rfl
    have e66 : ev (.tmp 66) = .bool q := hA.val 25 _ 66 rfl (hp ⟨25, .data⟩ (by simp) rfl) rfl
    have hcc := hA.const
    clear hA hp
    refine Reg.out_value (v := .bool q) ?_ ⟨rfl, hrefl _, hI⟩
    go_simp
  · refine Reg.StepAt.plain (i := 27) rfl ?_
    intro L ev w hI hk hp hA
    have e67 : ev (.tmp 67) = .bool q := hA.val 26 _ 67 rfl (hp ⟨26, .data⟩ (by simp) rfl) rfl
    have hcc := hA.const
    clear hA hp
    refine Reg.out_value (v := .bool q) ?_ ⟨rfl, hrefl _, hI⟩
    go_simp
  intro L act wz hall hI hF
  have g41 : act.eval (.tmp 41) = .bool false := hF.val 0 _ 41 rfl (hall 0 (by simp)) rfl
  have g42 : act.eval (.tmp 42) = .bool true := hF.val 1 _ 42 rfl (hall 1 (by simp)) rfl
  have g43 : act.eval (.tmp 43) = .bool true := hF.val 2 _ 43 rfl (hall 2 (by simp)) rfl
  have g44 : act.eval (.tmp 44) = .pointer (some ⟨kb, 0, none⟩) := hF.val 3 _ 44 rfl (hall 3 (by simp)) rfl
  have g45 : act.eval (.tmp 45) = .pointer (some ⟨kb, 0, none⟩) := hF.val 4 _ 45 rfl (hall 4 (by simp)) rfl
  have g46 : act.eval (.tmp 46) = .pointer (some ⟨kb, 0, none⟩) := hF.val 5 _ 46 rfl (hall 5 (by simp)) rfl
  have g47 : act.eval (.tmp 47) = .slice (some ⟨hb, 0, none⟩) 1 1 := hF.val 6 _ 47 rfl (hall 6 (by simp)) rfl
  have g48 : act.eval (.tmp 48) = .pointer (some ⟨hb, 0, none⟩) := hF.val 7 _ 48 rfl (hall 7 (by simp)) rfl
  have g49 : act.eval (.tmp 49) = .int .i64 first := hF.val 8 _ 49 rfl (hall 8 (by simp)) rfl
  have g50 : act.eval (.tmp 50) = .int .i64 nn := hF.val 9 _ 50 rfl (hall 9 (by simp)) rfl
  have g51 : act.eval (.tmp 51) = .bool true := hF.val 10 _ 51 rfl (hall 10 (by simp)) rfl
  have g52 : act.eval (.tmp 52) = .bool true := hF.val 11 _ 52 rfl (hall 11 (by simp)) rfl
  have g53 : act.eval (.tmp 53) = .bool true := hF.val 12 _ 53 rfl (hall 12 (by simp)) rfl
  have g54 : act.eval (.tmp 54) = .int .i64 nn := hF.val 13 _ 54 rfl (hall 13 (by simp)) rfl
  have g55 : act.eval (.tmp 55) = .pointer (some ⟨kb, 0, none⟩) := hF.val 14 _ 55 rfl (hall 14 (by simp)) rfl
  have g56 : act.eval (.tmp 56) = .pointer (some ⟨kb, 0, none⟩) := hF.val 15 _ 56 rfl (hall 15 (by simp)) rfl
  have g57 : act.eval (.tmp 57) = .pointer (some ⟨kb, 0, none⟩) := hF.val 16 _ 57 rfl (hall 16 (by simp)) rfl
  have g58 : act.eval (.tmp 58) = .slice (some ⟨hb, 0, none⟩) 1 1 := hF.val 17 _ 58 rfl (hall 17 (by simp)) rfl
  have g59 : act.eval (.tmp 59) = .pointer (some ⟨hb, 0, none⟩) := hF.val 18 _ 59 rfl (hall 18 (by simp)) rfl
  have g60 : act.eval (.tmp 60) = .int .i64 first := hF.val 19 _ 60 rfl (hall 19 (by simp)) rfl
  have g61 : act.eval (.tmp 61) = .pointer (some ⟨kb, 0, none⟩) := hF.val 20 _ 61 rfl (hall 20 (by simp)) rfl
  have g62 : act.eval (.tmp 62) = .pointer (some ⟨cb, 7, none⟩) := hF.val 21 _ 62 rfl (hall 21 (by simp)) rfl
  have g63 : act.eval (.tmp 63) = .int .i64 fi := hF.val 22 _ 63 rfl (hall 22 (by simp)) rfl
  have g64 : act.eval (.tmp 64) = .int .i64 1 := hF.val 23 _ 64 rfl (hall 23 (by simp)) rfl
  have g65 : act.eval (.tmp 65) = .int .i64 (first + 1) := hF.val 24 _ 65 rfl (hall 24 (by simp)) rfl
  have g66 : act.eval (.tmp 66) = .bool q := hF.val 25 _ 66 rfl (hall 25 (by simp)) rfl
  have g67 : act.eval (.tmp 67) = .bool q := hF.val 26 _ 67 rfl (hall 26 (by simp)) rfl
  have g4 : act.eval (.tmp 4) = .bool q := hF.val 27 _ 4 rfl (hall 27 (by simp)) rfl
  have hact := hF.act [41, 42, 43, 44, 45, 46, 47, 48, 49, 50, 51, 52, 53, 54, 55, 56, 57, 58, 59, 60, 61, 62, 63, 64, 65, 66, 67, 4] (by kernel_rfl)
  clear hF hall
  simp only [List.foldl_cons, List.foldl_nil] at hact
  rw [g41, g42, g43, g44, g45, g46, g47, g48, g49, g50, g51, g52, g53, g54, g55, g56, g57, g58, g59, g60, g61, g62, g63, g64, g65, g66, g67, g4] at hact
  clear g41 g42 g43 g44 g45 g46 g47 g48 g49 g50 g51 g52 g53 g54 g55 g56 g57 g58 g59 g60 g61 g62 g63 g64 g65 g66 g67 g4
  simp only [List.setIfInBounds_toArray, List.set_cons_succ, List.set_cons_zero] at hact
  subst hact
  have HN := hidq (show Below w.heap.size w wz from H5.out.1.trans ((show Below w5.heap.size w5 wz from hI).mono H5.out.1.size))
  clear hI FC HBG H5
  go_wp2_with fail
  go_ret
  exact ⟨rfl, HN.out⟩

set_option maxRecDepth 20000 in
set_option maxHeartbeats 8000000 in
theorem take_next (lo kb : Nat) (first bg nn th vl d0 d1 b0 fi av : Int) (pr ap : Nat) (w : World) (h : CntAt w lo kb first bg) (hwf : (Lit.int .i64 nn).wf = true) :
    Calls Try.prog 82 #[.pointer (some ⟨kb, 0, none⟩), .agg #[.int .i64 th, .int .i64 7, .float .f64 pr, .int .i64 vl, .int .i64 d0, .int .i64 d1, .int .i64 b0, .int .i64 fi, .bool true, .float .f64 ap, .int .i64 av, .int .i64 nn]] w fun e w' => e = .returned (.tuple #[]) ∧ (lo ≤ w.heap.size → Below lo w w') := by
  obtain ⟨hb, gb, gc, mb, hK, hH, hG, hM, hl⟩ := h
  obtain ⟨cb, hcb⟩ : ∃ cb, w.heap.size = cb := ⟨_, rfl⟩
  obtain ⟨w5, hW1⟩ : ∃ W1, w.alloc (.cells #[.int .i64 th, .int .i64 7, .float .f64 pr, .int .i64 vl, .int .i64 d0, .int .i64 d1, .int .i64 b0, .int .i64 fi, .bool true, .float .f64 ap, .int .i64 av, .int .i64 nn] 101) = W1 := ⟨_, rfl⟩
  have hb1 : Below w.heap.size w w5 := by rw [← hW1]; exact (Below.refl _ _).alloc (Nat.le_refl _) _
  have hX1 : BoxAt w5 cb [.int .i64 th, .int .i64 7, .float .f64 pr, .int .i64 vl, .int .i64 d0, .int .i64 d1, .int .i64 b0, .int .i64 fi, .bool true, .float .f64 ap, .int .i64 av, .int .i64 nn] := by rw [← hW1, ← hcb]; exact BoxAt.new w _ _
  have hown := owns_b hM (But.of_below (S := fun _ => False) hb1) id
  have hK1 := hK.below hb1
  have c1 := (hX1.get 1 _ rfl).1
  have FC := hidq (fun W (hW : Reg.Keeps w5 W) => (show W.cell? ⟨kb, 3, none⟩ = some (.map (some mb)) ∧ W.cell? ⟨cb, 11, none⟩ = some (.int .i64 nn) from by
    have hW' : Below w5.heap.size w5 W := hW
    exact ⟨((hK1.below hW').get 3 _ rfl).1, ((hX1.below hW').get 11 _ rfl).1⟩))
  have H5 := hidq (And.intro hb1 (And.intro hown hl.2.2.2))
  have hkey : keyOf Try.prog 2 (.int .i64 nn) = some (.int .i64 nn) := keyOf_int_mk Try.underlying2 hwf
  clear hK hH hG hM hl hb1 hX1 hown hK1
  go_enter Try.func82, Try.ntmps82
  go_upto_region 1 with fail
  try rw [hcb]
  try rw [hW1]
  clear hW1
  go_upto_region 6 with fail
  clear c1
  have hrefl : ∀ w : World, Reg.Keeps w w := Reg.Keeps.refl
  refine Reg.wp_region_props_tail 8 (Reg.ofList (tak6R kb cb mb nn)) Reg.Keeps (fun _ w => Reg.Keeps w5 w) (by kernel_rfl) (by kernel_rfl) (by kernel_rfl) (Reg.AllKept.at _ (tak6R_kept kb cb mb nn)) hrefl (Reg.Keeps.drewN (Reg.Keeps.refl _) 1) ⟨?_, ?_, ?_, ?_, ?_, ?_, ?_, ?_, trivial⟩ ?_
  · refine Reg.StepAt.plain (i := 0) rfl ?_
    intro L ev w hI hk hp hA
    have e0 : ev (.tmp 0) = .pointer (some ⟨kb, 0, none⟩) := hA.oldNone 0 (by kernel_rfl)
    have hcc := hA.const
    clear hA hp
    refine Reg.out_value (v := .pointer (some ⟨kb, 0, none⟩)) ?_ ⟨rfl, hrefl _, hI⟩
    go_simp
  · refine Reg.StepAt.plain (i := 1) rfl ?_
    intro L ev w hI hk hp hA
    have e48 : ev (.tmp 48) = .pointer (some ⟨kb, 0, none⟩) := hA.val 0 _ 48 rfl (hp ⟨0, .data⟩ (by simp) rfl) rfl
    have hcc := hA.const
    clear hA hp
    refine Reg.out_value (v := .pointer (some ⟨kb, 0, none⟩)) ?_ ⟨rfl, hrefl _, hI⟩
    go_simp
  · refine Reg.StepAt.plain (i := 2) rfl ?_
    intro L ev w hI hk hp hA
    have e49 : ev (.tmp 49) = .pointer (some ⟨kb, 0, none⟩) := hA.val 1 _ 49 rfl (hp ⟨1, .data⟩ (by simp) rfl) rfl
    have hcc := hA.const
    clear hA hp
    refine Reg.out_value (v := .pointer (some ⟨kb, 3, none⟩)) ?_ ⟨rfl, hrefl _, hI⟩
    go_simp
  · refine Reg.StepAt.plain (i := 3) rfl ?_
    intro L ev w hI hk hp hA
    have e50 : ev (.tmp 50) = .pointer (some ⟨kb, 3, none⟩) := hA.val 2 _ 50 rfl (hp ⟨2, .data⟩ (by simp) rfl) rfl
    have hcc := hA.const
    clear hA hp
    obtain ⟨f0, f1⟩ := FC.out w hI
    refine Reg.out_value (v := .map (some mb)) ?_ ⟨rfl, hrefl _, hI⟩
    go_simp
  · refine Reg.StepAt.plain (i := 4) rfl ?_
    intro L ev w hI hk hp hA
    have e3 : ev (.tmp 3) = .pointer (some ⟨cb, 0, none⟩) := hA.oldNone 3 (by kernel_rfl)
    have hcc := hA.const
    clear hA hp
    refine Reg.out_value (v := .pointer (some ⟨cb, 8, none⟩)) ?_ ⟨rfl, hrefl _, hI⟩
    go_simp
  · refine Reg.StepAt.plain (i := 5) rfl ?_
    intro L ev w hI hk hp hA
    have e52 : ev (.tmp 52) = .pointer (some ⟨cb, 8, none⟩) := hA.val 4 _ 52 rfl (hp ⟨4, .data⟩ (by simp) rfl) rfl
    have hcc := hA.const
    clear hA hp
    refine Reg.out_value (v := .pointer (some ⟨cb, 11, none⟩)) ?_ ⟨rfl, hrefl _, hI⟩
    go_simp
  · refine Reg.StepAt.plain (i := 6) rfl ?_
    intro L ev w hI hk hp hA
    have e53 : ev (.tmp 53) = .pointer (some ⟨cb, 11, none⟩) := hA.val 5 _ 53 rfl (hp ⟨5, .data⟩ (by simp) rfl) rfl
    have hcc := hA.const
    clear hA hp
    obtain ⟨f0, f1⟩ := FC.out w hI
    refine Reg.out_value (v := .int .i64 nn) ?_ ⟨rfl, hrefl _, hI⟩
    go_simp
  · refine Reg.StepAt.plain (i := 7) rfl ?_
    intro L ev w hI hk hp hA
    have hcc := hA.const
    clear hA hp
    refine Reg.out_value (v := .agg #[]) ?_ ⟨rfl, hrefl _, hI⟩
    go_simp
  intro act wz hI hF
  have g48 : act.eval (.tmp 48) = .pointer (some ⟨kb, 0, none⟩) := hF.val 0 _ 48 rfl (by kernel_rfl) rfl
  have g49 : act.eval (.tmp 49) = .pointer (some ⟨kb, 0, none⟩) := hF.val 1 _ 49 rfl (by kernel_rfl) rfl
  have g50 : act.eval (.tmp 50) = .pointer (some ⟨kb, 3, none⟩) := hF.val 2 _ 50 rfl (by kernel_rfl) rfl
  have g51 : act.eval (.tmp 51) = .map (some mb) := hF.val 3 _ 51 rfl (by kernel_rfl) rfl
  have g52 : act.eval (.tmp 52) = .pointer (some ⟨cb, 8, none⟩) := hF.val 4 _ 52 rfl (by kernel_rfl) rfl
  have g53 : act.eval (.tmp 53) = .pointer (some ⟨cb, 11, none⟩) := hF.val 5 _ 53 rfl (by kernel_rfl) rfl
  have g54 : act.eval (.tmp 54) = .int .i64 nn := hF.val 6 _ 54 rfl (by kernel_rfl) rfl
  have g55 : act.eval (.tmp 55) = .agg #[] := hF.val 7 _ 55 rfl (by kernel_rfl) rfl
  have hact := hF.actHead [48, 49, 50, 51, 52, 53, 54, 55] (by kernel_rfl)
  clear hF
  simp only [List.foldl_cons, List.foldl_nil] at hact
  rw [g48, g49, g50, g51, g52, g53, g54, g55] at hact
  clear g48 g49 g50 g51 g52 g53 g54 g55
  simp only [List.setIfInBounds_toArray, List.set_cons_succ, List.set_cons_zero] at hact
  subst hact
  simp only [List.drop_succ_cons, List.drop_zero]
  have hI5 : Below w5.heap.size w5 wz := hI
  have hown := owns_b H5.out.2.1 (But.of_below (S := fun _ => False) hI5) id
  clear hI
  go_wp2_with (at_mapUpdate; refine wpList_mapUpdate_own _ rfl _ _ _ 193 rfl 2 198 lawI Try.underlying193 _ mb 0 _ rfl hown (by unfold maxLen; omega) _ _ _ rfl rfl hkey _ [] unitElem_mk ?_; intro w1 hown1 hgrow1)
  go_frame
  have HB := hidq (fun (hlo : lo ≤ w.heap.size) => (show Below lo w w1 from by
    have z1 := H5.out.1.size
    have z2 := hI5.size
    exact ((H5.out.1.trans (hI5.mono z1)).mono hlo).trans ((but_gr hgrow1).below (by omega) (fun k e => by rw [show k = mb from e]; exact H5.out.2.2))))
  clear hown1 hgrow1 hown hkey FC H5 hI5
  go_wp2_with fail
  refine bodyPost_end (results_none rfl _ _ _) rfl ?_
  exact ⟨rfl, HB.out⟩
end Go.Proofs.Ytepigofpcjmddaa

namespace Go.Proofs.Ytepigofpcjmddaa
open Go.RowKit

theorem rof_any (k : Int) (w : World) : Calls Try.prog 74 #[.int .i64 k] w fun e w' => e = .returned (.tuple #[.int .i64 (opFrom k), .int .i64 (opTo k)]) ∧ w' = w := by
  rcases kinds k with rfl | rfl | rfl | rfl | h
  · go_enter Try.func74, Try.ntmps74
    go_wp2
    go_ret2
    exact ⟨rfl, rfl⟩
  · go_enter Try.func74, Try.ntmps74
    go_wp2
    go_ret2
    exact ⟨rfl, rfl⟩
  · go_enter Try.func74, Try.ntmps74
    go_wp2
    go_ret2
    exact ⟨rfl, rfl⟩
  · go_enter Try.func74, Try.ntmps74
    go_wp2
    go_ret2
    exact ⟨rfl, rfl⟩
  · rw [(opl_none h).2.1, (opl_none h).2.2]
    obtain ⟨h1, h2, h3, h4⟩ := h
    go_enter Try.func74, Try.ntmps74
    go_wp2
    go_ret2
    exact ⟨rfl, rfl⟩
end Go.Proofs.Ytepigofpcjmddaa

namespace Go.Proofs.Ytepigofpcjmddaa
open Go.RowKit

theorem opindex_any (a : Option Addr) (cap n : Nat) (l : List Int) (x : Int) (w : World) (h : IntsAt w a l) (hl : l.length = n) (hn : n ≤ 1000) :
    Calls Try.prog 123 #[.slice a n cap, .int .i64 x] w fun e w' => ∃ r : Int, e = .returned (.int .i64 r) ∧ (0 ≤ r ↔ x ∈ l) ∧ w' = w := by
  have hn1 : (n : Int) ≤ 1000 := by omega
  have HL : Hid (l.length = n) := hl
  clear hl
  go_enter Try.func123, Try.ntmps123
  go_wp2
  go_loop [8] (fun s => ∃ k : Nat, k ≤ n ∧ s = .int .i64 (k : Int) ∧ ∀ j, j < k → ¬ x = l[j]!) (fun s => n - (intOf s).toNat)
  case atStart => exact ⟨0, Nat.zero_le _, rfl, fun j hj => absurd hj (Nat.not_lt_zero _)⟩
  case round =>
    obtain ⟨k, hk, rfl, hno⟩ := hrel
    by_cases hlt : k < n
    · obtain ⟨b, rfl, hb, hc⟩ := h k (by rw [HL]; exact hlt)
      have k1 : (k : Int) < (n : Int) := by omega
      have hm : l[k]! ∈ l := by rw [getElem!_pos l k (by rw [HL]; exact hlt)]; exact List.getElem_mem _
      by_cases e : x = l[k]!
      · have HX : Hid (x ∈ l) := by rw [e]; exact hm
        have HE : Hid (∀ _ : Unit, x = l[k]!) := fun _ => e
        have hcx : w.cell? ⟨b, k, none⟩ = some (.int .i64 x) := by rw [e]; exact hc
        clear e hc hno hm
        go_wp2
        go_ret
        exact ⟨k, rfl, ⟨fun _ => HX, fun _ => by omega⟩, rfl⟩
      · have HN : Hid (∀ j, j < k + 1 → ¬ x = l[j]!) := fun j hj => by
          rcases Nat.lt_succ_iff_lt_or_eq.1 hj with h1 | h1
          · exact hno j h1
          · rw [h1]; exact e
        generalize l[k]! = y at *
        have eb : (x == y) = false := by simpa using e
        clear e hno hm
        go_wp2
        go_round
        case rel => exact ⟨k + 1, by omega, by go_num, HN⟩
        case measure => simp [intOf]; omega
    · have hkn : k = n := by omega
      have HX : Hid (¬ x ∈ l) := fun hm => by
        obtain ⟨j, hj, ej⟩ := List.getElem_of_mem hm
        have := hno j (by rw [HL] at hj; omega)
        rw [getElem!_pos l j hj] at this
        exact this ej.symm
      have hd : decide ((k : Int) < (n : Int)) = false := decide_eq_false (by omega)
      clear hno hkn
      go_wp2
      go_ret
      exact ⟨-1, rfl, ⟨fun h => absurd h (by decide), fun h => absurd h HX⟩, rfl⟩

theorem contains_any (a : Option Addr) (cap n : Nat) (l : List Int) (x : Int) (w : World) (h : IntsAt w a l) (hl : l.length = n) (hn : n ≤ 1000) :
    Calls Try.prog 103 #[.slice a n cap, .int .i64 x] w fun e w' => e = .returned (.bool (decide (x ∈ l))) ∧ w' = w := by
  have hI := opindex_any a cap n l x w h hl hn
  clear h hl hn
  by_cases hx : x ∈ l
  · rw [decide_eq_true hx]
    go_enter Try.func103, Try.ntmps103
    go_wp2_with fail
    refine hI.mono ?_
    rintro e w' ⟨r, rfl, hr, hw⟩
    replace hw := hw.symm; subst hw
    have h0 := hr.2 hx
    clear hr hx hI
    go_wp2
    go_ret
    exact ⟨rfl, rfl⟩
  · rw [decide_eq_false hx]
    go_enter Try.func103, Try.ntmps103
    go_wp2_with fail
    refine hI.mono ?_
    rintro e w' ⟨r, rfl, hr, hw⟩
    replace hw := hw.symm; subst hw
    have h0 : decide (0 ≤ r) = false := decide_eq_false (fun h => hx (hr.1 h))
    clear hr hx hI
    go_wp2
    go_ret
    exact ⟨rfl, rfl⟩

/-- May it be done? -/
def chk (kind k v : Int) : Int := if ¬ (opFrom kind ≤ k ∧ k ≤ opTo kind) then 6 else if k = 5 ∧ (v < 0 ∨ 4294967296 < v) then 4 else 0
theorem chk6 {kind k v : Int} (h : ¬ (opFrom kind ≤ k ∧ k ≤ opTo kind)) : chk kind k v = 6 := if_pos h
theorem chk4 {kind k v : Int} (h : opFrom kind ≤ k ∧ k ≤ opTo kind) (h2 : k = 5 ∧ (v < 0 ∨ 4294967296 < v)) : chk kind k v = 4 := by unfold chk; rw [if_neg (fun e => e h), if_pos h2]
theorem chk0 {kind k v : Int} (h : opFrom kind ≤ k ∧ k ≤ opTo kind) (h2 : ¬ (k = 5 ∧ (v < 0 ∨ 4294967296 < v))) : chk kind k v = 0 := by unfold chk; rw [if_neg (fun e => e h), if_neg h2]

abbrev boxO (k : Int) (f : Nat) (v d0 d1 : Int) : Obj := .cells #[.int .i64 k, .float .f64 f, .int .i64 v, .int .i64 d0, .int .i64 d1] 90

set_option maxHeartbeats 2000000 in
theorem check_any (kind k v d0 d1 : Int) (f : Nat) (w : World) :
    Calls Try.prog 70 #[.agg #[.int .i64 k, .float .f64 f, .int .i64 v, .int .i64 d0, .int .i64 d1], .int .i64 kind] w fun e w' => e = .returned (.int .i64 (chk kind k v)) ∧ Below w.heap.size w w' := by
  have hO := fun w => of_any kind w
  have hC := fun a w h => contains_any a (opl kind).length _ (opl kind) k w h rfl (by have := (opl_length kind).2; omega)
  have hm := (op_rng kind).2.2.2.2 k
  generalize opl kind = l at *
  generalize l.length = n at *
  have hz : ∀ w1, Below (w.alloc (boxO k f v d0 d1)).drew.heap.size (w.alloc (boxO k f v d0 d1)).drew w1 → w1.cell? ⟨w.heap.size, 0, none⟩ = some (.int .i64 k) ∧ w1.cell? ⟨w.heap.size, 2, none⟩ = some (.int .i64 v) := fun w1 hb => by
    constructor
    · rw [hb.cell (p := ⟨w.heap.size, 0, none⟩) (by simp)]; simp
    · rw [hb.cell (p := ⟨w.heap.size, 2, none⟩) (by simp)]; simp
  have hB0 : ∀ w1, Below (w.alloc (boxO k f v d0 d1)).drew.heap.size (w.alloc (boxO k f v d0 d1)).drew w1 → Below w.heap.size w w1 := fun w1 hb =>
    (((Below.refl _ _).alloc (Nat.le_refl _) _).drew).trans (hb.mono (by simp))
  have hfin : opFrom kind ≤ k ∧ k ≤ opTo kind → Hid (∀ _ : Unit, decide (k ∈ l) = true) := fun h _ => decide_eq_true (hm.2 h)
  by_cases hin : opFrom kind ≤ k ∧ k ≤ opTo kind
  · rw [hfin hin ()] at hC
    by_cases h5 : k = 5
    · by_cases hv : v < 0
      · rw [chk4 hin ⟨h5, .inl hv⟩]
        subst h5
        clear hm hin hfin
        go_enter Try.func70, Try.ntmps70
        go_wp2
        go_region_with (first | (go_at_call 96; refine (hO _).mono ?_; rintro e w1 ⟨a, rfl, hi, hb⟩; obtain ⟨hz1, hz2⟩ := hz _ hb) | (go_at_call 103; refine (hC a _ hi).mono ?_; rintro e w1 ⟨rfl, hw⟩; replace hw := hw.symm; subst hw))
        all_goals go_wp2
        all_goals go_ret
        all_goals exact ⟨rfl, hB0 _ hb⟩
      · have hv0 : decide (v < 0) = false := decide_eq_false hv
        by_cases hv1 : 4294967296 < v
        · rw [chk4 hin ⟨h5, .inr hv1⟩]
          subst h5
          clear hm hin hfin hv
          go_enter Try.func70, Try.ntmps70
          go_wp2
          go_region_with (first | (go_at_call 96; refine (hO _).mono ?_; rintro e w1 ⟨a, rfl, hi, hb⟩; obtain ⟨hz1, hz2⟩ := hz _ hb) | (go_at_call 103; refine (hC a _ hi).mono ?_; rintro e w1 ⟨rfl, hw⟩; replace hw := hw.symm; subst hw))
          all_goals go_wp2
          all_goals go_ret
          all_goals exact ⟨rfl, hB0 _ hb⟩
        · rw [chk0 hin (fun e => e.2.elim hv hv1)]
          have hv2 : decide (4294967296 < v) = false := decide_eq_false hv1
          subst h5
          clear hm hin hfin hv hv1
          go_enter Try.func70, Try.ntmps70
          go_wp2
          go_region_with (first | (go_at_call 96; refine (hO _).mono ?_; rintro e w1 ⟨a, rfl, hi, hb⟩; obtain ⟨hz1, hz2⟩ := hz _ hb) | (go_at_call 103; refine (hC a _ hi).mono ?_; rintro e w1 ⟨rfl, hw⟩; replace hw := hw.symm; subst hw))
          all_goals go_wp2
          all_goals go_ret
          all_goals exact ⟨rfl, hB0 _ hb⟩
    · rw [chk0 hin (fun e => h5 e.1)]
      have hk5 : (k == 5) = false := by simpa using h5
      clear hm hin hfin h5
      go_enter Try.func70, Try.ntmps70
      go_wp2
      go_region_with (first | (go_at_call 96; refine (hO _).mono ?_; rintro e w1 ⟨a, rfl, hi, hb⟩; obtain ⟨hz1, hz2⟩ := hz _ hb) | (go_at_call 103; refine (hC a _ hi).mono ?_; rintro e w1 ⟨rfl, hw⟩; replace hw := hw.symm; subst hw))
      all_goals go_wp2
      all_goals go_ret
      all_goals exact ⟨rfl, hB0 _ hb⟩
  · rw [chk6 hin]
    have hd : decide (k ∈ l) = false := decide_eq_false (fun e => hin (hm.1 e))
    rw [hd] at hC
    clear hd hm hin hfin
    go_enter Try.func70, Try.ntmps70
    go_wp2
    go_region_with (first | (go_at_call 96; refine (hO _).mono ?_; rintro e w1 ⟨a, rfl, hi, hb⟩; obtain ⟨hz1, hz2⟩ := hz _ hb) | (go_at_call 103; refine (hC a _ hi).mono ?_; rintro e w1 ⟨rfl, hw⟩; replace hw := hw.symm; subst hw))
    all_goals go_wp2
    all_goals go_ret
    all_goals exact ⟨rfl, hB0 _ hb⟩

set_option maxHeartbeats 2000000 in
theorem rcheck_any (kind k v : Int) (w : World) : Calls Try.prog 36 #[.int .i64 kind, .int .i64 k, .int .i64 v] w fun e w' => e = .returned (.int .i64 (chk kind k v)) ∧ w' = w := by
  have hO := fun w => rof_any kind w
  obtain ⟨fr, hfr⟩ : ∃ x, opFrom kind = x := ⟨_, rfl⟩
  obtain ⟨tq, hto⟩ : ∃ x, opTo kind = x := ⟨_, rfl⟩
  rw [hfr, hto] at hO
  by_cases h1 : k < fr
  · rw [chk6 (by omega)]
    clear hfr hto
    go_enter Try.func36, Try.ntmps36
    go_wp2_with (go_at_call 74; refine (hO _).mono ?_; rintro e w1 ⟨rfl, hw⟩; replace hw := hw.symm; subst hw)
    go_ret
    exact ⟨rfl, rfl⟩
  · have h1' : decide (k < fr) = false := decide_eq_false h1
    by_cases h2 : tq < k
    · rw [chk6 (by omega)]
      clear hfr hto
      go_enter Try.func36, Try.ntmps36
      go_wp2_with (go_at_call 74; refine (hO _).mono ?_; rintro e w1 ⟨rfl, hw⟩; replace hw := hw.symm; subst hw)
      go_ret
      exact ⟨rfl, rfl⟩
    · have h2' : decide (tq < k) = false := decide_eq_false h2
      have hin : opFrom kind ≤ k ∧ k ≤ opTo kind := by omega
      by_cases h5 : k = 5
      · by_cases hv : v < 0
        · rw [chk4 hin ⟨h5, .inl hv⟩]
          subst h5
          clear hin hfr hto h1 h2
          go_enter Try.func36, Try.ntmps36
          go_wp2_with (go_at_call 74; refine (hO _).mono ?_; rintro e w1 ⟨rfl, hw⟩; replace hw := hw.symm; subst hw)
          go_ret
          exact ⟨rfl, rfl⟩
        · have hv0 : decide (v < 0) = false := decide_eq_false hv
          by_cases hv1 : 4294967296 < v
          · rw [chk4 hin ⟨h5, .inr hv1⟩]
            subst h5
            clear hin hfr hto h1 h2 hv
            go_enter Try.func36, Try.ntmps36
            go_wp2_with (go_at_call 74; refine (hO _).mono ?_; rintro e w1 ⟨rfl, hw⟩; replace hw := hw.symm; subst hw)
            go_ret
            exact ⟨rfl, rfl⟩
          · rw [chk0 hin (fun e => e.2.elim hv hv1)]
            have hv2 : decide (4294967296 < v) = false := decide_eq_false hv1
            subst h5
            clear hin hfr hto h1 h2 hv hv1
            go_enter Try.func36, Try.ntmps36
            go_wp2_with (go_at_call 74; refine (hO _).mono ?_; rintro e w1 ⟨rfl, hw⟩; replace hw := hw.symm; subst hw)
            go_ret
            exact ⟨rfl, rfl⟩
      · rw [chk0 hin (fun e => h5 e.1)]
        have hk5 : (k == 5) = false := by simpa using h5
        clear hin hfr hto h1 h2 h5
        go_enter Try.func36, Try.ntmps36
        go_wp2_with (go_at_call 74; refine (hO _).mono ?_; rintro e w1 ⟨rfl, hw⟩; replace hw := hw.symm; subst hw)
        go_ret
        exact ⟨rfl, rfl⟩
end Go.Proofs.Ytepigofpcjmddaa

namespace Go.Proofs.Ytepigofpcjmddaa.Reg
open Go Go.RowKit

/-- How many of these have come up. -/
def cnt (hs : List Nat) (L : Array Bool) : Nat := hs.countP (fun j => L.getD j false)
theorem cnt_light {hs : List Nat} (L : Array Bool) (i : Nat) (h : hs.contains i = false) : cnt hs (L.setIfInBounds i true) = cnt hs L := by
  unfold cnt
  refine List.countP_congr (fun j hj => ?_)
  have hne : i ≠ j := fun e => by subst e; rw [List.contains_iff_mem.2 hj] at h; cases h
  rw [getD_set_ne false hne]
theorem cnt_none (hs : List Nat) (n : Nat) : cnt hs (Array.replicate n false) = 0 := by
  unfold cnt
  rw [List.countP_eq_zero]
  intro j _
  rw [Array.getD_eq_getD_getElem?]
  by_cases hj : j < n
  · simp [hj]
  · simp [hj]
theorem cnt_all {hs : List Nat} {L : Array Bool} (h : ∀ j ∈ hs, L.getD j false = true) : cnt hs L = hs.length := by
  unfold cnt
  rw [List.countP_eq_length]
  exact h
theorem getD_true {L : Array Bool} {i : Nat} (h : L.getD i true = false) : L.getD i false = false := by
  rw [Array.getD_eq_getD_getElem?] at h ⊢
  cases hx : L[i]? with
  | none => rw [hx] at h; cases h
  | some b => rw [hx] at h; simpa using h
theorem cnt_heavy {hs : List Nat} {L : Array Bool} {i : Nat} (hn : hs.Nodup) (hi : i ∈ hs) (h0 : L.getD i true = false) : cnt hs (L.setIfInBounds i true) = cnt hs L + 1 := by
  have hlt : i < L.size := by
    rcases Nat.lt_or_ge i L.size with h' | h'
    · exact h'
    · rw [Array.getD_eq_getD_getElem?, Array.getElem?_eq_none h'] at h0; cases h0
  have h1 : (L.setIfInBounds i true).getD i false = true := by simp [hlt]
  have h2 := getD_true h0
  unfold cnt
  induction hs with
  | nil => cases hi
  | cons a l ih =>
    rw [List.nodup_cons] at hn
    rw [List.countP_cons, List.countP_cons]
    by_cases e : a = i
    · subst e
      rw [if_pos h1, if_neg (by rw [h2]; decide)]
      have : l.countP (fun j => (L.setIfInBounds a true).getD j false) = l.countP (fun j => L.getD j false) := by
        refine List.countP_congr (fun j hj => ?_)
        have hne : a ≠ j := fun e => by subst e; exact hn.1 hj
        rw [getD_set_ne false hne]
      rw [this]
    · have hi' : i ∈ l := by
        rcases List.mem_cons.1 hi with h | h
        · exact absurd h.symm e
        · exact h
      rw [ih hn.2 hi', getD_set_ne false (Ne.symm e)]
      omega
theorem cnt_zero {hs : List Nat} {L : Array Bool} (h : ∀ j ∈ hs, L.getD j false = false) : cnt hs L = 0 := by
  unfold cnt
  rw [List.countP_eq_zero]
  intro j hj
  rw [h j hj]; decide

theorem cnt_zero1 {a : Nat} {L : Array Bool} (h : L.getD a false = false) : cnt [a] L = 0 := by simp only [cnt, List.countP_cons, List.countP_nil, h]; decide
theorem cnt_zero2 {a b : Nat} {L : Array Bool} (h : L.getD a false = false) (h2 : L.getD b false = false) : cnt [a, b] L = 0 := by simp only [cnt, List.countP_cons, List.countP_nil, h, h2]; decide
theorem cnt_one2 {a b : Nat} {L : Array Bool} (h : L.getD a false = true) (h2 : L.getD b false = false) : cnt [a, b] L = 1 := by simp only [cnt, List.countP_cons, List.countP_nil, h, h2]; decide
/-- What each step leaves. -/
def PPres (S : Nat → Prop) (x : Nat) (w : World) (x' : Nat) (w' : World) : Prop := x ≤ x' ∧ (x' = x → Below w.heap.size w w') ∧ But S w w'
theorem PPres.light {S : Nat → Prop} {x : Nat} {w w' : World} (h : Below w.heap.size w w') : PPres S x w x w' := ⟨Nat.le_refl _, fun _ => h, But.of_below h⟩
theorem PPres.refl (S : Nat → Prop) (x : Nat) (w : World) : PPres S x w x w := PPres.light (Below.refl _ _)
theorem PPres.heavy {S : Nat → Prop} {x : Nat} {w w' : World} (h : But S w w') : PPres S x w (x + 1) w' := ⟨Nat.le_succ _, fun e => by omega, h⟩
/-- A property that only what is turned next may break. -/
def At1 (p : Nat) (F : World → Prop) (x : Nat) (w : World) : Prop := p ≤ x ∧ (x = p → F w)
theorem At1.kept {S : Nat → Prop} {p : Nat} {F : World → Prop} (hF : ∀ w w', Below w.heap.size w w' → F w → F w') {x x' : Nat} {w w' : World} (hp : PPres S x w x' w') (h : At1 p F x w) : At1 p F x' w' :=
  ⟨Nat.le_trans h.1 hp.1, fun e => by
    have hx : x' = x := by have := h.1; have := hp.1; omega
    exact hF _ _ (hp.2.1 hx) (h.2 (by omega))⟩
/-- What holds from step to step. -/
def PInv (hs : List Nat) (S : Nat → Prop) (W0 : World) (F : Nat → World → Prop) (x : Nat) (L : Array Bool) (w : World) : Prop :=
  x = cnt hs L ∧ But S W0 w ∧ F x w
theorem PInv.light {hs : List Nat} {S : Nat → Prop} {W0 : World} {F : Nat → World → Prop} (hF : ∀ x w w', Below w.heap.size w w' → F x w → F x w') {x : Nat} {L : Array Bool} {w w' : World} (h : PInv hs S W0 F x L w) (i : Nat) (hi : hs.contains i = false) (hb : Below w.heap.size w w') :
    PInv hs S W0 F x (L.setIfInBounds i true) w' := ⟨by rw [cnt_light L i hi]; exact h.1, h.2.1.trans (But.of_below hb), hF _ _ _ hb h.2.2⟩
theorem PInv.heavy {hs : List Nat} {S : Nat → Prop} {W0 : World} {F : Nat → World → Prop} {x : Nat} {L : Array Bool} {w w' : World} (h : PInv hs S W0 F x L w) (i : Nat) (hn : hs.Nodup) (hi : i ∈ hs) (h0 : L.getD i true = false) (hb : But S w w') (hf : F (x + 1) w') :
    PInv hs S W0 F (x + 1) (L.setIfInBounds i true) w' := ⟨by rw [cnt_heavy hn hi h0, h.1], h.2.1.trans hb, hf⟩
theorem PInv.start {hs : List Nat} {S : Nat → Prop} {w : World} {F : Nat → World → Prop} (n : Nat) (hf : F 0 w.drew) : PInv hs S w F 0 (Array.replicate n false) w.drew :=
  ⟨(cnt_none hs n).symm, (But.refl S w).drew, hf⟩
theorem PInv.done {hs : List Nat} {S : Nat → Prop} {W0 : World} {F : Nat → World → Prop} {x : Nat} {L : Array Bool} {w : World} (h : PInv hs S W0 F x L w) (hl : ∀ j ∈ hs, L.getD j false = true) : x = hs.length ∧ But S W0 w ∧ F hs.length w := by
  have := cnt_all hl
  refine ⟨h.1.trans this, h.2.1, ?_⟩
  have h2 := h.2.2
  rw [h.1, this] at h2
  exact h2
theorem out_skipP {P : Program} {K : Value → World → Prop} {ev : Operand → Value} {o : Oper} {w w' : World} (hrun : (execOp ev o).run P w = .ok .skip w') (hk : K undef w') : Outcome P K ((execOp ev o).run P w) := by
  rw [hrun]; exact hk
/-- What is not listed keeps what waits for it from being listed. -/
theorem not_listed {ops : Array Oper} {a0 : Act} {R : Nat → Value → World → Prop} {L : Array Bool} {ev : Operand → Value} {w : World} (h : At ops a0 R L ev w) (i j : Nat) (oj : Oper) (hj : ops[j]? = some oj) (e : Edge) (he : e ∈ oj.after) (hb : Region.binds .any e = true) (hi : L.getD i true = false) (hei : e.on = i := by rfl) : L.getD j false = false := by
  cases hL : L.getD j false with
  | false => rfl
  | true =>
    have := h.closed j oj hj hL e he hb
    rw [hei, getD_true hi] at this
    cases this
/-- A guarded operation, whichever way its guard is. -/
theorem GStepAt.either {γ : Type} {P : Program} {ops : Array Oper} {a0 : Act} {R : Nat → Value → γ → World → Prop} {Pres : γ → World → γ → World → Prop} {Inv : γ → Array Bool → World → Prop} {i g : Nat} {want : Bool} {o : Oper} (hg : o.guard = some (g, want))
    (h : ∀ (x : γ) (L : Array Bool) (ev : Operand → Value) (w : World), Inv x L w → L.getD i true = false → (∀ e ∈ o.after, Region.binds .any e = true → L.getD e.on false = true) → At ops a0 (fun j v w => R j v x w) L ev w →
      ∃ og t b, ops[g]? = some og ∧ og.dst = some t ∧ ev (.tmp t) = .bool b ∧
        if b = want then Outcome P (fun v w' => ∃ x', R i v x' w' ∧ Pres x w x' w' ∧ Inv x' (L.setIfInBounds i true) w') ((execOp ev o).run P w)
        else R i undef x w ∧ Inv x (L.setIfInBounds i true) w) : GStepAt P ops a0 R Pres Inv i o := by
  intro x L ev w hI hk hp hA
  rw [hg]; exact h x L ev w hI hk hp hA
theorem getD_setb {L : Array Bool} {i c0 : Nat} (hi : i ≠ c0) : (L.setIfInBounds i true).getD c0 false = L.getD c0 false := by
  rw [Array.getD_eq_getD_getElem?, Array.getD_eq_getD_getElem?, Array.getElem?_setIfInBounds_ne hi]
theorem getD_sets {L : Array Bool} {i : Nat} (h : L.getD i true = false) : (L.setIfInBounds i true).getD i false = true := by
  have hi : i < L.size := by
    rcases Nat.lt_or_ge i L.size with h' | h'
    · exact h'
    · rw [Array.getD_eq_getD_getElem?, Array.getElem?_eq_none h'] at h; cases h
  rw [Array.getD_eq_getD_getElem?, Array.getElem?_setIfInBounds_self_of_lt hi]; rfl
end Go.Proofs.Ytepigofpcjmddaa.Reg

namespace Go.Proofs.Ytepigofpcjmddaa
open Go.RowKit Go.Sort

/-- May an operation of this kind fail? -/
def mayF (k : Int) : Bool := !(k == 5 || k == 6 || k == 7)
theorem mayFail_any (k : Int) (w : World) : Calls Try.prog 71 #[.int .i64 k] w fun e w' => e = .returned (.bool (mayF k)) ∧ w' = w := by
  by_cases h : k = 5 ∨ k = 6 ∨ k = 7
  · rcases h with rfl | rfl | rfl
    all_goals
      go_enter Try.func71, Try.ntmps71
      go_wp2_with fail
      go_ret
      exact ⟨rfl, rfl⟩
  · have h5 : (k == 5) = false := by simp; omega
    have h6 : (k == 6) = false := by simp; omega
    have h7 : (k == 7) = false := by simp; omega
    have hm : mayF k = true := by unfold mayF; rw [h5, h6, h7]; rfl
    rw [hm]
    clear h hm
    go_enter Try.func71, Try.ntmps71
    go_wp2_with fail
    go_ret
    exact ⟨rfl, rfl⟩
/-- A value, an operation, an answer as they lie in memory. -/
abbrev v12 (kd : Int) (a : Option Addr) (n cap : Nat) (N : Int) : List Value := [.int .i64 kd, .slice a n cap, .int .i64 N]
abbrev o12 (k : Int) (f : Nat) (v d0 d1 : Int) : List Value := [.int .i64 k, .float .f64 f, .int .i64 v, .int .i64 d0, .int .i64 d1]
abbrev a12 (ok : Bool) (f : Nat) (v n : Int) : List Value := [.bool ok, .float .f64 f, .int .i64 v, .int .i64 n]
/-- How After ends: a value with other items, and whether it may be. -/
def AftEnd (kd N : Int) (n : Nat) (l : List Value) (r : Bool) (w : World) (e : Ending) (w' : World) : Prop :=
  ∃ a' cap', e = .returned (.tuple #[.agg #[.int .i64 kd, .slice a' n cap', .int .i64 N], .bool r]) ∧ SlAt 2 w' a' cap' n l ∧ (∀ j, inB a' j → w.heap.size ≤ j) ∧ Below w.heap.size w w'

theorem four_new (w : World) (l1 l2 l3 l4 : List Value) (t1 t2 t3 t4 : TypeId) : ∃ W, (((w.alloc (.cells l1.toArray t1)).alloc (.cells l2.toArray t2)).alloc (.cells l3.toArray t3)).alloc (.cells l4.toArray t4) = W ∧ Below w.heap.size w W ∧ W.heap.size = w.heap.size + 4 ∧ BoxAt W w.heap.size l1 ∧ BoxAt W (w.heap.size + 1) l2 ∧ BoxAt W (w.heap.size + 1 + 1) l3 ∧ BoxAt W (w.heap.size + 1 + 1 + 1) l4 := by
  have al : ∀ (w : World) (o : Obj), Below w.heap.size w (w.alloc o) := fun w o => (Below.refl _ _).alloc (Nat.le_refl _) _
  have h1 := BoxAt.new w l1 t1
  have h2 := BoxAt.new (w.alloc (.cells l1.toArray t1)) l2 t2
  have h3 := BoxAt.new ((w.alloc (.cells l1.toArray t1)).alloc (.cells l2.toArray t2)) l3 t3
  have h4 := BoxAt.new (((w.alloc (.cells l1.toArray t1)).alloc (.cells l2.toArray t2)).alloc (.cells l3.toArray t3)) l4 t4
  simp only [World.size_alloc] at h2 h3 h4
  refine ⟨_, rfl, ?_, by simp, ((h1.below (al _ _)).below (al _ _)).below (al _ _), (h2.below (al _ _)).below (al _ _), h3.below (al _ _), h4⟩
  exact (((Below.refl _ _).alloc (Nat.le_refl _) _).alloc (by simp) _).alloc (by simp; omega) _ |>.alloc (by simp; omega) _

def aft5R (_b4 b5 n cap' : Nat) (a' : Option Addr) (kd N k : Int) (mf : Bool) (_b8 : Nat) : List (Value → Nat → World → Prop) :=
  [fun v _ _ => v = .agg #[.int .i64 kd, .slice a' n cap', .int .i64 N],
   fun v _ _ => v = .pointer (some ⟨b5, 0, none⟩),
   fun v _ _ => v = .int .i64 k,
   fun v _ _ => v = .bool mf,
   fun _ _ _ => True,
   fun v _ _ => v = .bool mf]
theorem aft5R_kept (b4 b5 n cap' : Nat) (a' : Option Addr) (kd N k : Int) (mf : Bool) (b8 : Nat) : Reg.GAllKept (Reg.PPres (fun j => j = b8)) (aft5R b4 b5 n cap' a' kd N k mf b8) :=
  ⟨(fun _ _ _ _ _ _ h => h), (fun _ _ _ _ _ _ h => h), (fun _ _ _ _ _ _ h => h), (fun _ _ _ _ _ _ h => h), (fun _ _ _ _ _ _ _ => trivial), (fun _ _ _ _ _ _ h => h), trivial⟩
theorem box_set3 {w : World} {b : Nat} {x y z : Value} (h : BoxAt w b [x, y, z]) (u0 u1 u2 : Value) : BoxAt (((w.setCell ⟨b, 0, none⟩ u0).setCell ⟨b, 1, none⟩ u1).setCell ⟨b, 2, none⟩ u2) b [u0, u1, u2] ∧ But (fun j => j = b) w (((w.setCell ⟨b, 0, none⟩ u0).setCell ⟨b, 1, none⟩ u1).setCell ⟨b, 2, none⟩ u2) :=
  ⟨((h.set 0 u0).set 1 u1).set 2 u2, (((But.refl (fun j => j = b) w).set1 b 0 rfl _).set1 b 1 rfl _).set1 b 2 rfl _⟩

set_option maxRecDepth 20000 in
set_option maxHeartbeats 8000000 in
theorem after_any (kd N k v d0 d1 av an p : Int) (f af : Nat) (ok : Bool) (a : Option Addr) (cap n : Nat) (l : List Value) (w : World) (h : SlAt 2 w a cap n l) (hn : n ≤ 1000000) (hno : ok = false ∨ ¬ chk kd k v = 0) :
    Calls Try.prog 34 #[.agg #[.int .i64 kd, .slice a n cap, .int .i64 N], .agg #[.int .i64 k, .float .f64 f, .int .i64 v, .int .i64 d0, .int .i64 d1], .agg #[.bool ok, .float .f64 af, .int .i64 av, .int .i64 an], .int .i64 p] w
      (AftEnd kd N n l (decide (chk kd k v = 0) && mayF k) w) := by
  have hsf := run_store_float (P := Try.prog)
  obtain ⟨W1, hW1, hb1, hs1, hX4, hX5, hX6, hX8⟩ := four_new w (v12 kd a n cap N) (o12 k f v d0 d1) (a12 ok af av an) [.int .i64 0, .slice none 0 0, .int .i64 0] 81 90 92 81
  obtain ⟨b4, hb4⟩ : ∃ b4, w.heap.size = b4 := ⟨_, rfl⟩
  rw [hb4] at hX4 hX5 hX6 hX8 hs1
  have H1 := hidq (And.intro hb1 (And.intro hX4 (And.intro hX5 (And.intro hX6 (And.intro hX8 hs1)))))
  have hCl := hidq (sclone_any a cap n l W1 (h.below hb1) hn)
  have m41 := hX4.get 1 _ rfl
  obtain ⟨y41, z41⟩ := m41
  clear h hb1 hX4 hX5 hX6 hX8 hs1
  go_enter Try.func34, Try.ntmps34
  go_upto_region 1 with fail
  try rw [hb4]
  dsimp only [v12, o12, a12] at hW1
  try rw [hW1]
  go_wp2_with fail
  refine hCl.out.mono ?_
  rintro e w2 ⟨a', cap', rfl, hS2, hf2, hb2⟩
  obtain ⟨W3, hW3⟩ : ∃ W3, w2.setCell ⟨b4, 1, none⟩ (.slice a' n cap') = W3 := ⟨_, rfl⟩
  have hw4 := hidq hb4
  have H3 := hidq (show (But (fun j => j = b4) W1 W3 ∧ SlAt 2 W3 a' cap' n l ∧ ∀ j, inB a' j → b4 + 4 ≤ j) ∧ BoxAt W3 b4 (v12 kd a' n cap' N) ∧ BoxAt W3 (b4 + 1) (o12 k f v d0 d1) ∧ BoxAt W3 (b4 + 1 + 1) (a12 ok af av an) ∧ BoxAt W3 (b4 + 1 + 1 + 1) [.int .i64 0, .slice none 0 0, .int .i64 0] from by
    obtain ⟨h1, h2, h3, h4, h5, h6⟩ := H1.out
    have hb : But (fun j => j = b4) w2 W3 := by rw [← hW3]; exact (But.refl (fun j => j = b4) w2).set1 b4 1 rfl _
    refine ⟨⟨(But.of_below hb2).trans hb, hS2.but hb (fun j hj e => by have := hf2 j hj; omega), fun j hj => by have := hf2 j hj; omega⟩, ?_, (h3.below hb2).but hb (by omega), (h4.below hb2).but hb (by omega), (h5.below hb2).but hb (by omega)⟩
    rw [← hW3]
    exact (h2.below hb2).set 1 _)
  have q41 : w2.cell? ⟨b4, 1, none⟩ = some (.slice a n cap) := ((H1.out.2.1.below hb2).get 1 _ rfl).1
  have q42 : w2.frozen? ⟨b4, 1, none⟩ = false := ((H1.out.2.1.below hb2).get 1 _ rfl).2
  clear hS2 hf2 hb2 y41 z41 hCl
  have HCk := hidq (check_any kd k v d0 d1 f W3)
  obtain ⟨c, hc⟩ : ∃ c, chk kd k v = c := ⟨_, rfl⟩
  rw [hc] at HCk hno
  have HC := hidq hc
  clear hc
  go_upto_region 2 with fail
  try rw [hW3]
  clear hW3 q41 q42 hW1
  have x40 := (H3.out.2.1.get 0 _ rfl).1
  have x50 := (H3.out.2.2.1.get 0 _ rfl).1
  have x51 := (H3.out.2.2.1.get 1 _ rfl).1
  have x52 := (H3.out.2.2.1.get 2 _ rfl).1
  have x53 := (H3.out.2.2.1.get 3 _ rfl).1
  have x54 := (H3.out.2.2.1.get 4 _ rfl).1
  go_wp2_with fail
  refine HCk.out.mono ?_
  rintro e w4 ⟨rfl, hb34⟩
  have H4 := hidq (show (SlAt 2 w4 a' cap' n l ∧ (∀ j, inB a' j → b4 + 4 ≤ j) ∧ Below w.heap.size w w4 ∧ b4 + 4 ≤ w4.heap.size) ∧ BoxAt w4 b4 (v12 kd a' n cap' N) ∧ BoxAt w4 (b4 + 1) (o12 k f v d0 d1) ∧ BoxAt w4 (b4 + 1 + 1) (a12 ok af av an) ∧ BoxAt w4 (b4 + 1 + 1 + 1) [.int .i64 0, .slice none 0 0, .int .i64 0] from by
    obtain ⟨⟨h1, h2, h3⟩, h4, h5, h6, h7⟩ := H3.out
    obtain ⟨g1, g2, g3, g4, g5, g6⟩ := H1.out
    have z1 := g1.size
    have z2 := h1.size
    have z3 := hb34.size
    have e := hw4.out
    exact ⟨⟨h2.below hb34, h3, (g1.trans (h1.below z1 (fun k hk => by omega))).trans (hb34.mono (by omega)), by omega⟩, h4.below hb34, h5.below hb34, h6.below hb34, h7.below hb34⟩)
  clear x40 x50 x51 x52 x53 x54 hb34 HCk H1 H3
  obtain ⟨b8, hb8⟩ : ∃ b8, b4 + 1 + 1 + 1 = b8 := ⟨_, rfl⟩
  have x40 := (H4.out.2.1.get 0 _ rfl).1
  have x41 := (H4.out.2.1.get 1 _ rfl).1
  have x42 := (H4.out.2.1.get 2 _ rfl).1
  have x60 := (H4.out.2.2.2.1.get 0 _ rfl).1
  have x50 := (H4.out.2.2.1.get 0 _ rfl).1
  have X8 := hidq H4.out.2.2.2.2
  rw [hb8] at X8
  rw [hb8]
  have hne : b4 ≠ b8 := by omega
  have hge : b4 ≤ b8 := by omega
  have FIN := hidq (fun W (r : Bool) (hB : But (fun j => j = b8) w4 W) => (show AftEnd kd N n l r w (.returned (.tuple #[.agg #[.int .i64 kd, .slice a' n cap', .int .i64 N], .bool r])) W from by
    obtain ⟨h1, h2, h3, h4⟩ := H4.out.1
    have e := hw4.out
    exact ⟨a', cap', rfl, h1.but hB (fun j hj e => by have := h2 j hj; omega), fun j hj => by have := h2 j hj; omega, h3.trans (hB.below h3.size (fun k hk => by omega))⟩))
  have hw4' := hw4.out
  by_cases hc0 : c = 0
  · subst hc0
    have hok : ok = false := by rcases hno with e | e; exact e; exact absurd rfl e
    subst hok
    clear hno
    have HMF0 := fun W => mayFail_any k W
    obtain ⟨mf, hmf⟩ : ∃ mf, mayF k = mf := ⟨_, rfl⟩
    rw [hmf] at HMF0
    have HMF := hidq HMF0
    clear HMF0
    have HMFE := hidq hmf
    clear hmf
    obtain ⟨x80, z80⟩ := X8.out.get 0 _ rfl
    obtain ⟨x81, z81⟩ := X8.out.get 1 _ rfl
    obtain ⟨x82, z82⟩ := X8.out.get 2 _ rfl
    go_upto_region 5 with fail
    have hb5 : ¬ b4 + 1 = b8 := by omega
    obtain ⟨b5, hb5e⟩ : ∃ b5, b4 + 1 = b5 := ⟨_, rfl⟩
    have FA := hidq (fun W (hW : But (fun j => j = b8) w4 W) => (show W.cell? ⟨b4, 0, none⟩ = some (.int .i64 kd) ∧ W.cell? ⟨b4, 1, none⟩ = some (.slice a' n cap') ∧ W.cell? ⟨b4, 2, none⟩ = some (.int .i64 N) ∧ W.cell? ⟨b5, 0, none⟩ = some (.int .i64 k) from by
      have h1 := H4.out.2.1.but hW hne
      have h2 := H4.out.2.2.1.but hW hb5
      rw [hb5e] at h2
      exact ⟨(h1.get 0 _ rfl).1, (h1.get 1 _ rfl).1, (h1.get 2 _ rfl).1, (h2.get 0 _ rfl).1⟩))
    have HF : ∀ (x : Nat) (w w' : World), Below w.heap.size w w' → ((x = 0 → BoxAt w b8 [.int .i64 0, .slice none 0 0, .int .i64 0]) ∧ (x = 1 → BoxAt w b8 [.int .i64 kd, .slice a' n cap', .int .i64 N])) → ((x = 0 → BoxAt w' b8 [.int .i64 0, .slice none 0 0, .int .i64 0]) ∧ (x = 1 → BoxAt w' b8 [.int .i64 kd, .slice a' n cap', .int .i64 N])) :=
      fun _ _ _ hB h => ⟨fun e => (h.1 e).below hB, fun e => (h.2 e).below hB⟩
    rw [hb5e]
    clear x80 x81 x82 z80 z81 z82 x40 x41 x42 x60 x50
    refine Reg.wp_region_ghost (Reg.gofList (aft5R b4 b5 n cap' a' kd N k mf b8)) (Reg.PPres (fun j => j = b8)) (Reg.PInv [4] (fun j => j = b8) w4 (fun x w => (x = 0 → BoxAt w b8 [.int .i64 0, .slice none 0 0, .int .i64 0]) ∧ (x = 1 → BoxAt w b8 [.int .i64 kd, .slice a' n cap', .int .i64 N]))) 0 (by kernel_rfl) (by kernel_rfl) (Reg.GAllKept.at _ (aft5R_kept b4 b5 n cap' a' kd N k mf b8)) (Reg.PInv.start 6 ⟨fun _ => X8.out.drew, fun e => by cases e⟩) ⟨?_, ?_, ?_, ?_, ?_, ?_, trivial⟩ ?_
    · refine Reg.GStepAt.plain (i := 0) rfl ?_
      intro x L ev w hI hk hp hA
      have e4 : ev (.tmp 4) = .pointer (some ⟨b4, 0, none⟩) := hA.oldNone 4 (by kernel_rfl)
      have hcc := hA.const
      clear hA hp
      obtain ⟨f0, f1, f2, f3⟩ := FA.out w hI.2.1
      refine Reg.out_value (v := .agg #[.int .i64 kd, .slice a' n cap', .int .i64 N]) ?_ ⟨x, rfl, Reg.PPres.refl _ _ _, Reg.PInv.light HF hI 0 (by decide) (Below.refl _ _)⟩
      go_simp
    · refine Reg.GStepAt.plain (i := 1) rfl ?_
      intro x L ev w hI hk hp hA
      have e5 : ev (.tmp 5) = .pointer (some ⟨b5, 0, none⟩) := hA.oldNone 5 (by kernel_rfl)
      have hcc := hA.const
      clear hA hp
      refine Reg.out_value (v := .pointer (some ⟨b5, 0, none⟩)) ?_ ⟨x, rfl, Reg.PPres.refl _ _ _, Reg.PInv.light HF hI 1 (by decide) (Below.refl _ _)⟩
      go_simp
    · refine Reg.GStepAt.plain (i := 2) rfl ?_
      intro x L ev w hI hk hp hA
      have e24 : ev (.tmp 24) = .pointer (some ⟨b5, 0, none⟩) := hA.val 1 _ 24 rfl (hp ⟨1, .data⟩ (by simp) rfl) rfl
      have hcc := hA.const
      clear hA hp
      obtain ⟨f0, f1, f2, f3⟩ := FA.out w hI.2.1
      refine Reg.out_value (v := .int .i64 k) ?_ ⟨x, rfl, Reg.PPres.refl _ _ _, Reg.PInv.light HF hI 2 (by decide) (Below.refl _ _)⟩
      go_simp
    · refine Reg.GStepAt.plain (i := 3) rfl ?_
      intro x L ev w hI hk hp hA
      have e25 : ev (.tmp 25) = .int .i64 k := hA.val 2 _ 25 rfl (hp ⟨2, .data⟩ (by simp) rfl) rfl
      have hcc := hA.const
      have hcf := hA.func
      clear hA hp
      refine Reg.out_call (f := 71) (args := #[.int .i64 k]) (w0 := w) ?_ ?_
      · go_simp
      refine (HMF.out w).mono ?_
      rintro e w' ⟨rfl, rfl⟩
      exact ⟨_, rfl, x, rfl, Reg.PPres.refl _ _ _, Reg.PInv.light HF hI 3 (by decide) (Below.refl _ _)⟩
    · refine Reg.GStepAt.plain (i := 4) rfl ?_
      intro x L ev w hI hk hp hA
      have e8 : ev (.tmp 8) = .pointer (some ⟨b8, 0, none⟩) := hA.oldNone 8 (by kernel_rfl)
      have e23 : ev (.tmp 23) = .agg #[.int .i64 kd, .slice a' n cap', .int .i64 N] := hA.val 0 _ 23 rfl (hp ⟨0, .data⟩ (by simp) rfl) rfl
      have hcc := hA.const
      clear hA hp
      have hx0 : x = 0 := hI.1.trans (Reg.cnt_zero1 (Reg.getD_true hk))
      have hX := hI.2.2.1 hx0
      obtain ⟨hX', hbS⟩ := box_set3 hX (.int .i64 kd) (.slice a' n cap') (.int .i64 N)
      obtain ⟨x80, z80⟩ := hX.get 0 _ rfl
      obtain ⟨x81, z81⟩ := hX.get 1 _ rfl
      obtain ⟨x82, z82⟩ := hX.get 2 _ rfl
      refine Reg.out_skipP (w' := ((w.setCell ⟨b8, 0, none⟩ (.int .i64 kd)).setCell ⟨b8, 1, none⟩ (.slice a' n cap')).setCell ⟨b8, 2, none⟩ (.int .i64 N)) ?_ ⟨x + 1, trivial, Reg.PPres.heavy hbS, Reg.PInv.heavy hI 4 (by decide) (by simp) hk hbS ⟨fun e => by omega, fun _ => hX'⟩⟩
      clear hI hbS hX hX'
      go_simp
    · refine Reg.GStepAt.plain (i := 5) rfl ?_
      intro x L ev w hI hk hp hA
      have e26 : ev (.tmp 26) = .bool mf := hA.val 3 _ 26 rfl (hp ⟨3, .data⟩ (by simp) rfl) rfl
      have hcc := hA.const
      clear hA hp
      refine Reg.out_value (v := .bool mf) ?_ ⟨x, rfl, Reg.PPres.refl _ _ _, Reg.PInv.light HF hI 5 (by decide) (Below.refl _ _)⟩
      go_simp
    intro gx L act wz hall hI hF
    have g23 : act.eval (.tmp 23) = .agg #[.int .i64 kd, .slice a' n cap', .int .i64 N] := hF.val 0 _ 23 rfl (hall 0 (by simp)) rfl
    have g24 : act.eval (.tmp 24) = .pointer (some ⟨b5, 0, none⟩) := hF.val 1 _ 24 rfl (hall 1 (by simp)) rfl
    have g25 : act.eval (.tmp 25) = .int .i64 k := hF.val 2 _ 25 rfl (hall 2 (by simp)) rfl
    have g26 : act.eval (.tmp 26) = .bool mf := hF.val 3 _ 26 rfl (hall 3 (by simp)) rfl
    have g9 : act.eval (.tmp 9) = .bool mf := hF.val 5 _ 9 rfl (hall 5 (by simp)) rfl
    have hact := hF.act [23, 24, 25, 26, 9] (by kernel_rfl)
    obtain ⟨hxz, hBz, hFz⟩ := Reg.PInv.done hI (fun j hj => hall j (by simp at hj ⊢; omega))
    clear hF hall
    simp only [List.foldl_cons, List.foldl_nil] at hact
    rw [g23, g24, g25, g26, g9] at hact
    clear g23 g24 g25 g26 g9
    simp only [List.setIfInBounds_toArray, List.set_cons_succ, List.set_cons_zero] at hact
    subst hact
    have hX := hFz.2 rfl
    have t0 := (hX.get 0 _ rfl).1
    have t1 := (hX.get 1 _ rfl).1
    have t2 := (hX.get 2 _ rfl).1
    have HT := hidq (And.intro t0 (And.intro t1 (And.intro t2 hBz)))
    clear hX hFz hBz hI t0 t1 t2 HF FA hxz
    go_wp2_with fail
    obtain ⟨t0, t1, t2, hB⟩ := HT.out
    refine bodyPost_ret (v := .tuple #[.agg #[.int .i64 kd, .slice a' n cap', .int .i64 N], .bool mf]) (by simp [results, Try.results34, go_sem, t0, t1, t2]) rfl ?_
    rw [HC.out, HMFE.out]
    exact FIN.out _ _ hB
  · have hd : decide (c = 0) = false := by simpa using hc0
    have hc1 : (c != 0) = true := by simpa using hc0
    clear hno hw4'
    obtain ⟨x80, z80⟩ := X8.out.get 0 _ rfl
    obtain ⟨x81, z81⟩ := X8.out.get 1 _ rfl
    obtain ⟨x82, z82⟩ := X8.out.get 2 _ rfl
    obtain ⟨hX, hB⟩ := box_set3 X8.out (.int .i64 kd) (.slice a' n cap') (.int .i64 N)
    have t0 := (hX.get 0 _ rfl).1
    have t1 := (hX.get 1 _ rfl).1
    have t2 := (hX.get 2 _ rfl).1
    have HT := hidq (And.intro t0 (And.intro t1 t2))
    have HB := hidq hB
    clear hX hB t0 t1 t2
    go_wp2_with fail
    obtain ⟨t0, t1, t2⟩ := HT.out
    refine bodyPost_ret (v := .tuple #[.agg #[.int .i64 kd, .slice a' n cap', .int .i64 N], .bool false]) (by simp [results, Try.results34, go_sem, t0, t1, t2]) rfl ?_
    rw [HC.out, hd, Bool.false_and]
    exact FIN.out _ _ HB.out

set_option maxRecDepth 20000 in
set_option maxHeartbeats 8000000 in
theorem after_next (N v d0 d1 av an p : Int) (f af : Nat) (a : Option Addr) (cap n : Nat) (l : List Value) (w : World) (h : SlAt 2 w a cap n l) (hn : n ≤ 1000000) (hN : -1000000 ≤ N ∧ N ≤ 1152921504606846976) :
    Calls Try.prog 34 #[.agg #[.int .i64 4, .slice a n cap, .int .i64 N], .agg #[.int .i64 7, .float .f64 f, .int .i64 v, .int .i64 d0, .int .i64 d1], .agg #[.bool true, .float .f64 af, .int .i64 av, .int .i64 an], .int .i64 p] w
      (AftEnd 4 (N + 1) n l true w) := by
  have hsf := run_store_float (P := Try.prog)
  obtain ⟨W1, hW1, hb1, hs1, hX4, hX5, hX6, hX8⟩ := four_new w (v12 4 a n cap N) (o12 7 f v d0 d1) (a12 true af av an) [.int .i64 0, .slice none 0 0, .int .i64 0] 81 90 92 81
  obtain ⟨b4, hb4⟩ : ∃ b4, w.heap.size = b4 := ⟨_, rfl⟩
  rw [hb4] at hX4 hX5 hX6 hX8 hs1
  have H1 := hidq (And.intro hb1 (And.intro hX4 (And.intro hX5 (And.intro hX6 (And.intro hX8 hs1)))))
  have hCl := hidq (sclone_any a cap n l W1 (h.below hb1) hn)
  have m41 := hX4.get 1 _ rfl
  obtain ⟨y41, z41⟩ := m41
  clear h hb1 hX4 hX5 hX6 hX8 hs1
  go_enter Try.func34, Try.ntmps34
  go_upto_region 1 with fail
  try rw [hb4]
  dsimp only [v12, o12, a12] at hW1
  try rw [hW1]
  go_wp2_with fail
  refine hCl.out.mono ?_
  rintro e w2 ⟨a', cap', rfl, hS2, hf2, hb2⟩
  obtain ⟨W3, hW3⟩ : ∃ W3, w2.setCell ⟨b4, 1, none⟩ (.slice a' n cap') = W3 := ⟨_, rfl⟩
  have hw4 := hidq hb4
  have H3 := hidq (show (But (fun j => j = b4) W1 W3 ∧ SlAt 2 W3 a' cap' n l ∧ ∀ j, inB a' j → b4 + 4 ≤ j) ∧ BoxAt W3 b4 (v12 4 a' n cap' N) ∧ BoxAt W3 (b4 + 1) (o12 7 f v d0 d1) ∧ BoxAt W3 (b4 + 1 + 1) (a12 true af av an) ∧ BoxAt W3 (b4 + 1 + 1 + 1) [.int .i64 0, .slice none 0 0, .int .i64 0] from by
    obtain ⟨h1, h2, h3, h4, h5, h6⟩ := H1.out
    have hb : But (fun j => j = b4) w2 W3 := by rw [← hW3]; exact (But.refl (fun j => j = b4) w2).set1 b4 1 rfl _
    refine ⟨⟨(But.of_below hb2).trans hb, hS2.but hb (fun j hj e => by have := hf2 j hj; omega), fun j hj => by have := hf2 j hj; omega⟩, ?_, (h3.below hb2).but hb (by omega), (h4.below hb2).but hb (by omega), (h5.below hb2).but hb (by omega)⟩
    rw [← hW3]
    exact (h2.below hb2).set 1 _)
  have q41 : w2.cell? ⟨b4, 1, none⟩ = some (.slice a n cap) := ((H1.out.2.1.below hb2).get 1 _ rfl).1
  have q42 : w2.frozen? ⟨b4, 1, none⟩ = false := ((H1.out.2.1.below hb2).get 1 _ rfl).2
  clear hS2 hf2 hb2 y41 z41 hCl
  have HCk := hidq (check_any 4 7 v d0 d1 f W3)
  rw [show chk 4 7 v = 0 from chk0 (by decide) (by omega)] at HCk
  go_upto_region 2 with fail
  try rw [hW3]
  clear hW3 q41 q42 hW1
  have x40 := (H3.out.2.1.get 0 _ rfl).1
  have x50 := (H3.out.2.2.1.get 0 _ rfl).1
  have x51 := (H3.out.2.2.1.get 1 _ rfl).1
  have x52 := (H3.out.2.2.1.get 2 _ rfl).1
  have x53 := (H3.out.2.2.1.get 3 _ rfl).1
  have x54 := (H3.out.2.2.1.get 4 _ rfl).1
  go_wp2_with fail
  refine HCk.out.mono ?_
  rintro e w4 ⟨rfl, hb34⟩
  have H4 := hidq (show (SlAt 2 w4 a' cap' n l ∧ (∀ j, inB a' j → b4 + 4 ≤ j) ∧ Below w.heap.size w w4 ∧ b4 + 4 ≤ w4.heap.size) ∧ BoxAt w4 b4 (v12 4 a' n cap' N) ∧ BoxAt w4 (b4 + 1) (o12 7 f v d0 d1) ∧ BoxAt w4 (b4 + 1 + 1) (a12 true af av an) ∧ BoxAt w4 (b4 + 1 + 1 + 1) [.int .i64 0, .slice none 0 0, .int .i64 0] from by
    obtain ⟨⟨h1, h2, h3⟩, h4, h5, h6, h7⟩ := H3.out
    obtain ⟨g1, g2, g3, g4, g5, g6⟩ := H1.out
    have z1 := g1.size
    have z2 := h1.size
    have z3 := hb34.size
    have e := hw4.out
    exact ⟨⟨h2.below hb34, h3, (g1.trans (h1.below z1 (fun k hk => by omega))).trans (hb34.mono (by omega)), by omega⟩, h4.below hb34, h5.below hb34, h6.below hb34, h7.below hb34⟩)
  clear x40 x50 x51 x52 x53 x54 hb34 HCk H1 H3
  obtain ⟨b8, hb8⟩ : ∃ b8, b4 + 1 + 1 + 1 = b8 := ⟨_, rfl⟩
  have x60 := (H4.out.2.2.2.1.get 0 _ rfl).1
  have x50 := (H4.out.2.2.1.get 0 _ rfl).1
  obtain ⟨x42, z42⟩ := H4.out.2.1.get 2 _ rfl
  have X8 := hidq H4.out.2.2.2.2
  rw [hb8] at X8
  rw [hb8]
  have hne : b4 ≠ b8 := by omega
  obtain ⟨W5, hW5⟩ : ∃ W5, w4.setCell ⟨b4, 2, none⟩ (.int .i64 (N + 1)) = W5 := ⟨_, rfl⟩
  have hB5 : But (fun j => j = b4) w4 W5 := by rw [← hW5]; exact (But.refl (fun j => j = b4) w4).set1 b4 2 rfl _
  have hX4 : BoxAt W5 b4 (v12 4 a' n cap' (N + 1)) := by rw [← hW5]; exact H4.out.2.1.set 2 _
  have hX8 := X8.out.but hB5 (fun e => hne e.symm)
  have HX := hidq (And.intro hB5 (And.intro hX4 hX8))
  have hw : wrap64 (N + 1) = N + 1 := by unfold wrap64; omega
  have hw2 : IntKind.i64.wrap (N + 1) = N + 1 := by simp [IntKind.wrap, IntKind.signed, IntKind.bits]; omega
  clear hB5 hX4 hX8
  go_upto_region 19 with fail
  try rw [hW5]
  clear hW5 x60 x50 x42 z42 hw hw2
  have x40 := (HX.out.2.1.get 0 _ rfl).1
  have x41 := (HX.out.2.1.get 1 _ rfl).1
  have x42 := (HX.out.2.1.get 2 _ rfl).1
  obtain ⟨x80, z80⟩ := HX.out.2.2.get 0 _ rfl
  obtain ⟨x81, z81⟩ := HX.out.2.2.get 1 _ rfl
  obtain ⟨x82, z82⟩ := HX.out.2.2.get 2 _ rfl
  obtain ⟨hX, hB⟩ := box_set3 HX.out.2.2 (.int .i64 4) (.slice a' n cap') (.int .i64 (N + 1))
  have t0 := (hX.get 0 _ rfl).1
  have t1 := (hX.get 1 _ rfl).1
  have t2 := (hX.get 2 _ rfl).1
  have HT := hidq (And.intro t0 (And.intro t1 (And.intro t2 hB)))
  clear hX hB t0 t1 t2
  go_wp2_with fail
  obtain ⟨t0, t1, t2, hB⟩ := HT.out
  refine bodyPost_ret (v := .tuple #[.agg #[.int .i64 4, .slice a' n cap', .int .i64 (N + 1)], .bool true]) (by simp [results, Try.results34, go_sem, t0, t1, t2]) rfl ?_
  obtain ⟨h1, h2, h3, h4⟩ := H4.out.1
  have e := hw4.out
  have hbb := HX.out.1
  exact ⟨a', cap', rfl, (h1.but hbb (fun j hj e => by have := h2 j hj; omega)).but hB (fun j hj e => by have := h2 j hj; omega), fun j hj => by have := h2 j hj; omega, (h3.trans (hbb.below h3.size (fun k hk => by omega))).trans (hB.below (by have := hbb.size; have := h3.size; omega) (fun k hk => by omega))⟩
end Go.Proofs.Ytepigofpcjmddaa
