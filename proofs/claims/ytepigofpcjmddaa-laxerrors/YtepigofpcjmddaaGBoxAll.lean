/-
  Layer 15: Check of one call: contracts.
  Layer 14: may calls have been written down, by the last call of each thread, and by all ahead.
  Layer 14: the document's calls as they lie in memory; is one ahead of another one: contract.
  Layer 14's laws: may calls have been written down, by the document: contract.
  Layer 6: may a structure be, by the document, at any kind: contract.
  A region that draws its order in which calls are made and what they answer goes into a new box: which box it is is carried on as a ghost.
-/
import Derived.Test.YtepigofpcjmddaaAft12All
import Derived.Test.YtepigofpcjmddaaDone14bAll
import Derived.Test.YtepigofpcjmddaaSetSelfAll
import Derived.Test.YtepigofpcjmddaaFlatCl14All
import Derived.Test.YtepigofpcjmddaaFits5All
import Derived.Test.YtepigofpcjmddaaFrame6All
import Derived.Test.YtepigofpcjmddaaTail
namespace Go.Proofs.Ytepigofpcjmddaa
open Go.RowKit Go.Sort

theorem done1 {c : Cl} {S : List Nat} (h : DoneOf [c] S) : (0 ≤ c.fin → S = [0]) ∧ (c.fin < 0 → S = []) := by
  have hall : ∀ j ∈ S, j = 0 := fun j hj => by have := ((h.mem j).1 hj).1; simp at this; omega
  have hd : isDn [c] 0 = decide (0 ≤ c.fin) := rfl
  constructor
  · intro h0
    have h1 : 0 ∈ S := (h.mem 0).2 ⟨by simp, by rw [hd]; exact decide_eq_true h0⟩
    match S, h1, hall, h.ord with
    | [x], _, hall, _ => rw [hall x (by simp)]
    | x :: y :: l, _, hall, ho =>
      have hx := hall x (by simp)
      have hy := hall y (by simp)
      subst hx; subst hy
      have := (List.pairwise_cons.1 ho).1 0 (by simp)
      omega
  · intro h0
    match S, hall, h.mem with
    | [], _, _ => rfl
    | x :: l, hall, hm =>
      have hx := hall x (by simp)
      subst hx
      have := ((hm 0).1 (by simp)).2
      rw [hd] at this
      simp at this
      omega
theorem chkno {kd p : Int} (hL : legal kd p = 0) : ¬ (opFrom kd ≤ 0 ∧ 0 ≤ opTo kd) := by
  have hk : 1 ≤ kd ∧ kd ≤ 4 := by
    rcases Classical.em (1 ≤ kd ∧ kd ≤ 4) with h | h
    · exact h
    · rw [legal_kind h] at hL; cases hL
  have : kd = 1 ∨ kd = 2 ∨ kd = 3 ∨ kd = 4 := by omega
  rcases this with rfl | rfl | rfl | rfl <;> decide
theorem CntAt.butlo {S : Nat → Prop} {w w' : World} {lo kb : Nat} {first bg : Int} (h : CntAt w lo kb first bg) (hb : But S w w') (hS : ∀ k, S k → k < lo) : CntAt w' lo kb first bg := by
  obtain ⟨hb1, gb, gc, mb, h1, h2, h3, h4, h5, h6, h7, h8⟩ := h
  have hn : ∀ k, lo ≤ k → ¬ S k := fun k hk e => by have := hS k e; omega
  exact ⟨hb1, gb, gc, mb, h1.but hb (hn _ h5), h2.but hb (hn _ h6), h3.but hb (hn _ h7), owns_b h4 hb (hn _ h8), h5, h6, h7, h8⟩
theorem but_lo {lo : Nat} {w w' : World} (h : Below lo w w') : But (fun k => lo ≤ k) w w' := ⟨h.os, h.tape, h.output, h.size, fun k _ hn => h.block k (by omega)⟩
/-- How Check ends. -/
def LaxEnd (kd N i er : Int) (w : World) (e : Ending) (w' : World) : Prop :=
  ∃ a' cap', e = .returned (.tuple #[.agg #[.int .i64 kd, .slice a' 0 cap', .int .i64 N], .int .i64 i, .int .i64 er]) ∧ Below w.heap.size w w'
theorem zero3 {w : World} {b : Nat} (h : BoxAt w b [.int .i64 0, .slice none 0 0, .int .i64 0]) : ((w.setCell ⟨b, 0, none⟩ (.int .i64 0)).setCell ⟨b, 1, none⟩ (.slice none 0 0)).setCell ⟨b, 2, none⟩ (.int .i64 0) = w := by
  have h0 := (h.get 0 _ rfl).1
  have h1 := (h.get 1 _ rfl).1
  have h2 := (h.get 2 _ rfl).1
  rw [setCell_self w _ _ h0, setCell_self w _ _ h1, setCell_self w _ _ h2]

set_option maxRecDepth 20000 in
set_option maxHeartbeats 8000000 in
theorem lax_leg (kd p : Int) (w : World) (a : Option Addr) (cap : Nat) (c : Cl) (h : SlAt 12 w a cap 1 (flatCl [c])) (lg : Int) (hL : legal kd p = lg) (h0 : ¬ lg = 0) :
    Calls Try.prog 40 #[.agg #[.int .i64 kd, .slice none 0 0, .int .i64 0], .int .i64 p, .slice a 1 cap] w (LaxEnd 0 0 (-1) lg w) := by
  have hsf := run_store_float (P := Try.prog)
  obtain ⟨b3, hb3⟩ : ∃ b3, w.heap.size = b3 := ⟨_, rfl⟩
  obtain ⟨W1, hW1⟩ : ∃ W1, (w.alloc (.cells #[.int .i64 kd, .slice none 0 0, .int .i64 0] 81)).alloc (.cells #[.int .i64 0, .slice none 0 0, .int .i64 0] 81) = W1 := ⟨_, rfl⟩
  have H1 := hidq (show Below w.heap.size w W1 ∧ BoxAt W1 b3 [.int .i64 kd, .slice none 0 0, .int .i64 0] ∧ BoxAt W1 (b3 + 1) [.int .i64 0, .slice none 0 0, .int .i64 0] ∧ W1.heap.size = b3 + 2 from by
    have q2 := BoxAt.new (w.alloc (.cells #[.int .i64 kd, .slice none 0 0, .int .i64 0] 81)) [.int .i64 0, .slice none 0 0, .int .i64 0] 81
    rw [show (w.alloc (.cells #[.int .i64 kd, .slice none 0 0, .int .i64 0] 81)).heap.size = w.heap.size + 1 from by simp] at q2
    rw [← hW1, ← hb3]
    exact ⟨((Below.refl _ _).alloc (Nat.le_refl _) _).alloc (by simp) _, (BoxAt.new w [.int .i64 kd, .slice none 0 0, .int .i64 0] 81).below ((Below.refl _ _).alloc (Nat.le_refl _) _), q2, by simp⟩)
  have HS := hidq h
  have hLg := hidq (legal_any kd p W1)
  rw [hL] at hLg
  have HLg := hidq hLg
  have m30 := (H1.out.2.1.get 0 _ rfl).1
  clear h hLg
  go_enter Try.func40, Try.ntmps40
  go_upto_region 1 with fail
  try rw [hb3]
  try rw [hW1]
  clear hW1
  obtain ⟨b6, hb6⟩ : ∃ b6, b3 + 1 = b6 := ⟨_, rfl⟩
  try rw [hb6]
  go_wp2_with fail
  refine HLg.out.mono ?_
  rintro e w2 ⟨rfl, hb2⟩
  have H2 := hidq (show Below w.heap.size w w2 ∧ BoxAt w2 b3 [.int .i64 kd, .slice none 0 0, .int .i64 0] ∧ BoxAt w2 b6 [.int .i64 0, .slice none 0 0, .int .i64 0] ∧ b3 + 2 ≤ w2.heap.size from by
    obtain ⟨q1, q2, q3, q4⟩ := H1.out
    rw [hb6] at q3
    exact ⟨q1.trans (hb2.mono q1.size), q2.below hb2, q3.below hb2, by have := hb2.size; omega⟩)
  clear m30 hb2 HLg H1
  have hn : (lg != 0) = true := by simpa using h0
  clear hL
  obtain ⟨x60, z60⟩ := H2.out.2.2.1.get 0 _ rfl
  obtain ⟨x61, z61⟩ := H2.out.2.2.1.get 1 _ rfl
  obtain ⟨x62, z62⟩ := H2.out.2.2.1.get 2 _ rfl
  have hz3 := zero3 H2.out.2.2.1
  have hs1 := setCell_self w2 _ _ x60
  have hs2 := setCell_self w2 _ _ x61
  have hs3 := setCell_self w2 _ _ x62
  have HX := hidq (And.intro x60 (And.intro x61 x62))
  go_wp2_with fail
  obtain ⟨t0, t1, t2⟩ := HX.out
  refine bodyPost_ret (v := .tuple #[.agg #[.int .i64 0, .slice none 0 0, .int .i64 0], .int .i64 (-1), .int .i64 lg]) (by simp [results, Try.results40, go_sem, t0, t1, t2]) rfl ?_
  exact ⟨none, 0, rfl, H2.out.1⟩

set_option maxRecDepth 20000 in
set_option maxHeartbeats 8000000 in
theorem lax_chk (kd p : Int) (w : World) (a : Option Addr) (cap : Nat) (c : Cl) (h : SlAt 12 w a cap 1 (flatCl [c])) (hL : legal kd p = 0) (er : Int) (hE : hchk [c] 0 (fun _ => none) = er) (h0 : ¬ er = 0) :
    Calls Try.prog 40 #[.agg #[.int .i64 kd, .slice none 0 0, .int .i64 0], .int .i64 p, .slice a 1 cap] w (LaxEnd 0 0 (-1) er w) := by
  have hsf := run_store_float (P := Try.prog)
  obtain ⟨b3, hb3⟩ : ∃ b3, w.heap.size = b3 := ⟨_, rfl⟩
  obtain ⟨W1, hW1⟩ : ∃ W1, (w.alloc (.cells #[.int .i64 kd, .slice none 0 0, .int .i64 0] 81)).alloc (.cells #[.int .i64 0, .slice none 0 0, .int .i64 0] 81) = W1 := ⟨_, rfl⟩
  have H1 := hidq (show Below w.heap.size w W1 ∧ BoxAt W1 b3 [.int .i64 kd, .slice none 0 0, .int .i64 0] ∧ BoxAt W1 (b3 + 1) [.int .i64 0, .slice none 0 0, .int .i64 0] ∧ W1.heap.size = b3 + 2 from by
    have q2 := BoxAt.new (w.alloc (.cells #[.int .i64 kd, .slice none 0 0, .int .i64 0] 81)) [.int .i64 0, .slice none 0 0, .int .i64 0] 81
    rw [show (w.alloc (.cells #[.int .i64 kd, .slice none 0 0, .int .i64 0] 81)).heap.size = w.heap.size + 1 from by simp] at q2
    rw [← hW1, ← hb3]
    exact ⟨((Below.refl _ _).alloc (Nat.le_refl _) _).alloc (by simp) _, (BoxAt.new w [.int .i64 kd, .slice none 0 0, .int .i64 0] 81).below ((Below.refl _ _).alloc (Nat.le_refl _) _), q2, by simp⟩)
  have HS := hidq h
  have hLg := hidq (legal_any kd p W1)
  rw [hL] at hLg
  have HLg := hidq hLg
  have m30 := (H1.out.2.1.get 0 _ rfl).1
  clear h hLg
  go_enter Try.func40, Try.ntmps40
  go_upto_region 1 with fail
  try rw [hb3]
  try rw [hW1]
  clear hW1
  obtain ⟨b6, hb6⟩ : ∃ b6, b3 + 1 = b6 := ⟨_, rfl⟩
  try rw [hb6]
  go_wp2_with fail
  refine HLg.out.mono ?_
  rintro e w2 ⟨rfl, hb2⟩
  have H2 := hidq (show Below w.heap.size w w2 ∧ BoxAt w2 b3 [.int .i64 kd, .slice none 0 0, .int .i64 0] ∧ BoxAt w2 b6 [.int .i64 0, .slice none 0 0, .int .i64 0] ∧ b3 + 2 ≤ w2.heap.size from by
    obtain ⟨q1, q2, q3, q4⟩ := H1.out
    rw [hb6] at q3
    exact ⟨q1.trans (hb2.mono q1.size), q2.below hb2, q3.below hb2, by have := hb2.size; omega⟩)
  clear m30 hb2 HLg H1
  have HCk := hidq (check14_any [c] a cap 1 w2 (HS.out.below H2.out.1) rfl (by decide))
  rw [hE] at HCk
  go_wp2_with fail
  refine HCk.out.mono ?_
  rintro e w3 ⟨rfl, hb23⟩
  have H3 := hidq (show Below w.heap.size w w3 ∧ BoxAt w3 b3 [.int .i64 kd, .slice none 0 0, .int .i64 0] ∧ BoxAt w3 b6 [.int .i64 0, .slice none 0 0, .int .i64 0] ∧ b3 + 2 ≤ w3.heap.size from by
    obtain ⟨q1, q2, q3, q4⟩ := H2.out
    exact ⟨q1.trans (hb23.mono q1.size), q2.below hb23, q3.below hb23, by have := hb23.size; omega⟩)
  clear hb23 HCk H2
  have hn : (er != 0) = true := by simpa using h0
  clear hL hE
  obtain ⟨x60, z60⟩ := H3.out.2.2.1.get 0 _ rfl
  obtain ⟨x61, z61⟩ := H3.out.2.2.1.get 1 _ rfl
  obtain ⟨x62, z62⟩ := H3.out.2.2.1.get 2 _ rfl
  have hz3 := zero3 H3.out.2.2.1
  have hs1 := setCell_self w3 _ _ x60
  have hs2 := setCell_self w3 _ _ x61
  have hs3 := setCell_self w3 _ _ x62
  have HX := hidq (And.intro x60 (And.intro x61 x62))
  go_wp2_with fail
  obtain ⟨t0, t1, t2⟩ := HX.out
  refine bodyPost_ret (v := .tuple #[.agg #[.int .i64 0, .slice none 0 0, .int .i64 0], .int .i64 (-1), .int .i64 er]) (by simp [results, Try.results40, go_sem, t0, t1, t2]) rfl ?_
  exact ⟨none, 0, rfl, H3.out.1⟩

set_option maxRecDepth 20000 in
set_option maxHeartbeats 8000000 in
theorem lax_no (kd p : Int) (w : World) (a : Option Addr) (cap : Nat) (c : Cl) (h : SlAt 12 w a cap 1 (flatCl [c])) (hL : legal kd p = 0) (hE : hchk [c] 0 (fun _ => none) = 0) (hk : c.kind = 0) (hok : c.ans.ok = false) (i er : Int) (hr : (c.fin < 0 ∧ i = -1 ∧ er = 0) ∨ (0 ≤ c.fin ∧ i = 0 ∧ er = 12)) :
    Calls Try.prog 40 #[.agg #[.int .i64 kd, .slice none 0 0, .int .i64 0], .int .i64 p, .slice a 1 cap] w (LaxEnd kd 0 i er w) := by
  have hsf := run_store_float (P := Try.prog)
  obtain ⟨b3, hb3⟩ : ∃ b3, w.heap.size = b3 := ⟨_, rfl⟩
  obtain ⟨W1, hW1⟩ : ∃ W1, (w.alloc (.cells #[.int .i64 kd, .slice none 0 0, .int .i64 0] 81)).alloc (.cells #[.int .i64 0, .slice none 0 0, .int .i64 0] 81) = W1 := ⟨_, rfl⟩
  have H1 := hidq (show Below w.heap.size w W1 ∧ BoxAt W1 b3 [.int .i64 kd, .slice none 0 0, .int .i64 0] ∧ BoxAt W1 (b3 + 1) [.int .i64 0, .slice none 0 0, .int .i64 0] ∧ W1.heap.size = b3 + 2 from by
    have q2 := BoxAt.new (w.alloc (.cells #[.int .i64 kd, .slice none 0 0, .int .i64 0] 81)) [.int .i64 0, .slice none 0 0, .int .i64 0] 81
    rw [show (w.alloc (.cells #[.int .i64 kd, .slice none 0 0, .int .i64 0] 81)).heap.size = w.heap.size + 1 from by simp] at q2
    rw [← hW1, ← hb3]
    exact ⟨((Below.refl _ _).alloc (Nat.le_refl _) _).alloc (by simp) _, (BoxAt.new w [.int .i64 kd, .slice none 0 0, .int .i64 0] 81).below ((Below.refl _ _).alloc (Nat.le_refl _) _), q2, by simp⟩)
  have HS := hidq h
  have hLg := hidq (legal_any kd p W1)
  rw [hL] at hLg
  have HLg := hidq hLg
  have m30 := (H1.out.2.1.get 0 _ rfl).1
  clear h hLg
  go_enter Try.func40, Try.ntmps40
  go_upto_region 1 with fail
  try rw [hb3]
  try rw [hW1]
  clear hW1
  obtain ⟨b6, hb6⟩ : ∃ b6, b3 + 1 = b6 := ⟨_, rfl⟩
  try rw [hb6]
  go_wp2_with fail
  refine HLg.out.mono ?_
  rintro e w2 ⟨rfl, hb2⟩
  have H2 := hidq (show Below w.heap.size w w2 ∧ BoxAt w2 b3 [.int .i64 kd, .slice none 0 0, .int .i64 0] ∧ BoxAt w2 b6 [.int .i64 0, .slice none 0 0, .int .i64 0] ∧ b3 + 2 ≤ w2.heap.size from by
    obtain ⟨q1, q2, q3, q4⟩ := H1.out
    rw [hb6] at q3
    exact ⟨q1.trans (hb2.mono q1.size), q2.below hb2, q3.below hb2, by have := hb2.size; omega⟩)
  clear m30 hb2 HLg H1
  have HCk := hidq (check14_any [c] a cap 1 w2 (HS.out.below H2.out.1) rfl (by decide))
  rw [hE] at HCk
  go_wp2_with fail
  refine HCk.out.mono ?_
  rintro e w3 ⟨rfl, hb23⟩
  have H3 := hidq (show Below w.heap.size w w3 ∧ BoxAt w3 b3 [.int .i64 kd, .slice none 0 0, .int .i64 0] ∧ BoxAt w3 b6 [.int .i64 0, .slice none 0 0, .int .i64 0] ∧ b3 + 2 ≤ w3.heap.size from by
    obtain ⟨q1, q2, q3, q4⟩ := H2.out
    exact ⟨q1.trans (hb23.mono q1.size), q2.below hb23, q3.below hb23, by have := hb23.size; omega⟩)
  clear hb23 HCk H2
  have hCl := hidq (sclone_any none 0 0 [] w3 (SlAt.nil _ _) (by decide))
  have m31 := (H3.out.2.1.get 1 _ rfl).1
  go_wp2_with fail
  refine hCl.out.mono ?_
  rintro e w4 ⟨a', cap', rfl, hS4, hf4, hb4⟩
  obtain ⟨y31, f31⟩ := (H3.out.2.1.below hb4).get 1 _ rfl
  obtain ⟨w5, hw5⟩ : ∃ w5, w4.setCell ⟨b3, 1, none⟩ (.slice a' 0 cap') = w5 := ⟨_, rfl⟩
  have H5 := hidq (show (Below w.heap.size w w5 ∧ SlAt 2 w5 a' cap' 0 [] ∧ ∀ j, inB a' j → b3 + 2 ≤ j) ∧ BoxAt w5 b3 [.int .i64 kd, .slice a' 0 cap', .int .i64 0] ∧ BoxAt w5 b6 [.int .i64 0, .slice none 0 0, .int .i64 0] ∧ b3 + 2 ≤ w5.heap.size from by
    obtain ⟨q1, q2, q3, q4⟩ := H3.out
    have hB : But (fun j => j = b3) w4 w5 := by rw [← hw5]; exact (But.refl (fun j => j = b3) w4).set1 b3 1 rfl _
    have z1 := q1.size
    have z2 := hb4.size
    have z3 := hB.size
    refine ⟨⟨(q1.trans (hb4.mono z1)).trans (hB.below (by omega) (fun k e => by omega)), hS4.but hB (fun j hj e => by have := hf4 j hj; omega), fun j hj => by have := hf4 j hj; omega⟩, ?_, (q3.below hb4).but hB (by omega), by omega⟩
    rw [← hw5]
    exact (q2.below hb4).set 1 _)
  clear hS4 hf4 hb4 hCl m31
  go_upto_region 8 with fail
  try rw [hw5]
  clear hw5 y31 f31 H3
  have m32 := (H5.out.2.1.get 2 _ rfl).1
  have hCo := hidq (countOf_no 0 c a cap w5 (HS.out.below H5.out.1.1) (by omega))
  go_wp2_with fail
  refine hCo.out.mono ?_
  rintro e w6 ⟨kb, rfl, hb6w⟩
  have H6 := hidq (show (Below w.heap.size w w6 ∧ SlAt 2 w6 a' cap' 0 [] ∧ ∀ j, inB a' j → b3 + 2 ≤ j) ∧ BoxAt w6 b3 [.int .i64 kd, .slice a' 0 cap', .int .i64 0] ∧ BoxAt w6 b6 [.int .i64 0, .slice none 0 0, .int .i64 0] ∧ b3 + 2 ≤ w6.heap.size from by
    obtain ⟨⟨q1, q2, q3⟩, q4, q5, q6⟩ := H5.out
    exact ⟨⟨q1.trans (hb6w.mono q1.size), q2.below hb6w, q3⟩, q4.below hb6w, q5.below hb6w, by have := hb6w.size; omega⟩)
  clear hb6w hCo m32 H5
  have hDn := hidq (done14_any [c] a cap 1 w6 (HS.out.below H6.out.1.1) rfl (by decide))
  go_wp2_with fail
  refine hDn.out.mono ?_
  rintro e w7 ⟨S, a2, cap2, rfl, hNs, hDO, hb7⟩
  obtain ⟨hS1, hS0⟩ := done1 hDO
  have H7 := hidq (show (Below w.heap.size w w7 ∧ SlAt 2 w7 a' cap' 0 [] ∧ ∀ j, inB a' j → b3 + 2 ≤ j) ∧ BoxAt w7 b3 [.int .i64 kd, .slice a' 0 cap', .int .i64 0] ∧ BoxAt w7 b6 [.int .i64 0, .slice none 0 0, .int .i64 0] ∧ b3 + 2 ≤ w7.heap.size from by
    obtain ⟨⟨q1, q2, q3⟩, q4, q5, q6⟩ := H6.out
    exact ⟨⟨q1.trans (hb7.mono q1.size), q2.below hb7, q3⟩, q4.below hb7, q5.below hb7, by have := hb7.size; omega⟩)
  clear hb7 hDn H6 hDO
  rcases hr with ⟨hf, rfl, rfl⟩ | ⟨hf, rfl, rfl⟩
  · have hS := hS0 hf
    subst hS
    clear hS1 hS0 hNs
    go_wp2_with fail
    refine wp_loop_rounds 1 ?_
    rw [rounds_succ]
    obtain ⟨x30, _⟩ := H7.out.2.1.get 0 _ rfl
    obtain ⟨x31, _⟩ := H7.out.2.1.get 1 _ rfl
    obtain ⟨x32, _⟩ := H7.out.2.1.get 2 _ rfl
    obtain ⟨x60, z60⟩ := H7.out.2.2.1.get 0 _ rfl
    obtain ⟨x61, z61⟩ := H7.out.2.2.1.get 1 _ rfl
    obtain ⟨x62, z62⟩ := H7.out.2.2.1.get 2 _ rfl
    obtain ⟨hX, hB⟩ := box_set3 H7.out.2.2.1 (.int .i64 kd) (.slice a' 0 cap') (.int .i64 0)
    have HX := hidq (And.intro (hX.get 0 _ rfl).1 (And.intro (hX.get 1 _ rfl).1 (And.intro (hX.get 2 _ rfl).1 hB)))
    clear hX hB
    go_wp2_with fail
    obtain ⟨t0, t1, t2, hB⟩ := HX.out
    refine bodyPost_ret (v := .tuple #[.agg #[.int .i64 kd, .slice a' 0 cap', .int .i64 0], .int .i64 (-1), .int .i64 0]) (by simp [results, Try.results40, go_sem, t0, t1, t2]) rfl ?_
    have hs := H7.out.1.1.size
    have hb6l := H7.out.2.2.1.lt
    exact ⟨a', cap', rfl, H7.out.1.1.trans (hB.below hs (fun k e => by omega))⟩
  · have hS := hS1 hf
    subst hS
    obtain ⟨g2, o2, rfl, hgl2, _, hc2⟩ := hNs 0 0 rfl
    clear hS1 hS0 hNs
    rw [Nat.add_zero] at hc2
    rcases HS.out with ⟨_, e0, _⟩ | ⟨g, rfl, hF⟩
    · cases e0
    obtain ⟨th, kk, pr, vl, d0, d1, bg, fi, ⟨ok, ap, av, an⟩⟩ := c
    dsimp only at *
    subst hk
    subst hok
    have hF7 := hF.but (S := fun _ => False) (But.of_below H7.out.1.1) id
    have hchk6 : ¬ chk kd 0 vl = 0 := by
      rw [chk6 (chkno hL)]; decide
    have hr0 : (decide (chk kd 0 vl = 0) && mayF 0) = false := by rw [decide_eq_false hchk6]; rfl
    have m0 := hF7.cell 0 _ rfl
    have m1 := hF7.cell 1 _ rfl
    have m2 := hF7.cell 2 _ rfl
    have m3 := hF7.cell 3 _ rfl
    have m4 := hF7.cell 4 _ rfl
    have m5 := hF7.cell 5 _ rfl
    have m6 := hF7.cell 6 _ rfl
    have m7 := hF7.cell 7 _ rfl
    have m8 := hF7.cell 8 _ rfl
    have m9 := hF7.cell 9 _ rfl
    have m10 := hF7.cell 10 _ rfl
    have m11 := hF7.cell 11 _ rfl
    obtain ⟨cb, hcb⟩ : ∃ cb, w7.heap.size = cb := ⟨_, rfl⟩
    obtain ⟨w8, hw8⟩ : ∃ w8, w7.alloc (.cells #[.int .i64 th, .int .i64 0, .float .f64 pr, .int .i64 vl, .int .i64 d0, .int .i64 d1, .int .i64 bg, .int .i64 fi, .bool false, .float .f64 ap, .int .i64 av, .int .i64 an] 101) = w8 := ⟨_, rfl⟩
    have H8 := hidq (show (Below w.heap.size w w8 ∧ SlAt 2 w8 a' cap' 0 [] ∧ ∀ j, inB a' j → b3 + 2 ≤ j) ∧ BoxAt w8 b3 [.int .i64 kd, .slice a' 0 cap', .int .i64 0] ∧ BoxAt w8 b6 [.int .i64 0, .slice none 0 0, .int .i64 0] ∧ BoxAt w8 cb [.int .i64 th, .int .i64 0, .float .f64 pr, .int .i64 vl, .int .i64 d0, .int .i64 d1, .int .i64 bg, .int .i64 fi, .bool false, .float .f64 ap, .int .i64 av, .int .i64 an] from by
      obtain ⟨⟨q1, q2, q3⟩, q4, q5, q6⟩ := H7.out
      have hba : Below w7.heap.size w7 w8 := by rw [← hw8]; exact (Below.refl _ _).alloc (Nat.le_refl _) _
      exact ⟨⟨q1.trans (hba.mono q1.size), q2.below hba, q3⟩, q4.below hba, q5.below hba, by rw [← hw8, ← hcb]; exact BoxAt.new w7 _ _⟩)
    have x30 := (H8.out.2.1.get 0 _ rfl).1
    have x31 := (H8.out.2.1.get 1 _ rfl).1
    have x32 := (H8.out.2.1.get 2 _ rfl).1
    have y1 := (H8.out.2.2.2.get 1 _ rfl).1
    have y2 := (H8.out.2.2.2.get 2 _ rfl).1
    have y3 := (H8.out.2.2.2.get 3 _ rfl).1
    have y4 := (H8.out.2.2.2.get 4 _ rfl).1
    have y5 := (H8.out.2.2.2.get 5 _ rfl).1
    have y8 := (H8.out.2.2.2.get 8 _ rfl).1
    have y9 := (H8.out.2.2.2.get 9 _ rfl).1
    have y10 := (H8.out.2.2.2.get 10 _ rfl).1
    have y11 := (H8.out.2.2.2.get 11 _ rfl).1
    have hAf0 := after_any kd 0 0 vl d0 d1 av an p pr ap false a' cap' 0 [] w8 H8.out.1.2.1 (by decide) (.inl rfl)
    rw [hr0] at hAf0
    have hAf := hidq hAf0
    clear hAf0 hF hF7 hchk6 hr0
    go_wp2_with fail
    refine wp_loop_rounds 2 ?_
    rw [rounds_succ]
    go_wp2_with fail
    try rw [hw8]
    try rw [hcb]
    refine hAf.out.mono ?_
    rintro e w9 ⟨a9, cap9, rfl, hS9, hf9, hb9⟩
    clear hw8 m0 m1 m2 m3 m4 m5 m6 m7 m8 m9 m10 m11 y1 y2 y3 y4 y5 y8 y9 y10 y11 hAf
    have HB9 := hidq hb9
    clear x30 x31 x32 hS9 hf9 hb9 hcb hc2
    go_upto_region 14 with fail
    obtain ⟨w10, hw10⟩ : ∃ w10, w9.alloc (.cells #[.int .i64 kd, .slice a9 0 cap9, .int .i64 0] 81) = w10 := ⟨_, rfl⟩
    have H10 := hidq (show (Below w.heap.size w w10 ∧ True ∧ True) ∧ BoxAt w10 b3 [.int .i64 kd, .slice a' 0 cap', .int .i64 0] ∧ BoxAt w10 b6 [.int .i64 0, .slice none 0 0, .int .i64 0] ∧ True from by
      obtain ⟨⟨q1, q2, q3⟩, q4, q5, q6⟩ := H8.out
      have hba : Below w9.heap.size w9 w10 := by rw [← hw10]; exact (Below.refl _ _).alloc (Nat.le_refl _) _
      have hb8 : Below w8.heap.size w8 w10 := HB9.out.trans (hba.mono HB9.out.size)
      exact ⟨⟨q1.trans (hb8.mono q1.size), trivial, trivial⟩, q4.below hb8, q5.below hb8, trivial⟩)
    rw [hw10]
    clear hw10
    obtain ⟨x30, _⟩ := H10.out.2.1.get 0 _ rfl
    obtain ⟨x31, _⟩ := H10.out.2.1.get 1 _ rfl
    obtain ⟨x32, _⟩ := H10.out.2.1.get 2 _ rfl
    obtain ⟨x60, z60⟩ := H10.out.2.2.1.get 0 _ rfl
    obtain ⟨x61, z61⟩ := H10.out.2.2.1.get 1 _ rfl
    obtain ⟨x62, z62⟩ := H10.out.2.2.1.get 2 _ rfl
    obtain ⟨hX, hB⟩ := box_set3 H10.out.2.2.1 (.int .i64 kd) (.slice a' 0 cap') (.int .i64 0)
    have HX := hidq (And.intro (hX.get 0 _ rfl).1 (And.intro (hX.get 1 _ rfl).1 (And.intro (hX.get 2 _ rfl).1 hB)))
    clear hX hB
    go_wp2_with fail
    obtain ⟨t0, t1, t2, hB⟩ := HX.out
    refine bodyPost_ret (v := .tuple #[.agg #[.int .i64 kd, .slice a' 0 cap', .int .i64 0], .int .i64 0, .int .i64 12]) (by simp [results, Try.results40, go_sem, t0, t1, t2]) rfl ?_
    have hs := H10.out.1.1.size
    have hb6l := H10.out.2.2.1.lt
    exact ⟨a', cap', rfl, H10.out.1.1.trans (hB.below hs (fun k e => by omega))⟩
set_option maxRecDepth 20000 in
set_option maxHeartbeats 8000000 in
theorem lax_next (nn : Int) (hn5 : 5 ≤ nn ∧ nn ≤ 6) (w : World) (a : Option Addr) (cap : Nat) (h : SlAt 12 w a cap 1 (flatCl [⟨0, 7, 0, 0, 0, 0, 0, 3, ⟨true, 0, 0, nn⟩⟩])) (N i er : Int) (hr : (nn = 5 ∧ N = 6 ∧ i = -1 ∧ er = 0) ∨ (nn = 6 ∧ N = 5 ∧ i = 0 ∧ er = 12)) :
    Calls Try.prog 40 #[.agg #[.int .i64 4, .slice none 0 0, .int .i64 5], .int .i64 4, .slice a 1 cap] w (LaxEnd 4 N i er w) := by
  obtain ⟨c, hc⟩ : ∃ c : Cl, (⟨0, 7, 0, 0, 0, 0, 0, 3, ⟨true, 0, 0, nn⟩⟩ : Cl) = c := ⟨_, rfl⟩
  rw [hc] at h
  have hL : legal 4 4 = 0 := by decide
  have hE : hchk [c] 0 (fun _ => none) = 0 := by rw [← hc]; rfl
  have hk7 : c.kind = 7 := by rw [← hc]
  have hbeg : c.beg = 0 := by rw [← hc]
  have hfin : c.fin = 3 := by rw [← hc]
  have HCC := hidq hc
  clear hc
  have hsf := run_store_float (P := Try.prog)
  obtain ⟨b3, hb3⟩ : ∃ b3, w.heap.size = b3 := ⟨_, rfl⟩
  obtain ⟨W1, hW1⟩ : ∃ W1, (w.alloc (.cells #[.int .i64 4, .slice none 0 0, .int .i64 5] 81)).alloc (.cells #[.int .i64 0, .slice none 0 0, .int .i64 0] 81) = W1 := ⟨_, rfl⟩
  have H1 := hidq (show Below w.heap.size w W1 ∧ BoxAt W1 b3 [.int .i64 4, .slice none 0 0, .int .i64 5] ∧ BoxAt W1 (b3 + 1) [.int .i64 0, .slice none 0 0, .int .i64 0] ∧ W1.heap.size = b3 + 2 from by
    have q2 := BoxAt.new (w.alloc (.cells #[.int .i64 4, .slice none 0 0, .int .i64 5] 81)) [.int .i64 0, .slice none 0 0, .int .i64 0] 81
    rw [show (w.alloc (.cells #[.int .i64 4, .slice none 0 0, .int .i64 5] 81)).heap.size = w.heap.size + 1 from by simp] at q2
    rw [← hW1, ← hb3]
    exact ⟨((Below.refl _ _).alloc (Nat.le_refl _) _).alloc (by simp) _, (BoxAt.new w [.int .i64 4, .slice none 0 0, .int .i64 5] 81).below ((Below.refl _ _).alloc (Nat.le_refl _) _), q2, by simp⟩)
  have HS := hidq h
  have hLg := hidq (legal_any 4 4 W1)
  rw [hL] at hLg
  have HLg := hidq hLg
  have m30 := (H1.out.2.1.get 0 _ rfl).1
  clear h hLg
  go_enter Try.func40, Try.ntmps40
  go_upto_region 1 with fail
  try rw [hb3]
  try rw [hW1]
  clear hW1
  obtain ⟨b6, hb6⟩ : ∃ b6, b3 + 1 = b6 := ⟨_, rfl⟩
  try rw [hb6]
  go_wp2_with fail
  refine HLg.out.mono ?_
  rintro e w2 ⟨rfl, hb2⟩
  have H2 := hidq (show Below w.heap.size w w2 ∧ BoxAt w2 b3 [.int .i64 4, .slice none 0 0, .int .i64 5] ∧ BoxAt w2 b6 [.int .i64 0, .slice none 0 0, .int .i64 0] ∧ b3 + 2 ≤ w2.heap.size from by
    obtain ⟨q1, q2, q3, q4⟩ := H1.out
    rw [hb6] at q3
    exact ⟨q1.trans (hb2.mono q1.size), q2.below hb2, q3.below hb2, by have := hb2.size; omega⟩)
  clear m30 hb2 HLg H1
  have HCk := hidq (check14_any [c] a cap 1 w2 (HS.out.below H2.out.1) rfl (by decide))
  rw [hE] at HCk
  go_wp2_with fail
  refine HCk.out.mono ?_
  rintro e w3 ⟨rfl, hb23⟩
  have H3 := hidq (show Below w.heap.size w w3 ∧ BoxAt w3 b3 [.int .i64 4, .slice none 0 0, .int .i64 5] ∧ BoxAt w3 b6 [.int .i64 0, .slice none 0 0, .int .i64 0] ∧ b3 + 2 ≤ w3.heap.size from by
    obtain ⟨q1, q2, q3, q4⟩ := H2.out
    exact ⟨q1.trans (hb23.mono q1.size), q2.below hb23, q3.below hb23, by have := hb23.size; omega⟩)
  clear hb23 HCk H2
  have hCl := hidq (sclone_any none 0 0 [] w3 (SlAt.nil _ _) (by decide))
  have m31 := (H3.out.2.1.get 1 _ rfl).1
  go_wp2_with fail
  refine hCl.out.mono ?_
  rintro e w4 ⟨a', cap', rfl, hS4, hf4, hb4⟩
  obtain ⟨y31, f31⟩ := (H3.out.2.1.below hb4).get 1 _ rfl
  obtain ⟨w5, hw5⟩ : ∃ w5, w4.setCell ⟨b3, 1, none⟩ (.slice a' 0 cap') = w5 := ⟨_, rfl⟩
  have H5 := hidq (show (Below w.heap.size w w5 ∧ SlAt 2 w5 a' cap' 0 [] ∧ ∀ j, inB a' j → b3 + 2 ≤ j) ∧ BoxAt w5 b3 [.int .i64 4, .slice a' 0 cap', .int .i64 5] ∧ BoxAt w5 b6 [.int .i64 0, .slice none 0 0, .int .i64 0] ∧ b3 + 2 ≤ w5.heap.size from by
    obtain ⟨q1, q2, q3, q4⟩ := H3.out
    have hB : But (fun j => j = b3) w4 w5 := by rw [← hw5]; exact (But.refl (fun j => j = b3) w4).set1 b3 1 rfl _
    have z1 := q1.size
    have z2 := hb4.size
    have z3 := hB.size
    refine ⟨⟨(q1.trans (hb4.mono z1)).trans (hB.below (by omega) (fun k e => by omega)), hS4.but hB (fun j hj e => by have := hf4 j hj; omega), fun j hj => by have := hf4 j hj; omega⟩, ?_, (q3.below hb4).but hB (by omega), by omega⟩
    rw [← hw5]
    exact (q2.below hb4).set 1 _)
  clear hS4 hf4 hb4 hCl m31
  go_upto_region 8 with fail
  try rw [hw5]
  clear hw5 y31 f31 H3
  have m32 := (H5.out.2.1.get 2 _ rfl).1
  have hCo := hidq (countOf_next 5 c a cap w5 (HS.out.below H5.out.1.1) hk7)
  go_wp2_with fail
  refine hCo.out.mono ?_
  rintro e w6 ⟨kb, rfl, hCn, hb6w⟩
  rw [hbeg] at hCn
  have HCn := hidq hCn
  obtain ⟨lo, hlo⟩ : ∃ lo, w5.heap.size = lo := ⟨_, rfl⟩
  have hlo3 : b3 + 2 ≤ lo := by have := H5.out.2.2.2; omega
  rw [hlo] at HCn
  have H6 := hidq (show (Below w.heap.size w w6 ∧ SlAt 2 w6 a' cap' 0 [] ∧ ∀ j, inB a' j → b3 + 2 ≤ j) ∧ BoxAt w6 b3 [.int .i64 4, .slice a' 0 cap', .int .i64 5] ∧ BoxAt w6 b6 [.int .i64 0, .slice none 0 0, .int .i64 0] ∧ b3 + 2 ≤ w6.heap.size from by
    obtain ⟨⟨q1, q2, q3⟩, q4, q5, q6⟩ := H5.out
    exact ⟨⟨q1.trans (hb6w.mono q1.size), q2.below hb6w, q3⟩, q4.below hb6w, q5.below hb6w, by have := hb6w.size; omega⟩)
  clear hb6w hCo m32 H5 hCn hlo
  have hDn := hidq (done14_any [c] a cap 1 w6 (HS.out.below H6.out.1.1) rfl (by decide))
  go_wp2_with fail
  refine hDn.out.mono ?_
  rintro e w7 ⟨S, a2, cap2, rfl, hNs, hDO, hb7⟩
  obtain ⟨hS1, hS0⟩ := done1 hDO
  have H7 := hidq (show (Below w.heap.size w w7 ∧ SlAt 2 w7 a' cap' 0 [] ∧ ∀ j, inB a' j → b3 + 2 ≤ j) ∧ BoxAt w7 b3 [.int .i64 4, .slice a' 0 cap', .int .i64 5] ∧ BoxAt w7 b6 [.int .i64 0, .slice none 0 0, .int .i64 0] ∧ b3 + 2 ≤ w7.heap.size from by
    obtain ⟨⟨q1, q2, q3⟩, q4, q5, q6⟩ := H6.out
    exact ⟨⟨q1.trans (hb7.mono q1.size), q2.below hb7, q3⟩, q4.below hb7, q5.below hb7, by have := hb7.size; omega⟩)
  have HC7 := hidq (HCn.out.below hb7)
  clear hb7 hDn H6 hDO HCn
  have hS := hS1 (by omega)
  subst hS
  obtain ⟨g2, o2, rfl, hgl2, _, hc2⟩ := hNs 0 0 rfl
  clear hS1 hS0 hNs hL hE hk7 hbeg hfin
  rw [Nat.add_zero] at hc2
  rcases HS.out with ⟨_, e0, _⟩ | ⟨g, rfl, hF⟩
  · cases e0
  have hc := HCC.out
  subst hc
  have hF7 := hF.but (S := fun _ => False) (But.of_below H7.out.1.1) id
  have m0 := hF7.cell 0 _ rfl
  have m1 := hF7.cell 1 _ rfl
  have m2 := hF7.cell 2 _ rfl
  have m3 := hF7.cell 3 _ rfl
  have m4 := hF7.cell 4 _ rfl
  have m5 := hF7.cell 5 _ rfl
  have m6 := hF7.cell 6 _ rfl
  have m7 := hF7.cell 7 _ rfl
  have m8 := hF7.cell 8 _ rfl
  have m9 := hF7.cell 9 _ rfl
  have m10 := hF7.cell 10 _ rfl
  have m11 := hF7.cell 11 _ rfl
  obtain ⟨cb, hcb⟩ : ∃ cb, w7.heap.size = cb := ⟨_, rfl⟩
  have HCB := hidq hcb
  obtain ⟨w8, hw8⟩ : ∃ w8, w7.alloc (.cells #[.int .i64 0, .int .i64 7, .float .f64 0, .int .i64 0, .int .i64 0, .int .i64 0, .int .i64 0, .int .i64 3, .bool true, .float .f64 0, .int .i64 0, .int .i64 nn] 101) = w8 := ⟨_, rfl⟩
  have H8 := hidq (show (Below w.heap.size w w8 ∧ SlAt 2 w8 a' cap' 0 [] ∧ ∀ j, inB a' j → b3 + 2 ≤ j) ∧ BoxAt w8 b3 [.int .i64 4, .slice a' 0 cap', .int .i64 5] ∧ BoxAt w8 b6 [.int .i64 0, .slice none 0 0, .int .i64 0] ∧ BoxAt w8 cb [.int .i64 0, .int .i64 7, .float .f64 0, .int .i64 0, .int .i64 0, .int .i64 0, .int .i64 0, .int .i64 3, .bool true, .float .f64 0, .int .i64 0, .int .i64 nn] ∧ CntAt w8 lo kb 5 0 ∧ b3 + 2 ≤ w8.heap.size from by
    obtain ⟨⟨q1, q2, q3⟩, q4, q5, q6⟩ := H7.out
    have hba : Below w7.heap.size w7 w8 := by rw [← hw8]; exact (Below.refl _ _).alloc (Nat.le_refl _) _
    exact ⟨⟨q1.trans (hba.mono q1.size), q2.below hba, q3⟩, q4.below hba, q5.below hba, by rw [← hw8, ← hcb]; exact BoxAt.new w7 _ _, HC7.out.below hba, by have := hba.size; omega⟩)
  have x30 := (H8.out.2.1.get 0 _ rfl).1
  have x31 := (H8.out.2.1.get 1 _ rfl).1
  have x32 := (H8.out.2.1.get 2 _ rfl).1
  have y1 := (H8.out.2.2.2.1.get 1 _ rfl).1
  have y2 := (H8.out.2.2.2.1.get 2 _ rfl).1
  have y3 := (H8.out.2.2.2.1.get 3 _ rfl).1
  have y4 := (H8.out.2.2.2.1.get 4 _ rfl).1
  have y5 := (H8.out.2.2.2.1.get 5 _ rfl).1
  have y8 := (H8.out.2.2.2.1.get 8 _ rfl).1
  have y9 := (H8.out.2.2.2.1.get 9 _ rfl).1
  have y10 := (H8.out.2.2.2.1.get 10 _ rfl).1
  have y11 := (H8.out.2.2.2.1.get 11 _ rfl).1
  have hAf := hidq (after_next 5 0 0 0 0 nn 4 0 0 a' cap' 0 [] w8 H8.out.1.2.1 (by decide) (by omega))
  clear hF hF7
  go_wp2_with fail
  refine wp_loop_rounds 2 ?_
  rw [rounds_succ]
  go_wp2_with fail
  try rw [hw8]
  try rw [hcb]
  refine hAf.out.mono ?_
  rintro e w9 ⟨a9, cap9, rfl, hS9, hf9, hb9⟩
  have HB9 := hidq hb9
  clear hw8 m0 m1 m2 m3 m4 m5 m6 m7 m8 m9 m10 m11 y1 y2 y3 y4 y5 y8 y9 y10 y11 hAf x30 x31 x32 hS9 hf9 hb9 hcb hc2
  go_upto_region 14 with fail
  obtain ⟨b15, hb15⟩ : ∃ b15, w9.heap.size = b15 := ⟨_, rfl⟩
  obtain ⟨w10, hw10⟩ : ∃ w10, w9.alloc (.cells #[.int .i64 4, .slice a9 0 cap9, .int .i64 6] 81) = w10 := ⟨_, rfl⟩
  have H10 := hidq (show (Below w.heap.size w w10 ∧ b3 + 2 ≤ w10.heap.size ∧ lo ≤ w10.heap.size) ∧ BoxAt w10 b3 [.int .i64 4, .slice a' 0 cap', .int .i64 5] ∧ BoxAt w10 b6 [.int .i64 0, .slice none 0 0, .int .i64 0] ∧ BoxAt w10 b15 [.int .i64 4, .slice a9 0 cap9, .int .i64 6] ∧ BoxAt w10 cb [.int .i64 0, .int .i64 7, .float .f64 0, .int .i64 0, .int .i64 0, .int .i64 0, .int .i64 0, .int .i64 3, .bool true, .float .f64 0, .int .i64 0, .int .i64 nn] ∧ CntAt w10 lo kb 5 0 ∧ b3 + 2 ≤ b15 from by
    obtain ⟨⟨q1, q2, q3⟩, q4, q5, q6, q7, q8⟩ := H8.out
    have hba : Below w9.heap.size w9 w10 := by rw [← hw10]; exact (Below.refl _ _).alloc (Nat.le_refl _) _
    have hb8 : Below w8.heap.size w8 w10 := HB9.out.trans (hba.mono HB9.out.size)
    have z1 := HB9.out.size
    have z2 := hba.size
    have q7' := q7.below hb8
    have hl : lo ≤ w10.heap.size := by obtain ⟨_, _, _, _, hk, _, _, _, h1, _⟩ := q7'; have := hk.lt; omega
    exact ⟨⟨q1.trans (hb8.mono q1.size), by omega, hl⟩, q4.below hb8, q5.below hb8, by rw [← hw10, ← hb15]; exact BoxAt.new w9 _ _, q6.below hb8, q7', by omega⟩)
  rw [hw10, hb15]
  clear hw10 hb15 HB9 H8
  have y0 := (H10.out.2.2.2.2.1.get 0 _ rfl).1
  have y1 := (H10.out.2.2.2.2.1.get 1 _ rfl).1
  have y2 := (H10.out.2.2.2.2.1.get 2 _ rfl).1
  have y3 := (H10.out.2.2.2.2.1.get 3 _ rfl).1
  have y4 := (H10.out.2.2.2.2.1.get 4 _ rfl).1
  have y5 := (H10.out.2.2.2.2.1.get 5 _ rfl).1
  have y6 := (H10.out.2.2.2.2.1.get 6 _ rfl).1
  have y7 := (H10.out.2.2.2.2.1.get 7 _ rfl).1
  have y8 := (H10.out.2.2.2.2.1.get 8 _ rfl).1
  have y9 := (H10.out.2.2.2.2.1.get 9 _ rfl).1
  have y10 := (H10.out.2.2.2.2.1.get 10 _ rfl).1
  have y11 := (H10.out.2.2.2.2.1.get 11 _ rfl).1
  have hAl := hidq (allows_next lo kb 5 0 nn 0 0 0 0 0 3 0 0 0 w10 H10.out.2.2.2.2.2.1 (by decide) hn5.1 (by decide) (by rcases (show nn = 5 ∨ nn = 6 by omega) with e | e <;> (rw [e]; decide)))
  go_wp2_with fail
  refine hAl.out.mono ?_
  rintro e w11 ⟨rfl, hb11⟩
  have H11 := hidq (show (Below w.heap.size w w11 ∧ b3 + 2 ≤ w11.heap.size ∧ lo ≤ w11.heap.size) ∧ BoxAt w11 b3 [.int .i64 4, .slice a' 0 cap', .int .i64 5] ∧ BoxAt w11 b6 [.int .i64 0, .slice none 0 0, .int .i64 0] ∧ BoxAt w11 b15 [.int .i64 4, .slice a9 0 cap9, .int .i64 6] ∧ BoxAt w11 cb [.int .i64 0, .int .i64 7, .float .f64 0, .int .i64 0, .int .i64 0, .int .i64 0, .int .i64 0, .int .i64 3, .bool true, .float .f64 0, .int .i64 0, .int .i64 nn] ∧ CntAt w11 lo kb 5 0 from by
    obtain ⟨⟨q1, q2, q3⟩, q4, q5, q6, q7, q8, q9⟩ := H10.out
    have z := hb11.size
    exact ⟨⟨q1.trans (hb11.mono q1.size), by omega, by omega⟩, q4.below hb11, q5.below hb11, q6.below hb11, q7.below hb11, q8.below hb11⟩)
  have hb15 := H10.out.2.2.2.2.2.2
  have hcbl : b3 + 2 ≤ cb := by have := H7.out.2.2.2; have e := HCB.out; omega
  clear hb11 hAl y0 y1 y2 y3 y4 y5 y6 y7 y8 y9 y10 y11 H10
  rcases hr with ⟨rfl, rfl, rfl, rfl⟩ | ⟨rfl, rfl, rfl, rfl⟩
  · rw [show decide ((5 : Int) < 5 + 1) = true from by decide]
    obtain ⟨hX12, hB12⟩ := box_set3 H11.out.2.1 (.int .i64 4) (.slice a9 0 cap9) (.int .i64 6)
    obtain ⟨w12, hw12⟩ : ∃ w12, ((w11.setCell ⟨b3, 0, none⟩ (.int .i64 4)).setCell ⟨b3, 1, none⟩ (.slice a9 0 cap9)).setCell ⟨b3, 2, none⟩ (.int .i64 6) = w12 := ⟨_, rfl⟩
    rw [hw12] at hX12 hB12
    have H12 := hidq (show (Below w.heap.size w w12 ∧ lo ≤ w12.heap.size) ∧ BoxAt w12 b3 [.int .i64 4, .slice a9 0 cap9, .int .i64 6] ∧ BoxAt w12 b6 [.int .i64 0, .slice none 0 0, .int .i64 0] ∧ BoxAt w12 cb [.int .i64 0, .int .i64 7, .float .f64 0, .int .i64 0, .int .i64 0, .int .i64 0, .int .i64 0, .int .i64 3, .bool true, .float .f64 0, .int .i64 0, .int .i64 5] ∧ CntAt w12 lo kb 5 0 from by
      obtain ⟨⟨q1, q2, q3⟩, q4, q5, q6, q7, q8⟩ := H11.out
      have z := hB12.size
      exact ⟨⟨q1.trans (hB12.below q1.size (fun k e => by omega)), by omega⟩, hX12, q5.but hB12 (by omega), q7.but hB12 (by omega), q8.butlo hB12 (fun k e => by omega)⟩)
    obtain ⟨x30, z30⟩ := H11.out.2.1.get 0 _ rfl
    obtain ⟨x31, z31⟩ := H11.out.2.1.get 1 _ rfl
    obtain ⟨x32, z32⟩ := H11.out.2.1.get 2 _ rfl
    have x15 := (H11.out.2.2.2.1.get 0 _ rfl).1
    have x16 := (H11.out.2.2.2.1.get 1 _ rfl).1
    have x17 := (H11.out.2.2.2.1.get 2 _ rfl).1
    have HW12 := hidq hw12
    clear hX12 hB12 hw12
    go_upto_region 17 with fail
    rw [HW12.out]
    clear HW12 x30 x31 x32 z30 z31 z32 x15 x16 x17 H11
    have y0 := (H12.out.2.2.2.1.get 0 _ rfl).1
    have y1 := (H12.out.2.2.2.1.get 1 _ rfl).1
    have y2 := (H12.out.2.2.2.1.get 2 _ rfl).1
    have y3 := (H12.out.2.2.2.1.get 3 _ rfl).1
    have y4 := (H12.out.2.2.2.1.get 4 _ rfl).1
    have y5 := (H12.out.2.2.2.1.get 5 _ rfl).1
    have y6 := (H12.out.2.2.2.1.get 6 _ rfl).1
    have y7 := (H12.out.2.2.2.1.get 7 _ rfl).1
    have y8 := (H12.out.2.2.2.1.get 8 _ rfl).1
    have y9 := (H12.out.2.2.2.1.get 9 _ rfl).1
    have y10 := (H12.out.2.2.2.1.get 10 _ rfl).1
    have y11 := (H12.out.2.2.2.1.get 11 _ rfl).1
    have hTk := hidq (take_next lo kb 5 0 5 0 0 0 0 0 3 0 0 0 w12 H12.out.2.2.2.2 (by decide))
    go_wp2_with fail
    refine hTk.out.mono ?_
    rintro e w13 ⟨rfl, hb13⟩
    have hB13 := but_lo (hb13 H12.out.1.2)
    have H13 := hidq (show (Below w.heap.size w w13 ∧ True) ∧ BoxAt w13 b3 [.int .i64 4, .slice a9 0 cap9, .int .i64 6] ∧ BoxAt w13 b6 [.int .i64 0, .slice none 0 0, .int .i64 0] ∧ True from by
      obtain ⟨⟨q1, q2⟩, q3, q4, q5, q6⟩ := H12.out
      exact ⟨⟨q1.trans (hB13.below q1.size (fun k e => by omega)), trivial⟩, q3.but hB13 (by omega), q4.but hB13 (by omega), trivial⟩)
    clear hb13 hB13 H12 hTk y0 y1 y2 y3 y4 y5 y6 y7 y8 y9 y10 y11
    go_wp2_with fail
    rw [rounds_succ]
    obtain ⟨x30, _⟩ := H13.out.2.1.get 0 _ rfl
    obtain ⟨x31, _⟩ := H13.out.2.1.get 1 _ rfl
    obtain ⟨x32, _⟩ := H13.out.2.1.get 2 _ rfl
    obtain ⟨x60, z60⟩ := H13.out.2.2.1.get 0 _ rfl
    obtain ⟨x61, z61⟩ := H13.out.2.2.1.get 1 _ rfl
    obtain ⟨x62, z62⟩ := H13.out.2.2.1.get 2 _ rfl
    obtain ⟨hX, hB⟩ := box_set3 H13.out.2.2.1 (.int .i64 4) (.slice a9 0 cap9) (.int .i64 6)
    have HX := hidq (And.intro (hX.get 0 _ rfl).1 (And.intro (hX.get 1 _ rfl).1 (And.intro (hX.get 2 _ rfl).1 hB)))
    clear hX hB
    go_wp2_with fail
    obtain ⟨t0, t1, t2, hB⟩ := HX.out
    refine bodyPost_ret (v := .tuple #[.agg #[.int .i64 4, .slice a9 0 cap9, .int .i64 6], .int .i64 (-1), .int .i64 0]) (by simp [results, Try.results40, go_sem, t0, t1, t2]) rfl ?_
    have hs := H13.out.1.1.size
    have hb6l := H13.out.2.2.1.lt
    exact ⟨a9, cap9, rfl, H13.out.1.1.trans (hB.below hs (fun k e => by omega))⟩
  · rw [show decide ((6 : Int) < 5 + 1) = false from by decide]
    obtain ⟨x30, _⟩ := H11.out.2.1.get 0 _ rfl
    obtain ⟨x31, _⟩ := H11.out.2.1.get 1 _ rfl
    obtain ⟨x32, _⟩ := H11.out.2.1.get 2 _ rfl
    obtain ⟨x60, z60⟩ := H11.out.2.2.1.get 0 _ rfl
    obtain ⟨x61, z61⟩ := H11.out.2.2.1.get 1 _ rfl
    obtain ⟨x62, z62⟩ := H11.out.2.2.1.get 2 _ rfl
    obtain ⟨hX, hB⟩ := box_set3 H11.out.2.2.1 (.int .i64 4) (.slice a' 0 cap') (.int .i64 5)
    have HX := hidq (And.intro (hX.get 0 _ rfl).1 (And.intro (hX.get 1 _ rfl).1 (And.intro (hX.get 2 _ rfl).1 hB)))
    clear hX hB
    go_wp2_with fail
    obtain ⟨t0, t1, t2, hB⟩ := HX.out
    refine bodyPost_ret (v := .tuple #[.agg #[.int .i64 4, .slice a' 0 cap', .int .i64 5], .int .i64 0, .int .i64 12]) (by simp [results, Try.results40, go_sem, t0, t1, t2]) rfl ?_
    have hs := H11.out.1.1.size
    have hb6l := H11.out.2.2.1.lt
    exact ⟨a', cap', rfl, H11.out.1.1.trans (hB.below hs (fun k e => by omega))⟩
end Go.Proofs.Ytepigofpcjmddaa

namespace Go.Proofs.Ytepigofpcjmddaa
open Go.RowKit Go.Sort

/-- What is known of those ahead of place i; b: the last one's begin; D: each thread's last one. -/
structure CkI (L : List Cl) (i : Nat) (b : Int) (D : Nat → Option Cl) : Prop where
  ok : ∀ (j : Nat) (c : Cl), j < i → L[j]? = some c → 0 ≤ c.beg ∧ c.beg ≤ b ∧ 0 ≤ c.thread ∧ c.thread < 6
  b0 : 0 ≤ b
  bl : ∀ c, 0 < i → L[i - 1]? = some c → c.beg = b
  bz : i = 0 → b = 0
  last : ∀ t, t < 6 → (D t = none ∧ ∀ (j : Nat) (c : Cl), j < i → L[j]? = some c → ¬ c.thread = (t : Int)) ∨
    ∃ (j : Nat) (d : Cl), j < i ∧ L[j]? = some d ∧ D t = some d ∧ d.thread = (t : Int) ∧ ∀ (j' : Nat) (c : Cl), j' < i → L[j']? = some c → c.thread = (t : Int) → j' = j ∨ (0 ≤ c.fin ∧ c.fin < d.beg)
theorem CkI.start (L : List Cl) : CkI L 0 0 (fun _ => none) :=
  ⟨fun _ _ h => absurd h (Nat.not_lt_zero _), Int.le_refl _, fun _ h => absurd h (Nat.lt_irrefl _), fun _ => rfl, fun _ _ => .inl ⟨rfl, fun _ _ h => absurd h (Nat.not_lt_zero _)⟩⟩
/-- What a call ahead refuses. -/
def rbad (c d : Cl) : Prop := (d.thread = c.thread ∧ ¬ (0 ≤ d.fin ∧ d.fin < c.beg)) ∨ (¬ c.fin = -1 ∧ d.fin = c.fin)
theorem folOk_false {c d : Cl} {t : Nat} : folOk c t (some d) = false ↔ (((t : Int) = c.thread ∧ ¬ (0 ≤ d.fin ∧ d.fin < c.beg)) ∨ (0 ≤ c.fin ∧ c.fin = d.fin)) := by
  unfold folOk Cl.ahead Cl.done
  simp only [Bool.not_eq_false', Bool.or_eq_true, Bool.and_eq_true, decide_eq_true_eq, Bool.not_eq_true', decide_eq_false_iff_not, beq_iff_eq]
section
variable {L : List Cl} {i : Nat} {b : Int} {D : Nat → Option Cl}
theorem CkI.folq (h : CkI L i b D) {c : Cl} (hb : b ≤ c.beg) (hf : -1 ≤ c.fin) (hg : 0 ≤ c.fin → c.beg ≤ c.fin) :
    fol c D = false ↔ ∃ (j : Nat) (d : Cl), j < i ∧ L[j]? = some d ∧ rbad c d := by
  constructor
  · intro hfal
    have : ∃ t, t < 6 ∧ folOk c t (D t) = false := by
      by_cases e : ∃ t, t < 6 ∧ folOk c t (D t) = false
      · exact e
      · exfalso
        have : fol c D = true := (fol_iff c D).2 (fun t ht => by
          cases hq : folOk c t (D t)
          · exact absurd ⟨t, ht, hq⟩ e
          · rfl)
        rw [hfal] at this; cases this
    obtain ⟨t, ht6, hq⟩ := this
    rcases h.last t ht6 with ⟨e, _⟩ | ⟨j, d, hj, hd, hD, hdt, _⟩
    · rw [e] at hq; cases hq
    · rw [hD, folOk_false] at hq
      refine ⟨j, d, hj, hd, ?_⟩
      rcases hq with ⟨e1, e2⟩ | ⟨e1, e2⟩
      · exact .inl ⟨by omega, e2⟩
      · exact .inr ⟨by omega, by omega⟩
  · rintro ⟨j, d, hj, hd, hr⟩
    obtain ⟨o1, o2, o3, o4⟩ := h.ok j d hj hd
    obtain ⟨t, htd⟩ : ∃ t : Nat, d.thread = (t : Int) := ⟨d.thread.toNat, by omega⟩
    have ht6 : t < 6 := by omega
    refine fol_no ht6 ?_
    rcases h.last t ht6 with ⟨_, e⟩ | ⟨j2, d2, hj2, hd2, hD, hdt, hall⟩
    · exact absurd htd (e j d hj hd)
    · obtain ⟨p1, p2, _, _⟩ := h.ok j2 d2 hj2 hd2
      rw [hD, folOk_false]
      rcases hall j d hj hd htd with e | ⟨e1, e2⟩
      · subst e
        rw [hd2] at hd
        cases hd
        rcases hr with ⟨r1, r2⟩ | ⟨r1, r2⟩
        · exact .inl ⟨by omega, r2⟩
        · exact .inr ⟨by omega, by omega⟩
      · exfalso
        rcases hr with ⟨r1, r2⟩ | ⟨r1, r2⟩
        · exact r2 ⟨e1, by omega⟩
        · have := hg (by omega)
          omega
theorem CkI.next (h : CkI L i b D) {c : Cl} (hc : L[i]? = some c) (hs : hstep b D c = 0) : CkI L (i + 1) c.beg (dset D c) := by
  have ht : 0 ≤ c.thread ∧ c.thread < 6 := by
    by_cases e : 0 ≤ c.thread ∧ c.thread < 6
    · exact e
    · rw [hstep4 e] at hs; cases hs
  have hn : ¬ (c.beg < b ∨ c.fin < -1 ∨ (0 ≤ c.fin ∧ c.fin < c.beg) ∨ fol c D = false) := fun e => by
    rw [hstep14 ht e] at hs; cases hs
  have h1 : ¬ c.beg < b := fun e => hn (.inl e)
  have h4 : ¬ fol c D = false := fun e => hn (.inr (.inr (.inr e)))
  have hft : fol c D = true := by
    cases e : fol c D
    · exact absurd e h4
    · rfl
  have hcase : ∀ {j : Nat} {d : Cl}, j < i + 1 → L[j]? = some d → (j < i ∧ L[j]? = some d) ∨ (j = i ∧ d = c) := fun {j d} hj hd => by
    by_cases e : j < i
    · exact .inl ⟨e, hd⟩
    · have : j = i := by omega
      subst this
      rw [hc] at hd; cases hd
      exact .inr ⟨rfl, rfl⟩
  have hb0 := h.b0
  refine ⟨fun j d hj hd => ?_, by omega, fun d _ hd => ?_, fun e => absurd e (by omega), fun t ht6 => ?_⟩
  · rcases hcase hj hd with ⟨e1, e2⟩ | ⟨_, rfl⟩
    · obtain ⟨o1, o2, o3, o4⟩ := h.ok j d e1 e2
      exact ⟨o1, by omega, o3, o4⟩
    · exact ⟨by omega, Int.le_refl _, ht.1, ht.2⟩
  · rw [show i + 1 - 1 = i by omega, hc] at hd
    cases hd; rfl
  · by_cases e : (t : Int) = c.thread
    · refine .inr ⟨i, c, Nat.lt_succ_self i, hc, by unfold dset; rw [if_pos e], e.symm, fun j' d hj' hd hdt => ?_⟩
      rcases hcase hj' hd with ⟨e1, e2⟩ | ⟨e1, _⟩
      · refine .inr ?_
        rcases h.last t ht6 with ⟨_, q⟩ | ⟨j2, d2, hj2, hd2, hD, hdt2, hall⟩
        · exact absurd hdt (q j' d e1 e2)
        · have hok := (fol_iff c D).1 hft t ht6
          rw [hD] at hok
          have hnok : ¬ folOk c t (some d2) = false := fun q => by rw [q] at hok; cases hok
          rw [folOk_false] at hnok
          have hah : 0 ≤ d2.fin ∧ d2.fin < c.beg := by
            by_cases q : 0 ≤ d2.fin ∧ d2.fin < c.beg
            · exact q
            · exact absurd (.inl ⟨e, q⟩) hnok
          rcases hall j' d e1 e2 hdt with q | ⟨q1, q2⟩
          · subst q
            rw [hd2] at e2; cases e2
            exact hah
          · have := (h.ok j2 d2 hj2 hd2).2.1
            exact ⟨q1, by omega⟩
      · exact .inl e1
    · rcases h.last t ht6 with ⟨q1, q2⟩ | ⟨j2, d2, hj2, hd2, hD, hdt2, hall⟩
      · refine .inl ⟨by unfold dset; rw [if_neg e]; exact q1, fun j d hj hd => ?_⟩
        rcases hcase hj hd with ⟨e1, e2⟩ | ⟨_, rfl⟩
        · exact q2 j d e1 e2
        · exact fun q => e q.symm
      · refine .inr ⟨j2, d2, by omega, hd2, by unfold dset; rw [if_neg e]; exact hD, hdt2, fun j' d hj' hd hdt => ?_⟩
        rcases hcase hj' hd with ⟨e1, e2⟩ | ⟨_, rfl⟩
        · exact hall j' d e1 e2 hdt
        · exact absurd hdt.symm e
end
end Go.Proofs.Ytepigofpcjmddaa

namespace Go.Proofs.Ytepigofpcjmddaa
open Go.RowKit Go.Sort

abbrev rrow (c : Cl) : List Value := [.int .i64 c.thread, .int .i64 c.beg, .int .i64 c.fin]
abbrev rrv (c : Cl) : Value := .agg #[.int .i64 c.thread, .int .i64 c.beg, .int .i64 c.fin]
def flat14 (L : List Cl) : List Value := L.flatMap rrow
theorem flat14_snoc (L : List Cl) (c : Cl) : flat14 (L ++ [c]) = flat14 L ++ rrow c := by simp [flat14]
theorem flat14_get : ∀ (L : List Cl) (i k : Nat) (c : Cl), L[i]? = some c → k < 3 → (flat14 L)[i * 3 + k]? = (rrow c)[k]?
  | [], i, k, c, h, _ => by simp at h
  | d :: L, 0, k, c, h, hk => by
    simp only [List.getElem?_cons_zero, Option.some.injEq] at h
    subst h
    show (rrow d ++ flat14 L)[0 * 3 + k]? = _
    rw [List.getElem?_append_left (by show 0 * 3 + k < 3; omega), Nat.zero_mul, Nat.zero_add]
  | d :: L, i + 1, k, c, h, hk => by
    rw [List.getElem?_cons_succ] at h
    show (rrow d ++ flat14 L)[(i + 1) * 3 + k]? = _
    rw [List.getElem?_append_right (by show 3 ≤ (i + 1) * 3 + k; omega)]
    show (flat14 L)[(i + 1) * 3 + k - 3]? = _
    rw [show (i + 1) * 3 + k - 3 = i * 3 + k by omega]
    exact flat14_get L i k c h hk
theorem plainR14 : PlainK Try.prog 3 108 107 := by
  have h : (Try.prog.info? 107).map (fun i => (i.zero, i.size, i.bytes)) = some (some (.agg #[.int .i64 0, .int .i64 0, .int .i64 0]), 3, 24) := by kernel_rfl
  obtain ⟨i, hi, he⟩ := Option.map_eq_some_iff.1 h
  simp only [Prod.mk.injEq] at he
  exact ⟨i, _, Try.underlying108, hi, he.1, he.2.1, rfl, by rw [he.2.2]; decide⟩

set_option maxRecDepth 20000 in
set_option maxHeartbeats 2000000 in
theorem rahead_ints (t1 g1 f1 t2 g2 f2 : Int) (w : World) : Calls Try.prog 83 #[.agg #[.int .i64 t1, .int .i64 g1, .int .i64 f1], .agg #[.int .i64 t2, .int .i64 g2, .int .i64 f2]] w fun e w' => e = .returned (.bool (decide (0 ≤ f1 ∧ f1 < g2))) ∧ Below w.heap.size w w' := by
  obtain ⟨W, hW, hb, hs, h1, h2⟩ := two_new w [.int .i64 t1, .int .i64 g1, .int .i64 f1] [.int .i64 t2, .int .i64 g2, .int .i64 f2] 107 107 0
  obtain ⟨b, hbb⟩ : ∃ b, w.heap.size = b := ⟨_, rfl⟩
  have hW' : (w.alloc (.cells #[.int .i64 t1, .int .i64 g1, .int .i64 f1] 107)).alloc (.cells #[.int .i64 t2, .int .i64 g2, .int .i64 f2] 107) = W := hW
  rw [hbb] at h1 h2
  have hs0 : (w.alloc (.cells #[.int .i64 t1, .int .i64 g1, .int .i64 f1] 107)).heap.size = b + 1 := by simp [hbb]
  obtain ⟨a2, _⟩ := h1.get 2 _ rfl
  obtain ⟨b1, _⟩ := h2.get 1 _ rfl
  have hl1 := h1.lt
  have hl2 := h2.lt
  have HB := hidq hb
  obtain ⟨q, hq⟩ : ∃ q, decide (0 ≤ f1 ∧ f1 < g2) = q := ⟨_, rfl⟩
  have HQ := hidq hq
  rw [hq]
  clear hW h1 h2 hb hs hq
  by_cases e1 : f1 = -1
  · have HE := hidq (show q = false from by rw [← HQ.out]; exact decide_eq_false (by omega))
    subst e1
    clear HQ
    go_enter Try.func83, Try.ntmps83
    go_wp2_with fail
    go_ret
    exact ⟨by rw [HE.out]; rfl, by first | exact HB.out | (rw [← hbb]; exact HB.out)⟩
  · have n1 : (f1 == -1) = false := by simpa using e1
    have n2 : (f1 != -1) = true := by simpa using e1
    by_cases e2 : 0 ≤ f1
    · by_cases e3 : f1 < g2
      · have HE := hidq (show q = true from by rw [← HQ.out]; exact decide_eq_true ⟨e2, e3⟩)
        have d2 : decide (0 ≤ f1) = true := decide_eq_true e2
        have d3 : decide (f1 < g2) = true := decide_eq_true e3
        clear HQ
        go_enter Try.func83, Try.ntmps83
        go_wp2_with fail
        go_ret
        exact ⟨by rw [HE.out]; rfl, by first | exact HB.out | (rw [← hbb]; exact HB.out)⟩
      · have HE := hidq (show q = false from by rw [← HQ.out]; exact decide_eq_false (fun e => e3 e.2))
        have d2 : decide (0 ≤ f1) = true := decide_eq_true e2
        have d3 : decide (f1 < g2) = false := decide_eq_false e3
        clear HQ
        go_enter Try.func83, Try.ntmps83
        go_wp2_with fail
        go_ret
        exact ⟨by rw [HE.out]; rfl, by first | exact HB.out | (rw [← hbb]; exact HB.out)⟩
    · have HE := hidq (show q = false from by rw [← HQ.out]; exact decide_eq_false (fun e => e2 e.1))
      have d2 : decide (0 ≤ f1) = false := decide_eq_false e2
      clear HQ
      go_enter Try.func83, Try.ntmps83
      go_wp2_with fail
      go_ret
      exact ⟨by rw [HE.out]; rfl, by first | exact HB.out | (rw [← hbb]; exact HB.out)⟩
theorem rahead14_any (c d : Cl) (w : World) : Calls Try.prog 83 #[rrv c, rrv d] w fun e w' => e = .returned (.bool (c.ahead d)) ∧ Below w.heap.size w w' := rahead_ints c.thread c.beg c.fin d.thread d.beg d.fin w
end Go.Proofs.Ytepigofpcjmddaa

namespace Go.Proofs.Ytepigofpcjmddaa
open Go.RowKit Go.Sort

def rc13tR (g : Nat) (xb : Nat) (n : Nat) (cap : Nat) (j : Nat) (ct : Int) (cb : Int) (cf : Int) (dt : Int) (db : Int) (df : Int) (q : Bool) : List (Value → World → Prop) :=
  [fun v _ => v = .slice (some ⟨g, 0, none⟩) n cap,
   fun v _ => v = .int .i64 (j : Int),
   fun v _ => v = .pointer (some ⟨g, j * 3, none⟩),
   fun v _ => v = .pointer (some ⟨g, j * 3, none⟩),
   fun v _ => v = .int .i64 dt,
   fun v _ => v = .pointer (some ⟨xb, 0, none⟩),
   fun v _ => v = .int .i64 ct,
   fun v _ => v = .bool true,
   fun v _ => v = .bool true,
   fun v _ => v = .slice (some ⟨g, 0, none⟩) n cap,
   fun v _ => v = .int .i64 (j : Int),
   fun v _ => v = .pointer (some ⟨g, j * 3, none⟩),
   fun v _ => v = .agg #[.int .i64 dt, .int .i64 db, .int .i64 df],
   fun v _ => v = .agg #[.int .i64 ct, .int .i64 cb, .int .i64 cf],
   fun v _ => v = .bool q,
   fun v _ => v = .bool (!q),
   fun v _ => v = .bool (!q)]
theorem rc13tR_kept (g : Nat) (xb : Nat) (n : Nat) (cap : Nat) (j : Nat) (ct : Int) (cb : Int) (cf : Int) (dt : Int) (db : Int) (df : Int) (q : Bool) : Reg.AllKept Reg.Keeps (rc13tR g xb n cap j ct cb cf dt db df q) :=
  ⟨(fun _ _ _ _ h => h), (fun _ _ _ _ h => h), (fun _ _ _ _ h => h), (fun _ _ _ _ h => h), (fun _ _ _ _ h => h), (fun _ _ _ _ h => h), (fun _ _ _ _ h => h), (fun _ _ _ _ h => h), (fun _ _ _ _ h => h), (fun _ _ _ _ h => h), (fun _ _ _ _ h => h), (fun _ _ _ _ h => h), (fun _ _ _ _ h => h), (fun _ _ _ _ h => h), (fun _ _ _ _ h => h), (fun _ _ _ _ h => h), (fun _ _ _ _ h => h), trivial⟩
def rc13fR (g : Nat) (xb : Nat) (n : Nat) (cap : Nat) (j : Nat) (ct : Int) (dt : Int) : List (Value → World → Prop) :=
  [fun v _ => v = .slice (some ⟨g, 0, none⟩) n cap,
   fun v _ => v = .int .i64 (j : Int),
   fun v _ => v = .pointer (some ⟨g, j * 3, none⟩),
   fun v _ => v = .pointer (some ⟨g, j * 3, none⟩),
   fun v _ => v = .int .i64 dt,
   fun v _ => v = .pointer (some ⟨xb, 0, none⟩),
   fun v _ => v = .int .i64 ct,
   fun v _ => v = .bool false,
   fun v _ => v = .bool false,
   fun v _ => v = undef,
   fun v _ => v = undef,
   fun v _ => v = undef,
   fun v _ => v = undef,
   fun v _ => v = undef,
   fun v _ => v = undef,
   fun v _ => v = undef,
   fun v _ => v = .bool false]
theorem rc13fR_kept (g : Nat) (xb : Nat) (n : Nat) (cap : Nat) (j : Nat) (ct : Int) (dt : Int) : Reg.AllKept Reg.Keeps (rc13fR g xb n cap j ct dt) :=
  ⟨(fun _ _ _ _ h => h), (fun _ _ _ _ h => h), (fun _ _ _ _ h => h), (fun _ _ _ _ h => h), (fun _ _ _ _ h => h), (fun _ _ _ _ h => h), (fun _ _ _ _ h => h), (fun _ _ _ _ h => h), (fun _ _ _ _ h => h), (fun _ _ _ _ h => h), (fun _ _ _ _ h => h), (fun _ _ _ _ h => h), (fun _ _ _ _ h => h), (fun _ _ _ _ h => h), (fun _ _ _ _ h => h), (fun _ _ _ _ h => h), (fun _ _ _ _ h => h), trivial⟩
def rc15tR (g : Nat) (xb : Nat) (n : Nat) (cap : Nat) (j : Nat) (cf : Int) (df : Int) (q : Bool) : List (Value → World → Prop) :=
  [fun v _ => v = .pointer (some ⟨xb, 2, none⟩),
   fun v _ => v = .int .i64 cf,
   fun v _ => v = .bool true,
   fun v _ => v = .bool true,
   fun v _ => v = .slice (some ⟨g, 0, none⟩) n cap,
   fun v _ => v = .int .i64 (j : Int),
   fun v _ => v = .pointer (some ⟨g, j * 3, none⟩),
   fun v _ => v = .pointer (some ⟨g, j * 3 + 2, none⟩),
   fun v _ => v = .int .i64 df,
   fun v _ => v = .pointer (some ⟨xb, 2, none⟩),
   fun v _ => v = .int .i64 cf,
   fun v _ => v = .bool q,
   fun v _ => v = .bool q]
theorem rc15tR_kept (g : Nat) (xb : Nat) (n : Nat) (cap : Nat) (j : Nat) (cf : Int) (df : Int) (q : Bool) : Reg.AllKept Reg.Keeps (rc15tR g xb n cap j cf df q) :=
  ⟨(fun _ _ _ _ h => h), (fun _ _ _ _ h => h), (fun _ _ _ _ h => h), (fun _ _ _ _ h => h), (fun _ _ _ _ h => h), (fun _ _ _ _ h => h), (fun _ _ _ _ h => h), (fun _ _ _ _ h => h), (fun _ _ _ _ h => h), (fun _ _ _ _ h => h), (fun _ _ _ _ h => h), (fun _ _ _ _ h => h), (fun _ _ _ _ h => h), trivial⟩
def rc15fR (xb : Nat) (cf : Int) : List (Value → World → Prop) :=
  [fun v _ => v = .pointer (some ⟨xb, 2, none⟩),
   fun v _ => v = .int .i64 cf,
   fun v _ => v = .bool false,
   fun v _ => v = .bool false,
   fun v _ => v = undef,
   fun v _ => v = undef,
   fun v _ => v = undef,
   fun v _ => v = undef,
   fun v _ => v = undef,
   fun v _ => v = undef,
   fun v _ => v = undef,
   fun v _ => v = undef,
   fun v _ => v = .bool false]
theorem rc15fR_kept (xb : Nat) (cf : Int) : Reg.AllKept Reg.Keeps (rc15fR xb cf) :=
  ⟨(fun _ _ _ _ h => h), (fun _ _ _ _ h => h), (fun _ _ _ _ h => h), (fun _ _ _ _ h => h), (fun _ _ _ _ h => h), (fun _ _ _ _ h => h), (fun _ _ _ _ h => h), (fun _ _ _ _ h => h), (fun _ _ _ _ h => h), (fun _ _ _ _ h => h), (fun _ _ _ _ h => h), (fun _ _ _ _ h => h), (fun _ _ _ _ h => h), trivial⟩

set_option maxRecDepth 20000 in
set_option maxHeartbeats 8000000 in
theorem rcheck14_any (LC : List Cl) (a : Option Addr) (cap n : Nat) (w : World) (h : SlAt 3 w a cap n (flat14 LC)) (hn : LC.length = n) (hn1000 : n ≤ 1000) :
    Calls Try.prog 41 #[.slice a n cap] w fun e w' => e = .returned (.int .i64 (hchk LC 0 (fun _ => none))) ∧ Below w.heap.size w w' := by
  obtain ⟨res, hres⟩ : ∃ res, hchk LC 0 (fun _ => none) = res := ⟨_, rfl⟩
  rw [hres]
  have hcap := h.le
  have HH := hidq (And.intro h hn)
  have HR0 := hidq (show CkI LC 0 0 (fun _ => none) ∧ hchk (LC.drop 0) 0 (fun _ => none) = res ∧ Below w.heap.size w w from ⟨CkI.start LC, hres, Below.refl _ _⟩)
  clear h hn hres
  go_enter Try.func41, Try.ntmps41
  go_wp2_with fail
  go_loopw [8] (fun s8 wr => ∃ (i : Nat) (b : Int) (D : Nat → Option Cl), s8 = .int .i64 (i : Int) ∧ i ≤ n ∧ Hid (CkI LC i b D ∧ hchk (LC.drop i) b D = res ∧ Below w.heap.size w wr)) (fun s8 _ => n - (intOf s8).toNat)
  case atStart => exact ⟨0, 0, fun _ => none, rfl, Nat.zero_le _, HR0⟩
  case round =>
    obtain ⟨i, b, D, rfl, hi, hX⟩ := hrel
    clear HR0
    by_cases hlt : i < n
    case neg =>
      have hd1 : decide ((i : Int) < (n : Int)) = false := decide_eq_false (by omega)
      have hd2 : decide (i < n) = false := decide_eq_false hlt
      have HE := hidq (show res = 0 ∧ Below w.heap.size w wr from by
        obtain ⟨h1, h2, h3⟩ := hX.out
        rw [List.drop_of_length_le (by rw [HH.out.2]; omega)] at h2
        exact ⟨h2.symm, h3⟩)
      clear hX
      go_wp2_with fail
      go_ret
      exact ⟨by rw [HE.out.1]; rfl, HE.out.2⟩
    have hltI : (i : Int) < (n : Int) := by omega
    obtain ⟨h, hn⟩ := HH.out
    obtain ⟨hCk, hres, hbw⟩ := hX.out
    obtain ⟨c, hc⟩ : ∃ c, LC[i]? = some c := ⟨_, List.getElem?_eq_getElem (by omega)⟩
    have hdr : LC.drop i = c :: LC.drop (i + 1) := by
      obtain ⟨hl, he⟩ := List.getElem?_eq_some_iff.1 hc
      rw [List.drop_eq_getElem_cons hl, he]
    rw [hdr] at hres
    obtain ⟨g, rfl, hFl⟩ : ∃ g, a = some ⟨g, 0, none⟩ ∧ Flat 3 w g cap n (flat14 LC) := by
      rcases h with ⟨_, e, _⟩ | ⟨g, e1, e2⟩
      · exact absurd e (by omega)
      · exact ⟨g, e1, e2⟩
    have hgl := hFl.lt
    have hrow : ∀ (q j : Nat) (d : Cl) u, LC[q]? = some d → (rrow d)[j]? = some u → w.cell? ⟨g, q * 3 + j, none⟩ = some u := fun q j d u hd hu => by
      have hj : j < 3 := (List.getElem?_eq_some_iff.1 hu).1
      exact hFl.cell _ _ (by rw [flat14_get LC q j d hd hj]; exact hu)
    have HROW := hidq (And.intro hrow hgl)
    obtain ⟨ct, hct⟩ : ∃ ct, c.thread = ct := ⟨_, rfl⟩
    obtain ⟨cb, hcb⟩ : ∃ cb, c.beg = cb := ⟨_, rfl⟩
    obtain ⟨cf, hcf⟩ : ∃ cf, c.fin = cf := ⟨_, rfl⟩
    have hrr : ∀ j u, (rrow c)[j]? = some u → wr.cell? ⟨g, i * 3 + j, none⟩ = some u := fun j u hu => by
      rw [hbw.cell (p := ⟨g, i * 3 + j, none⟩) hgl]; exact hrow i j c u hc hu
    have m0 : wr.cell? ⟨g, i * 3, none⟩ = some (.int .i64 ct) := by rw [← hct]; exact hrr 0 _ rfl
    have m1 : wr.cell? ⟨g, i * 3 + 1, none⟩ = some (.int .i64 cb) := by rw [← hcb]; exact hrr 1 _ rfl
    have m2 : wr.cell? ⟨g, i * 3 + 2, none⟩ = some (.int .i64 cf) := by rw [← hcf]; exact hrr 2 _ rfl
    have hgr : g < wr.heap.size := Nat.lt_of_lt_of_le hgl hbw.size
    obtain ⟨xb, hxb⟩ : ∃ xb, wr.heap.size = xb := ⟨_, rfl⟩
    obtain ⟨W1, hW1⟩ : ∃ W1, wr.alloc (.cells #[.int .i64 ct, .int .i64 cb, .int .i64 cf] 107) = W1 := ⟨_, rfl⟩
    have hX1 := BoxAt.new wr [.int .i64 ct, .int .i64 cb, .int .i64 cf] 107
    rw [show wr.alloc (.cells [.int .i64 ct, .int .i64 cb, .int .i64 cf].toArray 107) = W1 from hW1, hxb] at hX1
    have hb1 : Below wr.heap.size wr W1 := by rw [← hW1]; exact (Below.refl _ _).alloc (Nat.le_refl _) _
    have hlow := hbw.trans (hb1.mono hbw.size)
    have x0 := (hX1.get 0 _ rfl).1
    have x1 := (hX1.get 1 _ rfl).1
    have x2 := (hX1.get 2 _ rfl).1
    have hxl := hX1.lt
    have HX1 := hidq hX1
    have HLOW := hidq hlow
    have HCK := hidq (And.intro hCk hc)
    have HSTOP := hidq (fun e (he : hstep b D c = e) (h0 : ¬ e = 0) => (show res = e from hres.symm.trans (hchk_stop he h0)))
    have HNEXT := hidq (fun (he : hstep b D c = 0) => (show hchk (LC.drop (i + 1)) c.beg (dset D c) = res from (hchk_on he).symm.trans hres))
    have HC := hidq (And.intro hct (And.intro hcb hcf))
    have hb0 := hCk.b0
    have HB0 := hidq hb0
    have hprev : 0 < i → ∃ p, LC[i - 1]? = some p ∧ p.beg = b ∧ wr.cell? ⟨g, (i - 1) * 3 + 1, none⟩ = some (.int .i64 b) := fun hi0 => by
      obtain ⟨p, hp⟩ : ∃ p, LC[i - 1]? = some p := ⟨_, List.getElem?_eq_getElem (by omega)⟩
      have hpb := hCk.bl p hi0 hp
      refine ⟨p, hp, hpb, ?_⟩
      rw [hbw.cell (p := ⟨g, (i - 1) * 3 + 1, none⟩) hgl, hrow (i - 1) 1 p _ hp rfl, hpb]
    have HPREV := hidq hprev
    have HBZ := hidq hCk.bz
    have HB1 := hidq hb1
    clear h hn hCk hres hbw hc hdr hFl hrow hrr hX1 hb1 hlow hct hcb hcf hb0 hprev hX
    by_cases ht0 : ct < 0
    · have HE := hidq (show res = 4 ∧ Below w.heap.size w W1 from ⟨HSTOP.out 4 (hstep4 (by rw [HC.out.1]; omega)) (by decide), HLOW.out⟩)
      clear HSTOP HNEXT
      go_wp2_with fail
      go_ret
      exact ⟨by rw [HE.out.1]; rfl, HE.out.2⟩
    by_cases ht5 : 5 < ct
    · have HE := hidq (show res = 4 ∧ Below w.heap.size w W1 from ⟨HSTOP.out 4 (hstep4 (by rw [HC.out.1]; omega)) (by decide), HLOW.out⟩)
      have d0 : decide (ct < 0) = false := decide_eq_false ht0
      clear HSTOP HNEXT
      go_wp2_with fail
      go_ret
      exact ⟨by rw [HE.out.1]; rfl, HE.out.2⟩
    have d0 : decide (ct < 0) = false := decide_eq_false ht0
    have d5 : decide (5 < ct) = false := decide_eq_false ht5
    have HT := hidq (show 0 ≤ c.thread ∧ c.thread < 6 from by rw [HC.out.1]; omega)
    clear ht0 ht5
    by_cases hb0 : cb < 0
    · have HE := hidq (show res = 14 ∧ Below w.heap.size w W1 from ⟨HSTOP.out 14 (hstep14 HT.out (.inl (by rw [HC.out.2.1]; have := HB0.out; omega))) (by decide), HLOW.out⟩)
      clear HSTOP HNEXT
      go_wp2_with fail
      go_ret
      exact ⟨by rw [HE.out.1]; rfl, HE.out.2⟩
    have e0 : decide (cb < 0) = false := decide_eq_false hb0
    by_cases hf1 : cf < -1
    · have HE := hidq (show res = 14 ∧ Below w.heap.size w W1 from ⟨HSTOP.out 14 (hstep14 HT.out (.inr (.inl (by rw [HC.out.2.2]; omega)))) (by decide), HLOW.out⟩)
      clear HSTOP HNEXT
      go_wp2_with fail
      go_ret
      exact ⟨by rw [HE.out.1]; rfl, HE.out.2⟩
    have e1 : decide (cf < -1) = false := decide_eq_false hf1
    by_cases hbf : ¬ cf = -1 ∧ cf < cb
    · obtain ⟨hf2, hf3⟩ := hbf
      have e2 : (cf == -1) = false := by simpa using hf2
      have e3 : (cf != -1) = true := by simpa using hf2
      have HE := hidq (show res = 14 ∧ Below w.heap.size w W1 from ⟨HSTOP.out 14 (hstep14 HT.out (.inr (.inr (.inl (by rw [HC.out.2.1, HC.out.2.2]; omega))))) (by decide), HLOW.out⟩)
      clear HSTOP HNEXT
      go_wp2_with fail
      go_ret
      exact ⟨by rw [HE.out.1]; rfl, HE.out.2⟩
    have HBF := hidq hbf
    have HF1 := hidq hf1
    have HB02 := hidq hb0
    have hfin : cf = -1 ∨ ¬ cf = -1 := by omega
    clear hbf hf1 hb0
    rcases hfin with e2 | e2
    focus
      have HF2 := hidq e2
      have e3 : (cf == -1) = true := by simpa using e2
      have e4 : (cf != -1) = false := by simpa using e2
      clear e2
      go_wp2_with fail
      clear e3 e4
    rotate_left
    focus
      have hq : ¬ cf < cb := fun q => HBF.out ⟨e2, q⟩
      have e3 : (cf == -1) = false := by simpa using e2
      have e4 : (cf != -1) = true := by simpa using e2
      have e5 : decide (cf < cb) = false := decide_eq_false hq
      have HF2 := hidq e2
      clear e2 hq
      go_wp2_with fail
      clear e3 e4 e5
    all_goals
      obtain ⟨w6, h6⟩ : ∃ w6, w6 = wr := ⟨_, rfl⟩
      subst h6
      by_cases hi0 : 0 < i
      rotate_left
      focus
        have hbz : b = 0 := HBZ.out (by omega)
        have HNB := hidq (show ¬ c.beg < b from by rw [HC.out.2.1, hbz]; have := HB02.out; omega)
        have g1 : decide ((0 : Int) < (i : Int)) = false := decide_eq_false (by omega)
        have g2 : decide (0 < i) = false := decide_eq_false hi0
        clear hbz hi0
        go_wp2_with fail
        go_region
        go_wp2_with fail
        clear g1 g2
      rotate_left
      focus
        obtain ⟨p, hp, hpb, hpc⟩ := HPREV.out hi0
        obtain ⟨k, hk⟩ : ∃ k, i - 1 = k := ⟨_, rfl⟩
        rw [hk] at hpc
        have hsub : (i : Int) - 1 = (k : Int) := by omega
        have hkn : k < n := by omega
        have hknI : (k : Int) < (n : Int) := by omega
        have hpc1 : W1.cell? ⟨g, k * 3 + 1, none⟩ = some (.int .i64 b) := by rw [HB1.out.cell (p := ⟨g, k * 3 + 1, none⟩) hgr]; exact hpc
        have hgw1 : g < W1.heap.size := Nat.lt_of_lt_of_le hgr HB1.out.size
        have g1 : (0 : Int) < (i : Int) := by omega
        have hk3 : (k : Int) ≤ 1000 := by omega
        clear hp hpb hpc hk
        by_cases hbb : cb < b
        · have HE := hidq (show res = 14 ∧ Below w.heap.size w W1 from ⟨HSTOP.out 14 (hstep14 HT.out (.inl (by rw [HC.out.2.1]; exact hbb))) (by decide), HLOW.out⟩)
          clear HSTOP HNEXT
          go_wp2_with fail
          go_region
          go_wp2_with fail
          go_ret
          exact ⟨by rw [HE.out.1]; rfl, by first | exact HE.out.2 | exact HE.out.2.drew⟩
        have HNB := hidq (show ¬ c.beg < b from by rw [HC.out.2.1]; exact hbb)
        have g3 : decide (cb < b) = false := decide_eq_false hbb
        clear hbb
        go_wp2_with fail
        go_region
        go_wp2_with fail
        clear g1 g3 hsub hpc1 hkn hknI hk3 hgw1
      all_goals
        obtain ⟨w7, h7⟩ : ∃ w7, w7 = w6 := ⟨_, rfl⟩
        subst h7
        have HNO := hidq (fun (j : Nat) (d : Cl) (hj : j < i) (hd : LC[j]? = some d) (hr : rbad c d) => (show res = 14 from HSTOP.out 14 (hstep14 HT.out (.inr (.inr (.inr ((HCK.out.1.folq (by have := HNB.out; omega) (by rw [HC.out.2.2]; have := HF1.out; omega) (by rw [HC.out.2.1, HC.out.2.2]; intro q; have := HBF.out; omega)).2 ⟨j, d, hj, hd, hr⟩))))) (by decide)))
        have HYES := hidq (fun (hall : ∀ (j : Nat) (d : Cl), j < i → LC[j]? = some d → ¬ rbad c d) => (show CkI LC (i + 1) c.beg (dset D c) ∧ hchk (LC.drop (i + 1)) c.beg (dset D c) = res from by
          have hs : hstep b D c = 0 := hstep0 HT.out (fun e => by
            rcases e with e | e | e | e
            · have := HNB.out; omega
            · rw [HC.out.2.2] at e; have := HF1.out; omega
            · rw [HC.out.2.1, HC.out.2.2] at e; have := HBF.out; omega
            · obtain ⟨j, d, hj, hd, hr⟩ := (HCK.out.1.folq (by have := HNB.out; omega) (by rw [HC.out.2.2]; have := HF1.out; omega) (by rw [HC.out.2.1, HC.out.2.2]; intro q; have := HBF.out; omega)).1 e
              exact hall j d hj hd hr)
          exact ⟨HCK.out.1.next HCK.out.2 hs, HNEXT.out hs⟩))
        clear HSTOP HNEXT
        go_loopw [5] (fun s5 wr => ∃ j : Nat, s5 = .int .i64 (j : Int) ∧ j ≤ i ∧ Hid ((∀ (q : Nat) (d : Cl), q < j → LC[q]? = some d → ¬ rbad c d) ∧ Below W1.heap.size W1 wr)) (fun s5 _ => i - (intOf s5).toNat)
        case atStart => exact ⟨0, rfl, Nat.zero_le _, hidq ⟨fun q d hq => absurd hq (Nat.not_lt_zero _), by first | exact Below.refl _ _ | exact (Below.refl _ _).drew⟩⟩
        case round =>
          obtain ⟨j, rfl, hj, hY⟩ := hrel
          by_cases hjl : j < i
          case neg =>
            have hji : j = i := by omega
            have hd1 : decide ((j : Int) < (i : Int)) = false := decide_eq_false (by omega)
            have hd2 : decide (j < i) = false := decide_eq_false hjl
            have HE := hidq (show CkI LC (i + 1) c.beg (dset D c) ∧ hchk (LC.drop (i + 1)) c.beg (dset D c) = res ∧ Below w.heap.size w wr from by
              obtain ⟨y1, y2⟩ := hY.out
              rw [hji] at y1
              obtain ⟨z1, z2⟩ := HYES.out (fun j d hj hd => y1 j d hj hd)
              exact ⟨z1, z2, HLOW.out.trans (y2.mono HLOW.out.size)⟩)
            clear hji hY
            go_wp2_with fail
            go_roundw
            case rel => exact ⟨i + 1, c.beg, dset D c, by go_num, by omega, HE⟩
            case measure => simp [intOf]; omega
          have hjI : (j : Int) < (i : Int) := by omega
          obtain ⟨d, hd⟩ : ∃ d, LC[j]? = some d := ⟨_, List.getElem?_eq_getElem (by have := HH.out.2; omega)⟩
          obtain ⟨dt, hdt⟩ : ∃ dt, d.thread = dt := ⟨_, rfl⟩
          obtain ⟨db, hdb⟩ : ∃ db, d.beg = db := ⟨_, rfl⟩
          obtain ⟨df, hdf⟩ : ∃ df, d.fin = df := ⟨_, rfl⟩
          have hjn : j < n := by omega
          have hjnI : (j : Int) < (n : Int) := by omega
          have FC := hidq (fun W (hW : Below wr.heap.size wr W) => (show W.cell? ⟨xb, 0, none⟩ = some (.int .i64 ct) ∧ W.cell? ⟨xb, 1, none⟩ = some (.int .i64 cb) ∧ W.cell? ⟨xb, 2, none⟩ = some (.int .i64 cf) ∧ W.cell? ⟨g, j * 3, none⟩ = some (.int .i64 dt) ∧ W.cell? ⟨g, j * 3 + 1, none⟩ = some (.int .i64 db) ∧ W.cell? ⟨g, j * 3 + 2, none⟩ = some (.int .i64 df) ∧ xb < W.heap.size ∧ g < W.heap.size from by
            have hb := hY.out.2.trans (hW.mono hY.out.2.size)
            have hX := HX1.out.below hb
            have hlo := HLOW.out.trans (hb.mono HLOW.out.size)
            refine ⟨(hX.get 0 _ rfl).1, (hX.get 1 _ rfl).1, (hX.get 2 _ rfl).1, ?_, ?_, ?_, hX.lt, Nat.lt_of_lt_of_le HROW.out.2 hlo.size⟩
            · rw [hlo.cell (p := ⟨g, j * 3, none⟩) HROW.out.2, ← hdt]; exact HROW.out.1 j 0 d _ hd rfl
            · rw [hlo.cell (p := ⟨g, j * 3 + 1, none⟩) HROW.out.2, ← hdb]; exact HROW.out.1 j 1 d _ hd rfl
            · rw [hlo.cell (p := ⟨g, j * 3 + 2, none⟩) HROW.out.2, ← hdf]; exact HROW.out.1 j 2 d _ hd rfl))
          have HRB := hidq (show rbad c d ↔ (dt = ct ∧ ¬ (0 ≤ df ∧ df < cb)) ∨ (¬ cf = -1 ∧ df = cf) from by unfold rbad; rw [hdt, hdf, HC.out.1, HC.out.2.1, HC.out.2.2])
          have HD := hidq hd
          clear hd hdt hdb hdf
          obtain ⟨q, hq⟩ : ∃ q, decide (0 ≤ df ∧ df < cb) = q := ⟨_, rfl⟩
          have HAH := hidq (fun w => rahead_ints dt db df ct cb cf w)
          rw [hq] at HAH
          have HQ := hidq hq
          clear hq
          by_cases hth : dt = ct
          focus
            have t1 : (dt == ct) = true := by simpa using hth
            have HTH := hidq hth
            clear hth
            go_wp2_with fail
            have hrefl : ∀ w : World, Reg.Keeps w w := Reg.Keeps.refl
            refine Reg.wp_region_props (Reg.ofList (rc13tR g xb n cap j ct cb cf dt db df q)) Reg.Keeps (fun _ w => Reg.Keeps wr w) (by kernel_rfl) (by kernel_rfl) (Reg.AllKept.at _ (rc13tR_kept g xb n cap j ct cb cf dt db df q)) hrefl (Reg.Keeps.drewN (Reg.Keeps.refl _) 1) ⟨?_, ?_, ?_, ?_, ?_, ?_, ?_, ?_, ?_, ?_, ?_, ?_, ?_, ?_, ?_, ?_, ?_, trivial⟩ ?_
            · refine Reg.StepAt.plain (i := 0) rfl ?_
              intro L ev w hI hk hp hA
              have e0 : ev (.tmp 0) = .slice (some ⟨g, 0, none⟩) n cap := hA.oldNone 0 (by kernel_rfl)
              have hcc := hA.const
              clear hA hp
              refine Reg.out_value (v := .slice (some ⟨g, 0, none⟩) n cap) ?_ ⟨rfl, hrefl _, hI⟩
              go_simp
            · refine Reg.StepAt.plain (i := 1) rfl ?_
              intro L ev w hI hk hp hA
              have e5 : ev (.tmp 5) = .int .i64 (j : Int) := hA.oldNone 5 (by kernel_rfl)
              have hcc := hA.const
              clear hA hp
              refine Reg.out_value (v := .int .i64 (j : Int)) ?_ ⟨rfl, hrefl _, hI⟩
              go_simp
            · refine Reg.StepAt.plain (i := 2) rfl ?_
              intro L ev w hI hk hp hA
              have e59 : ev (.tmp 59) = .slice (some ⟨g, 0, none⟩) n cap := hA.val 0 _ 59 rfl (hp ⟨0, .data⟩ (by simp) rfl) rfl
              have e60 : ev (.tmp 60) = .int .i64 (j : Int) := hA.val 1 _ 60 rfl (hp ⟨1, .data⟩ (by simp) rfl) rfl
              have hcc := hA.const
              clear hA hp
              refine Reg.out_value (v := .pointer (some ⟨g, j * 3, none⟩)) ?_ ⟨rfl, hrefl _, hI⟩
              go_simp
            · refine Reg.StepAt.plain (i := 3) rfl ?_
              intro L ev w hI hk hp hA
              have e61 : ev (.tmp 61) = .pointer (some ⟨g, j * 3, none⟩) := hA.val 2 _ 61 rfl (hp ⟨2, .data⟩ (by simp) rfl) rfl
              have hcc := hA.const
              clear hA hp
              refine Reg.out_value (v := .pointer (some ⟨g, j * 3, none⟩)) ?_ ⟨rfl, hrefl _, hI⟩
              go_simp
            · refine Reg.StepAt.plain (i := 4) rfl ?_
              intro L ev w hI hk hp hA
              have e62 : ev (.tmp 62) = .pointer (some ⟨g, j * 3, none⟩) := hA.val 3 _ 62 rfl (hp ⟨3, .data⟩ (by simp) rfl) rfl
              have hcc := hA.const
              clear hA hp
              obtain ⟨p0, p1, p2, p3, p4, p5, p6, p7⟩ := FC.out w hI
              refine Reg.out_value (v := .int .i64 dt) ?_ ⟨rfl, hrefl _, hI⟩
              go_simp
            · refine Reg.StepAt.plain (i := 5) rfl ?_
              intro L ev w hI hk hp hA
              have e4 : ev (.tmp 4) = .pointer (some ⟨xb, 0, none⟩) := hA.oldNone 4 (by kernel_rfl)
              have hcc := hA.const
              clear hA hp
              refine Reg.out_value (v := .pointer (some ⟨xb, 0, none⟩)) ?_ ⟨rfl, hrefl _, hI⟩
              go_simp
            · refine Reg.StepAt.plain (i := 6) rfl ?_
              intro L ev w hI hk hp hA
              have e64 : ev (.tmp 64) = .pointer (some ⟨xb, 0, none⟩) := hA.val 5 _ 64 rfl (hp ⟨5, .data⟩ (by simp) rfl) rfl
              have hcc := hA.const
              clear hA hp
              obtain ⟨p0, p1, p2, p3, p4, p5, p6, p7⟩ := FC.out w hI
              refine Reg.out_value (v := .int .i64 ct) ?_ ⟨rfl, hrefl _, hI⟩
              go_simp
            · refine Reg.StepAt.plain (i := 7) rfl ?_
              intro L ev w hI hk hp hA
              have e63 : ev (.tmp 63) = .int .i64 dt := hA.val 4 _ 63 rfl (hp ⟨4, .data⟩ (by simp) rfl) rfl
              have e65 : ev (.tmp 65) = .int .i64 ct := hA.val 6 _ 65 rfl (hp ⟨6, .data⟩ (by simp) rfl) rfl
              have hcc := hA.const
              clear hA hp
              refine Reg.out_value (v := .bool true) ?_ ⟨rfl, hrefl _, hI⟩
              go_simp
            · refine Reg.StepAt.plain (i := 8) rfl ?_
              intro L ev w hI hk hp hA
              have e66 : ev (.tmp 66) = .bool true := hA.val 7 _ 66 rfl (hp ⟨7, .data⟩ (by simp) rfl) rfl
              have hcc := hA.const
              clear hA hp
              refine Reg.out_value (v := .bool true) ?_ ⟨rfl, hrefl _, hI⟩
              go_simp
            · refine Reg.StepAt.guarded (i := 9) rfl ?_
              intro L ev w hI hk hp hA
              have e0 : ev (.tmp 0) = .slice (some ⟨g, 0, none⟩) n cap := hA.oldNone 0 (by kernel_rfl)
              have eg : ev (.tmp 67) = .bool true := hA.val 8 _ 67 rfl (hp ⟨8, .guard⟩ (by simp) rfl) rfl
              refine ⟨_, 67, true, rfl, rfl, eg, ?_⟩
              rw [if_pos rfl]
              have hcc := hA.const
              clear hA hp
              refine Reg.out_value (v := .slice (some ⟨g, 0, none⟩) n cap) ?_ ⟨rfl, hrefl _, hI⟩
              go_simp
            · refine Reg.StepAt.guarded (i := 10) rfl ?_
              intro L ev w hI hk hp hA
              have e5 : ev (.tmp 5) = .int .i64 (j : Int) := hA.oldNone 5 (by kernel_rfl)
              have eg : ev (.tmp 67) = .bool true := hA.val 8 _ 67 rfl (hp ⟨8, .guard⟩ (by simp) rfl) rfl
              refine ⟨_, 67, true, rfl, rfl, eg, ?_⟩
              rw [if_pos rfl]
              have hcc := hA.const
              clear hA hp
              refine Reg.out_value (v := .int .i64 (j : Int)) ?_ ⟨rfl, hrefl _, hI⟩
              go_simp
            · refine Reg.StepAt.guarded (i := 11) rfl ?_
              intro L ev w hI hk hp hA
              have e68 : ev (.tmp 68) = .slice (some ⟨g, 0, none⟩) n cap := hA.val 9 _ 68 rfl (hp ⟨9, .data⟩ (by simp) rfl) rfl
              have e69 : ev (.tmp 69) = .int .i64 (j : Int) := hA.val 10 _ 69 rfl (hp ⟨10, .data⟩ (by simp) rfl) rfl
              have eg : ev (.tmp 67) = .bool true := hA.val 8 _ 67 rfl (hp ⟨8, .guard⟩ (by simp) rfl) rfl
              refine ⟨_, 67, true, rfl, rfl, eg, ?_⟩
              rw [if_pos rfl]
              have hcc := hA.const
              clear hA hp
              refine Reg.out_value (v := .pointer (some ⟨g, j * 3, none⟩)) ?_ ⟨rfl, hrefl _, hI⟩
              go_simp
            · refine Reg.StepAt.guarded (i := 12) rfl ?_
              intro L ev w hI hk hp hA
              have e70 : ev (.tmp 70) = .pointer (some ⟨g, j * 3, none⟩) := hA.val 11 _ 70 rfl (hp ⟨11, .data⟩ (by simp) rfl) rfl
              have eg : ev (.tmp 67) = .bool true := hA.val 8 _ 67 rfl (hp ⟨8, .guard⟩ (by simp) rfl) rfl
              refine ⟨_, 67, true, rfl, rfl, eg, ?_⟩
              rw [if_pos rfl]
              have hcc := hA.const
              clear hA hp
              obtain ⟨p0, p1, p2, p3, p4, p5, p6, p7⟩ := FC.out w hI
              refine Reg.out_value (v := .agg #[.int .i64 dt, .int .i64 db, .int .i64 df]) ?_ ⟨rfl, hrefl _, hI⟩
              go_simp
            · refine Reg.StepAt.guarded (i := 13) rfl ?_
              intro L ev w hI hk hp hA
              have e4 : ev (.tmp 4) = .pointer (some ⟨xb, 0, none⟩) := hA.oldNone 4 (by kernel_rfl)
              have eg : ev (.tmp 67) = .bool true := hA.val 8 _ 67 rfl (hp ⟨8, .guard⟩ (by simp) rfl) rfl
              refine ⟨_, 67, true, rfl, rfl, eg, ?_⟩
              rw [if_pos rfl]
              have hcc := hA.const
              clear hA hp
              obtain ⟨p0, p1, p2, p3, p4, p5, p6, p7⟩ := FC.out w hI
              refine Reg.out_value (v := .agg #[.int .i64 ct, .int .i64 cb, .int .i64 cf]) ?_ ⟨rfl, hrefl _, hI⟩
              go_simp
            · refine Reg.StepAt.guarded (i := 14) rfl ?_
              intro L ev w hI hk hp hA
              have e71 : ev (.tmp 71) = .agg #[.int .i64 dt, .int .i64 db, .int .i64 df] := hA.val 12 _ 71 rfl (hp ⟨12, .data⟩ (by simp) rfl) rfl
              have e72 : ev (.tmp 72) = .agg #[.int .i64 ct, .int .i64 cb, .int .i64 cf] := hA.val 13 _ 72 rfl (hp ⟨13, .data⟩ (by simp) rfl) rfl
              have eg : ev (.tmp 67) = .bool true := hA.val 8 _ 67 rfl (hp ⟨8, .chain⟩ (by simp) rfl) rfl
              refine ⟨_, 67, true, rfl, rfl, eg, ?_⟩
              rw [if_pos rfl]
              have hcc := hA.const
              have hcf := hA.func
              clear hA hp
              refine Reg.out_call (f := 83) (args := #[.agg #[.int .i64 dt, .int .i64 db, .int .i64 df], .agg #[.int .i64 ct, .int .i64 cb, .int .i64 cf]]) (w0 := w) ?_ ?_
              · go_simp
              refine (HAH.out w).mono ?_
              rintro e w' ⟨rfl, hb'⟩
              exact ⟨_, rfl, rfl, hb', Reg.Keeps.trans hI hb'⟩
            · refine Reg.StepAt.guarded (i := 15) rfl ?_
              intro L ev w hI hk hp hA
              have e73 : ev (.tmp 73) = .bool q := hA.val 14 _ 73 rfl (hp ⟨14, .data⟩ (by simp) rfl) rfl
              have eg : ev (.tmp 67) = .bool true := hA.val 8 _ 67 rfl (hp ⟨8, .guard⟩ (by simp) rfl) rfl
              refine ⟨_, 67, true, rfl, rfl, eg, ?_⟩
              rw [if_pos rfl]
              have hcc := hA.const
              clear hA hp
              refine Reg.out_value (v := .bool (!q)) ?_ ⟨rfl, hrefl _, hI⟩
              go_simp
            · refine Reg.StepAt.plain (i := 16) rfl ?_
              intro L ev w hI hk hp hA
              have e67 : ev (.tmp 67) = .bool true := hA.val 8 _ 67 rfl (hp ⟨8, .data⟩ (by simp) rfl) rfl
              have e74 : ev (.tmp 74) = .bool (!q) := hA.val 15 _ 74 rfl (hp ⟨15, .data⟩ (by simp) rfl) rfl
              have hcc := hA.const
              clear hA hp
              refine Reg.out_value (v := .bool (!q)) ?_ ⟨rfl, hrefl _, hI⟩
              go_simp
            intro L act wz hall hI hF
            have g59 : act.eval (.tmp 59) = .slice (some ⟨g, 0, none⟩) n cap := hF.val 0 _ 59 rfl (hall 0 (by simp)) rfl
            have g60 : act.eval (.tmp 60) = .int .i64 (j : Int) := hF.val 1 _ 60 rfl (hall 1 (by simp)) rfl
            have g61 : act.eval (.tmp 61) = .pointer (some ⟨g, j * 3, none⟩) := hF.val 2 _ 61 rfl (hall 2 (by simp)) rfl
            have g62 : act.eval (.tmp 62) = .pointer (some ⟨g, j * 3, none⟩) := hF.val 3 _ 62 rfl (hall 3 (by simp)) rfl
            have g63 : act.eval (.tmp 63) = .int .i64 dt := hF.val 4 _ 63 rfl (hall 4 (by simp)) rfl
            have g64 : act.eval (.tmp 64) = .pointer (some ⟨xb, 0, none⟩) := hF.val 5 _ 64 rfl (hall 5 (by simp)) rfl
            have g65 : act.eval (.tmp 65) = .int .i64 ct := hF.val 6 _ 65 rfl (hall 6 (by simp)) rfl
            have g66 : act.eval (.tmp 66) = .bool true := hF.val 7 _ 66 rfl (hall 7 (by simp)) rfl
            have g67 : act.eval (.tmp 67) = .bool true := hF.val 8 _ 67 rfl (hall 8 (by simp)) rfl
            have g68 : act.eval (.tmp 68) = .slice (some ⟨g, 0, none⟩) n cap := hF.val 9 _ 68 rfl (hall 9 (by simp)) rfl
            have g69 : act.eval (.tmp 69) = .int .i64 (j : Int) := hF.val 10 _ 69 rfl (hall 10 (by simp)) rfl
            have g70 : act.eval (.tmp 70) = .pointer (some ⟨g, j * 3, none⟩) := hF.val 11 _ 70 rfl (hall 11 (by simp)) rfl
            have g71 : act.eval (.tmp 71) = .agg #[.int .i64 dt, .int .i64 db, .int .i64 df] := hF.val 12 _ 71 rfl (hall 12 (by simp)) rfl
            have g72 : act.eval (.tmp 72) = .agg #[.int .i64 ct, .int .i64 cb, .int .i64 cf] := hF.val 13 _ 72 rfl (hall 13 (by simp)) rfl
            have g73 : act.eval (.tmp 73) = .bool q := hF.val 14 _ 73 rfl (hall 14 (by simp)) rfl
            have g74 : act.eval (.tmp 74) = .bool (!q) := hF.val 15 _ 74 rfl (hall 15 (by simp)) rfl
            have g75 : act.eval (.tmp 75) = .bool (!q) := hF.val 16 _ 75 rfl (hall 16 (by simp)) rfl
            have hact := hF.act [59, 60, 61, 62, 63, 64, 65, 66, 67, 68, 69, 70, 71, 72, 73, 74, 75] (by kernel_rfl)
            clear hF hall
            simp only [List.foldl_cons, List.foldl_nil] at hact
            rw [g59, g60, g61, g62, g63, g64, g65, g66, g67, g68, g69, g70, g71, g72, g73, g74, g75] at hact
            clear g59 g60 g61 g62 g63 g64 g65 g66 g67 g68 g69 g70 g71 g72 g73 g74 g75
            simp only [List.setIfInBounds_toArray, List.set_cons_succ, List.set_cons_zero] at hact
            subst hact
            have hqq : q = false ∨ q = true := by cases q <;> simp
            rcases hqq with rfl | rfl
            · have HE := hidq (show res = 14 ∧ Below w.heap.size w wz from ⟨HNO.out j d hjl HD.out (HRB.out.2 (.inl ⟨HTH.out, of_decide_eq_false HQ.out⟩)), (HLOW.out.trans (hY.out.2.mono HLOW.out.size)).trans ((show Below wr.heap.size wr wz from hI).mono (HLOW.out.trans (hY.out.2.mono HLOW.out.size)).size)⟩)
              clear hI HNO HYES
              go_wp2_with fail
              go_ret
              exact ⟨by rw [HE.out.1]; rfl, HE.out.2⟩
            have HA := hidq (show ¬ (dt = ct ∧ ¬ (0 ≤ df ∧ df < cb)) from fun e => e.2 (of_decide_eq_true HQ.out))
            have HZ := hidq (show Below wr.heap.size wr wz from hI)
            clear hI t1 HTH
            go_wp2_with fail
          rotate_left
          focus
            have t1 : (dt == ct) = false := by simpa using hth
            have HA := hidq (show ¬ (dt = ct ∧ ¬ (0 ≤ df ∧ df < cb)) from fun e => hth e.1)
            clear hth
            go_wp2_with fail
            have hrefl : ∀ w : World, Reg.Keeps w w := Reg.Keeps.refl
            refine Reg.wp_region_props (Reg.ofList (rc13fR g xb n cap j ct dt)) Reg.Keeps (fun _ w => Reg.Keeps wr w) (by kernel_rfl) (by kernel_rfl) (Reg.AllKept.at _ (rc13fR_kept g xb n cap j ct dt)) hrefl (Reg.Keeps.drewN (Reg.Keeps.refl _) 1) ⟨?_, ?_, ?_, ?_, ?_, ?_, ?_, ?_, ?_, ?_, ?_, ?_, ?_, ?_, ?_, ?_, ?_, trivial⟩ ?_
            · refine Reg.StepAt.plain (i := 0) rfl ?_
              intro L ev w hI hk hp hA
              have e0 : ev (.tmp 0) = .slice (some ⟨g, 0, none⟩) n cap := hA.oldNone 0 (by kernel_rfl)
              have hcc := hA.const
              clear hA hp
              refine Reg.out_value (v := .slice (some ⟨g, 0, none⟩) n cap) ?_ ⟨rfl, hrefl _, hI⟩
              go_simp
            · refine Reg.StepAt.plain (i := 1) rfl ?_
              intro L ev w hI hk hp hA
              have e5 : ev (.tmp 5) = .int .i64 (j : Int) := hA.oldNone 5 (by kernel_rfl)
              have hcc := hA.const
              clear hA hp
              refine Reg.out_value (v := .int .i64 (j : Int)) ?_ ⟨rfl, hrefl _, hI⟩
              go_simp
            · refine Reg.StepAt.plain (i := 2) rfl ?_
              intro L ev w hI hk hp hA
              have e59 : ev (.tmp 59) = .slice (some ⟨g, 0, none⟩) n cap := hA.val 0 _ 59 rfl (hp ⟨0, .data⟩ (by simp) rfl) rfl
              have e60 : ev (.tmp 60) = .int .i64 (j : Int) := hA.val 1 _ 60 rfl (hp ⟨1, .data⟩ (by simp) rfl) rfl
              have hcc := hA.const
              clear hA hp
              refine Reg.out_value (v := .pointer (some ⟨g, j * 3, none⟩)) ?_ ⟨rfl, hrefl _, hI⟩
              go_simp
            · refine Reg.StepAt.plain (i := 3) rfl ?_
              intro L ev w hI hk hp hA
              have e61 : ev (.tmp 61) = .pointer (some ⟨g, j * 3, none⟩) := hA.val 2 _ 61 rfl (hp ⟨2, .data⟩ (by simp) rfl) rfl
              have hcc := hA.const
              clear hA hp
              refine Reg.out_value (v := .pointer (some ⟨g, j * 3, none⟩)) ?_ ⟨rfl, hrefl _, hI⟩
              go_simp
            · refine Reg.StepAt.plain (i := 4) rfl ?_
              intro L ev w hI hk hp hA
              have e62 : ev (.tmp 62) = .pointer (some ⟨g, j * 3, none⟩) := hA.val 3 _ 62 rfl (hp ⟨3, .data⟩ (by simp) rfl) rfl
              have hcc := hA.const
              clear hA hp
              obtain ⟨p0, p1, p2, p3, p4, p5, p6, p7⟩ := FC.out w hI
              refine Reg.out_value (v := .int .i64 dt) ?_ ⟨rfl, hrefl _, hI⟩
              go_simp
            · refine Reg.StepAt.plain (i := 5) rfl ?_
              intro L ev w hI hk hp hA
              have e4 : ev (.tmp 4) = .pointer (some ⟨xb, 0, none⟩) := hA.oldNone 4 (by kernel_rfl)
              have hcc := hA.const
              clear hA hp
              refine Reg.out_value (v := .pointer (some ⟨xb, 0, none⟩)) ?_ ⟨rfl, hrefl _, hI⟩
              go_simp
            · refine Reg.StepAt.plain (i := 6) rfl ?_
              intro L ev w hI hk hp hA
              have e64 : ev (.tmp 64) = .pointer (some ⟨xb, 0, none⟩) := hA.val 5 _ 64 rfl (hp ⟨5, .data⟩ (by simp) rfl) rfl
              have hcc := hA.const
              clear hA hp
              obtain ⟨p0, p1, p2, p3, p4, p5, p6, p7⟩ := FC.out w hI
              refine Reg.out_value (v := .int .i64 ct) ?_ ⟨rfl, hrefl _, hI⟩
              go_simp
            · refine Reg.StepAt.plain (i := 7) rfl ?_
              intro L ev w hI hk hp hA
              have e63 : ev (.tmp 63) = .int .i64 dt := hA.val 4 _ 63 rfl (hp ⟨4, .data⟩ (by simp) rfl) rfl
              have e65 : ev (.tmp 65) = .int .i64 ct := hA.val 6 _ 65 rfl (hp ⟨6, .data⟩ (by simp) rfl) rfl
              have hcc := hA.const
              clear hA hp
              refine Reg.out_value (v := .bool false) ?_ ⟨rfl, hrefl _, hI⟩
              go_simp
            · refine Reg.StepAt.plain (i := 8) rfl ?_
              intro L ev w hI hk hp hA
              have e66 : ev (.tmp 66) = .bool false := hA.val 7 _ 66 rfl (hp ⟨7, .data⟩ (by simp) rfl) rfl
              have hcc := hA.const
              clear hA hp
              refine Reg.out_value (v := .bool false) ?_ ⟨rfl, hrefl _, hI⟩
              go_simp
            · refine Reg.StepAt.guarded (i := 9) rfl ?_
              intro L ev w hI hk hp hA
              have e0 : ev (.tmp 0) = .slice (some ⟨g, 0, none⟩) n cap := hA.oldNone 0 (by kernel_rfl)
              have eg : ev (.tmp 67) = .bool false := hA.val 8 _ 67 rfl (hp ⟨8, .guard⟩ (by simp) rfl) rfl
              refine ⟨_, 67, false, rfl, rfl, eg, ?_⟩
              rw [if_neg (by decide)]
              have hcc := hA.const
              clear hA hp
              exact ⟨rfl, hI⟩
            · refine Reg.StepAt.guarded (i := 10) rfl ?_
              intro L ev w hI hk hp hA
              have e5 : ev (.tmp 5) = .int .i64 (j : Int) := hA.oldNone 5 (by kernel_rfl)
              have eg : ev (.tmp 67) = .bool false := hA.val 8 _ 67 rfl (hp ⟨8, .guard⟩ (by simp) rfl) rfl
              refine ⟨_, 67, false, rfl, rfl, eg, ?_⟩
              rw [if_neg (by decide)]
              have hcc := hA.const
              clear hA hp
              exact ⟨rfl, hI⟩
            · refine Reg.StepAt.guarded (i := 11) rfl ?_
              intro L ev w hI hk hp hA
              have e68 : (fun v _ => v = undef) (ev (.tmp 68)) w := hA.val 9 _ 68 rfl (hp ⟨9, .data⟩ (by simp) rfl) rfl
              have e69 : (fun v _ => v = undef) (ev (.tmp 69)) w := hA.val 10 _ 69 rfl (hp ⟨10, .data⟩ (by simp) rfl) rfl
              have eg : ev (.tmp 67) = .bool false := hA.val 8 _ 67 rfl (hp ⟨8, .guard⟩ (by simp) rfl) rfl
              refine ⟨_, 67, false, rfl, rfl, eg, ?_⟩
              rw [if_neg (by decide)]
              have hcc := hA.const
              clear hA hp
              exact ⟨rfl, hI⟩
            · refine Reg.StepAt.guarded (i := 12) rfl ?_
              intro L ev w hI hk hp hA
              have e70 : (fun v _ => v = undef) (ev (.tmp 70)) w := hA.val 11 _ 70 rfl (hp ⟨11, .data⟩ (by simp) rfl) rfl
              have eg : ev (.tmp 67) = .bool false := hA.val 8 _ 67 rfl (hp ⟨8, .guard⟩ (by simp) rfl) rfl
              refine ⟨_, 67, false, rfl, rfl, eg, ?_⟩
              rw [if_neg (by decide)]
              have hcc := hA.const
              clear hA hp
              exact ⟨rfl, hI⟩
            · refine Reg.StepAt.guarded (i := 13) rfl ?_
              intro L ev w hI hk hp hA
              have e4 : ev (.tmp 4) = .pointer (some ⟨xb, 0, none⟩) := hA.oldNone 4 (by kernel_rfl)
              have eg : ev (.tmp 67) = .bool false := hA.val 8 _ 67 rfl (hp ⟨8, .guard⟩ (by simp) rfl) rfl
              refine ⟨_, 67, false, rfl, rfl, eg, ?_⟩
              rw [if_neg (by decide)]
              have hcc := hA.const
              clear hA hp
              exact ⟨rfl, hI⟩
            · refine Reg.StepAt.guarded (i := 14) rfl ?_
              intro L ev w hI hk hp hA
              have e71 : (fun v _ => v = undef) (ev (.tmp 71)) w := hA.val 12 _ 71 rfl (hp ⟨12, .data⟩ (by simp) rfl) rfl
              have e72 : (fun v _ => v = undef) (ev (.tmp 72)) w := hA.val 13 _ 72 rfl (hp ⟨13, .data⟩ (by simp) rfl) rfl
              have eg : ev (.tmp 67) = .bool false := hA.val 8 _ 67 rfl (hp ⟨8, .chain⟩ (by simp) rfl) rfl
              refine ⟨_, 67, false, rfl, rfl, eg, ?_⟩
              rw [if_neg (by decide)]
              have hcc := hA.const
              have hcf := hA.func
              clear hA hp
              exact ⟨rfl, hI⟩
            · refine Reg.StepAt.guarded (i := 15) rfl ?_
              intro L ev w hI hk hp hA
              have e73 : (fun v _ => v = undef) (ev (.tmp 73)) w := hA.val 14 _ 73 rfl (hp ⟨14, .data⟩ (by simp) rfl) rfl
              have eg : ev (.tmp 67) = .bool false := hA.val 8 _ 67 rfl (hp ⟨8, .guard⟩ (by simp) rfl) rfl
              refine ⟨_, 67, false, rfl, rfl, eg, ?_⟩
              rw [if_neg (by decide)]
              have hcc := hA.const
              clear hA hp
              exact ⟨rfl, hI⟩
            · refine Reg.StepAt.plain (i := 16) rfl ?_
              intro L ev w hI hk hp hA
              have e67 : ev (.tmp 67) = .bool false := hA.val 8 _ 67 rfl (hp ⟨8, .data⟩ (by simp) rfl) rfl
              have e74 : (fun v _ => v = undef) (ev (.tmp 74)) w := hA.val 15 _ 74 rfl (hp ⟨15, .data⟩ (by simp) rfl) rfl
              have hcc := hA.const
              clear hA hp
              refine Reg.out_value (v := .bool false) ?_ ⟨rfl, hrefl _, hI⟩
              go_simp
            intro L act wz hall hI hF
            have g59 : act.eval (.tmp 59) = .slice (some ⟨g, 0, none⟩) n cap := hF.val 0 _ 59 rfl (hall 0 (by simp)) rfl
            have g60 : act.eval (.tmp 60) = .int .i64 (j : Int) := hF.val 1 _ 60 rfl (hall 1 (by simp)) rfl
            have g61 : act.eval (.tmp 61) = .pointer (some ⟨g, j * 3, none⟩) := hF.val 2 _ 61 rfl (hall 2 (by simp)) rfl
            have g62 : act.eval (.tmp 62) = .pointer (some ⟨g, j * 3, none⟩) := hF.val 3 _ 62 rfl (hall 3 (by simp)) rfl
            have g63 : act.eval (.tmp 63) = .int .i64 dt := hF.val 4 _ 63 rfl (hall 4 (by simp)) rfl
            have g64 : act.eval (.tmp 64) = .pointer (some ⟨xb, 0, none⟩) := hF.val 5 _ 64 rfl (hall 5 (by simp)) rfl
            have g65 : act.eval (.tmp 65) = .int .i64 ct := hF.val 6 _ 65 rfl (hall 6 (by simp)) rfl
            have g66 : act.eval (.tmp 66) = .bool false := hF.val 7 _ 66 rfl (hall 7 (by simp)) rfl
            have g67 : act.eval (.tmp 67) = .bool false := hF.val 8 _ 67 rfl (hall 8 (by simp)) rfl
            have g68 : (fun v _ => v = undef) (act.eval (.tmp 68)) wz := hF.val 9 _ 68 rfl (hall 9 (by simp)) rfl
            have g69 : (fun v _ => v = undef) (act.eval (.tmp 69)) wz := hF.val 10 _ 69 rfl (hall 10 (by simp)) rfl
            have g70 : (fun v _ => v = undef) (act.eval (.tmp 70)) wz := hF.val 11 _ 70 rfl (hall 11 (by simp)) rfl
            have g71 : (fun v _ => v = undef) (act.eval (.tmp 71)) wz := hF.val 12 _ 71 rfl (hall 12 (by simp)) rfl
            have g72 : (fun v _ => v = undef) (act.eval (.tmp 72)) wz := hF.val 13 _ 72 rfl (hall 13 (by simp)) rfl
            have g73 : (fun v _ => v = undef) (act.eval (.tmp 73)) wz := hF.val 14 _ 73 rfl (hall 14 (by simp)) rfl
            have g74 : (fun v _ => v = undef) (act.eval (.tmp 74)) wz := hF.val 15 _ 74 rfl (hall 15 (by simp)) rfl
            have g75 : act.eval (.tmp 75) = .bool false := hF.val 16 _ 75 rfl (hall 16 (by simp)) rfl
            have hact := hF.act [59, 60, 61, 62, 63, 64, 65, 66, 67, 68, 69, 70, 71, 72, 73, 74, 75] (by kernel_rfl)
            clear hF hall
            simp only [List.foldl_cons, List.foldl_nil] at hact
            rw [g59, g60, g61, g62, g63, g64, g65, g66, g67, g75] at hact
            clear g59 g60 g61 g62 g63 g64 g65 g66 g67 g75
            generalize act.eval (.tmp 68) = u68 at hact g68
            generalize act.eval (.tmp 69) = u69 at hact g69
            generalize act.eval (.tmp 70) = u70 at hact g70
            generalize act.eval (.tmp 71) = u71 at hact g71
            generalize act.eval (.tmp 72) = u72 at hact g72
            generalize act.eval (.tmp 73) = u73 at hact g73
            generalize act.eval (.tmp 74) = u74 at hact g74
            simp only [List.setIfInBounds_toArray, List.set_cons_succ, List.set_cons_zero] at hact
            subst hact
            have HZ := hidq (show Below wr.heap.size wr wz from hI)
            clear hI t1
            go_wp2_with fail
          all_goals
            obtain ⟨w8, h8⟩ : ∃ w8, w8 = wz := ⟨_, rfl⟩
            subst h8
            have FC0 := FC
            clear FC
            have FC := hidq (fun W (hW : Below w8.heap.size w8 W) => FC0.out W (HZ.out.trans (hW.mono HZ.out.size)))
            clear FC0
            by_cases hf2 : cf = -1
            focus
              have t2 : (cf == -1) = true := by simpa using hf2
              have t3 : (cf != -1) = false := by simpa using hf2
              have HB15 := hidq (show ¬ (¬ cf = -1 ∧ df = cf) from fun e => e.1 hf2)
              clear hf2
              have hrefl : ∀ w : World, Reg.Keeps w w := Reg.Keeps.refl
              refine Reg.wp_region_props (Reg.ofList (rc15fR xb cf)) Reg.Keeps (fun _ w => Reg.Keeps w8 w) (by kernel_rfl) (by kernel_rfl) (Reg.AllKept.at _ (rc15fR_kept xb cf)) hrefl (Reg.Keeps.drewN (Reg.Keeps.refl _) 1) ⟨?_, ?_, ?_, ?_, ?_, ?_, ?_, ?_, ?_, ?_, ?_, ?_, ?_, trivial⟩ ?_
              · refine Reg.StepAt.plain (i := 0) rfl ?_
                intro L ev w hI hk hp hA
                have e4 : ev (.tmp 4) = .pointer (some ⟨xb, 0, none⟩) := hA.oldNone 4 (by kernel_rfl)
                have hcc := hA.const
                clear hA hp
                refine Reg.out_value (v := .pointer (some ⟨xb, 2, none⟩)) ?_ ⟨rfl, hrefl _, hI⟩
                go_simp
              · refine Reg.StepAt.plain (i := 1) rfl ?_
                intro L ev w hI hk hp hA
                have e76 : ev (.tmp 76) = .pointer (some ⟨xb, 2, none⟩) := hA.val 0 _ 76 rfl (hp ⟨0, .data⟩ (by simp) rfl) rfl
                have hcc := hA.const
                clear hA hp
                obtain ⟨p0, p1, p2, p3, p4, p5, p6, p7⟩ := FC.out w hI
                refine Reg.out_value (v := .int .i64 cf) ?_ ⟨rfl, hrefl _, hI⟩
                go_simp
              · refine Reg.StepAt.plain (i := 2) rfl ?_
                intro L ev w hI hk hp hA
                have e77 : ev (.tmp 77) = .int .i64 cf := hA.val 1 _ 77 rfl (hp ⟨1, .data⟩ (by simp) rfl) rfl
                have hcc := hA.const
                clear hA hp
                refine Reg.out_value (v := .bool false) ?_ ⟨rfl, hrefl _, hI⟩
                go_simp
              · refine Reg.StepAt.plain (i := 3) rfl ?_
                intro L ev w hI hk hp hA
                have e78 : ev (.tmp 78) = .bool false := hA.val 2 _ 78 rfl (hp ⟨2, .data⟩ (by simp) rfl) rfl
                have hcc := hA.const
                clear hA hp
                refine Reg.out_value (v := .bool false) ?_ ⟨rfl, hrefl _, hI⟩
                go_simp
              · refine Reg.StepAt.guarded (i := 4) rfl ?_
                intro L ev w hI hk hp hA
                have e0 : ev (.tmp 0) = .slice (some ⟨g, 0, none⟩) n cap := hA.oldNone 0 (by kernel_rfl)
                have eg : ev (.tmp 79) = .bool false := hA.val 3 _ 79 rfl (hp ⟨3, .guard⟩ (by simp) rfl) rfl
                refine ⟨_, 79, false, rfl, rfl, eg, ?_⟩
                rw [if_neg (by decide)]
                have hcc := hA.const
                clear hA hp
                exact ⟨rfl, hI⟩
              · refine Reg.StepAt.guarded (i := 5) rfl ?_
                intro L ev w hI hk hp hA
                have e5 : ev (.tmp 5) = .int .i64 (j : Int) := hA.oldNone 5 (by kernel_rfl)
                have eg : ev (.tmp 79) = .bool false := hA.val 3 _ 79 rfl (hp ⟨3, .guard⟩ (by simp) rfl) rfl
                refine ⟨_, 79, false, rfl, rfl, eg, ?_⟩
                rw [if_neg (by decide)]
                have hcc := hA.const
                clear hA hp
                exact ⟨rfl, hI⟩
              · refine Reg.StepAt.guarded (i := 6) rfl ?_
                intro L ev w hI hk hp hA
                have e80 : (fun v _ => v = undef) (ev (.tmp 80)) w := hA.val 4 _ 80 rfl (hp ⟨4, .data⟩ (by simp) rfl) rfl
                have e81 : (fun v _ => v = undef) (ev (.tmp 81)) w := hA.val 5 _ 81 rfl (hp ⟨5, .data⟩ (by simp) rfl) rfl
                have eg : ev (.tmp 79) = .bool false := hA.val 3 _ 79 rfl (hp ⟨3, .guard⟩ (by simp) rfl) rfl
                refine ⟨_, 79, false, rfl, rfl, eg, ?_⟩
                rw [if_neg (by decide)]
                have hcc := hA.const
                clear hA hp
                exact ⟨rfl, hI⟩
              · refine Reg.StepAt.guarded (i := 7) rfl ?_
                intro L ev w hI hk hp hA
                have e82 : (fun v _ => v = undef) (ev (.tmp 82)) w := hA.val 6 _ 82 rfl (hp ⟨6, .data⟩ (by simp) rfl) rfl
                have eg : ev (.tmp 79) = .bool false := hA.val 3 _ 79 rfl (hp ⟨3, .guard⟩ (by simp) rfl) rfl
                refine ⟨_, 79, false, rfl, rfl, eg, ?_⟩
                rw [if_neg (by decide)]
                have hcc := hA.const
                clear hA hp
                exact ⟨rfl, hI⟩
              · refine Reg.StepAt.guarded (i := 8) rfl ?_
                intro L ev w hI hk hp hA
                have e83 : (fun v _ => v = undef) (ev (.tmp 83)) w := hA.val 7 _ 83 rfl (hp ⟨7, .data⟩ (by simp) rfl) rfl
                have eg : ev (.tmp 79) = .bool false := hA.val 3 _ 79 rfl (hp ⟨3, .guard⟩ (by simp) rfl) rfl
                refine ⟨_, 79, false, rfl, rfl, eg, ?_⟩
                rw [if_neg (by decide)]
                have hcc := hA.const
                clear hA hp
                exact ⟨rfl, hI⟩
              · refine Reg.StepAt.guarded (i := 9) rfl ?_
                intro L ev w hI hk hp hA
                have e4 : ev (.tmp 4) = .pointer (some ⟨xb, 0, none⟩) := hA.oldNone 4 (by kernel_rfl)
                have eg : ev (.tmp 79) = .bool false := hA.val 3 _ 79 rfl (hp ⟨3, .guard⟩ (by simp) rfl) rfl
                refine ⟨_, 79, false, rfl, rfl, eg, ?_⟩
                rw [if_neg (by decide)]
                have hcc := hA.const
                clear hA hp
                exact ⟨rfl, hI⟩
              · refine Reg.StepAt.guarded (i := 10) rfl ?_
                intro L ev w hI hk hp hA
                have e85 : (fun v _ => v = undef) (ev (.tmp 85)) w := hA.val 9 _ 85 rfl (hp ⟨9, .data⟩ (by simp) rfl) rfl
                have eg : ev (.tmp 79) = .bool false := hA.val 3 _ 79 rfl (hp ⟨3, .guard⟩ (by simp) rfl) rfl
                refine ⟨_, 79, false, rfl, rfl, eg, ?_⟩
                rw [if_neg (by decide)]
                have hcc := hA.const
                clear hA hp
                exact ⟨rfl, hI⟩
              · refine Reg.StepAt.guarded (i := 11) rfl ?_
                intro L ev w hI hk hp hA
                have e84 : (fun v _ => v = undef) (ev (.tmp 84)) w := hA.val 8 _ 84 rfl (hp ⟨8, .data⟩ (by simp) rfl) rfl
                have e86 : (fun v _ => v = undef) (ev (.tmp 86)) w := hA.val 10 _ 86 rfl (hp ⟨10, .data⟩ (by simp) rfl) rfl
                have eg : ev (.tmp 79) = .bool false := hA.val 3 _ 79 rfl (hp ⟨3, .guard⟩ (by simp) rfl) rfl
                refine ⟨_, 79, false, rfl, rfl, eg, ?_⟩
                rw [if_neg (by decide)]
                have hcc := hA.const
                clear hA hp
                exact ⟨rfl, hI⟩
              · refine Reg.StepAt.plain (i := 12) rfl ?_
                intro L ev w hI hk hp hA
                have e79 : ev (.tmp 79) = .bool false := hA.val 3 _ 79 rfl (hp ⟨3, .data⟩ (by simp) rfl) rfl
                have e87 : (fun v _ => v = undef) (ev (.tmp 87)) w := hA.val 11 _ 87 rfl (hp ⟨11, .data⟩ (by simp) rfl) rfl
                have hcc := hA.const
                clear hA hp
                refine Reg.out_value (v := .bool false) ?_ ⟨rfl, hrefl _, hI⟩
                go_simp
              intro L act wz hall hI hF
              have g76 : act.eval (.tmp 76) = .pointer (some ⟨xb, 2, none⟩) := hF.val 0 _ 76 rfl (hall 0 (by simp)) rfl
              have g77 : act.eval (.tmp 77) = .int .i64 cf := hF.val 1 _ 77 rfl (hall 1 (by simp)) rfl
              have g78 : act.eval (.tmp 78) = .bool false := hF.val 2 _ 78 rfl (hall 2 (by simp)) rfl
              have g79 : act.eval (.tmp 79) = .bool false := hF.val 3 _ 79 rfl (hall 3 (by simp)) rfl
              have g80 : (fun v _ => v = undef) (act.eval (.tmp 80)) wz := hF.val 4 _ 80 rfl (hall 4 (by simp)) rfl
              have g81 : (fun v _ => v = undef) (act.eval (.tmp 81)) wz := hF.val 5 _ 81 rfl (hall 5 (by simp)) rfl
              have g82 : (fun v _ => v = undef) (act.eval (.tmp 82)) wz := hF.val 6 _ 82 rfl (hall 6 (by simp)) rfl
              have g83 : (fun v _ => v = undef) (act.eval (.tmp 83)) wz := hF.val 7 _ 83 rfl (hall 7 (by simp)) rfl
              have g84 : (fun v _ => v = undef) (act.eval (.tmp 84)) wz := hF.val 8 _ 84 rfl (hall 8 (by simp)) rfl
              have g85 : (fun v _ => v = undef) (act.eval (.tmp 85)) wz := hF.val 9 _ 85 rfl (hall 9 (by simp)) rfl
              have g86 : (fun v _ => v = undef) (act.eval (.tmp 86)) wz := hF.val 10 _ 86 rfl (hall 10 (by simp)) rfl
              have g87 : (fun v _ => v = undef) (act.eval (.tmp 87)) wz := hF.val 11 _ 87 rfl (hall 11 (by simp)) rfl
              have g88 : act.eval (.tmp 88) = .bool false := hF.val 12 _ 88 rfl (hall 12 (by simp)) rfl
              have hact := hF.act [76, 77, 78, 79, 80, 81, 82, 83, 84, 85, 86, 87, 88] (by kernel_rfl)
              clear hF hall
              simp only [List.foldl_cons, List.foldl_nil] at hact
              rw [g76, g77, g78, g79, g88] at hact
              clear g76 g77 g78 g79 g88
              generalize act.eval (.tmp 80) = u80 at hact g80
              generalize act.eval (.tmp 81) = u81 at hact g81
              generalize act.eval (.tmp 82) = u82 at hact g82
              generalize act.eval (.tmp 83) = u83 at hact g83
              generalize act.eval (.tmp 84) = u84 at hact g84
              generalize act.eval (.tmp 85) = u85 at hact g85
              generalize act.eval (.tmp 86) = u86 at hact g86
              generalize act.eval (.tmp 87) = u87 at hact g87
              simp only [List.setIfInBounds_toArray, List.set_cons_succ, List.set_cons_zero] at hact
              subst hact
              have HZ2 := hidq (show Below wr.heap.size wr wz from HZ.out.trans ((show Below w8.heap.size w8 wz from hI).mono HZ.out.size))
              clear hI t2 t3
              go_wp2_with fail
            rotate_left
            focus
              have t2 : (cf == -1) = false := by simpa using hf2
              have t3 : (cf != -1) = true := by simpa using hf2
              obtain ⟨q, hq⟩ : ∃ q, (df == cf) = q := ⟨_, rfl⟩
              have HF2B := hidq (And.intro hf2 hq)
              clear hf2
              have hrefl : ∀ w : World, Reg.Keeps w w := Reg.Keeps.refl
              refine Reg.wp_region_props (Reg.ofList (rc15tR g xb n cap j cf df q)) Reg.Keeps (fun _ w => Reg.Keeps w8 w) (by kernel_rfl) (by kernel_rfl) (Reg.AllKept.at _ (rc15tR_kept g xb n cap j cf df q)) hrefl (Reg.Keeps.drewN (Reg.Keeps.refl _) 1) ⟨?_, ?_, ?_, ?_, ?_, ?_, ?_, ?_, ?_, ?_, ?_, ?_, ?_, trivial⟩ ?_
              · refine Reg.StepAt.plain (i := 0) rfl ?_
                intro L ev w hI hk hp hA
                have e4 : ev (.tmp 4) = .pointer (some ⟨xb, 0, none⟩) := hA.oldNone 4 (by kernel_rfl)
                have hcc := hA.const
                clear hA hp
                refine Reg.out_value (v := .pointer (some ⟨xb, 2, none⟩)) ?_ ⟨rfl, hrefl _, hI⟩
                go_simp
              · refine Reg.StepAt.plain (i := 1) rfl ?_
                intro L ev w hI hk hp hA
                have e76 : ev (.tmp 76) = .pointer (some ⟨xb, 2, none⟩) := hA.val 0 _ 76 rfl (hp ⟨0, .data⟩ (by simp) rfl) rfl
                have hcc := hA.const
                clear hA hp
                obtain ⟨p0, p1, p2, p3, p4, p5, p6, p7⟩ := FC.out w hI
                refine Reg.out_value (v := .int .i64 cf) ?_ ⟨rfl, hrefl _, hI⟩
                go_simp
              · refine Reg.StepAt.plain (i := 2) rfl ?_
                intro L ev w hI hk hp hA
                have e77 : ev (.tmp 77) = .int .i64 cf := hA.val 1 _ 77 rfl (hp ⟨1, .data⟩ (by simp) rfl) rfl
                have hcc := hA.const
                clear hA hp
                refine Reg.out_value (v := .bool true) ?_ ⟨rfl, hrefl _, hI⟩
                go_simp
              · refine Reg.StepAt.plain (i := 3) rfl ?_
                intro L ev w hI hk hp hA
                have e78 : ev (.tmp 78) = .bool true := hA.val 2 _ 78 rfl (hp ⟨2, .data⟩ (by simp) rfl) rfl
                have hcc := hA.const
                clear hA hp
                refine Reg.out_value (v := .bool true) ?_ ⟨rfl, hrefl _, hI⟩
                go_simp
              · refine Reg.StepAt.guarded (i := 4) rfl ?_
                intro L ev w hI hk hp hA
                have e0 : ev (.tmp 0) = .slice (some ⟨g, 0, none⟩) n cap := hA.oldNone 0 (by kernel_rfl)
                have eg : ev (.tmp 79) = .bool true := hA.val 3 _ 79 rfl (hp ⟨3, .guard⟩ (by simp) rfl) rfl
                refine ⟨_, 79, true, rfl, rfl, eg, ?_⟩
                rw [if_pos rfl]
                have hcc := hA.const
                clear hA hp
                refine Reg.out_value (v := .slice (some ⟨g, 0, none⟩) n cap) ?_ ⟨rfl, hrefl _, hI⟩
                go_simp
              · refine Reg.StepAt.guarded (i := 5) rfl ?_
                intro L ev w hI hk hp hA
                have e5 : ev (.tmp 5) = .int .i64 (j : Int) := hA.oldNone 5 (by kernel_rfl)
                have eg : ev (.tmp 79) = .bool true := hA.val 3 _ 79 rfl (hp ⟨3, .guard⟩ (by simp) rfl) rfl
                refine ⟨_, 79, true, rfl, rfl, eg, ?_⟩
                rw [if_pos rfl]
                have hcc := hA.const
                clear hA hp
                refine Reg.out_value (v := .int .i64 (j : Int)) ?_ ⟨rfl, hrefl _, hI⟩
                go_simp
              · refine Reg.StepAt.guarded (i := 6) rfl ?_
                intro L ev w hI hk hp hA
                have e80 : ev (.tmp 80) = .slice (some ⟨g, 0, none⟩) n cap := hA.val 4 _ 80 rfl (hp ⟨4, .data⟩ (by simp) rfl) rfl
                have e81 : ev (.tmp 81) = .int .i64 (j : Int) := hA.val 5 _ 81 rfl (hp ⟨5, .data⟩ (by simp) rfl) rfl
                have eg : ev (.tmp 79) = .bool true := hA.val 3 _ 79 rfl (hp ⟨3, .guard⟩ (by simp) rfl) rfl
                refine ⟨_, 79, true, rfl, rfl, eg, ?_⟩
                rw [if_pos rfl]
                have hcc := hA.const
                clear hA hp
                refine Reg.out_value (v := .pointer (some ⟨g, j * 3, none⟩)) ?_ ⟨rfl, hrefl _, hI⟩
                go_simp
              · refine Reg.StepAt.guarded (i := 7) rfl ?_
                intro L ev w hI hk hp hA
                have e82 : ev (.tmp 82) = .pointer (some ⟨g, j * 3, none⟩) := hA.val 6 _ 82 rfl (hp ⟨6, .data⟩ (by simp) rfl) rfl
                have eg : ev (.tmp 79) = .bool true := hA.val 3 _ 79 rfl (hp ⟨3, .guard⟩ (by simp) rfl) rfl
                refine ⟨_, 79, true, rfl, rfl, eg, ?_⟩
                rw [if_pos rfl]
                have hcc := hA.const
                clear hA hp
                refine Reg.out_value (v := .pointer (some ⟨g, j * 3 + 2, none⟩)) ?_ ⟨rfl, hrefl _, hI⟩
                go_simp
              · refine Reg.StepAt.guarded (i := 8) rfl ?_
                intro L ev w hI hk hp hA
                have e83 : ev (.tmp 83) = .pointer (some ⟨g, j * 3 + 2, none⟩) := hA.val 7 _ 83 rfl (hp ⟨7, .data⟩ (by simp) rfl) rfl
                have eg : ev (.tmp 79) = .bool true := hA.val 3 _ 79 rfl (hp ⟨3, .guard⟩ (by simp) rfl) rfl
                refine ⟨_, 79, true, rfl, rfl, eg, ?_⟩
                rw [if_pos rfl]
                have hcc := hA.const
                clear hA hp
                obtain ⟨p0, p1, p2, p3, p4, p5, p6, p7⟩ := FC.out w hI
                refine Reg.out_value (v := .int .i64 df) ?_ ⟨rfl, hrefl _, hI⟩
                go_simp
              · refine Reg.StepAt.guarded (i := 9) rfl ?_
                intro L ev w hI hk hp hA
                have e4 : ev (.tmp 4) = .pointer (some ⟨xb, 0, none⟩) := hA.oldNone 4 (by kernel_rfl)
                have eg : ev (.tmp 79) = .bool true := hA.val 3 _ 79 rfl (hp ⟨3, .guard⟩ (by simp) rfl) rfl
                refine ⟨_, 79, true, rfl, rfl, eg, ?_⟩
                rw [if_pos rfl]
                have hcc := hA.const
                clear hA hp
                refine Reg.out_value (v := .pointer (some ⟨xb, 2, none⟩)) ?_ ⟨rfl, hrefl _, hI⟩
                go_simp
              · refine Reg.StepAt.guarded (i := 10) rfl ?_
                intro L ev w hI hk hp hA
                have e85 : ev (.tmp 85) = .pointer (some ⟨xb, 2, none⟩) := hA.val 9 _ 85 rfl (hp ⟨9, .data⟩ (by simp) rfl) rfl
                have eg : ev (.tmp 79) = .bool true := hA.val 3 _ 79 rfl (hp ⟨3, .guard⟩ (by simp) rfl) rfl
                refine ⟨_, 79, true, rfl, rfl, eg, ?_⟩
                rw [if_pos rfl]
                have hcc := hA.const
                clear hA hp
                obtain ⟨p0, p1, p2, p3, p4, p5, p6, p7⟩ := FC.out w hI
                refine Reg.out_value (v := .int .i64 cf) ?_ ⟨rfl, hrefl _, hI⟩
                go_simp
              · refine Reg.StepAt.guarded (i := 11) rfl ?_
                intro L ev w hI hk hp hA
                have e84 : ev (.tmp 84) = .int .i64 df := hA.val 8 _ 84 rfl (hp ⟨8, .data⟩ (by simp) rfl) rfl
                have e86 : ev (.tmp 86) = .int .i64 cf := hA.val 10 _ 86 rfl (hp ⟨10, .data⟩ (by simp) rfl) rfl
                have eg : ev (.tmp 79) = .bool true := hA.val 3 _ 79 rfl (hp ⟨3, .guard⟩ (by simp) rfl) rfl
                refine ⟨_, 79, true, rfl, rfl, eg, ?_⟩
                rw [if_pos rfl]
                have hcc := hA.const
                clear hA hp
                refine Reg.out_value (v := .bool q) ?_ ⟨rfl, hrefl _, hI⟩
                go_simp
              · refine Reg.StepAt.plain (i := 12) rfl ?_
                intro L ev w hI hk hp hA
                have e79 : ev (.tmp 79) = .bool true := hA.val 3 _ 79 rfl (hp ⟨3, .data⟩ (by simp) rfl) rfl
                have e87 : ev (.tmp 87) = .bool q := hA.val 11 _ 87 rfl (hp ⟨11, .data⟩ (by simp) rfl) rfl
                have hcc := hA.const
                clear hA hp
                refine Reg.out_value (v := .bool q) ?_ ⟨rfl, hrefl _, hI⟩
                go_simp
              intro L act wz hall hI hF
              have g76 : act.eval (.tmp 76) = .pointer (some ⟨xb, 2, none⟩) := hF.val 0 _ 76 rfl (hall 0 (by simp)) rfl
              have g77 : act.eval (.tmp 77) = .int .i64 cf := hF.val 1 _ 77 rfl (hall 1 (by simp)) rfl
              have g78 : act.eval (.tmp 78) = .bool true := hF.val 2 _ 78 rfl (hall 2 (by simp)) rfl
              have g79 : act.eval (.tmp 79) = .bool true := hF.val 3 _ 79 rfl (hall 3 (by simp)) rfl
              have g80 : act.eval (.tmp 80) = .slice (some ⟨g, 0, none⟩) n cap := hF.val 4 _ 80 rfl (hall 4 (by simp)) rfl
              have g81 : act.eval (.tmp 81) = .int .i64 (j : Int) := hF.val 5 _ 81 rfl (hall 5 (by simp)) rfl
              have g82 : act.eval (.tmp 82) = .pointer (some ⟨g, j * 3, none⟩) := hF.val 6 _ 82 rfl (hall 6 (by simp)) rfl
              have g83 : act.eval (.tmp 83) = .pointer (some ⟨g, j * 3 + 2, none⟩) := hF.val 7 _ 83 rfl (hall 7 (by simp)) rfl
              have g84 : act.eval (.tmp 84) = .int .i64 df := hF.val 8 _ 84 rfl (hall 8 (by simp)) rfl
              have g85 : act.eval (.tmp 85) = .pointer (some ⟨xb, 2, none⟩) := hF.val 9 _ 85 rfl (hall 9 (by simp)) rfl
              have g86 : act.eval (.tmp 86) = .int .i64 cf := hF.val 10 _ 86 rfl (hall 10 (by simp)) rfl
              have g87 : act.eval (.tmp 87) = .bool q := hF.val 11 _ 87 rfl (hall 11 (by simp)) rfl
              have g88 : act.eval (.tmp 88) = .bool q := hF.val 12 _ 88 rfl (hall 12 (by simp)) rfl
              have hact := hF.act [76, 77, 78, 79, 80, 81, 82, 83, 84, 85, 86, 87, 88] (by kernel_rfl)
              clear hF hall
              simp only [List.foldl_cons, List.foldl_nil] at hact
              rw [g76, g77, g78, g79, g80, g81, g82, g83, g84, g85, g86, g87, g88] at hact
              clear g76 g77 g78 g79 g80 g81 g82 g83 g84 g85 g86 g87 g88
              simp only [List.setIfInBounds_toArray, List.set_cons_succ, List.set_cons_zero] at hact
              subst hact
              have HZ2 := hidq (show Below wr.heap.size wr wz from HZ.out.trans ((show Below w8.heap.size w8 wz from hI).mono HZ.out.size))
              clear hI t2 t3 hq
              have hqq : q = true ∨ q = false := by cases q <;> simp
              rcases hqq with rfl | rfl
              · have HE := hidq (show res = 14 ∧ Below w.heap.size w wz from ⟨HNO.out j d hjl HD.out (HRB.out.2 (.inr ⟨HF2B.out.1, by simpa using HF2B.out.2⟩)), (HLOW.out.trans (hY.out.2.mono HLOW.out.size)).trans (HZ2.out.mono (HLOW.out.trans (hY.out.2.mono HLOW.out.size)).size)⟩)
                clear HNO HYES
                go_wp2_with fail
                go_ret
                exact ⟨by rw [HE.out.1]; rfl, HE.out.2⟩
              have HB15 := hidq (show ¬ (¬ cf = -1 ∧ df = cf) from fun e => by have := HF2B.out.2; rw [e.2] at this; simp at this)
              go_wp2_with fail
            all_goals
              have HE := hidq (show (∀ (q : Nat) (d : Cl), q < j + 1 → LC[q]? = some d → ¬ rbad c d) ∧ Below W1.heap.size W1 wz from by
                obtain ⟨y1, y2⟩ := hY.out
                refine ⟨fun q d' hq hd' => ?_, y2.trans (HZ2.out.mono y2.size)⟩
                by_cases e : q = j
                · subst e
                  rw [HD.out] at hd'
                  cases hd'
                  intro hr
                  rcases HRB.out.1 hr with e | e
                  · exact HA.out e
                  · exact HB15.out e
                · exact y1 q d' (by omega) hd')
              go_roundw
              case rel => exact ⟨j + 1, by go_num, by omega, HE⟩
              case measure => simp [intOf]; omega
end Go.Proofs.Ytepigofpcjmddaa

namespace Go.Proofs.Ytepigofpcjmddaa
open Go.RowKit

theorem lgr3_any (k p : Int) (w : World) (hk : 1 ≤ k ∧ k ≤ 3) : Calls Try.prog 33 #[.int .i64 k, .int .i64 p] w fun e w' => e = .returned (.int .i64 (legal k p)) ∧ w' = w := by
  have hk1 : decide (k < 1) = false := decide_eq_false (by omega)
  have hk2 : decide (4 < k) = false := decide_eq_false (by omega)
  have hk4 : (k == 4) = false := by simp; omega
  by_cases hp : p < 1
  · rw [legal_par (by omega) (by omega)]
    clear hk
    go_enter Try.func33, Try.ntmps33
    go_wp2
    go_ret
    exact ⟨rfl, rfl⟩
  · have hp1 : decide (p < 1) = false := decide_eq_false hp
    by_cases hq : 16 < p
    · rw [legal_par (by omega) (by omega)]
      clear hk hp
      go_enter Try.func33, Try.ntmps33
      go_wp2
      go_ret
      exact ⟨rfl, rfl⟩
    · have hq1 : decide (16 < p) = false := decide_eq_false hq
      rw [legal_ok (by omega) (by omega) (by omega)]
      clear hk hp hq
      go_enter Try.func33, Try.ntmps33
      go_wp2
      go_ret
      exact ⟨rfl, rfl⟩
theorem lgr4_any (p : Int) (w : World) : Calls Try.prog 33 #[.int .i64 4, .int .i64 p] w fun e w' => e = .returned (.int .i64 (legal 4 p)) ∧ w' = w := by
  by_cases h : 1 ≤ p ∧ p ≤ 16
  · have h16 : p = 1 ∨ p = 2 ∨ p = 3 ∨ p = 4 ∨ p = 5 ∨ p = 6 ∨ p = 7 ∨ p = 8 ∨ p = 9 ∨ p = 10 ∨ p = 11 ∨ p = 12 ∨ p = 13 ∨ p = 14 ∨ p = 15 ∨ p = 16 := by omega
    rcases h16 with rfl | rfl | rfl | rfl | rfl | rfl | rfl | rfl | rfl | rfl | rfl | rfl | rfl | rfl | rfl | rfl
    all_goals
      first
        | rw [show legal 4 _ = 0 from by decide]
        | rw [show legal 4 _ = 5 from by decide]
      clear h
      go_enter Try.func33, Try.ntmps33
      go_wp2_with fail
      go_ret
      exact ⟨rfl, rfl⟩
  · rw [legal_par (by decide) h]
    by_cases h1 : p < 1
    · clear h
      go_enter Try.func33, Try.ntmps33
      go_wp2_with fail
      go_ret
      exact ⟨rfl, rfl⟩
    · have h2 : 16 < p := by omega
      have h3 : decide (p < 1) = false := decide_eq_false h1
      clear h h1
      go_enter Try.func33, Try.ntmps33
      go_wp2_with fail
      go_ret
      exact ⟨rfl, rfl⟩
set_option maxRecDepth 20000 in
theorem lgr0_any (k p : Int) (hk : ¬ (1 ≤ k ∧ k ≤ 4)) (w : World) : Calls Try.prog 33 #[.int .i64 k, .int .i64 p] w fun e w' => e = .returned (.int .i64 6) ∧ w' = w := by
  by_cases h1 : k < 1
  · clear hk
    go_enter Try.func33, Try.ntmps33
    go_wp2
    go_ret
    exact ⟨rfl, rfl⟩
  · have h2 : 4 < k := by omega
    have h1' : decide (k < 1) = false := decide_eq_false h1
    clear hk
    go_enter Try.func33, Try.ntmps33
    go_wp2
    go_ret
    exact ⟨rfl, rfl⟩
theorem rlegal6_any (k p : Int) (w : World) : Calls Try.prog 33 #[.int .i64 k, .int .i64 p] w fun e w' => e = .returned (.int .i64 (legal k p)) ∧ w' = w := by
  by_cases hk : 1 ≤ k ∧ k ≤ 4
  · by_cases h3 : k ≤ 3
    · exact lgr3_any k p w ⟨hk.1, h3⟩
    · have : k = 4 := by omega
      subst this
      exact lgr4_any p w
  · rw [legal_kind hk]; exact lgr0_any k p hk w
end Go.Proofs.Ytepigofpcjmddaa

namespace Go.Proofs.Ytepigofpcjmddaa
open Go.RowKit Go.Sort
namespace Gb

/-- What each step leaves: the box, all but the box. -/
def Pres (x : Option Nat) (w : World) (x' : Option Nat) (w' : World) : Prop := (∀ b, x = some b → x' = some b) ∧ But (fun j => x = some j) w w' ∧ ∀ b, x' = some b → x = some b ∨ w.heap.size ≤ b
theorem Pres.refl (x : Option Nat) (w : World) : Pres x w x w := ⟨fun _ h => h, But.refl _ _, fun _ h => .inl h⟩
theorem Pres.below {x : Option Nat} {w w' : World} (h : Below w.heap.size w w') : Pres x w x w' := ⟨fun _ h => h, But.of_below h, fun _ h => .inl h⟩
/-- What lies in no box that is stored into. -/
def Apart (x : Option Nat) (g : Nat) : Prop := ∀ b, x = some b → b ≠ g
theorem Apart.kept {x x' : Option Nat} {w w' : World} {g : Nat} (h : Apart x g) (hp : Pres x w x' w') (hg : g < w.heap.size) : Apart x' g := fun b hb => by
  rcases hp.2.2 b hb with e | e
  · exact h b e
  · omega
structure GI (W1 : World) (Z : List Value) (V : World → Nat → Prop) (iL iS : Nat) (x : Option Nat) (L : Array Bool) (w : World) : Prop where
  bel : Below W1.heap.size W1 w
  no : L.getD iL false = false → x = none
  box : ∀ b, x = some b → W1.heap.size ≤ b ∧ b < w.heap.size ∧ (L.getD iS false = false → BoxAt w b Z) ∧ (L.getD iS false = true → V w b)
section
variable {W1 : World} {Z : List Value} {V : World → Nat → Prop} {iL iS : Nat} {x : Option Nat} {L : Array Bool} {w w' : World}
theorem getD_none (n i : Nat) : (Array.replicate n false).getD i false = false := by
  rw [Array.getD_eq_getD_getElem?, Array.getElem?_replicate]
  split <;> rfl
theorem GI.start (w : World) (Z : List Value) (V : World → Nat → Prop) (iL iS n : Nat) : GI w Z V iL iS none (Array.replicate n false) w.drew :=
  ⟨(Below.refl _ _).drew, fun _ => rfl, fun b hb => by cases hb⟩
theorem GI.quiet (h : GI W1 Z V iL iS x L w) (i : Nat) (h1 : i ≠ iL) (h2 : i ≠ iS) : GI W1 Z V iL iS x (L.setIfInBounds i true) w :=
  ⟨h.bel, by rw [Reg.getD_setb h1]; exact h.no, by rw [Reg.getD_setb h2]; exact h.box⟩
theorem GI.below (hV : ∀ w w' b, Below w.heap.size w w' → b < w.heap.size → V w b → V w' b) (h : GI W1 Z V iL iS x L w) (hb : Below w.heap.size w w') : GI W1 Z V iL iS x L w' :=
  ⟨h.bel.trans (hb.mono h.bel.size), h.no, fun b e => by
    obtain ⟨q1, q2, q3, q4⟩ := h.box b e
    exact ⟨q1, Nat.lt_of_lt_of_le q2 hb.size, fun e => (q3 e).below hb, fun e => hV _ _ _ hb q2 (q4 e)⟩⟩
theorem GI.alloc (h : GI W1 Z V iL iS x L w) (hk : L.getD iL true = false) (hS : L.getD iS false = false) (h1 : iL ≠ iS) (t : TypeId) : Pres x w (some w.heap.size) (w.alloc (.cells Z.toArray t)) ∧ GI W1 Z V iL iS (some w.heap.size) (L.setIfInBounds iL true) (w.alloc (.cells Z.toArray t)) := by
  have hx := h.no (Reg.getD_true hk)
  refine ⟨⟨fun b e => (by rw [hx] at e; cases e), (But.refl _ _).alloc _, fun b e => (by injection e with e; exact .inr (by omega))⟩, h.bel.trans (((Below.refl _ _).alloc (Nat.le_refl _) _).mono h.bel.size), fun e => ?_, fun b e => ?_⟩
  · rw [Reg.getD_sets hk] at e; cases e
  · injection e with e
    subst e
    refine ⟨h.bel.size, by rw [World.size_alloc]; omega, fun _ => BoxAt.new w Z t, fun e => ?_⟩
    rw [Reg.getD_setb h1, hS] at e
    cases e
theorem GI.store (h : GI W1 Z V iL iS x L w) (hk : L.getD iS true = false) (h1 : iS ≠ iL) {b : Nat} (hx : x = some b) (hb : But (fun j => j = b) w w') (hv : V w' b) : Pres x w x w' ∧ GI W1 Z V iL iS x (L.setIfInBounds iS true) w' := by
  obtain ⟨q1, q2, _, _⟩ := h.box b hx
  refine ⟨⟨fun _ e => e, hb.mono (fun j _ e => by rw [hx, e]), fun _ e => .inl e⟩, h.bel.trans (hb.below h.bel.size (fun k e => by omega)), by rw [Reg.getD_setb h1]; exact h.no, fun b' e => ?_⟩
  rw [hx] at e
  injection e with e
  subst e
  refine ⟨q1, Nat.lt_of_lt_of_le q2 hb.size, fun e => ?_, fun _ => hv⟩
  rw [Reg.getD_sets hk] at e
  cases e
end
end Gb
end Go.Proofs.Ytepigofpcjmddaa
