/-
  Layer 12: what a structure holds: contract.
  Layer 12: what a structure holds in whose memory nothing was written: contract.
  Layer 12, the document's values: are two the same: contract; a value told to the document.
-/
import Derived.Test.YtbcmilfajeanbaaSlots12All
import Derived.Test.YtbcmilfajeanbaaWent12All
import Derived.Test.YtbcmilfajeanbaaKit8All
import Derived.Test.YtbcmilfajeanbaaWireQAll
import Derived.Test.YtbcmilfajeanbaaDel12All
namespace Go.Proofs.Ytbcmilfajeanbaa
open Go.RowKit Go.Sort

/-- The items that a structure holds; the number. -/
def vIt (kind param : Int) (M : Mem) : List KI := if kind = 1 then shK M param.toNat else if kind = 2 then slK M else []
def vN (kind param : Int) (M : Mem) : Int := if kind = 3 then totA M 0 param.toNat else if kind = 4 then totA M (nC param.toNat) param.toNat else 0
/-- How Of ends. -/
def OfEnd (kind param : Int) (M : Mem) (w : World) (e : Ending) (w' : World) : Prop :=
  ∃ a cap, e = .returned (.tuple #[.agg #[.int .i64 kind, .slice a (vIt kind param M).length cap, .int .i64 (vN kind param M)], .int .i64 0]) ∧ SlAt 2 w' a cap (vIt kind param M).length (flatI (kit (vIt kind param M))) ∧ (∀ j, inB a j → w.heap.size ≤ j) ∧ Below w.heap.size w w'
theorem three_set {w : World} {b : Nat} {x y z : Value} (h : BoxAt w b [x, y, z]) : (w.cell? ⟨b, 0, none⟩ = some x ∧ w.frozen? ⟨b, 0, none⟩ = false) ∧ (w.cell? ⟨b, 1, none⟩ = some y ∧ w.frozen? ⟨b, 1, none⟩ = false) ∧ (w.cell? ⟨b, 2, none⟩ = some z ∧ w.frozen? ⟨b, 2, none⟩ = false) := ⟨h.get 0 _ rfl, h.get 1 _ rfl, h.get 2 _ rfl⟩

set_option maxRecDepth 20000 in
set_option maxHeartbeats 4000000 in
theorem of1_any (b : Nat) (p : Int) (n : Nat) (l : List Value) (w : World) (hL : legal 1 p = 0) (hC : ∀ W, Below w.heap.size w W → Calls Try.prog 31 #[.pointer (some ⟨b, 0, none⟩), .int .i64 p] W fun e w' => ∃ a cap, e = .returned (.slice a n cap) ∧ SlAt 2 w' a cap n l ∧ (∀ j, inB a j → W.heap.size ≤ j) ∧ Below W.heap.size W w') :
    Calls Try.prog 8 #[.int .i64 1, .int .i64 p, .pointer (some ⟨b, 0, none⟩)] w fun e w' => ∃ a cap, e = .returned (.tuple #[.agg #[.int .i64 1, .slice a n cap, .int .i64 0], .int .i64 0]) ∧ SlAt 2 w' a cap n l ∧ (∀ j, inB a j → w.heap.size ≤ j) ∧ Below w.heap.size w w' := by
  have hG := fun w => legal_any 1 p w
  rw [hL] at hG
  obtain ⟨b0, hb0⟩ : ∃ b0, w.heap.size = b0 := ⟨_, rfl⟩
  have HC := hidq hC
  clear hL hC
  go_enter Try.func8, Try.ntmps8
  go_wp2_with fail
  try rw [hb0]
  have h0 := BoxAt.new w [.int .i64 0, .slice none 0 0, .int .i64 0] 28
  have ha0 := (Below.refl w.heap.size w).alloc (Nat.le_refl _) (.cells #[.int .i64 0, .slice none 0 0, .int .i64 0] 28)
  rw [hb0] at h0
  refine (hG _).mono ?_
  rintro e w1 ⟨rfl, hb1⟩
  have H1 := hidq (show BoxAt w1 b0 [.int .i64 0, .slice none 0 0, .int .i64 0] ∧ Below w.heap.size w w1 from ⟨h0.below hb1, ha0.trans (hb1.mono ha0.size)⟩)
  clear h0 ha0 hb1 hG
  obtain ⟨b1, hb1⟩ : ∃ b1, w1.heap.size = b1 := ⟨_, rfl⟩
  go_wp2_with fail
  try rw [hb1]
  have hx := BoxAt.new w1 [.int .i64 1, .slice none 0 0, .int .i64 0] 28
  have hax := (Below.refl w1.heap.size w1).alloc (Nat.le_refl _) (.cells #[.int .i64 1, .slice none 0 0, .int .i64 0] 28)
  rw [hb1] at hx
  have hall2 : Below w.heap.size w (w1.alloc (.cells #[.int .i64 1, .slice none 0 0, .int .i64 0] 28)) := H1.out.2.trans (hax.mono H1.out.2.size)
  refine (HC.out _ hall2).mono ?_
  rintro e w3 ⟨a, cap, rfl, hS, hA, hb3⟩
  have hX3 := hx.below hb3
  have hR3 := (H1.out.1.below hax).below hb3
  obtain ⟨⟨x0, y0⟩, ⟨x1, y1⟩, ⟨x2, y2⟩⟩ := three_set hX3
  obtain ⟨⟨r0, z0⟩, ⟨r1, z1⟩, ⟨r2, z2⟩⟩ := three_set hR3
  have hxl := hX3.lt
  have hrl := hR3.lt
  have hne : b0 ≠ b1 := by have := H1.out.1.lt; omega
  have hne2 : b1 ≠ b0 := fun e => hne e.symm
  have HE := hidq (And.intro hall2 (And.intro hb3 (And.intro hS hA)))
  have HS := hidq (show w.heap.size ≤ b0 ∧ w.heap.size ≤ b1 ∧ (w1.alloc (.cells #[.int .i64 1, .slice none 0 0, .int .i64 0] 28)).heap.size = b1 + 1 ∧ b0 < b1 from ⟨by omega, by have := H1.out.2.size; omega, by simp [hb1], by have := H1.out.1.lt; omega⟩)
  clear hx hax hall2 hX3 hR3 hS hA hb3 HC H1
  go_wp2_with fail
  refine bodyPost_ret (v := .tuple #[.agg #[.int .i64 1, .slice a n cap, .int .i64 0], .int .i64 0]) (by simp [results, Try.results8, go_sem, r0, r1, r2]) rfl ?_
  obtain ⟨hall2, hb3, hS, hA⟩ := HE.out
  obtain ⟨s0, s1, s2, s3⟩ := HS.out
  have hall := hall2.trans (hb3.mono hall2.size)
  have hB1 : Below w.heap.size w (((((w3.setCell ⟨b1, 1, none⟩ (.slice a n cap)).setCell ⟨b0, 0, none⟩ (.int .i64 1)).setCell ⟨b0, 1, none⟩ (.slice a n cap)).setCell ⟨b0, 2, none⟩ (.int .i64 0))) := (((hall.setCell (p := ⟨b1, 1, none⟩) (by show w.heap.size ≤ b1; omega) _).setCell (p := ⟨b0, 0, none⟩) (by show w.heap.size ≤ b0; omega) _).setCell (p := ⟨b0, 1, none⟩) (by show w.heap.size ≤ b0; omega) _).setCell (p := ⟨b0, 2, none⟩) (by show w.heap.size ≤ b0; omega) _
  refine ⟨a, cap, rfl, ?_, fun j hj => ?_, hB1⟩
  · exact (hS).but (S := fun j => j = b0 ∨ j = b1) (((((But.refl (fun j => j = b0 ∨ j = b1) w3).set1 b1 1 (.inr rfl) (.slice a n cap)).set1 b0 0 (.inl rfl) _).set1 b0 1 (.inl rfl) _).set1 b0 2 (.inl rfl) _) (fun j hj e => by have := hA j hj; omega)
  · have := hA j hj; omega

set_option maxRecDepth 20000 in
set_option maxHeartbeats 4000000 in
theorem of2_any (b : Nat) (p : Int) (n : Nat) (l : List Value) (w : World) (hL : legal 2 p = 0) (hC : ∀ W, Below w.heap.size w W → Calls Try.prog 32 #[.pointer (some ⟨b, 0, none⟩)] W fun e w' => ∃ a cap, e = .returned (.slice a n cap) ∧ SlAt 2 w' a cap n l ∧ (∀ j, inB a j → W.heap.size ≤ j) ∧ Below W.heap.size W w') :
    Calls Try.prog 8 #[.int .i64 2, .int .i64 p, .pointer (some ⟨b, 0, none⟩)] w fun e w' => ∃ a cap, e = .returned (.tuple #[.agg #[.int .i64 2, .slice a n cap, .int .i64 0], .int .i64 0]) ∧ SlAt 2 w' a cap n l ∧ (∀ j, inB a j → w.heap.size ≤ j) ∧ Below w.heap.size w w' := by
  have hG := fun w => legal_any 2 p w
  rw [hL] at hG
  obtain ⟨b0, hb0⟩ : ∃ b0, w.heap.size = b0 := ⟨_, rfl⟩
  have HC := hidq hC
  clear hL hC
  go_enter Try.func8, Try.ntmps8
  go_wp2_with fail
  try rw [hb0]
  have h0 := BoxAt.new w [.int .i64 0, .slice none 0 0, .int .i64 0] 28
  have ha0 := (Below.refl w.heap.size w).alloc (Nat.le_refl _) (.cells #[.int .i64 0, .slice none 0 0, .int .i64 0] 28)
  rw [hb0] at h0
  refine (hG _).mono ?_
  rintro e w1 ⟨rfl, hb1⟩
  have H1 := hidq (show BoxAt w1 b0 [.int .i64 0, .slice none 0 0, .int .i64 0] ∧ Below w.heap.size w w1 from ⟨h0.below hb1, ha0.trans (hb1.mono ha0.size)⟩)
  clear h0 ha0 hb1 hG
  obtain ⟨b1, hb1⟩ : ∃ b1, w1.heap.size = b1 := ⟨_, rfl⟩
  go_wp2_with fail
  try rw [hb1]
  have hx := BoxAt.new w1 [.int .i64 2, .slice none 0 0, .int .i64 0] 28
  have hax := (Below.refl w1.heap.size w1).alloc (Nat.le_refl _) (.cells #[.int .i64 2, .slice none 0 0, .int .i64 0] 28)
  rw [hb1] at hx
  have hall2 : Below w.heap.size w (w1.alloc (.cells #[.int .i64 2, .slice none 0 0, .int .i64 0] 28)) := H1.out.2.trans (hax.mono H1.out.2.size)
  refine (HC.out _ hall2).mono ?_
  rintro e w3 ⟨a, cap, rfl, hS, hA, hb3⟩
  have hX3 := hx.below hb3
  have hR3 := (H1.out.1.below hax).below hb3
  obtain ⟨⟨x0, y0⟩, ⟨x1, y1⟩, ⟨x2, y2⟩⟩ := three_set hX3
  obtain ⟨⟨r0, z0⟩, ⟨r1, z1⟩, ⟨r2, z2⟩⟩ := three_set hR3
  have hxl := hX3.lt
  have hrl := hR3.lt
  have hne : b0 ≠ b1 := by have := H1.out.1.lt; omega
  have hne2 : b1 ≠ b0 := fun e => hne e.symm
  have HE := hidq (And.intro hall2 (And.intro hb3 (And.intro hS hA)))
  have HS := hidq (show w.heap.size ≤ b0 ∧ w.heap.size ≤ b1 ∧ (w1.alloc (.cells #[.int .i64 2, .slice none 0 0, .int .i64 0] 28)).heap.size = b1 + 1 ∧ b0 < b1 from ⟨by omega, by have := H1.out.2.size; omega, by simp [hb1], by have := H1.out.1.lt; omega⟩)
  clear hx hax hall2 hX3 hR3 hS hA hb3 HC H1
  go_wp2_with fail
  refine bodyPost_ret (v := .tuple #[.agg #[.int .i64 2, .slice a n cap, .int .i64 0], .int .i64 0]) (by simp [results, Try.results8, go_sem, r0, r1, r2]) rfl ?_
  obtain ⟨hall2, hb3, hS, hA⟩ := HE.out
  obtain ⟨s0, s1, s2, s3⟩ := HS.out
  have hall := hall2.trans (hb3.mono hall2.size)
  have hB1 : Below w.heap.size w (((((w3.setCell ⟨b1, 1, none⟩ (.slice a n cap)).setCell ⟨b0, 0, none⟩ (.int .i64 2)).setCell ⟨b0, 1, none⟩ (.slice a n cap)).setCell ⟨b0, 2, none⟩ (.int .i64 0))) := (((hall.setCell (p := ⟨b1, 1, none⟩) (by show w.heap.size ≤ b1; omega) _).setCell (p := ⟨b0, 0, none⟩) (by show w.heap.size ≤ b0; omega) _).setCell (p := ⟨b0, 1, none⟩) (by show w.heap.size ≤ b0; omega) _).setCell (p := ⟨b0, 2, none⟩) (by show w.heap.size ≤ b0; omega) _
  refine ⟨a, cap, rfl, ?_, fun j hj => ?_, hB1⟩
  · exact (hS).but (S := fun j => j = b0 ∨ j = b1) (((((But.refl (fun j => j = b0 ∨ j = b1) w3).set1 b1 1 (.inr rfl) (.slice a n cap)).set1 b0 0 (.inl rfl) _).set1 b0 1 (.inl rfl) _).set1 b0 2 (.inl rfl) _) (fun j hj e => by have := hA j hj; omega)
  · have := hA j hj; omega

set_option maxRecDepth 20000 in
set_option maxHeartbeats 4000000 in
theorem of3_any (b : Nat) (p : Int) (N : Int) (w : World) (hL : legal 3 p = 0) (hC : ∀ W, Below w.heap.size w W → Calls Try.prog 33 #[.pointer (some ⟨b, 0, none⟩), .int .i64 0, .int .i64 p] W fun e w' => e = .returned (.int .i64 N) ∧ Below W.heap.size W w') :
    Calls Try.prog 8 #[.int .i64 3, .int .i64 p, .pointer (some ⟨b, 0, none⟩)] w fun e w' => e = .returned (.tuple #[.agg #[.int .i64 3, .slice none 0 0, .int .i64 N], .int .i64 0]) ∧ Below w.heap.size w w' := by
  have hG := fun w => legal_any 3 p w
  rw [hL] at hG
  obtain ⟨b0, hb0⟩ : ∃ b0, w.heap.size = b0 := ⟨_, rfl⟩
  have HC := hidq hC
  clear hL hC
  go_enter Try.func8, Try.ntmps8
  go_wp2_with fail
  try rw [hb0]
  have h0 := BoxAt.new w [.int .i64 0, .slice none 0 0, .int .i64 0] 28
  have ha0 := (Below.refl w.heap.size w).alloc (Nat.le_refl _) (.cells #[.int .i64 0, .slice none 0 0, .int .i64 0] 28)
  rw [hb0] at h0
  refine (hG _).mono ?_
  rintro e w1 ⟨rfl, hb1⟩
  have H1 := hidq (show BoxAt w1 b0 [.int .i64 0, .slice none 0 0, .int .i64 0] ∧ Below w.heap.size w w1 from ⟨h0.below hb1, ha0.trans (hb1.mono ha0.size)⟩)
  clear h0 ha0 hb1 hG
  obtain ⟨b1, hb1⟩ : ∃ b1, w1.heap.size = b1 := ⟨_, rfl⟩
  go_wp2_with fail
  try rw [hb1]
  have hx := BoxAt.new w1 [.int .i64 3, .slice none 0 0, .int .i64 0] 28
  have hax := (Below.refl w1.heap.size w1).alloc (Nat.le_refl _) (.cells #[.int .i64 3, .slice none 0 0, .int .i64 0] 28)
  rw [hb1] at hx
  have hall2 : Below w.heap.size w (w1.alloc (.cells #[.int .i64 3, .slice none 0 0, .int .i64 0] 28)) := H1.out.2.trans (hax.mono H1.out.2.size)
  refine (HC.out _ hall2).mono ?_
  rintro e w3 ⟨rfl, hb3⟩
  have hX3 := hx.below hb3
  have hR3 := (H1.out.1.below hax).below hb3
  obtain ⟨⟨x0, y0⟩, ⟨x1, y1⟩, ⟨x2, y2⟩⟩ := three_set hX3
  obtain ⟨⟨r0, z0⟩, ⟨r1, z1⟩, ⟨r2, z2⟩⟩ := three_set hR3
  have hxl := hX3.lt
  have hrl := hR3.lt
  have hne : b0 ≠ b1 := by have := H1.out.1.lt; omega
  have hne2 : b1 ≠ b0 := fun e => hne e.symm
  have HE := hidq (And.intro hall2 (And.intro hb3 trivial))
  have HS := hidq (show w.heap.size ≤ b0 ∧ w.heap.size ≤ b1 ∧ (w1.alloc (.cells #[.int .i64 3, .slice none 0 0, .int .i64 0] 28)).heap.size = b1 + 1 ∧ b0 < b1 from ⟨by omega, by have := H1.out.2.size; omega, by simp [hb1], by have := H1.out.1.lt; omega⟩)
  clear hx hax hall2 hX3 hR3 hb3 HC H1
  go_wp2_with fail
  refine bodyPost_ret (v := .tuple #[.agg #[.int .i64 3, .slice none 0 0, .int .i64 N], .int .i64 0]) (by simp [results, Try.results8, go_sem, r0, r1, r2]) rfl ?_
  obtain ⟨hall2, hb3, _⟩ := HE.out
  obtain ⟨s0, s1, s2, s3⟩ := HS.out
  have hall := hall2.trans (hb3.mono hall2.size)
  have hB1 : Below w.heap.size w (((((w3.setCell ⟨b1, 2, none⟩ (.int .i64 N)).setCell ⟨b0, 0, none⟩ (.int .i64 3)).setCell ⟨b0, 1, none⟩ (.slice none 0 0)).setCell ⟨b0, 2, none⟩ (.int .i64 N))) := (((hall.setCell (p := ⟨b1, 2, none⟩) (by show w.heap.size ≤ b1; omega) _).setCell (p := ⟨b0, 0, none⟩) (by show w.heap.size ≤ b0; omega) _).setCell (p := ⟨b0, 1, none⟩) (by show w.heap.size ≤ b0; omega) _).setCell (p := ⟨b0, 2, none⟩) (by show w.heap.size ≤ b0; omega) _
  exact ⟨rfl, hB1⟩

set_option maxRecDepth 20000 in
set_option maxHeartbeats 4000000 in
theorem of4_any (b : Nat) (p : Int) (N : Int) (w : World) (hL : legal 4 p = 0) (hC : ∀ W, Below w.heap.size w W → Calls Try.prog 34 #[.pointer (some ⟨b, 0, none⟩), .int .i64 p] W fun e w' => e = .returned (.int .i64 N) ∧ Below W.heap.size W w') :
    Calls Try.prog 8 #[.int .i64 4, .int .i64 p, .pointer (some ⟨b, 0, none⟩)] w fun e w' => e = .returned (.tuple #[.agg #[.int .i64 4, .slice none 0 0, .int .i64 N], .int .i64 0]) ∧ Below w.heap.size w w' := by
  have hG := fun w => legal_any 4 p w
  rw [hL] at hG
  obtain ⟨b0, hb0⟩ : ∃ b0, w.heap.size = b0 := ⟨_, rfl⟩
  have HC := hidq hC
  clear hL hC
  go_enter Try.func8, Try.ntmps8
  go_wp2_with fail
  try rw [hb0]
  have h0 := BoxAt.new w [.int .i64 0, .slice none 0 0, .int .i64 0] 28
  have ha0 := (Below.refl w.heap.size w).alloc (Nat.le_refl _) (.cells #[.int .i64 0, .slice none 0 0, .int .i64 0] 28)
  rw [hb0] at h0
  refine (hG _).mono ?_
  rintro e w1 ⟨rfl, hb1⟩
  have H1 := hidq (show BoxAt w1 b0 [.int .i64 0, .slice none 0 0, .int .i64 0] ∧ Below w.heap.size w w1 from ⟨h0.below hb1, ha0.trans (hb1.mono ha0.size)⟩)
  clear h0 ha0 hb1 hG
  obtain ⟨b1, hb1⟩ : ∃ b1, w1.heap.size = b1 := ⟨_, rfl⟩
  go_wp2_with fail
  try rw [hb1]
  have hx := BoxAt.new w1 [.int .i64 4, .slice none 0 0, .int .i64 0] 28
  have hax := (Below.refl w1.heap.size w1).alloc (Nat.le_refl _) (.cells #[.int .i64 4, .slice none 0 0, .int .i64 0] 28)
  rw [hb1] at hx
  have hall2 : Below w.heap.size w (w1.alloc (.cells #[.int .i64 4, .slice none 0 0, .int .i64 0] 28)) := H1.out.2.trans (hax.mono H1.out.2.size)
  refine (HC.out _ hall2).mono ?_
  rintro e w3 ⟨rfl, hb3⟩
  have hX3 := hx.below hb3
  have hR3 := (H1.out.1.below hax).below hb3
  obtain ⟨⟨x0, y0⟩, ⟨x1, y1⟩, ⟨x2, y2⟩⟩ := three_set hX3
  obtain ⟨⟨r0, z0⟩, ⟨r1, z1⟩, ⟨r2, z2⟩⟩ := three_set hR3
  have hxl := hX3.lt
  have hrl := hR3.lt
  have hne : b0 ≠ b1 := by have := H1.out.1.lt; omega
  have hne2 : b1 ≠ b0 := fun e => hne e.symm
  have HE := hidq (And.intro hall2 (And.intro hb3 trivial))
  have HS := hidq (show w.heap.size ≤ b0 ∧ w.heap.size ≤ b1 ∧ (w1.alloc (.cells #[.int .i64 4, .slice none 0 0, .int .i64 0] 28)).heap.size = b1 + 1 ∧ b0 < b1 from ⟨by omega, by have := H1.out.2.size; omega, by simp [hb1], by have := H1.out.1.lt; omega⟩)
  clear hx hax hall2 hX3 hR3 hb3 HC H1
  go_wp2_with fail
  refine bodyPost_ret (v := .tuple #[.agg #[.int .i64 4, .slice none 0 0, .int .i64 N], .int .i64 0]) (by simp [results, Try.results8, go_sem, r0, r1, r2]) rfl ?_
  obtain ⟨hall2, hb3, _⟩ := HE.out
  obtain ⟨s0, s1, s2, s3⟩ := HS.out
  have hall := hall2.trans (hb3.mono hall2.size)
  have hB1 : Below w.heap.size w (((((w3.setCell ⟨b1, 2, none⟩ (.int .i64 N)).setCell ⟨b0, 0, none⟩ (.int .i64 4)).setCell ⟨b0, 1, none⟩ (.slice none 0 0)).setCell ⟨b0, 2, none⟩ (.int .i64 N))) := (((hall.setCell (p := ⟨b1, 2, none⟩) (by show w.heap.size ≤ b1; omega) _).setCell (p := ⟨b0, 0, none⟩) (by show w.heap.size ≤ b0; omega) _).setCell (p := ⟨b0, 1, none⟩) (by show w.heap.size ≤ b0; omega) _).setCell (p := ⟨b0, 2, none⟩) (by show w.heap.size ≤ b0; omega) _
  exact ⟨rfl, hB1⟩
end Go.Proofs.Ytbcmilfajeanbaa

namespace Go.Proofs.Ytbcmilfajeanbaa
open Go.RowKit Go.Sort

theorem ofnew_any (kind param : Int) (b : Nat) (O : Nat → Prop) (w : World) (hL : legal kind param = 0) (h : MemAt w b O Mem.empty) :
    Calls Try.prog 8 #[.int .i64 kind, .int .i64 param, .pointer (some ⟨b, 0, none⟩)] w fun e w' => (∃ a n cap N, e = .returned (.tuple #[.agg #[.int .i64 kind, .slice a n cap, .int .i64 N], .int .i64 0])) ∧ Below w.heap.size w w' := by
  have hp := par_rng hL
  have hk : 1 ≤ kind ∧ kind ≤ 4 := by
    rcases Classical.em (1 ≤ kind ∧ kind ≤ 4) with h | h
    · exact h
    · rw [legal_kind h] at hL; cases hL
  obtain ⟨n, hn⟩ : ∃ n : Nat, param = (n : Int) := ⟨param.toNat, by omega⟩
  rcases (show kind = 1 ∨ kind = 2 ∨ kind = 3 ∨ kind = 4 by omega) with rfl | rfl | rfl | rfl
  · refine (of1_any b param (shK Mem.empty n).length (flatI (kit (shK Mem.empty n))) w hL (fun W hW => ?_)).mono ?_
    · rw [hn]
      exact inShards_any b O Mem.empty n (by omega) W (h.below hW) MOk.empty
    · rintro e w' ⟨a, cap, rfl, _, _, hb⟩
      exact ⟨⟨a, _, cap, 0, rfl⟩, hb⟩
  · have hf : ∀ k, fullK Mem.empty k = [] := fun k => by
      induction k with
      | zero => rfl
      | succ k ih =>
        show fullK Mem.empty k ++ _ = []
        rw [ih, if_neg (fun e => by have e2 : (0 : Int) = 1 := e.2; omega)]
        rfl
    refine (of2_any b param _ _ w hL (fun W hW => inSlots_any b O Mem.empty W (h.below hW) ⟨KM.empty, by rw [hf]; exact List.Pairwise.nil⟩)).mono ?_
    rintro e w' ⟨a, cap, rfl, _, _, hb⟩
    exact ⟨⟨a, _, cap, 0, rfl⟩, hb⟩
  · refine (of3_any b param (totA Mem.empty 0 n) w hL (fun W hW => ?_)).mono ?_
    · rw [hn]
      exact together_any b O Mem.empty 0 n (by omega) (by omega) W (h.below hW)
    · rintro e w' ⟨rfl, hb⟩
      exact ⟨⟨none, 0, 0, _, rfl⟩, hb⟩
  · refine (of4_any b param (totA Mem.empty (nC param.toNat) param.toNat) w hL (fun W hW => wentOut_any b O Mem.empty param hL W (h.below hW))).mono ?_
    rintro e w' ⟨rfl, hb⟩
    exact ⟨⟨none, 0, 0, _, rfl⟩, hb⟩
end Go.Proofs.Ytbcmilfajeanbaa

namespace Go.Proofs.Ytbcmilfajeanbaa
open Go.RowKit Go.Sort

def sameR12 (s : Bool) : Int := if s = true then 0 else -1
abbrev boxR12 (k : Int) (s : Value) (n : Int) : Obj := .cells #[.int .i64 k, s, .int .i64 n] 51
set_option maxHeartbeats 2000000 in
theorem rs1_any (x y : KI) (w : World) : Calls Try.prog 46 #[.agg #[.int .u64 (ni x.b), .int .i64 x.v], .agg #[.int .u64 (ni y.b), .int .i64 y.v]] w fun e w' => e = .returned (.bool (eqK x y)) ∧ Below w.heap.size w w' := by
  have r1 := ni_rng x.ok.1
  have r2 := ni_rng y.ok.1
  have hS := hidq (fun w => rcmp4_any (ni x.b) x.v (ni y.b) y.v w r1.1 r1.2 r2.1 r2.2)
  rw [show nf (ni x.b) = x.b from rfl, show nf (ni y.b) = y.b from rfl] at hS
  have hb0 : Below w.heap.size w ((w.alloc (.cells #[.int .u64 (ni x.b), .int .i64 x.v] 100)).alloc (.cells #[.int .u64 (ni y.b), .int .i64 y.v] 100)) := ((Below.refl _ _).alloc (Nat.le_refl _) _).alloc (by simp) _
  have HB := hidq hb0
  cases he : eqK x y
  · have hb : (cmpN x.b x.v y.b y.v == 0) = false := by unfold eqK at he; simpa using he
    generalize cmpN x.b x.v y.b y.v = c at *
    clear he r1 r2 hb0
    go_enter Try.func46, Try.ntmps46
    go_wp2_with (go_at_call 52; refine (hS.out _).mono ?_; rintro e w1 ⟨rfl, hw⟩; have HW := hidq hw; clear hw)
    go_ret
    exact ⟨rfl, HB.out.trans (HW.out.mono HB.out.size)⟩
  · have hb : cmpN x.b x.v y.b y.v = 0 := by unfold eqK at he; simpa using he
    rw [hb] at hS
    clear he hb r1 r2 hb0
    go_enter Try.func46, Try.ntmps46
    go_wp2_with (go_at_call 52; refine (hS.out _).mono ?_; rintro e w1 ⟨rfl, hw⟩; have HW := hidq hw; clear hw)
    go_ret
    exact ⟨rfl, HB.out.trans (HW.out.mono HB.out.size)⟩

set_option maxHeartbeats 2000000 in
theorem rsame12_any (kx ky x y : Int) (a1 a2 : Option Addr) (c1 c2 n1 n2 : Nat) (L M : List KI) (w : World) (hL : L.length = n1) (hM : M.length = n2) (h1 : SlAt 2 w a1 c1 n1 (flatR L)) (h2 : SlAt 2 w a2 c2 n2 (flatR M)) (hn : n1 ≤ 1000000) :
    Calls Try.prog 15 #[.agg #[.int .i64 kx, .slice a1 n1 c1, .int .i64 x], .agg #[.int .i64 ky, .slice a2 n2 c2, .int .i64 y]] w fun e w' => e = .returned (.int .i64 (sameR12 (sameW kx ky x y L M))) ∧ Below w.heap.size w w' := by
  have hb0 : Below w.heap.size w ((w.alloc (boxR12 kx (.slice a1 n1 c1) x)).alloc (boxR12 ky (.slice a2 n2 c2) y)) := ((Below.refl _ _).alloc (Nat.le_refl _) _).alloc (by simp) _
  by_cases hkk : kx = ky
  case neg =>
    have hv : sameW kx ky x y L M = false := by unfold sameW; simp [hkk]
    rw [hv]
    have hbx : (kx != ky) = true := by simpa using hkk
    clear h1 h2 hL hM hv hkk
    go_enter Try.func15, Try.ntmps15
    go_wp2
    go_ret
    exact ⟨rfl, hb0⟩
  subst hkk
  by_cases hxy : x = y
  · subst hxy
    have hv : sameW kx kx x x L M = sameK L M := by unfold sameW; simp
    rw [hv]
    by_cases hnn : n1 = n2
    · subst hnn
      have hn1 : (n1 : Int) ≤ 1000000 := by omega
      have hle1 := h1.le
      have hle2 := h2.le
      have HL := hidq hL
      have HM := hidq hM
      clear hL hM hv
      go_enter Try.func15, Try.ntmps15
      go_wp2_with fail
      obtain ⟨W1, hW1⟩ : ∃ W1, (w.alloc (boxR12 kx (.slice a1 n1 c1) x)).alloc (boxR12 kx (.slice a2 n1 c2) x) = W1 := ⟨_, rfl⟩
      have hbx : W1.cell? ⟨w.heap.size, 1, none⟩ = some (.slice a1 n1 c1) ∧ W1.cell? ⟨w.heap.size + 1, 1, none⟩ = some (.slice a2 n1 c2) := by
        have s1 : (w.alloc (boxR12 kx (.slice a1 n1 c1) x)).heap.size = w.heap.size + 1 := World.size_alloc _ _
        have b1 : But (fun _ => False) (w.alloc (boxR12 kx (.slice a1 n1 c1) x)) W1 := by rw [← hW1]; exact (But.refl _ _).alloc _
        refine ⟨?_, ?_⟩
        · rw [b1.cell (p := ⟨w.heap.size, 1, none⟩) (by rw [s1]; exact Nat.lt_succ_self _) id]; exact (World.cell?_alloc_new _ _ _ 1).trans rfl
        · rw [← hW1, ← s1]; exact (World.cell?_alloc_new _ _ _ 1).trans rfl
      have hz : W1.heap.size = w.heap.size + 2 := by rw [← hW1]; simp
      rw [hW1] at hb0
      try rw [hW1]
      clear hW1
      go_loopw [30] (fun c wr => ∃ (k : Nat), c = .int .i64 (k : Int) ∧ k ≤ n1 ∧ Below W1.heap.size W1 wr ∧ ∀ j, j < k → eqK L[j]! M[j]! = true) (fun c _ => n1 - (intOf c).toNat)
      case atStart => exact ⟨0, rfl, Nat.zero_le _, Below.refl _ _, fun j hj => absurd hj (Nat.not_lt_zero _)⟩
      case round =>
        obtain ⟨k, rfl, hk, hB, hall⟩ := hrel
        have hBw : Below w.heap.size w wr := hb0.trans (hB.mono hb0.size)
        have y0 := (hB.cell (p := ⟨w.heap.size, 1, none⟩) (by show w.heap.size < _; omega)).trans hbx.1
        have y1 := (hB.cell (p := ⟨w.heap.size + 1, 1, none⟩) (by show w.heap.size + 1 < _; omega)).trans hbx.2
        by_cases hlt : k < n1
        · obtain ⟨g1, rfl, hl1, e0, e1⟩ := h1.itemR HL.out hlt
          obtain ⟨g2, rfl, hl2, f0, f1⟩ := h2.itemR HM.out hlt
          have e0' := (hBw.cell (p := ⟨g1, k * 2, none⟩) hl1).trans e0
          have e1' := (hBw.cell (p := ⟨g1, k * 2 + 1, none⟩) hl1).trans e1
          have f0' := (hBw.cell (p := ⟨g2, k * 2, none⟩) hl2).trans f0
          have f1' := (hBw.cell (p := ⟨g2, k * 2 + 1, none⟩) hl2).trans f1
          have k1 : (k : Int) < (n1 : Int) := by omega
          have hS := hidq (fun w => rs1_any L[k]! M[k]! w)
          have FC := hidq (fun W (hW : But (fun _ => False) wr W) => (show W.cell? ⟨w.heap.size, 1, none⟩ = some (.slice (some ⟨g1, 0, none⟩) n1 c1) ∧ W.cell? ⟨w.heap.size + 1, 1, none⟩ = some (.slice (some ⟨g2, 0, none⟩) n1 c2) from
            ⟨(hW.cell (p := ⟨w.heap.size, 1, none⟩) (by show w.heap.size < _; have := hB.size; omega) id).trans y0, (hW.cell (p := ⟨w.heap.size + 1, 1, none⟩) (by show w.heap.size + 1 < _; have := hB.size; omega) id).trans y1⟩))
          have HZ := hidq hz
          cases hq : eqK L[k]! M[k]!
          · have hF : sameK L M = false := decide_eq_false (fun e => by have := e.2 k (by have := HL.out; omega); rw [hq] at this; cases this)
            have HF := hidq hF
            rw [hq] at hS
            clear hall hF e0 e1 f0 f1 hq hz
            generalize L[k]! = p at *
            generalize M[k]! = q at *
            go_wp2
            go_region_with (go_at_call 46; refine (hS.out _).mono ?_; rintro e w3 ⟨rfl, hb3⟩)
            all_goals go_wp2
            all_goals go_ret
            all_goals exact ⟨by rw [HF.out]; rfl, hBw.trans ((((But.refl (fun _ => False) wr).drew).trans (But.of_below hb3)).below hBw.size (fun _ e => e.elim))⟩
          · have hnx : ∀ j, j < k + 1 → eqK L[j]! M[j]! = true := fun j hj => by
              rcases Nat.lt_succ_iff_lt_or_eq.1 hj with h | h
              · exact hall j h
              · rw [h, hq]
            have HX := hidq hnx
            rw [hq] at hS
            clear hall hnx e0 e1 f0 f1 hq hz
            generalize L[k]! = p at *
            generalize M[k]! = q at *
            go_wp2
            go_region_with (go_at_call 46; refine (hS.out _).mono ?_; rintro e w3 ⟨rfl, hb3⟩)
            all_goals go_wp2
            all_goals exact ⟨⟨k + 1, rfl, by omega, hB.trans ((((But.refl (fun _ => False) wr).drew).trans (But.of_below hb3)).below hB.size (fun _ e => e.elim)), HX.out⟩, by simp [intOf]; omega⟩
        · have hkn : k = n1 := by omega
          have hT : sameK L M = true := decide_eq_true ⟨HL.out.trans HM.out.symm, fun j hj => hall j (by have := HL.out; omega)⟩
          have HT := hidq hT
          have hd : decide ((k : Int) < (n1 : Int)) = false := decide_eq_false (by omega)
          clear hT hall hkn
          go_wp2
          go_ret
          exact ⟨by rw [HT.out]; rfl, hBw⟩
    · have hF : sameK L M = false := decide_eq_false (fun e => hnn (by omega))
      rw [hF]
      have hb : ((n1 : Int) != (n2 : Int)) = true := by simp; omega
      clear h1 h2 hF hL hM hv
      go_enter Try.func15, Try.ntmps15
      go_wp2
      go_ret
      exact ⟨rfl, hb0⟩
  · have hv : sameW kx kx x y L M = false := by unfold sameW; simp [hxy]
    rw [hv]
    have hbx : (x != y) = true := by simpa using hxy
    clear h1 h2 hL hM hv hxy
    go_enter Try.func15, Try.ntmps15
    go_wp2
    go_ret
    exact ⟨rfl, hb0⟩
end Go.Proofs.Ytbcmilfajeanbaa
