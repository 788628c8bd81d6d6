/-
  Layer 4: PileOrder: three boxes made in a region that draws its order: what holds while they are made.
-/
import Derived.Test.YthhechgjablklaaPileO
import Derived.Test.YthhechgjablklaaGhost
namespace Go.Proofs.Ythhechgjablklaa
open Go.RowKit Go.Sort

theorem getD_false {L : Array Bool} {i : Nat} (h : L.getD i true = false) : L.getD i false = false := by
  rw [Array.getD_eq_getD_getElem?] at *
  cases e : L[i]? with
  | none => simp
  | some b => rw [e] at h; simpa using h
theorem getD_set_ne {L : Array Bool} {k j : Nat} (h : j ≠ k) : (L.setIfInBounds k true).getD j false = L.getD j false := by
  rw [Array.getD_eq_getD_getElem?, Array.getD_eq_getD_getElem?, Array.getElem?_setIfInBounds, if_neg (fun e => h e.symm)]
theorem getD_set_self {L : Array Bool} {k : Nat} (h : L.getD k true = false) : (L.setIfInBounds k true).getD k false = true := by
  have hk : k < L.size := by
    rcases Nat.lt_or_ge k L.size with h' | h'
    · exact h'
    · rw [Array.getD_eq_getD_getElem?, Array.getElem?_eq_none h'] at h; cases h
  rw [Array.getD_eq_getD_getElem?, Array.getElem?_setIfInBounds, if_pos rfl, if_pos hk]; rfl

/-- A box with an item. -/
structure Is2 (w : World) (b : Nat) (p : Nat) (q : Int) : Prop where
  c0 : w.cell? ⟨b, 0, none⟩ = some (.float .f64 p)
  c1 : w.cell? ⟨b, 1, none⟩ = some (.int .i64 q)
  z0 : w.frozen? ⟨b, 0, none⟩ = false
  z1 : w.frozen? ⟨b, 1, none⟩ = false
theorem Is2.lt {w : World} {b p : Nat} {q : Int} (h : Is2 w b p q) : b < w.heap.size := World.block_lt_of_cell? _ _ h.c0
theorem Is2.but {S : Nat → Prop} {w w' : World} {b p : Nat} {q : Int} (h : Is2 w b p q) (hb : But S w w') (hS : ¬ S b) : Is2 w' b p q :=
  ⟨(hb.cell (p := ⟨b, 0, none⟩) h.lt hS).trans h.c0, (hb.cell (p := ⟨b, 1, none⟩) h.lt hS).trans h.c1, (hb.frozen (p := ⟨b, 0, none⟩) h.lt hS).trans h.z0, (hb.frozen (p := ⟨b, 1, none⟩) h.lt hS).trans h.z1⟩
theorem Is2.set {w : World} {b p : Nat} {q : Int} (h : Is2 w b p q) (p' : Nat) (q' : Int) : Is2 ((w.setCell ⟨b, 0, none⟩ (.float .f64 p')).setCell ⟨b, 1, none⟩ (.int .i64 q')) b p' q' := by
  refine ⟨?_, ?_, ?_, ?_⟩
  · rw [World.cell?_setCell_other _ _ _ _ (by simp)]; exact World.cell?_setCell_same _ _ _ h.c0
  · exact World.cell?_setCell_same _ _ _ ((World.cell?_setCell_other _ _ _ _ (by simp)).trans h.c1)
  · rw [World.frozen?_setCell, World.frozen?_setCell]; exact h.z0
  · rw [World.frozen?_setCell, World.frozen?_setCell]; exact h.z1

/-- Three boxes in the making. -/
structure OI (w1 : World) (P : Nat → Nat) (M : Nat → Int) (x : Nat → Option Nat) (L : Array Bool) (w : World) : Prop where
  bel : Below w1.heap.size w1 w
  box : ∀ i b, x i = some b → w1.heap.size ≤ b ∧ ∃ p q, Is2 w b p q
  ne : ∀ i j b, x i = some b → x j = some b → i = j
  un : ∀ i, i < 3 → L.getD (6 + i) false = false → x i = none
  put : ∀ i, i < 3 → L.getD (9 + i) false = true → ∃ b, x i = some b ∧ Is2 w b (P i) (M i)

def OPres (x : Nat → Option Nat) (_ : World) (x' : Nat → Option Nat) (_ : World) : Prop := ∀ i b, x i = some b → x' i = some b

section
variable {w1 : World} {P : Nat → Nat} {M : Nat → Int} {x : Nat → Option Nat} {L : Array Bool} {w w' : World}
theorem OI.same (h : OI w1 P M x L w) (k : Nat) (hk : k < 6) (hb : But (fun _ => False) w w') : OI w1 P M x (L.setIfInBounds k true) w' := by
  refine ⟨h.bel.trans (hb.below h.bel.size (fun _ e => e.elim)), ?_, h.ne, ?_, ?_⟩
  · intro i b hi
    obtain ⟨h1, p, q, h2⟩ := h.box i b hi
    exact ⟨h1, p, q, h2.but hb id⟩
  · intro i hi hL
    rw [getD_set_ne (by omega)] at hL
    exact h.un i hi hL
  · intro i hi hL
    rw [getD_set_ne (by omega)] at hL
    obtain ⟨b, h1, h2⟩ := h.put i hi hL
    exact ⟨b, h1, h2.but hb id⟩
theorem OI.new (h : OI w1 P M x L w) (i : Nat) (hi : i < 3) (hk : L.getD (6 + i) true = false) :
    OI w1 P M (fun j => if j = i then some w.heap.size else x j) (L.setIfInBounds (6 + i) true) (w.alloc (.cells #[.float .f64 0, .int .i64 0] 29)) ∧ OPres x w (fun j => if j = i then some w.heap.size else x j) (w.alloc (.cells #[.float .f64 0, .int .i64 0] 29)) := by
  have hx : x i = none := h.un i hi (getD_false hk)
  have hb : But (fun _ => False) w (w.alloc (.cells #[.float .f64 0, .int .i64 0] 29)) := (But.refl _ _).alloc _
  have hnew : Is2 (w.alloc (.cells #[.float .f64 0, .int .i64 0] 29)) w.heap.size 0 0 := ⟨by simp, by simp, by simp, by simp⟩
  refine ⟨⟨h.bel.trans (hb.below h.bel.size (fun _ e => e.elim)), ?_, ?_, ?_, ?_⟩, ?_⟩
  · intro j b hj
    by_cases e : j = i
    · simp only [if_pos e] at hj
      injection hj with hj
      subst hj
      exact ⟨h.bel.size, 0, 0, hnew⟩
    · simp only [if_neg e] at hj
      obtain ⟨h1, p, q, h2⟩ := h.box j b hj
      exact ⟨h1, p, q, h2.but hb id⟩
  · intro j k b hj hk'
    by_cases e : j = i
    · by_cases e' : k = i
      · rw [e, e']
      · simp only [if_pos e] at hj
        simp only [if_neg e'] at hk'
        injection hj with hj
        obtain ⟨_, p, q, h2⟩ := h.box k b hk'
        have := h2.lt
        omega
    · by_cases e' : k = i
      · simp only [if_neg e] at hj
        simp only [if_pos e'] at hk'
        injection hk' with hk'
        obtain ⟨_, p, q, h2⟩ := h.box j b hj
        have := h2.lt
        omega
      · simp only [if_neg e] at hj
        simp only [if_neg e'] at hk'
        exact h.ne j k b hj hk'
  · intro j hj hL
    by_cases e : j = i
    · rw [e, getD_set_self hk] at hL
      cases hL
    · rw [getD_set_ne (by omega)] at hL
      simp only [if_neg e]
      exact h.un j hj hL
  · intro j hj hL
    rw [getD_set_ne (by omega)] at hL
    obtain ⟨b, h1, h2⟩ := h.put j hj hL
    by_cases e : j = i
    · rw [e, hx] at h1; cases h1
    · exact ⟨b, by simp only [if_neg e]; exact h1, h2.but hb id⟩
  · intro j b hj
    by_cases e : j = i
    · rw [e, hx] at hj; cases hj
    · simp only [if_neg e]; exact hj
theorem OI.store (h : OI w1 P M x L w) (i b : Nat) (hi : i < 3) (hx : x i = some b) : OI w1 P M x (L.setIfInBounds (9 + i) true) ((w.setCell ⟨b, 0, none⟩ (.float .f64 (P i))).setCell ⟨b, 1, none⟩ (.int .i64 (M i))) := by
  have hb : But (fun k => k = b) w ((w.setCell ⟨b, 0, none⟩ (.float .f64 (P i))).setCell ⟨b, 1, none⟩ (.int .i64 (M i))) := ((But.refl (fun k => k = b) w).set1 b 0 rfl _).set1 b 1 rfl _
  obtain ⟨hlo, p0, q0, h0⟩ := h.box i b hx
  have hI := h0.set (P i) (M i)
  refine ⟨h.bel.trans (hb.below h.bel.size (fun k e => by omega)), ?_, h.ne, ?_, ?_⟩
  · intro j c hj
    by_cases e : c = b
    · rw [e]; exact ⟨hlo, _, _, hI⟩
    · obtain ⟨h1, p, q, h2⟩ := h.box j c hj
      exact ⟨h1, p, q, h2.but hb e⟩
  · intro j hj hL
    rw [getD_set_ne (by omega)] at hL
    exact h.un j hj hL
  · intro j hj hL
    by_cases e : j = i
    · rw [e]; exact ⟨b, hx, hI⟩
    · rw [getD_set_ne (by omega)] at hL
      obtain ⟨c, h1, h2⟩ := h.put j hj hL
      refine ⟨c, h1, h2.but hb (fun ec => e ?_)⟩
      rw [ec] at h1
      exact h.ne j i b h1 hx
end

/-- Slots, written out. -/
theorem act_list (a : Act) (n : Nat) (h : a.tmps.size = n) (hd : a.defers = []) : a = ⟨((List.range n).map fun k => a.eval (.tmp k)).toArray, []⟩ := by
  obtain ⟨t, d⟩ := a
  simp only at hd h
  subst hd
  congr 1
  refine Array.ext (by simpa using h) ?_
  intro i h1 h2
  simp only [List.getElem_toArray, List.getElem_map, List.getElem_range]
  show _ = t.getD i undef
  rw [Array.getD_eq_getD_getElem?, Array.getElem?_eq_getElem h1]; rfl
end Go.Proofs.Ythhechgjablklaa
