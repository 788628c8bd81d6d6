/-
  Boxes of two cells made in a region that draws its order: what holds while they are made and filled.
-/
import Derived.Test.YtogacknpkoiokaaSl5
import Derived.Test.YtogacknpkoiokaaGhost
namespace Go.Proofs.Ytogacknpkoiokaa
open Go.RowKit Go.Sort
namespace Bx

theorem getD_false {L : Array Bool} {i : Nat} (h : L.getD i true = false) : L.getD i false = false := by
  rw [Array.getD_eq_getD_getElem?] at *
  cases e : L[i]? with
  | none => simp
  | some b => rw [e] at h; simpa using h
theorem getD_set_ne {L : Array Bool} {k j : Nat} (h : j ≠ k) : (L.setIfInBounds k true).getD j false = L.getD j false := by
  rw [Array.getD_eq_getD_getElem?, Array.getD_eq_getD_getElem?, Array.getElem?_setIfInBounds, if_neg (fun e => h e.symm)]
theorem getD_repl (n i : Nat) : (Array.replicate n false).getD i false = false := by
  rw [Array.getD_eq_getD_getElem?, Array.getElem?_replicate]
  split <;> rfl
theorem out_skip {P : Program} {K : Value → World → Prop} {ev : Operand → Value} {o : Oper} {w w' : World} (hrun : (execOp ev o).run P w = .ok .skip w') (hk : K undef w') : Reg.Outcome P K ((execOp ev o).run P w) := by
  rw [hrun]; exact hk
theorem act_list (a : Act) (n : Nat) (h : a.tmps.size = n) (hd : a.defers = []) : a = ⟨((List.range n).map fun k => a.eval (.tmp k)).toArray, []⟩ := by
  obtain ⟨t, d⟩ := a
  simp only at hd h
  subst hd
  congr 1
  refine Array.ext (by simpa using h) ?_
  intro i h1 h2
  simp only [List.getElem_toArray, List.getElem_map, List.getElem_range]
  show _ = t.getD i undef
  rw [Array.getD_eq_getD_getElem?, Array.getElem?_eq_getElem h1]; rfl

/-- Which box lies where. -/
abbrev Gh := Nat → Option Nat
/-- The boxes alone are written; new ones are new. -/
structure Pres (x : Gh) (w : World) (x' : Gh) (w' : World) : Prop where
  old : ∀ i b, x i = some b → x' i = some b
  new : ∀ i b, x' i = some b → x i = some b ∨ w.heap.size ≤ b
  but : But (fun k => ∃ i, x i = some k) w w'
theorem Pres.same {x : Gh} {w w' : World} (hb : But (fun _ => False) w w') : Pres x w x w' := ⟨fun _ _ h => h, fun _ _ h => .inl h, hb.mono (fun _ _ e => e.elim)⟩

/-- A slice that lies in none of the boxes. -/
def Free (k : Nat) (n : Nat) (l : List Value) (s : Value) (x : Gh) (w : World) : Prop := ∃ a c, s = .slice a n c ∧ SlAt k w a c n l ∧ ∀ j, inB a j → ∀ i, x i ≠ some j
theorem Free.kept {k n : Nat} {l : List Value} {s : Value} {x x' : Gh} {w w' : World} (hp : Pres x w x' w') (h : Free k n l s x w) : Free k n l s x' w' := by
  obtain ⟨a, c, h1, h2, h3⟩ := h
  refine ⟨a, c, h1, h2.but hp.but (fun j hj ⟨i, e⟩ => h3 j hj i e), fun j hj i e => ?_⟩
  rcases hp.new i j e with e | e
  · exact h3 j hj i e
  · have := h2.lt j hj; omega

/-- What a box holds in the end: a number and a slice. -/
structure Want where
  k : Nat
  z : Int
  n : Nat
  l : List Value
def Holds (W : Want) (u v : Value) (x : Gh) (w : World) : Prop := u = .int .i64 W.z ∧ Free W.k W.n W.l v x w
theorem Holds.kept {W : Want} {u v : Value} {x x' : Gh} {w w' : World} (hp : Pres x w x' w') (h : Holds W u v x w) : Holds W u v x' w' := ⟨h.1, h.2.kept hp⟩
/-- A value that is to be put. -/
def Val (W : Want) (v : Value) (x : Gh) (w : World) : Prop := ∃ u s, v = .agg #[u, s] ∧ Holds W u s x w
theorem Val.kept {W : Want} {v : Value} {x x' : Gh} {w w' : World} (hp : Pres x w x' w') (h : Val W v x w) : Val W v x' w' := by
  obtain ⟨u, s, h1, h2⟩ := h
  exact ⟨u, s, h1, h2.kept hp⟩

structure Box (w1 w : World) (b : Nat) : Prop where
  lo : w1.heap.size ≤ b
  lt : b < w.heap.size
  c0 : ∃ u, w.cell? ⟨b, 0, none⟩ = some u
  c1 : ∃ u, w.cell? ⟨b, 1, none⟩ = some u
  z0 : w.frozen? ⟨b, 0, none⟩ = false
  z1 : w.frozen? ⟨b, 1, none⟩ = false
theorem Box.but {S : Nat → Prop} {w1 w w' : World} {b : Nat} (h : Box w1 w b) (hb : But S w w') (hS : ¬ S b) : Box w1 w' b :=
  ⟨h.lo, Nat.lt_of_lt_of_le h.lt hb.size, by rw [hb.cell (p := ⟨b, 0, none⟩) h.lt hS]; exact h.c0, by rw [hb.cell (p := ⟨b, 1, none⟩) h.lt hS]; exact h.c1, by rw [hb.frozen (p := ⟨b, 0, none⟩) h.lt hS]; exact h.z0, by rw [hb.frozen (p := ⟨b, 1, none⟩) h.lt hS]; exact h.z1⟩

/-- Two boxes in the making: operations A, A + 1 make them, S, S + 1 fill them. -/
structure BI (w1 : World) (A S : Nat) (W : Nat → Want) (x : Gh) (L : Array Bool) (w : World) : Prop where
  bel : Below w1.heap.size w1 w
  box : ∀ i b, x i = some b → Box w1 w b
  ne : ∀ i j b, x i = some b → x j = some b → i = j
  un : ∀ i, i < 2 → L.getD (A + i) false = false → x i = none
  put : ∀ i, i < 2 → L.getD (S + i) false = true → ∃ b u v, x i = some b ∧ w.cell? ⟨b, 0, none⟩ = some u ∧ w.cell? ⟨b, 1, none⟩ = some v ∧ Holds (W i) u v x w

section
variable {w1 : World} {A S : Nat} {W : Nat → Want} {x : Gh} {L : Array Bool} {w w' : World}
theorem BI.start (w1 : World) (A S n : Nat) (W : Nat → Want) : BI w1 A S W (fun _ => none) (Array.replicate n false) w1.drew :=
  ⟨(Below.refl _ _).drew, fun _ _ h => (by cases h), fun _ _ _ h => (by cases h), fun _ _ _ => rfl, fun i hi h => absurd h (by rw [getD_repl]; decide)⟩
theorem BI.same (h : BI w1 A S W x L w) (k : Nat) (hk : k < A ∨ (A + 2 ≤ k ∧ k < S) ∨ S + 2 ≤ k) (hAS : A + 2 ≤ S) (hb : But (fun _ => False) w w') : BI w1 A S W x (L.setIfInBounds k true) w' := by
  refine ⟨h.bel.trans (hb.below h.bel.size (fun _ e => e.elim)), fun i b hi => (h.box i b hi).but hb id, h.ne, ?_, ?_⟩
  · intro i hi hL
    rw [getD_set_ne (by omega)] at hL
    exact h.un i hi hL
  · intro i hi hL
    rw [getD_set_ne (by omega)] at hL
    obtain ⟨b, u, v, h1, h2, h3, h4⟩ := h.put i hi hL
    have hl := (h.box i b h1).lt
    exact ⟨b, u, v, h1, (hb.cell (p := ⟨b, 0, none⟩) hl id).trans h2, (hb.cell (p := ⟨b, 1, none⟩) hl id).trans h3, h4.kept (Pres.same hb)⟩
theorem BI.new (h : BI w1 A S W x L w) (i : Nat) (hi : i < 2) (hAS : A + 2 ≤ S) (hk : L.getD (A + i) true = false) (u v : Value) (t : TypeId) :
    BI w1 A S W (fun j => if j = i then some w.heap.size else x j) (L.setIfInBounds (A + i) true) (w.alloc (.cells #[u, v] t)) ∧ Pres x w (fun j => if j = i then some w.heap.size else x j) (w.alloc (.cells #[u, v] t)) := by
  have hx : x i = none := h.un i hi (getD_false hk)
  have hb : But (fun _ => False) w (w.alloc (.cells #[u, v] t)) := (But.refl _ _).alloc _
  have hP : Pres x w (fun j => if j = i then some w.heap.size else x j) (w.alloc (.cells #[u, v] t)) := by
    refine ⟨fun j b hj => ?_, fun j b hj => ?_, hb.mono (fun _ _ e => e.elim)⟩
    · by_cases e : j = i
      · rw [e, hx] at hj; cases hj
      · simp only [if_neg e]; exact hj
    · by_cases e : j = i
      · simp only [if_pos e] at hj; injection hj with hj; exact .inr (by omega)
      · simp only [if_neg e] at hj; exact .inl hj
  refine ⟨⟨h.bel.trans (hb.below h.bel.size (fun _ e => e.elim)), ?_, ?_, ?_, ?_⟩, hP⟩
  · intro j b hj
    by_cases e : j = i
    · simp only [if_pos e] at hj
      injection hj with hj
      subst hj
      exact ⟨h.bel.size, by simp, ⟨u, (World.cell?_alloc_new _ _ _ 0).trans rfl⟩, ⟨v, (World.cell?_alloc_new _ _ _ 1).trans rfl⟩, World.frozen?_alloc_new _ _ _ _, World.frozen?_alloc_new _ _ _ _⟩
    · simp only [if_neg e] at hj
      exact (h.box j b hj).but hb id
  · intro j k b hj hk'
    by_cases e : j = i
    · by_cases e' : k = i
      · rw [e, e']
      · simp only [if_pos e] at hj
        simp only [if_neg e'] at hk'
        injection hj with hj
        have := (h.box k b hk').lt
        omega
    · by_cases e' : k = i
      · simp only [if_neg e] at hj
        simp only [if_pos e'] at hk'
        injection hk' with hk'
        have := (h.box j b hj).lt
        omega
      · simp only [if_neg e] at hj
        simp only [if_neg e'] at hk'
        exact h.ne j k b hj hk'
  · intro j hj hL
    by_cases e : j = i
    · subst e
      have hlt : A + j < L.size := by
        rcases Nat.lt_or_ge (A + j) L.size with h' | h'
        · exact h'
        · rw [Array.getD_eq_getD_getElem?, Array.getElem?_eq_none h'] at hk; cases hk
      rw [Array.getD_eq_getD_getElem?, Array.getElem?_setIfInBounds, if_pos rfl, if_pos hlt] at hL
      cases hL
    · rw [getD_set_ne (by omega)] at hL
      simp only [if_neg e]
      exact h.un j hj hL
  · intro j hj hL
    rw [getD_set_ne (by omega)] at hL
    obtain ⟨b, u', v', h1, h2, h3, h4⟩ := h.put j hj hL
    have hl := (h.box j b h1).lt
    exact ⟨b, u', v', hP.old _ _ h1, (hb.cell (p := ⟨b, 0, none⟩) hl id).trans h2, (hb.cell (p := ⟨b, 1, none⟩) hl id).trans h3, h4.kept hP⟩
theorem BI.store (h : BI w1 A S W x L w) (i b : Nat) (hi : i < 2) (hAS : A + 2 ≤ S) (hb : x i = some b) (u v : Value) (hv : Holds (W i) u v x w) :
    BI w1 A S W x (L.setIfInBounds (S + i) true) ((w.setCell ⟨b, 0, none⟩ u).setCell ⟨b, 1, none⟩ v) ∧ Pres x w x ((w.setCell ⟨b, 0, none⟩ u).setCell ⟨b, 1, none⟩ v) := by
  have hB := h.box i b hb
  obtain ⟨u0, hc0⟩ := hB.c0
  obtain ⟨u1, hc1⟩ := hB.c1
  have hbut : But (fun k => k = b) w ((w.setCell ⟨b, 0, none⟩ u).setCell ⟨b, 1, none⟩ v) := ((But.refl (fun k => k = b) w).set1 _ _ rfl _).set1 _ _ rfl _
  have hP : Pres x w x ((w.setCell ⟨b, 0, none⟩ u).setCell ⟨b, 1, none⟩ v) := ⟨fun _ _ e => e, fun _ _ e => .inl e, hbut.mono (fun k _ e => ⟨i, by rw [e]; exact hb⟩)⟩
  have n01 : (⟨b, 0, none⟩ : Addr) ≠ ⟨b, 1, none⟩ := fun e => by injection e with _ e2; cases e2
  have k0 : ((w.setCell ⟨b, 0, none⟩ u).setCell ⟨b, 1, none⟩ v).cell? ⟨b, 0, none⟩ = some u := by
    rw [World.cell?_setCell_other _ _ _ _ n01.symm, World.cell?_setCell_same' _ _ _ (by rw [hc0]; rfl)]
  have k1 : ((w.setCell ⟨b, 0, none⟩ u).setCell ⟨b, 1, none⟩ v).cell? ⟨b, 1, none⟩ = some v := by
    rw [World.cell?_setCell_same' _ _ _ (by rw [World.cell?_setCell_other _ _ _ _ n01, hc1]; rfl)]
  refine ⟨⟨h.bel.trans (hbut.below h.bel.size (fun k e => by rw [e]; exact hB.lo)), ?_, h.ne, ?_, ?_⟩, hP⟩
  · intro j c hj
    by_cases e : c = b
    · subst e
      exact ⟨hB.lo, by rw [World.size_setCell, World.size_setCell]; exact hB.lt, ⟨u, k0⟩, ⟨v, k1⟩, by rw [World.frozen?_setCell, World.frozen?_setCell]; exact hB.z0, by rw [World.frozen?_setCell, World.frozen?_setCell]; exact hB.z1⟩
    · exact (h.box j c hj).but hbut e
  · intro j hj hL
    rw [getD_set_ne (by omega)] at hL
    exact h.un j hj hL
  · intro j hj hL
    by_cases e : j = i
    · subst e
      exact ⟨b, u, v, hb, k0, k1, hv.kept hP⟩
    · rw [getD_set_ne (by omega)] at hL
      obtain ⟨c, u', v', h1, h2, h3, h4⟩ := h.put j hj hL
      have hcb : ¬ c = b := fun e' => e (h.ne j i b (by rw [← e']; exact h1) hb)
      have hl := (h.box j c h1).lt
      exact ⟨c, u', v', h1, (hbut.cell (p := ⟨c, 0, none⟩) hl hcb).trans h2, (hbut.cell (p := ⟨c, 1, none⟩) hl hcb).trans h3, h4.kept hP⟩
end
end Bx
end Go.Proofs.Ytogacknpkoiokaa
