/-
  An operation alone within a statement that draws its order: the machine in its box, the memory, and a new box for the answer.
  A machine's step within a statement that draws its order: the memory, the frame, and a new box for the answer.
-/
import Derived.Test.YtbcmilfajeanbaaGreatRegionAll
import Derived.Test.YtbcmilfajeanbaaGreatFits5All
namespace Go.Proofs.YtbcmilfajeanbaaGreat
open Go.RowKit Go.Sort
namespace Ar

theorem getD_false {L : Array Bool} {i : Nat} (h : L.getD i true = false) : L.getD i false = false := by
  rw [Array.getD_eq_getD_getElem?] at *
  cases e : L[i]? with
  | none => simp
  | some b => rw [e] at h; simpa using h
theorem getD_set_ne {L : Array Bool} {k j : Nat} (h : j ≠ k) : (L.setIfInBounds k true).getD j false = L.getD j false := by
  rw [Array.getD_eq_getD_getElem?, Array.getD_eq_getD_getElem?, Array.getElem?_setIfInBounds, if_neg (fun e => h e.symm)]
theorem getD_set_same {L : Array Bool} {k : Nat} (h : L.getD k true = false) : (L.setIfInBounds k true).getD k false = true := by
  have hk : k < L.size := by
    rcases Nat.lt_or_ge k L.size with e | e
    · exact e
    · rw [Array.getD_eq_getD_getElem?, Array.getElem?_eq_none e] at h; cases h
  rw [Array.getD_eq_getD_getElem?, Array.getElem?_setIfInBounds, if_pos rfl, if_pos hk]; rfl
theorem out_skip {P : Program} {K : Value → World → Prop} {ev : Operand → Value} {o : Oper} {w w' : World} (hrun : (execOp ev o).run P w = .ok .skip w') (hk : K undef w') : Reg.Outcome P K ((execOp ev o).run P w) := by
  rw [hrun]; exact hk

/-- What the memory owns; where the answer's box lies. -/
abbrev Gh := (Nat → Prop) × Option Nat
def Pres (x : Gh) (_ : World) (x' : Gh) (_ : World) : Prop := ∀ b, x.2 = some b → x'.2 = some b
theorem Pres.refl (x : Gh) (w w' : World) : Pres x w x w' := fun _ h => h

/-- While it goes on: iA is the operation's number, iL the box's, iS the store's. -/
structure GI (w0 wS : World) (OS : Nat → Prop) (sb : Nat) (ls : List Value) (mb : Nat) (M0 M1 : Mem) (A : Ans) (iA iL iS : Nat) (x : Gh) (L : Array Bool) (w : World) : Prop where
  st : St w0 w sb ls mb x.1 (if L.getD iA false = true then M1 else M0)
  no : L.getD iL false = false → x.2 = none
  yes : L.getD iL false = true → ∃ bx, x.2 = some bx
  chg : But OS wS w
  grow : Grown OS wS w x.1
  box : ∀ bx, x.2 = some bx → wS.heap.size ≤ bx ∧ w0.heap.size ≤ bx ∧ ¬ x.1 bx ∧ bx ≠ sb ∧ BoxAt w bx (if L.getD iS false = true then A.l else Ans.zero.l)
section
variable {w0 wS : World} {OS : Nat → Prop} {sb mb iA iL iS : Nat} {ls : List Value} {M0 M1 : Mem} {A : Ans} {x : Gh} {L : Array Bool} {w w' : World} {O : Nat → Prop}
theorem GI.start (h : St w0 w sb ls mb O M0) (n : Nat) : GI w0 w O sb ls mb M0 M1 A iA iL iS (O, none) (Array.replicate n false) w.drew := by
  have hz : ∀ i, (Array.replicate n false).getD i false = false := fun i => by
    rw [Array.getD_eq_getD_getElem?, Array.getElem?_replicate]
    split <;> rfl
  refine ⟨?_, fun _ => rfl, fun e => ?_, (But.refl _ _).drew, Grown.refl _ _ _, fun bx hx => by cases hx⟩
  · rw [hz]; exact h.below (Below.refl _ _).drew
  · rw [hz] at e; cases e
theorem GI.quiet (h : GI w0 wS OS sb ls mb M0 M1 A iA iL iS x L w) (i : Nat) (h1 : iA ≠ i) (h2 : iL ≠ i) (h3 : iS ≠ i) : GI w0 wS OS sb ls mb M0 M1 A iA iL iS x (L.setIfInBounds i true) w := by
  refine ⟨?_, ?_, ?_, h.chg, h.grow, ?_⟩
  · rw [getD_set_ne h1]; exact h.st
  · rw [getD_set_ne h2]; exact h.no
  · rw [getD_set_ne h2]; exact h.yes
  · rw [getD_set_ne h3]; exact h.box
theorem GI.below (h : GI w0 wS OS sb ls mb M0 M1 A iA iL iS x L w) (hb : Below w.heap.size w w') : GI w0 wS OS sb ls mb M0 M1 A iA iL iS x L w' :=
  ⟨h.st.below hb, h.no, h.yes, h.chg.trans (But.of_below hb), fun k hk => (h.grow k hk).imp id (fun q => ⟨q.1, Nat.lt_of_lt_of_le q.2 hb.size⟩), fun bx hx => ⟨(h.box bx hx).1, (h.box bx hx).2.1, (h.box bx hx).2.2.1, (h.box bx hx).2.2.2.1, (h.box bx hx).2.2.2.2.below hb⟩⟩
theorem GI.mem0 (h : GI w0 wS OS sb ls mb M0 M1 A iA iL iS x L w) (hk : L.getD iA true = false) : MemAt w mb x.1 M0 := by
  have := h.st.mem
  rw [getD_false hk] at this
  exact this
theorem GI.call (h : GI w0 wS OS sb ls mb M0 M1 A iA iL iS x L w) (hk : L.getD iA true = false) (h2 : iL ≠ iA) (h3 : iS ≠ iA) {O' : Nat → Prop} (hM : MemAt w' mb O' M1) (hG : Grown x.1 w w' O') (hB : But x.1 w w') :
    GI w0 wS OS sb ls mb M0 M1 A iA iL iS (O', x.2) (L.setIfInBounds iA true) w' := by
  refine ⟨?_, ?_, ?_, h.chg.then hB (fun k hk e => (h.grow k e).elim id (fun q => by omega)), h.grow.trans hG h.chg.size hB.size, ?_⟩
  · rw [getD_set_same hk, if_pos rfl]
    exact h.st.call hM hG hB
  · rw [getD_set_ne h2]; exact h.no
  · rw [getD_set_ne h2]; exact h.yes
  · rw [getD_set_ne h3]
    intro bx hx
    obtain ⟨a0, a, b, c, d⟩ := h.box bx hx
    refine ⟨a0, a, fun e => ?_, c, d.but hB b⟩
    rcases hG bx e with q | q
    · exact b q
    · have := d.lt; omega
theorem GI.alloc (h : GI w0 wS OS sb ls mb M0 M1 A iA iL iS x L w) (hk : L.getD iL true = false) (hS : L.getD iS false = false) (h1 : iA ≠ iL) (h3 : iS ≠ iL) (t : TypeId) :
    GI w0 wS OS sb ls mb M0 M1 A iA iL iS (x.1, some w.heap.size) (L.setIfInBounds iL true) (w.alloc (.cells Ans.zero.l.toArray t)) := by
  refine ⟨?_, ?_, ?_, h.chg.alloc _, fun k hk => (h.grow k hk).imp id (fun q => ⟨q.1, by rw [World.size_alloc]; omega⟩), ?_⟩
  · rw [getD_set_ne h1]; exact h.st.alloc _
  · rw [getD_set_same hk]; intro e; cases e
  · intro _; exact ⟨_, rfl⟩
  · intro bx hx
    cases hx
    rw [getD_set_ne h3, hS]
    refine ⟨h.chg.size, h.st.low.size, fun e => ?_, fun e => ?_, BoxAt.new w Ans.zero.l t⟩
    · have := h.st.mem.lt _ e; omega
    · have := h.st.box.lt; omega
theorem GI.store (h : GI w0 wS OS sb ls mb M0 M1 A iA iL iS x L w) (hk : L.getD iS true = false) (h1 : iA ≠ iS) (h2 : iL ≠ iS) {bx : Nat} (hx : x.2 = some bx) : GI w0 wS OS sb ls mb M0 M1 A iA iL iS x (L.setIfInBounds iS true) (setBox w bx A.s) := by
  obtain ⟨a0, a, b, c, d⟩ := h.box bx hx
  rw [getD_false hk] at d
  have hb := setBox_but bx A.s w
  refine ⟨?_, ?_, ?_, h.chg.then hb (fun k hk e => by omega), fun k hk => (h.grow k hk).imp id (fun q => ⟨q.1, by rw [setBox_size]; exact q.2⟩), ?_⟩
  · rw [getD_set_ne h1]
    exact ⟨h.st.mem.but hb (fun k hk e => b (e ▸ hk)), h.st.own, h.st.box.but hb (fun e => c e.symm), h.st.low.trans (hb.below h.st.low.size (fun k e => by omega))⟩
  · rw [getD_set_ne h2]; exact h.no
  · rw [getD_set_ne h2]; exact h.yes
  · intro by_ hy
    rw [hx] at hy
    cases hy
    rw [getD_set_same hk, if_pos rfl]
    exact ⟨a0, a, b, c, setBox_box A.s d⟩
end
end Ar
end Go.Proofs.YtbcmilfajeanbaaGreat

namespace Go.Proofs.YtbcmilfajeanbaaGreat
open Go.RowKit Go.Sort
namespace Er

/-- While it goes on: iA is the step's number, iL the box's, iS the store's. -/
structure GI (wS : World) (b fb : Nat) (O P : Nat → Prop) (r : Mem × Fr × Ans × Bool) (iA iL iS : Nat) (x : Ar.Gh) (L : Array Bool) (w : World) : Prop where
  st : if L.getD iA false = true then (∃ O' P', MemAt w b O' r.1 ∧ FrAt w fb P' r.2.1 ∧ (∀ k, O' k → ¬ P' k) ∧ Grown O wS w O' ∧ Grown P wS w P' ∧ x.1 = fun k => O' k ∨ P' k) else Below wS.heap.size wS w
  no : L.getD iL false = false → x.2 = none
  yes : L.getD iL false = true → ∃ bx, x.2 = some bx
  chg : But (fun k => O k ∨ P k) wS w
  grow : ∀ k, O k ∨ P k → k < wS.heap.size
  box : ∀ bx, x.2 = some bx → wS.heap.size ≤ bx ∧ True ∧ (L.getD iA false = true → ¬ x.1 bx) ∧ True ∧ BoxAt w bx (if L.getD iS false = true then r.2.2.1.l else Ans.zero.l)
section
variable {wS : World} {O P : Nat → Prop} {b fb iA iL iS : Nat} {r : Mem × Fr × Ans × Bool} {x : Ar.Gh} {L : Array Bool} {w w' : World}
theorem Grown.up {O O' : Nat → Prop} {wS w w' : World} (h : Grown O wS w O') (hs : w.heap.size ≤ w'.heap.size) : Grown O wS w' O' := fun k hk => (h k hk).imp id (fun q => ⟨q.1, by omega⟩)
theorem GI.start (wS : World) (b fb : Nat) (O P : Nat → Prop) (r : Mem × Fr × Ans × Bool) (iA iL iS : Nat) (hlt : ∀ k, O k ∨ P k → k < wS.heap.size) (n : Nat) : GI wS b fb O P r iA iL iS (O, none) (Array.replicate n false) wS.drew := by
  have hz : ∀ i, (Array.replicate n false).getD i false = false := fun i => by
    rw [Array.getD_eq_getD_getElem?, Array.getElem?_replicate]
    split <;> rfl
  refine ⟨?_, fun _ => rfl, fun e => ?_, (But.refl _ _).drew, hlt, fun bx hx => by cases hx⟩
  · rw [hz]; exact (Below.refl _ _).drew
  · rw [hz] at e; cases e
theorem GI.quiet (h : GI wS b fb O P r iA iL iS x L w) (i : Nat) (h1 : iA ≠ i) (h2 : iL ≠ i) (h3 : iS ≠ i) : GI wS b fb O P r iA iL iS x (L.setIfInBounds i true) w := by
  refine ⟨?_, ?_, ?_, h.chg, h.grow, ?_⟩
  · rw [Ar.getD_set_ne h1]; exact h.st
  · rw [Ar.getD_set_ne h2]; exact h.no
  · rw [Ar.getD_set_ne h2]; exact h.yes
  · rw [Ar.getD_set_ne h3, Ar.getD_set_ne h1]; exact h.box
theorem GI.pre (h : GI wS b fb O P r iA iL iS x L w) (hk : L.getD iA true = false) : Below wS.heap.size wS w := by
  have := h.st
  rw [Ar.getD_false hk] at this
  exact this
theorem GI.call (h : GI wS b fb O P r iA iL iS x L w) (hk : L.getD iA true = false) (h2 : iL ≠ iA) (h3 : iS ≠ iA) {O' P' : Nat → Prop} (hM : MemAt w' b O' r.1) (hF : FrAt w' fb P' r.2.1) (hd : ∀ k, O' k → ¬ P' k) (hO : Grown O w w' O') (hP : Grown P w w' P') (hB : But (fun k => O k ∨ P k) w w') :
    GI wS b fb O P r iA iL iS (fun k => O' k ∨ P' k, x.2) (L.setIfInBounds iA true) w' := by
  have hp := h.pre hk
  have hs := hp.size
  refine ⟨?_, ?_, ?_, h.chg.trans hB, h.grow, ?_⟩
  · rw [Ar.getD_set_same hk, if_pos rfl]
    refine ⟨O', P', hM, hF, hd, fun k hk => ?_, fun k hk => ?_, rfl⟩
    · exact (hO k hk).imp id (fun q => ⟨by omega, q.2⟩)
    · exact (hP k hk).imp id (fun q => ⟨by omega, q.2⟩)
  · rw [Ar.getD_set_ne h2]; exact h.no
  · rw [Ar.getD_set_ne h2]; exact h.yes
  · rw [Ar.getD_set_ne h3]
    intro bx hx
    obtain ⟨a, _, _, _, d⟩ := h.box bx hx
    have hn : ¬ (O bx ∨ P bx) := fun e => by have := h.grow bx e; omega
    have hl := d.lt
    refine ⟨a, trivial, fun _ e => ?_, trivial, d.but hB hn⟩
    rcases e with e | e
    · rcases hO bx e with q | q
      · exact hn (.inl q)
      · omega
    · rcases hP bx e with q | q
      · exact hn (.inr q)
      · omega
theorem GI.alloc (h : GI wS b fb O P r iA iL iS x L w) (hk : L.getD iL true = false) (hS : L.getD iS false = false) (h1 : iA ≠ iL) (h3 : iS ≠ iL) (t : TypeId) :
    GI wS b fb O P r iA iL iS (x.1, some w.heap.size) (L.setIfInBounds iL true) (w.alloc (.cells Ans.zero.l.toArray t)) := by
  have hba : Below w.heap.size w (w.alloc (.cells Ans.zero.l.toArray t)) := (Below.refl _ _).alloc (Nat.le_refl _) _
  refine ⟨?_, ?_, ?_, h.chg.alloc _, h.grow, ?_⟩
  · rw [Ar.getD_set_ne h1]
    have hst := h.st
    split at hst
    case isTrue e =>
      rw [if_pos e]
      obtain ⟨O', P', a1, a2, a3, a4, a5, a6⟩ := hst
      exact ⟨O', P', a1.below hba, a2.below hba, a3, Grown.up a4 hba.size, Grown.up a5 hba.size, a6⟩
    case isFalse e =>
      rw [if_neg e]
      exact hst.trans (hba.mono hst.size)
  · rw [Ar.getD_set_same hk]; intro e; cases e
  · intro _; exact ⟨_, rfl⟩
  · intro bx hx
    cases hx
    rw [Ar.getD_set_ne h3, Ar.getD_set_ne h1, hS]
    refine ⟨h.chg.size, trivial, fun e => ?_, trivial, BoxAt.new w Ans.zero.l t⟩
    have hst := h.st
    rw [if_pos e] at hst
    obtain ⟨O', P', a1, a2, a3, a4, a5, a6⟩ := hst
    show ¬ x.1 w.heap.size
    rw [a6]
    rintro (q | q)
    · exact absurd (a1.lt _ q) (Nat.lt_irrefl _)
    · exact absurd (a2.lt _ q) (Nat.lt_irrefl _)
theorem GI.store (h : GI wS b fb O P r iA iL iS x L w) (hk : L.getD iS true = false) (h1 : iA ≠ iS) (h2 : iL ≠ iS) {bx : Nat} (hx : x.2 = some bx) : GI wS b fb O P r iA iL iS x (L.setIfInBounds iS true) (setBox w bx r.2.2.1.s) := by
  obtain ⟨a, _, bn, _, d⟩ := h.box bx hx
  rw [Ar.getD_false hk] at d
  have hb := setBox_but bx r.2.2.1.s w
  refine ⟨?_, ?_, ?_, h.chg.then hb (fun k hk e => by omega), h.grow, ?_⟩
  · rw [Ar.getD_set_ne h1]
    have hst := h.st
    split at hst
    case isTrue e =>
      rw [if_pos e]
      obtain ⟨O', P', a1, a2, a3, a4, a5, a6⟩ := hst
      have hn := bn e
      rw [a6] at hn
      exact ⟨O', P', a1.but hb (fun k hk e => hn (.inl (e ▸ hk))), a2.but hb (fun k hk e => hn (.inr (e ▸ hk))), a3, Grown.up a4 hb.size, Grown.up a5 hb.size, a6⟩
    case isFalse e =>
      rw [if_neg e]
      exact hst.trans (hb.below hst.size (fun k e => by omega))
  · rw [Ar.getD_set_ne h2]; exact h.no
  · rw [Ar.getD_set_ne h2]; exact h.yes
  · intro by_ hy
    rw [hx] at hy
    cases hy
    rw [Ar.getD_set_same hk, if_pos rfl, Ar.getD_set_ne h1]
    exact ⟨a, trivial, bn, trivial, setBox_box r.2.2.1.s d⟩
end
end Er
end Go.Proofs.YtbcmilfajeanbaaGreat
