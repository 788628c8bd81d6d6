/-
  Blocks whose cells are known one by one.
-/
import Derived.Test.YtepigofpcjmddaaMem5bAll
namespace Go.Proofs.Ytepigofpcjmddaa
open Go.RowKit Go.Sort

/-- Block b begins with these cells, none of them frozen. -/
structure BoxAt (w : World) (b : Nat) (l : List Value) : Prop where
  lt : b < w.heap.size
  cell : ∀ i u, l[i]? = some u → w.cell? ⟨b, i, none⟩ = some u
  fz : ∀ i, i < l.length → w.frozen? ⟨b, i, none⟩ = false

section
variable {w w' : World} {b : Nat} {l : List Value} {S : Nat → Prop}
theorem BoxAt.but (h : BoxAt w b l) (hb : But S w w') (hS : ¬ S b) : BoxAt w' b l :=
  ⟨Nat.lt_of_lt_of_le h.lt hb.size, fun i u hu => (hb.cell (p := ⟨b, i, none⟩) h.lt hS).trans (h.cell i u hu), fun i hi => (hb.frozen (p := ⟨b, i, none⟩) h.lt hS).trans (h.fz i hi)⟩
theorem BoxAt.below (h : BoxAt w b l) (hb : Below w.heap.size w w') : BoxAt w' b l := h.but (S := fun _ => False) (But.of_below hb) id
theorem BoxAt.new (w : World) (l : List Value) (t : TypeId) : BoxAt (w.alloc (.cells l.toArray t)) w.heap.size l :=
  ⟨by simp, fun i u hu => by rw [World.cell?_alloc_new, List.getElem?_toArray]; exact hu, fun i _ => World.frozen?_alloc_new _ _ _ _⟩
theorem BoxAt.set (h : BoxAt w b l) (i : Nat) (v : Value) : BoxAt (w.setCell ⟨b, i, none⟩ v) b (l.set i v) := by
  refine ⟨by rw [World.size_setCell]; exact h.lt, fun j u hu => ?_, fun j hj => ?_⟩
  · rw [List.getElem?_set] at hu
    by_cases e : i = j
    · subst e
      rw [if_pos rfl] at hu
      split at hu
      case isTrue hl =>
        rw [World.cell?_setCell_same' _ _ _ (by rw [h.cell i _ (List.getElem?_eq_getElem hl)]; rfl)]
        exact hu
      case isFalse hl => cases hu
    · rw [if_neg e] at hu
      rw [World.cell?_setCell_other _ _ _ _ (fun q => e (by injection q))]
      exact h.cell j u hu
  · rw [World.frozen?_setCell]
    exact h.fz j (by simpa using hj)
theorem BoxAt.same (h : BoxAt w b l) {l' : List Value} (e : l = l') : BoxAt w b l' := e ▸ h
theorem BoxAt.drew (h : BoxAt w b l) : BoxAt w.drew b l := ⟨h.lt, h.cell, h.fz⟩
theorem BoxAt.get (h : BoxAt w b l) (i : Nat) (u : Value) (e : l[i]? = some u) : w.cell? ⟨b, i, none⟩ = some u ∧ w.frozen? ⟨b, i, none⟩ = false :=
  ⟨h.cell i u e, h.fz i (List.getElem?_eq_some_iff.1 e).1⟩
end

theorem BoxAt.drewN {w : World} {b : Nat} {l : List Value} (h : BoxAt w b l) (n : Nat) : BoxAt (w.drewN n) b l := ⟨h.lt, h.cell, h.fz⟩
/-- Two new boxes, one behind the other. -/
theorem two_new (w : World) (l1 l2 : List Value) (t1 t2 : TypeId) (n : Nat) : ∃ W, ((w.alloc (.cells l1.toArray t1)).alloc (.cells l2.toArray t2)).drewN n = W ∧ Below w.heap.size w W ∧ W.heap.size = w.heap.size + 2 ∧ BoxAt W w.heap.size l1 ∧ BoxAt W (w.heap.size + 1) l2 := by
  have h1 := BoxAt.new w l1 t1
  have h2 := BoxAt.new (w.alloc (.cells l1.toArray t1)) l2 t2
  rw [World.size_alloc] at h2
  refine ⟨_, rfl, below_drewN (((Below.refl _ _).alloc (Nat.le_refl _) _).alloc (by simp) _) n, by simp, (h1.below ((Below.refl _ _).alloc (Nat.le_refl _) _)).drewN n, h2.drewN n⟩
theorem drewN_zero (w : World) : w.drewN 0 = w := rfl
/-- All of a box laid anew. -/
theorem box_cells {w : World} {b : Nat} {l cs : List Value} (h : BoxAt w b l) (hl : l.length = cs.length) : BoxAt (w.setCells b 0 cs) b cs := by
  have hc : ∀ j, j < cs.length → (w.cell? ⟨b, 0 + j, none⟩).isSome = true := fun j hj => by rw [Nat.zero_add, h.cell j _ (List.getElem?_eq_getElem (by omega))]; rfl
  refine ⟨Nat.lt_of_lt_of_le h.lt (but_setCells b cs 0 w w (But.refl _ w)).size, fun i u hu => ?_, fun i hi => ?_⟩
  · obtain ⟨hj, hv⟩ := List.getElem?_eq_some_iff.1 hu
    have := World.cell?_setCells_in b cs 0 w hc i hj
    rw [Nat.zero_add] at this
    rw [this, hv]
  · rw [World.frozen?_setCells]; exact h.fz i (by omega)

end Go.Proofs.Ytepigofpcjmddaa
