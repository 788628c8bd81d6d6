/-
  The slots behind a region that draws its order, written out: those that it wrote by what was said of them, the others as they were.
-/
import Derived.Test.YtdghgmaoamjnlaaGreatGhostAll
namespace Go.Proofs.YtdghgmaoamjnlaaGreat
open Go.RowKit
namespace Reg

theorem fold_size (f : Nat → Value) : ∀ (ds : List Nat) (T : Array Value), (ds.foldl (fun T t => T.setIfInBounds t (f t)) T).size = T.size
  | [], _ => rfl
  | d :: ds, T => by rw [List.foldl_cons, fold_size f ds]; simp
theorem fold_get (f : Nat → Value) : ∀ (ds : List Nat) (T : Array Value) (i : Nat), i < T.size → (ds.foldl (fun T t => T.setIfInBounds t (f t)) T)[i]? = if ds.contains i = true then some (f i) else T[i]?
  | [], T, i, _ => by simp
  | d :: ds, T, i, h => by
    rw [List.foldl_cons, fold_get f ds _ i (by simpa using h), Array.getElem?_setIfInBounds]
    by_cases e : ds.contains i = true
    · rw [if_pos e, if_pos (by simp at e ⊢; exact .inr e)]
    · rw [if_neg e]
      by_cases e2 : d = i
      · subst e2; rw [if_pos rfl, if_pos h, if_pos (by simp)]
      · rw [if_neg e2, if_neg (by simp at e ⊢; exact ⟨fun q => e2 q.symm, e⟩)]

def coversB (ops : Array Oper) (ds : List Nat) : Bool := (List.range ops.size).all fun j => match (ops[j]?).bind (·.dst) with | none => true | some t => ds.contains t
theorem covers_at {ops : Array Oper} {ds : List Nat} (h : coversB ops ds = true) {j t : Nat} {o : Oper} (ho : ops[j]? = some o) (hd : o.dst = some t) : ds.contains t = true := by
  have hj : j < ops.size := by
    rcases Nat.lt_or_ge j ops.size with h' | h'
    · exact h'
    · rw [Array.getElem?_eq_none h'] at ho; cases ho
  have := List.all_eq_true.1 h j (List.mem_range.2 hj)
  simp only [ho, Option.bind_some, hd] at this
  exact this

theorem Fits.act {ops : Array Oper} {a0 : Act} {R : Nat → Value → World → Prop} {L : Array Bool} {a : Act} {w : World} (hF : Fits ops a0 R L a w) (ds : List Nat) (hc : coversB ops ds = true) :
    a = ⟨ds.foldl (fun T t => T.setIfInBounds t (a.eval (.tmp t))) a0.tmps, a0.defers⟩ := by
  have hsz := hF.size
  have hdf := hF.defers
  have hold : ∀ t, ds.contains t = false → a.eval (.tmp t) = a0.eval (.tmp t) := fun t ht => hF.old t (fun j o ho _ hd => by rw [covers_at hc ho hd] at ht; cases ht)
  have hev : ∀ t, a.eval (.tmp t) = a.tmps.getD t undef := fun _ => rfl
  have hev0 : ∀ t, a0.eval (.tmp t) = a0.tmps.getD t undef := fun _ => rfl
  have ht : a.tmps = ds.foldl (fun T t => T.setIfInBounds t (a.eval (.tmp t))) a0.tmps := by
    apply Array.ext_getElem?
    intro i
    by_cases hi : i < a0.tmps.size
    · rw [fold_get (fun t => a.eval (.tmp t)) ds a0.tmps i hi]
      have hia : i < a.tmps.size := by rw [hsz]; exact hi
      cases e : ds.contains i
      · rw [if_neg (by decide)]
        have := hold i e
        rw [hev, hev0, Array.getD_eq_getD_getElem?, Array.getD_eq_getD_getElem?, Array.getElem?_eq_getElem hia, Array.getElem?_eq_getElem hi] at this
        rw [Array.getElem?_eq_getElem hia, Array.getElem?_eq_getElem hi]
        exact congrArg some this
      · rw [if_pos rfl, hev, Array.getD_eq_getD_getElem?, Array.getElem?_eq_getElem hia]
        rfl
    · rw [Array.getElem?_eq_none (by rw [hsz]; omega), Array.getElem?_eq_none (by rw [fold_size]; omega)]
  obtain ⟨t, d⟩ := a
  simp only at hdf
  subst hdf
  exact congrArg (fun q => (⟨q, a0.defers⟩ : Act)) ht
end Reg
end Go.Proofs.YtdghgmaoamjnlaaGreat
