/-
  A region that draws its order, by a property of each operation's value AND A GHOST that the operations carry on: for values that an operation of the region makes and another of the region turns (a fresh slice that is appended to).
-/
import Derived.Test.YtedhecbcpcmlmaaRegion
namespace Go.Proofs.Ytedhecbcpcmlmaa.Reg
open Go

section
variable {γ : Type} (P : Program) (ops : Array Oper) (a0 : Act) (R : Nat → Value → γ → World → Prop) (Pres : γ → World → γ → World → Prop) (Inv : γ → Array Bool → World → Prop)

/-- What is asked of one operation. -/
def GStepAt (i : Nat) (o : Oper) : Prop :=
  ∀ (x : γ) (L : Array Bool) (ev : Operand → Value) (w : World), Inv x L w → L.getD i true = false → (∀ e ∈ o.after, Region.binds .any e = true → L.getD e.on false = true) → At ops a0 (fun j v w => R j v x w) L ev w →
    match o.guard with
    | none => Outcome P (fun v w' => ∃ x', R i v x' w' ∧ Pres x w x' w' ∧ Inv x' (L.setIfInBounds i true) w') ((execOp ev o).run P w)
    | some (g, want) => ∃ og t b, ops[g]? = some og ∧ og.dst = some t ∧ ev (.tmp t) = .bool b ∧
        if b = want then Outcome P (fun v w' => ∃ x', R i v x' w' ∧ Pres x w x' w' ∧ Inv x' (L.setIfInBounds i true) w') ((execOp ev o).run P w)
        else R i undef x w ∧ Inv x (L.setIfInBounds i true) w

def GAllSteps : Nat → List Oper → Prop
  | _, [] => True
  | k, o :: l => GStepAt P ops a0 R Pres Inv k o ∧ GAllSteps (k + 1) l
end

section
variable {γ : Type} {P : Program} {ops : Array Oper} {a0 : Act} {R : Nat → Value → γ → World → Prop} {Pres : γ → World → γ → World → Prop} {Inv : γ → Array Bool → World → Prop}

theorem GStepAt.plain {i : Nat} {o : Oper} (hg : o.guard = none)
    (h : ∀ (x : γ) (L : Array Bool) (ev : Operand → Value) (w : World), Inv x L w → L.getD i true = false → (∀ e ∈ o.after, Region.binds .any e = true → L.getD e.on false = true) → At ops a0 (fun j v w => R j v x w) L ev w →
      Outcome P (fun v w' => ∃ x', R i v x' w' ∧ Pres x w x' w' ∧ Inv x' (L.setIfInBounds i true) w') ((execOp ev o).run P w)) : GStepAt P ops a0 R Pres Inv i o := by
  intro x L ev w hI hk hp hA
  rw [hg]; exact h x L ev w hI hk hp hA
theorem GStepAt.guarded {i g : Nat} {want : Bool} {o : Oper} (hg : o.guard = some (g, want))
    (h : ∀ (x : γ) (L : Array Bool) (ev : Operand → Value) (w : World), Inv x L w → L.getD i true = false → (∀ e ∈ o.after, Region.binds .any e = true → L.getD e.on false = true) → At ops a0 (fun j v w => R j v x w) L ev w →
      ∃ og t, ops[g]? = some og ∧ og.dst = some t ∧ ev (.tmp t) = .bool want ∧
        Outcome P (fun v w' => ∃ x', R i v x' w' ∧ Pres x w x' w' ∧ Inv x' (L.setIfInBounds i true) w') ((execOp ev o).run P w)) : GStepAt P ops a0 R Pres Inv i o := by
  intro x L ev w hI hk hp hA
  rw [hg]
  obtain ⟨og, t, h1, h2, h3, h4⟩ := h x L ev w hI hk hp hA
  exact ⟨og, t, want, h1, h2, h3, by rw [if_pos rfl]; exact h4⟩

theorem GAllSteps.at : ∀ (l : List Oper) (k : Nat), GAllSteps P ops a0 R Pres Inv k l → ∀ (i : Nat) (o : Oper), l[i]? = some o → GStepAt P ops a0 R Pres Inv (k + i) o
  | [], _, _, i, o, h => by simp at h
  | x :: l, k, hs, 0, o, h => by simp at h; subst h; exact hs.1
  | x :: l, k, hs, i + 1, o, h => by
    have := GAllSteps.at l (k + 1) hs.2 i o (by simpa using h)
    rw [show k + (i + 1) = k + 1 + i by omega]; exact this

/-- The properties turned, all at once. -/
theorem Fits.turn {R R' : Nat → Value → World → Prop} {L : Array Bool} {a : Act} {w w' : World} (h : Fits ops a0 R L a w) (hR : ∀ j v, R j v w → R' j v w') : Fits ops a0 R' L a w' :=
  ⟨h.defers, h.size, h.lsize, fun j o t h1 h2 h3 => hR _ _ (h.val j o t h1 h2 h3), h.old, h.closed⟩

theorem gwpAny_of_steps {Q : Exit → Act → World → Prop} (hf : fineB ops a0.tmps.size = true) (hR : ∀ j v x w x' w', Pres x w x' w' → R j v x w → R j v x' w')
    (hs : ∀ i o, ops[i]? = some o → GStepAt P ops a0 R Pres Inv i o)
    (hend : ∀ x L a w, (∀ i, i < ops.size → L.getD i false = true) → Inv x L w → Fits ops a0 (fun j v w => R j v x w) L a w → Q .normal a w) :
    ∀ (fuel : Nat) (x : γ) (L : Array Bool) (a : Act) (w : World), L.toList.countP (! ·) = fuel → Inv x L w → Fits ops a0 (fun j v w => R j v x w) L a w → wpAny P .any ops Q fuel L a w := by
  intro fuel
  induction fuel with
  | zero =>
    intro x L a w hc hI hF
    have hr : Region.ready .any ops L = [] := by
      cases h : Region.ready .any ops L with
      | nil => rfl
      | cons y ys =>
        have hx : y ∈ Region.ready .any ops L := by rw [h]; simp
        have := count_set (mem_ready.1 hx).1
        omega
    exact ⟨hr, hend x L a w (all_listed hf hF.lsize hr) hI hF⟩
  | succ fuel ih =>
    intro x L a w hc hI hF
    refine ⟨fun hr => hend x L a w (all_listed hf hF.lsize hr) hI hF, fun i hi => ?_⟩
    obtain ⟨h0, o, ho, hall⟩ := mem_ready.1 hi
    have hst := hs i o ho x L a.eval w hI h0 hall hF.at
    have hcs := count_set h0
    unfold wpOp
    simp only [ho]
    have go : Outcome P (fun v w' => ∃ x', R i v x' w' ∧ Pres x w x' w' ∧ Inv x' (L.setIfInBounds i true) w') ((execOp a.eval o).run P w) →
        o.wp P a w (wpAny P .any ops Q fuel (L.setIfInBounds i true)) Q := fun h =>
      outcome_wp h fun v w' ⟨x', h1, h2, h3⟩ => ih x' _ _ _ (by omega) h3 ((hF.turn (R' := fun j v w => R j v x' w) (w' := w') (fun j v => hR j v x w x' w' h2)).put hf ho hall (fun _ _ h => h) (fun _ => h1))
    cases hg : o.guard with
    | none =>
      rw [hg] at hst
      rw [if_pos (by simp [Region.wanted, hg])]
      exact .inl (go hst)
    | some gw =>
      obtain ⟨g, want⟩ := gw
      rw [hg] at hst
      obtain ⟨og, t, b, hog, hd, hev, hcase⟩ := hst
      have hy : yielded ops a.tmps g = some b := by
        have hb : a.tmps[t]? = some (.bool b) := by
          have : a.tmps.getD t undef = .bool b := hev
          rw [Array.getD_eq_getD_getElem?] at this
          cases h : a.tmps[t]? with
          | none => rw [h] at this; cases this
          | some y => rw [h] at this; simpa using this
        simp [yielded, hog, hd, hb]
      by_cases hbw : b = want
      · rw [if_pos hbw] at hcase
        rw [if_pos (by simp [Region.wanted, hg, hy, hbw])]
        exact .inl (go hcase)
      · rw [if_neg hbw] at hcase
        rw [if_neg (by simp [Region.wanted, hg, hy, hbw])]
        exact ih x _ _ _ (by omega) hcase.2 (hF.put hf ho hall (fun _ _ h => h) (fun _ => hcase.1))

/-- THE RULE, with a ghost. -/
theorem wp_region_ghost {id : Nat} {l : List Oper} {Q : Exit → Act → World → Prop} {w : World} (R : Nat → Value → γ → World → Prop) (Pres : γ → World → γ → World → Prop) (Inv : γ → Array Bool → World → Prop) (x0 : γ)
    (hm : P.follows .mixedOrders = true) (hf : fineB l.toArray a0.tmps.size = true) (hR : ∀ j v x w x' w', Pres x w x' w' → R j v x w → R j v x' w')
    (hI : Inv x0 (Array.replicate l.length false) w.drew)
    (hs : GAllSteps P l.toArray a0 R Pres Inv 0 l)
    (hend : ∀ x L a w, (∀ i, i < l.length → L.getD i false = true) → Inv x L w → Fits l.toArray a0 (fun j v w => R j v x w) L a w → Q .normal a w) : (Code.region id l.toArray true).wp P Q a0 w := by
  refine wp_region_any hm ?_
  refine gwpAny_of_steps (Pres := Pres) (Inv := Inv) (R := R) (a0 := a0) hf hR ?_ (by simpa using hend) _ x0 _ _ _ ?_ (by simpa using hI) ?_
  · intro i o ho
    have := hs.at l 0 i o (by simpa using ho)
    simpa using this
  · simp [List.countP_replicate]
  · refine ⟨rfl, rfl, by simp, ?_, fun _ _ => rfl, ?_⟩
    · intro j o t ho hL
      exfalso
      rw [Array.getD_eq_getD_getElem?] at hL
      by_cases hj : j < l.toArray.size
      · simp at hj; simp [hj] at hL
      · simp at hj; simp [hj] at hL
    · intro j o ho hL
      exfalso
      rw [Array.getD_eq_getD_getElem?] at hL
      by_cases hj : j < l.toArray.size
      · simp at hj; simp [hj] at hL
      · simp at hj; simp [hj] at hL

/-- Properties by a list. -/
def gofList (l : List (Value → γ → World → Prop)) : Nat → Value → γ → World → Prop := fun j => l.getD j (fun _ _ _ => True)
def GAllKept (Pres : γ → World → γ → World → Prop) : List (Value → γ → World → Prop) → Prop
  | [] => True
  | p :: l => (∀ v x w x' w', Pres x w x' w' → p v x w → p v x' w') ∧ GAllKept Pres l
theorem GAllKept.at {Pres : γ → World → γ → World → Prop} : ∀ (l : List (Value → γ → World → Prop)), GAllKept Pres l → ∀ j v x w x' w', Pres x w x' w' → gofList l j v x w → gofList l j v x' w'
  | [], _, _, _, _, _, _, _, _, _ => trivial
  | _ :: _, h, 0, v, x, w, x', w', hp, hv => h.1 v x w x' w' hp hv
  | _ :: l, h, j + 1, v, x, w, x', w', hp, hv => GAllKept.at l h.2 j v x w x' w' hp hv
end
end Go.Proofs.Ytedhecbcpcmlmaa.Reg
