/-
  Layer 6: an operation that nobody disturbs, on any machine: contract.
-/
import Derived.Test.YthhechgjablklaaAns6
namespace Go.Proofs.Ythhechgjablklaa
open Go.RowKit Go.Sort

/-- An operation that nobody disturbs, up to so many steps. -/
def alone (st : StepFn) : Nat → Mem → Fr → Mem × Ans × Bool
  | 0, M, _ => (M, Ans.zero, false)
  | n + 1, M, F => if (st M F).2.2.2 = true then ((st M F).1, (st M F).2.2.1, true) else alone st n (st M F).1 (st M F).2.1
theorem alone_done {st : StepFn} {n : Nat} {M M' : Mem} {F F' : Fr} {A : Ans} (h : st M F = (M', F', A, true)) : alone st (n + 1) M F = (M', A, true) := by
  unfold alone; rw [h]; rfl
theorem alone_on {st : StepFn} {n : Nat} {M M' : Mem} {F F' : Fr} {A : Ans} (h : st M F = (M', F', A, false)) : alone st (n + 1) M F = alone st n M' F' := by
  conv => lhs; unfold alone
  rw [h]; rfl

/-- A machine whose steps keep to what is asked of them. -/
structure Fine (G : Mem → Fr → Prop) (st : StepFn) : Prop where
  on : ∀ M F, G M F → (st M F).2.2.2 = false → G (st M F).1 (st M F).2.1
  clock : ∀ M F, (st M F).1.clock ≤ M.clock + 1

/-- How it ends. -/
def AEnd (b : Nat) (O : Nat → Prop) (r : Mem × Ans × Bool) (w : World) (e : Ending) (w' : World) : Prop :=
  e = .returned (.tuple #[r.2.1.v, .bool r.2.2]) ∧ ∃ O', MemAt w' b O' r.1 ∧ Grown O w w' O' ∧ But O w w'

/-- A machine in a box, a memory beside it, all made since w. -/
structure St (w W : World) (sb : Nat) (l : List Value) (mb : Nat) (O : Nat → Prop) (M : Mem) : Prop where
  mem : MemAt W mb O M
  own : ∀ k, O k → w.heap.size ≤ k ∧ k ≠ sb
  box : BoxAt W sb l
  low : Below w.heap.size w W
section
variable {w W W' : World} {sb mb : Nat} {l : List Value} {O O' : Nat → Prop} {M M' : Mem}
theorem St.call (h : St w W sb l mb O M) (h1 : MemAt W' mb O' M') (h2 : Grown O W W' O') (h3 : But O W W') : St w W' sb l mb O' M' := by
  refine ⟨h1, fun k hk => ?_, h.box.but h3 (fun e => (h.own _ e).2 rfl), h.low.trans (h3.below h.low.size (fun k e => (h.own k e).1))⟩
  rcases h2 k hk with e | e
  · exact h.own k e
  · have := h.box.lt; have := h.low.size; omega
theorem St.below (h : St w W sb l mb O M) (hb : Below W.heap.size W W') : St w W' sb l mb O M :=
  ⟨h.mem.below hb, h.own, h.box.below hb, h.low.trans (hb.mono h.low.size)⟩
theorem St.alloc (h : St w W sb l mb O M) (o : Obj) : St w (W.alloc o) sb l mb O M := h.below ((Below.refl _ _).alloc (Nat.le_refl _) o)
end

end Go.Proofs.Ythhechgjablklaa
