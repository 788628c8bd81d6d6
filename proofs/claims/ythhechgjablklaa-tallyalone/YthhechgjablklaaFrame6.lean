/-
  Blocks whose cells are known one by one; an operation under way, as it lies in memory; what a step of a machine comes to.
-/
import Derived.Test.YthhechgjablklaaWrite5
import Derived.Test.YthhechgjablklaaOpIn6
namespace Go.Proofs.Ythhechgjablklaa
open Go.RowKit Go.Sort

/-- Block b begins with these cells, none of them frozen. -/
structure BoxAt (w : World) (b : Nat) (l : List Value) : Prop where
  lt : b < w.heap.size
  cell : ∀ i u, l[i]? = some u → w.cell? ⟨b, i, none⟩ = some u
  fz : ∀ i, i < l.length → w.frozen? ⟨b, i, none⟩ = false

section
variable {w w' : World} {b : Nat} {l : List Value} {S : Nat → Prop}
theorem BoxAt.but (h : BoxAt w b l) (hb : But S w w') (hS : ¬ S b) : BoxAt w' b l :=
  ⟨Nat.lt_of_lt_of_le h.lt hb.size, fun i u hu => (hb.cell (p := ⟨b, i, none⟩) h.lt hS).trans (h.cell i u hu), fun i hi => (hb.frozen (p := ⟨b, i, none⟩) h.lt hS).trans (h.fz i hi)⟩
theorem BoxAt.below (h : BoxAt w b l) (hb : Below w.heap.size w w') : BoxAt w' b l := h.but (S := fun _ => False) (But.of_below hb) id
theorem BoxAt.new (w : World) (l : List Value) (t : TypeId) : BoxAt (w.alloc (.cells l.toArray t)) w.heap.size l :=
  ⟨by simp, fun i u hu => by rw [World.cell?_alloc_new, List.getElem?_toArray]; exact hu, fun i _ => World.frozen?_alloc_new _ _ _ _⟩
theorem BoxAt.set (h : BoxAt w b l) (i : Nat) (v : Value) : BoxAt (w.setCell ⟨b, i, none⟩ v) b (l.set i v) := by
  refine ⟨by rw [World.size_setCell]; exact h.lt, fun j u hu => ?_, fun j hj => ?_⟩
  · rw [List.getElem?_set] at hu
    by_cases e : i = j
    · subst e
      rw [if_pos rfl] at hu
      split at hu
      case isTrue hl =>
        rw [World.cell?_setCell_same' _ _ _ (by rw [h.cell i _ (List.getElem?_eq_getElem hl)]; rfl)]
        exact hu
      case isFalse hl => cases hu
    · rw [if_neg e] at hu
      rw [World.cell?_setCell_other _ _ _ _ (fun q => e (by injection q))]
      exact h.cell j u hu
  · rw [World.frozen?_setCell]
    exact h.fz j (by simpa using hj)
theorem BoxAt.same (h : BoxAt w b l) {l' : List Value} (e : l = l') : BoxAt w b l' := e ▸ h
theorem BoxAt.drew (h : BoxAt w b l) : BoxAt w.drew b l := ⟨h.lt, h.cell, h.fz⟩
theorem BoxAt.get (h : BoxAt w b l) (i : Nat) (u : Value) (e : l[i]? = some u) : w.cell? ⟨b, i, none⟩ = some u ∧ w.frozen? ⟨b, i, none⟩ = false :=
  ⟨h.cell i u e, h.fz i (List.getElem?_eq_some_iff.1 e).1⟩
end

theorem BoxAt.drewN {w : World} {b : Nat} {l : List Value} (h : BoxAt w b l) (n : Nat) : BoxAt (w.drewN n) b l := ⟨h.lt, h.cell, h.fz⟩
/-- Two new boxes, one behind the other. -/
theorem two_new (w : World) (l1 l2 : List Value) (t1 t2 : TypeId) (n : Nat) : ∃ W, ((w.alloc (.cells l1.toArray t1)).alloc (.cells l2.toArray t2)).drewN n = W ∧ Below w.heap.size w W ∧ W.heap.size = w.heap.size + 2 ∧ BoxAt W w.heap.size l1 ∧ BoxAt W (w.heap.size + 1) l2 := by
  have h1 := BoxAt.new w l1 t1
  have h2 := BoxAt.new (w.alloc (.cells l1.toArray t1)) l2 t2
  rw [World.size_alloc] at h2
  refine ⟨_, rfl, below_drewN (((Below.refl _ _).alloc (Nat.le_refl _) _).alloc (by simp) _) n, by simp, (h1.below ((Below.refl _ _).alloc (Nat.le_refl _) _)).drewN n, h2.drewN n⟩
theorem drewN_zero (w : World) : w.drewN 0 = w := rfl

/-- An answer. -/
structure Ans where
  ok : Bool
  pri : Nat
  val : Int
  n : Int
def Ans.zero : Ans := ⟨false, 0, 0, 0⟩
abbrev Ans.l (a : Ans) : List Value := [.bool a.ok, .float .f64 a.pri, .int .i64 a.val, .int .i64 a.n]
abbrev Ans.v (a : Ans) : Value := .agg #[.bool a.ok, .float .f64 a.pri, .int .i64 a.val, .int .i64 a.n]

/-- An operation under way. -/
structure Fr where
  kind : Int
  pri : Nat
  val : Int
  d0 : Int
  d1 : Int
  pc : Int
  at_ : Int
  seen : Int
  seg : Int
  total : Int
  empty : Bool
  c0 : CV
  c1 : CV
/-- One that begins. -/
def Fr.of (kind : Int) (pri : Nat) (val d0 d1 : Int) : Fr := ⟨kind, pri, val, d0, d1, 0, 0, 0, 0, 0, false, CV.zero, CV.zero⟩
abbrev Fr.l (F : Fr) (a0 : Option Addr) (k0 : Nat) (a1 : Option Addr) (k1 : Nat) : List Value :=
  [.int .i64 F.kind, .float .f64 F.pri, .int .i64 F.val, .int .i64 F.d0, .int .i64 F.d1, .int .i64 F.pc, .int .i64 F.at_, .int .i64 F.seen, .int .i64 F.seg, .int .i64 F.total, .bool F.empty,
    .int .u64 F.c0.ver, .int .i64 F.c0.n, .slice a0 F.c0.L.length k0, .int .u64 F.c1.ver, .int .i64 F.c1.n, .slice a1 F.c1.L.length k1]
/-- It lies at block fb; P: the blocks that it owns. -/
structure FrAt (w : World) (fb : Nat) (P : Nat → Prop) (F : Fr) : Prop where
  ob : P fb
  lt : ∀ k, P k → k < w.heap.size
  box : ∃ a0 k0 a1 k1, BoxAt w fb (F.l a0 k0 a1 k1) ∧ SlAt 2 w a0 k0 F.c0.L.length (flatI F.c0.L) ∧ SlAt 2 w a1 k1 F.c1.L.length (flatI F.c1.L) ∧ (∀ j, inB a0 j → P j ∧ j ≠ fb) ∧ (∀ j, inB a1 j → P j ∧ j ≠ fb)
theorem FrAt.but {w w' : World} {fb : Nat} {P S : Nat → Prop} {F : Fr} (h : FrAt w fb P F) (hb : But S w w') (hS : ∀ k, P k → ¬ S k) : FrAt w' fb P F := by
  obtain ⟨a0, k0, a1, k1, h1, h2, h3, h4, h5⟩ := h.box
  exact ⟨h.ob, fun k hk => Nat.lt_of_lt_of_le (h.lt k hk) hb.size, a0, k0, a1, k1, h1.but hb (hS fb h.ob), h2.but hb (fun j hj => hS j (h4 j hj).1), h3.but hb (fun j hj => hS j (h5 j hj).1), h4, h5⟩
theorem FrAt.below {w w' : World} {fb : Nat} {P : Nat → Prop} {F : Fr} (h : FrAt w fb P F) (hb : Below w.heap.size w w') : FrAt w' fb P F := h.but (S := fun _ => False) (But.of_below hb) (fun _ _ e => e)

/-- What a machine's step does: the memory, the operation, the answer, is it done? -/
abbrev StepFn := Mem → Fr → Mem × Fr × Ans × Bool
/-- Some blocks, and new ones. -/
def Grown (O : Nat → Prop) (w w' : World) (O' : Nat → Prop) : Prop := ∀ k, O' k → O k ∨ (w.heap.size ≤ k ∧ k < w'.heap.size)
theorem Grown.refl (O : Nat → Prop) (w w' : World) : Grown O w w' O := fun _ h => .inl h
theorem Grown.trans {O O' O2 : Nat → Prop} {w w1 w2 : World} (h : Grown O w w1 O') (k : Grown O' w1 w2 O2) (h1 : w.heap.size ≤ w1.heap.size) (h2 : w1.heap.size ≤ w2.heap.size) : Grown O w w2 O2 := fun j hj => by
  rcases k j hj with e | e
  · rcases h j e with e | e
    · exact .inl e
    · exact .inr ⟨e.1, by omega⟩
  · exact .inr ⟨by omega, e.2⟩
theorem Grown.own' (O : Nat → Prop) (w w' : World) : Grown O w w' (own' O w w') := fun _ h => h
/-- How a step ends. -/
def StepEnd (b fb : Nat) (O P : Nat → Prop) (r : Mem × Fr × Ans × Bool) (w : World) (e : Ending) (w' : World) : Prop :=
  e = .returned (.tuple #[r.2.2.1.v, .bool r.2.2.2]) ∧ ∃ O' P', MemAt w' b O' r.1 ∧ FrAt w' fb P' r.2.1 ∧ (∀ k, O' k → ¬ P' k) ∧ Grown O w w' O' ∧ Grown P w w' P' ∧ But (fun k => O k ∨ P k) w w'
/-- Function f is a machine's step. -/
def IsStep (f : FuncId) (recv : Value) (G : Mem → Fr → Prop) (st : StepFn) : Prop :=
  ∀ (w : World) (b fb : Nat) (O P : Nat → Prop) (M : Mem) (F : Fr), MemAt w b O M → FrAt w fb P F → (∀ k, O k → ¬ P k) → G M F → M.clock < 4611686018427387904 →
    Calls Try.prog f #[recv, .pointer (some ⟨b, 0, none⟩), .pointer (some ⟨fb, 0, none⟩)] w (StepEnd b fb O P (st M F) w)
end Go.Proofs.Ythhechgjablklaa
