/-
  A function that answers an Answer and a bool: its end.
-/
import Derived.Test.YthhechgjablklaaFrame6
import Derived.Laws.ResultCell
namespace Go.Proofs.Ythhechgjablklaa
open Go.RowKit Go.Sort

theorem load_ans (W : World) (ab : Nat) (A : Ans) (h : BoxAt W ab A.l) : (loadVar 98 ⟨ab, 0, none⟩).run Try.prog W = .ok A.v W := by
  have q0 := (h.get 0 _ rfl).1
  have q1 := (h.get 1 _ rfl).1
  have q2 := (h.get 2 _ rfl).1
  have q3 := (h.get 3 _ rfl).1
  simp [loadVar, go_sem, q0, q1, q2, q3]

theorem ret_ans {fn : Func} {p u : Tmp} (h : fn.results = #[.cell p 98, .tmp u]) {a : Act} {W : World} {ab : Nat} {A : Ans} {d : Bool} {R : Ending → World → Prop}
    (hB : BoxAt W ab A.l) (hp : a.tmps.getD p undef = .pointer (some ⟨ab, 0, none⟩)) (hu : a.tmps.getD u undef = .bool d) (hd : a.defers = [])
    (hR : R (.returned (.tuple #[A.v, .bool d])) W) : bodyPost Try.prog fn R .ret a W := by
  refine bodyPost_ret (v := .tuple #[A.v, .bool d]) ?_ hd hR
  rw [results_cell_tmp h, hp, hu]
  have q0 := (hB.get 0 _ rfl).1
  have q1 := (hB.get 1 _ rfl).1
  have q2 := (hB.get 2 _ rfl).1
  have q3 := (hB.get 3 _ rfl).1
  simp [asAddr, go_sem, q0, q1, q2, q3, Result.andThen]

/-- Some cells of a block laid anew, one behind the other. -/
def setBox (w : World) (b : Nat) : List (Nat × Value) → World
  | [] => w
  | p :: l => setBox (w.setCell ⟨b, p.1, none⟩ p.2) b l
theorem setBox_but (b : Nat) : ∀ (s : List (Nat × Value)) (w : World), But (fun j => j = b) w (setBox w b s)
  | [], w => But.refl _ w
  | p :: l, w => ((But.refl (fun j => j = b) w).set1 b p.1 rfl p.2).trans (setBox_but b l _)
theorem setBox_size (b : Nat) : ∀ (s : List (Nat × Value)) (w : World), (setBox w b s).heap.size = w.heap.size
  | [], _ => rfl
  | _ :: l, _ => (setBox_size b l _).trans (World.size_setCell _ _ _)
theorem setBox_box {b : Nat} : ∀ (s : List (Nat × Value)) {w : World} {l : List Value}, BoxAt w b l → BoxAt (setBox w b s) b (s.foldl (fun l p => l.set p.1 p.2) l)
  | [], _, _, h => h
  | p :: s, _, _, h => setBox_box s (h.set p.1 p.2)
abbrev Ans.s (A : Ans) : List (Nat × Value) := [(0, .bool A.ok), (1, .float .f64 A.pri), (2, .int .i64 A.val), (3, .int .i64 A.n)]
theorem set_ans (A A0 : Ans) : A.s.foldl (fun l p => l.set p.1 p.2) A0.l = A.l := rfl

/-- A step whose last writes are in its frame and in its answer. -/
theorem stepEnd_of {w w2 : World} {b fb ab : Nat} {O P O' : Nat → Prop} {M' : Mem} {F' : Fr} {A A0 : Ans} {d : Bool} {l : List Value} (s : List (Nat × Value)) {a0 a1 : Option Addr} {k0 k1 : Nat}
    (hM : MemAt w2 b O' M') (hO : Grown O w w2 O') (hbut : But (fun k => O k ∨ P k) w w2) (hP : P fb) (hB : BoxAt w2 fb l) (hl : s.foldl (fun l p => l.set p.1 p.2) l = F'.l a0 k0 a1 k1)
    (hA : BoxAt w2 ab A0.l) (hab : w.heap.size ≤ ab) (hOa : ¬ O' ab) (hOf : ¬ O' fb) (hfa : fb ≠ ab)
    (s0 : SlAt 2 w2 a0 k0 F'.c0.L.length (flatI F'.c0.L)) (n0 : ∀ j, inB a0 j → j ≠ fb ∧ j ≠ ab ∧ ¬ O' j ∧ (P j ∨ w.heap.size ≤ j))
    (s1 : SlAt 2 w2 a1 k1 F'.c1.L.length (flatI F'.c1.L)) (n1 : ∀ j, inB a1 j → j ≠ fb ∧ j ≠ ab ∧ ¬ O' j ∧ (P j ∨ w.heap.size ≤ j)) :
    BoxAt (setBox (setBox w2 fb s) ab A.s) ab A.l ∧ StepEnd b fb O P (M', F', A, d) w (.returned (.tuple #[A.v, .bool d])) (setBox (setBox w2 fb s) ab A.s) := by
  have b1 := setBox_but fb s w2
  have b2 := setBox_but ab A.s (setBox w2 fb s)
  have hz : (setBox (setBox w2 fb s) ab A.s).heap.size = w2.heap.size := by rw [setBox_size, setBox_size]
  have hk : But (fun j => j = fb ∨ j = ab) w2 (setBox (setBox w2 fb s) ab A.s) := (b1.mono (fun _ _ e => .inl e)).trans (b2.mono (fun _ _ e => .inr e))
  have hB9 := (setBox_box s hB).but b2 hfa
  rw [hl] at hB9
  have hA9 : BoxAt (setBox (setBox w2 fb s) ab A.s) ab A.l := setBox_box A.s (hA.but b1 (fun e => hfa e.symm))
  generalize setBox (setBox w2 fb s) ab A.s = W9 at *
  refine ⟨hA9, rfl, O', fun k => k = fb ∨ inB a0 k ∨ inB a1 k, hM.but hk (fun j hj e => ?_), ⟨.inl rfl, ?_, a0, k0, a1, k1, hB9, s0.but hk (fun j hj e => ?_), s1.but hk (fun j hj e => ?_), fun j hj => ⟨.inr (.inl hj), (n0 j hj).1⟩, fun j hj => ⟨.inr (.inr hj), (n1 j hj).1⟩⟩, ?_, ?_, ?_, ?_⟩
  · rcases e with rfl | rfl
    · exact hOf hj
    · exact hOa hj
  · rintro j (rfl | hj | hj)
    · rw [hz]; exact hB.lt
    · rw [hz]; exact s0.lt j hj
    · rw [hz]; exact s1.lt j hj
  · rcases e with rfl | rfl
    · exact (n0 _ hj).1 rfl
    · exact (n0 _ hj).2.1 rfl
  · rcases e with rfl | rfl
    · exact (n1 _ hj).1 rfl
    · exact (n1 _ hj).2.1 rfl
  · rintro j hj (rfl | e | e)
    · exact hOf hj
    · exact (n0 j e).2.2.1 hj
    · exact (n1 j e).2.2.1 hj
  · intro j hj
    rcases hO j hj with e | e
    · exact .inl e
    · exact .inr ⟨e.1, by omega⟩
  · rintro j (rfl | hj | hj)
    · exact .inl hP
    · rcases (n0 j hj).2.2.2 with e | e
      · exact .inl e
      · exact .inr ⟨e, by rw [hz]; exact s0.lt j hj⟩
    · rcases (n1 j hj).2.2.2 with e | e
      · exact .inl e
      · exact .inr ⟨e, by rw [hz]; exact s1.lt j hj⟩
  · exact hbut.then hk (fun j hj e => by rcases e with rfl | rfl; exact .inr hP; omega)

/-- The same, where an order was drawn between the two. -/
theorem stepEnd_ofN {w w2 : World} {b fb ab : Nat} {O P O' : Nat → Prop} {M' : Mem} {F' : Fr} {A A0 : Ans} {d : Bool} {l : List Value} (n : Nat) (s : List (Nat × Value)) {a0 a1 : Option Addr} {k0 k1 : Nat}
    (hM : MemAt w2 b O' M') (hO : Grown O w w2 O') (hbut : But (fun k => O k ∨ P k) w w2) (hP : P fb) (hB : BoxAt w2 fb l) (hl : s.foldl (fun l p => l.set p.1 p.2) l = F'.l a0 k0 a1 k1)
    (hA : BoxAt w2 ab A0.l) (hab : w.heap.size ≤ ab) (hOa : ¬ O' ab) (hOf : ¬ O' fb) (hfa : fb ≠ ab)
    (s0 : SlAt 2 w2 a0 k0 F'.c0.L.length (flatI F'.c0.L)) (n0 : ∀ j, inB a0 j → j ≠ fb ∧ j ≠ ab ∧ ¬ O' j ∧ (P j ∨ w.heap.size ≤ j))
    (s1 : SlAt 2 w2 a1 k1 F'.c1.L.length (flatI F'.c1.L)) (n1 : ∀ j, inB a1 j → j ≠ fb ∧ j ≠ ab ∧ ¬ O' j ∧ (P j ∨ w.heap.size ≤ j)) :
    BoxAt (setBox ((setBox w2 fb s).drewN n) ab A.s) ab A.l ∧ StepEnd b fb O P (M', F', A, d) w (.returned (.tuple #[A.v, .bool d])) (setBox ((setBox w2 fb s).drewN n) ab A.s) := by
  have b1 := setBox_but fb s w2
  have hz : ((setBox w2 fb s).drewN n).heap.size = w2.heap.size := setBox_size fb s w2
  have hk : But (fun j => j = fb) w2 ((setBox w2 fb s).drewN n) := b1.drewN n
  have hB9 := (setBox_box s hB).drewN n
  rw [hl] at hB9
  have hA9 := hA.but hk (fun e => hfa e.symm)
  have hO9 : Grown O w ((setBox w2 fb s).drewN n) O' := fun k h => by rcases hO k h with e | e; exact .inl e; exact .inr ⟨e.1, by rw [hz]; exact e.2⟩
  exact stepEnd_of [] (hM.but hk (fun k h e => hOf (e ▸ h))) hO9 (hbut.then hk (fun j _ e => .inr (e ▸ hP))) hP hB9 rfl hA9 hab hOa hOf hfa (s0.but hk (fun j hj => (n0 j hj).1)) n0 (s1.but hk (fun j hj => (n1 j hj).1)) n1

/-- A step within a step: the answer is handed on. -/
theorem stepEnd_on {w W1 w2 : World} {b fb ab : Nat} {O P : Nat → Prop} {r : Mem × Fr × Ans × Bool} {A0 : Ans} {e : Ending} (hb : Below w.heap.size w W1) (hO : ∀ k, O k → k < w.heap.size) (hP : ∀ k, P k → k < w.heap.size)
    (h : StepEnd b fb O P r W1 e w2) (hA : BoxAt W1 ab A0.l) (hab : w.heap.size ≤ ab) :
    BoxAt (setBox w2 ab r.2.2.1.s) ab r.2.2.1.l ∧ StepEnd b fb O P r w (.returned (.tuple #[r.2.2.1.v, .bool r.2.2.2])) (setBox w2 ab r.2.2.1.s) := by
  obtain ⟨rfl, O', P', h1, h2, h3, h4, h5, h6⟩ := h
  have b2 := setBox_but ab r.2.2.1.s w2
  have hz := setBox_size ab r.2.2.1.s w2
  have hal := hA.lt
  have hs := hb.size
  have hnO : ¬ O' ab := fun e => by
    rcases h4 _ e with e | e
    · have := hO _ e; omega
    · omega
  have hnP : ¬ P' ab := fun e => by
    rcases h5 _ e with e | e
    · have := hP _ e; omega
    · omega
  refine ⟨setBox_box r.2.2.1.s (hA.but h6 (fun e => by rcases e with e | e; have := hO _ e; omega; have := hP _ e; omega)), rfl, O', P', h1.but b2 (fun k hk e => hnO (e ▸ hk)), h2.but b2 (fun k hk e => hnP (e ▸ hk)), h3, ?_, ?_, ?_⟩
  · intro k hk
    rcases h4 k hk with e | e
    · exact .inl e
    · exact .inr ⟨by omega, by rw [hz]; exact e.2⟩
  · intro k hk
    rcases h5 k hk with e | e
    · exact .inl e
    · exact .inr ⟨by omega, by rw [hz]; exact e.2⟩
  · exact ((But.of_below hb).trans h6).then b2 (fun k hk e => by omega)
end Go.Proofs.Ythhechgjablklaa
