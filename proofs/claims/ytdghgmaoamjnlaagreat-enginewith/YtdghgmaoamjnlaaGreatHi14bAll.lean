/-
  Layer 14: a call as it lies in memory; is it done, is one ahead of another one: contracts.
  Layer 14: a recorder as it lies in memory; a new one: contracts.
-/
import Derived.Test.YtdghgmaoamjnlaaGreatGhostAll
import Derived.Test.YtdghgmaoamjnlaaGreatSlGAll
namespace Go.Proofs.YtdghgmaoamjnlaaGreat
open Go.RowKit Go.Sort

/-- A call. -/
structure Cl where
  thread : Int
  kind : Int
  pri : Nat
  val : Int
  d0 : Int
  d1 : Int
  beg : Int
  fin : Int
  ans : Ans
abbrev Cl.l (c : Cl) : List Value := [.int .i64 c.thread, .int .i64 c.kind, .float .f64 c.pri, .int .i64 c.val, .int .i64 c.d0, .int .i64 c.d1, .int .i64 c.beg, .int .i64 c.fin, .bool c.ans.ok, .float .f64 c.ans.pri, .int .i64 c.ans.val, .int .i64 c.ans.n]
abbrev Cl.v (c : Cl) : Value := .agg #[.int .i64 c.thread, .int .i64 c.kind, .float .f64 c.pri, .int .i64 c.val, .int .i64 c.d0, .int .i64 c.d1, .int .i64 c.beg, .int .i64 c.fin, .bool c.ans.ok, .float .f64 c.ans.pri, .int .i64 c.ans.val, .int .i64 c.ans.n]
def Cl.done (c : Cl) : Bool := decide (0 ≤ c.fin)
def Cl.ahead (c d : Cl) : Bool := decide (0 ≤ c.fin ∧ c.fin < d.beg)

theorem cdone_any (c : Cl) (w : World) : Calls Tryz.prog 86 #[c.v] w fun e w' => e = .returned (.bool c.done) ∧ Below w.heap.size w w' := by
  have hb : Below w.heap.size w (w.alloc (.cells c.l.toArray 68)) := (Below.refl _ _).alloc (Nat.le_refl _) _
  have HB := hidq hb
  clear hb
  cases hd : c.done
  · have h0 : decide (0 ≤ c.fin) = false := hd
    clear hd
    go_enter Tryz.func86, Tryz.ntmps86
    go_wp2
    go_ret
    exact ⟨rfl, HB.out⟩
  · have h0 : decide (0 ≤ c.fin) = true := hd
    clear hd
    go_enter Tryz.func86, Tryz.ntmps86
    go_wp2
    go_ret
    exact ⟨rfl, HB.out⟩

set_option maxHeartbeats 2000000 in
theorem cahead_any (c d : Cl) (w : World) : Calls Tryz.prog 45 #[c.v, d.v] w fun e w' => e = .returned (.bool (c.ahead d)) ∧ Below w.heap.size w w' := by
  obtain ⟨W, hW, hb, hs, h1, h2⟩ := two_new w c.l d.l 68 68 0
  obtain ⟨b, hbb⟩ : ∃ b, w.heap.size = b := ⟨_, rfl⟩
  have hW' : (w.alloc (.cells c.l.toArray 68)).alloc (.cells d.l.toArray 68) = W := hW
  rw [hbb] at h1 h2 hs
  have hdn := fun w => cdone_any c w
  have HB := hidq hb
  have HBB := hidq hbb
  have f7 := fun W' (hW : Below W.heap.size W W') => ((h1.below hW).get 7 _ rfl).1
  have f6 := fun W' (hW : Below W.heap.size W W') => ((h2.below hW).get 6 _ rfl).1
  have hl1 := h1.lt
  have hl2 := h2.lt
  have c0 := (h1.get 0 _ rfl).1
  have c1 := (h1.get 1 _ rfl).1
  have c2 := (h1.get 2 _ rfl).1
  have c3 := (h1.get 3 _ rfl).1
  have c4 := (h1.get 4 _ rfl).1
  have c5 := (h1.get 5 _ rfl).1
  have c6 := (h1.get 6 _ rfl).1
  have c7 := (h1.get 7 _ rfl).1
  have c8 := (h1.get 8 _ rfl).1
  have c9 := (h1.get 9 _ rfl).1
  have c10 := (h1.get 10 _ rfl).1
  have c11 := (h1.get 11 _ rfl).1
  have HF := hidq (And.intro f7 f6)
  have hS := hs
  clear hW hb h1 h2 f7 f6
  by_cases hd : c.done = true
  · rw [hd] at hdn
    have h0 : 0 ≤ c.fin := of_decide_eq_true hd
    by_cases hlt : c.fin < d.beg
    · have hr : c.ahead d = true := decide_eq_true ⟨h0, hlt⟩
      rw [hr]
      clear hr hd
      go_enter Tryz.func45, Tryz.ntmps45
      go_wp2_with fail
      refine (hdn _).mono ?_
      rintro e w1 ⟨rfl, hb1⟩
      have f7 := HF.out.1 _ hb1
      have f6 := HF.out.2 _ hb1
      have hsz := hb1.size
      have HX := hidq (HB.out.trans (hb1.mono HB.out.size))
      clear hb1
      go_wp2_with fail
      go_ret
      exact ⟨rfl, HX.out⟩
    · have hr : c.ahead d = false := decide_eq_false (fun e => hlt e.2)
      have hl0 : decide (c.fin < d.beg) = false := decide_eq_false hlt
      rw [hr]
      clear hr hd
      go_enter Tryz.func45, Tryz.ntmps45
      go_wp2_with fail
      refine (hdn _).mono ?_
      rintro e w1 ⟨rfl, hb1⟩
      have f7 := HF.out.1 _ hb1
      have f6 := HF.out.2 _ hb1
      have hsz := hb1.size
      have HX := hidq (HB.out.trans (hb1.mono HB.out.size))
      clear hb1
      go_wp2_with fail
      go_ret
      exact ⟨rfl, HX.out⟩
  · have hd' : c.done = false := by cases e : c.done <;> simp_all
    have hr : c.ahead d = false := decide_eq_false (fun e => hd (decide_eq_true e.1))
    rw [hd'] at hdn
    rw [hr]
    clear hr hd hd'
    go_enter Tryz.func45, Tryz.ntmps45
    go_wp2_with fail
    refine (hdn _).mono ?_
    rintro e w1 ⟨rfl, hb1⟩
    have HX := hidq (HB.out.trans (hb1.mono HB.out.size))
    clear hb1
    go_wp2_with fail
    go_ret
    exact ⟨rfl, HX.out⟩
end Go.Proofs.YtdghgmaoamjnlaaGreat

namespace Go.Proofs.YtdghgmaoamjnlaaGreat
open Go.RowKit Go.Sort

/-- A recorder's cells: the engine, the calls, what each thread is at. -/
abbrev rcells (eb : Nat) (a : Option Addr) (n cap : Nat) (U : Nat → Option Nat) : List Value :=
  [.pointer (some ⟨eb, 0, none⟩), .slice a n cap, eptr (U 0), eptr (U 1), eptr (U 2), eptr (U 3), eptr (U 4), eptr (U 5)]
theorem rcells_thread (eb : Nat) (a : Option Addr) (n cap : Nat) (U : Nat → Option Nat) (k : Nat) (hk : k < 6) : (rcells eb a n cap U)[2 + k]? = some (eptr (U k)) := by
  have : k = 0 ∨ k = 1 ∨ k = 2 ∨ k = 3 ∨ k = 4 ∨ k = 5 := by omega
  rcases this with rfl | rfl | rfl | rfl | rfl | rfl <;> rfl
theorem rcells_set (eb : Nat) (a : Option Addr) (n cap : Nat) (U : Nat → Option Nat) (k : Nat) (hk : k < 6) (q : Option Nat) : (rcells eb a n cap U).set (2 + k) (eptr q) = rcells eb a n cap (qset U k q) := by
  have : k = 0 ∨ k = 1 ∨ k = 2 ∨ k = 3 ∨ k = 4 ∨ k = 5 := by omega
  rcases this with rfl | rfl | rfl | rfl | rfl | rfl <;> rfl
/-- Pointers in a row. -/
def ptrs (cs : List (Nat × Cl)) : List Value := cs.map fun p => .pointer (some ⟨p.1, 0, none⟩)
theorem ptrs_length (cs : List (Nat × Cl)) : (ptrs cs).length = cs.length := by simp [ptrs]
theorem ptrs_snoc (cs : List (Nat × Cl)) (b : Nat) (c : Cl) : ptrs (cs ++ [(b, c)]) = ptrs cs ++ [.pointer (some ⟨b, 0, none⟩)] := by simp [ptrs]
/-- The blocks that a recorder owns. -/
def RK (rb : Nat) (a : Option Addr) (cs : List (Nat × Cl)) (k : Nat) : Prop := k = rb ∨ inB a k ∨ ∃ p ∈ cs, p.1 = k
/-- A recorder at block rb. -/
structure RecAt (w : World) (rb eb : Nat) (a : Option Addr) (cap : Nat) (cs : List (Nat × Cl)) (U : Nat → Option Nat) : Prop where
  box : BoxAt w rb (rcells eb a cs.length cap U)
  sl : SlAt 1 w a cap cs.length (ptrs cs)
  cl : ∀ p ∈ cs, BoxAt w p.1 p.2.l
  nd : cs.Pairwise (fun p q => p.1 ≠ q.1)
  nb : ∀ p ∈ cs, p.1 ≠ rb ∧ ¬ inB a p.1
  na : ¬ inB a rb
theorem RecAt.lt {w : World} {rb eb : Nat} {a : Option Addr} {cap : Nat} {cs : List (Nat × Cl)} {U : Nat → Option Nat} (h : RecAt w rb eb a cap cs U) : ∀ k, RK rb a cs k → k < w.heap.size := by
  rintro k (rfl | hk | ⟨p, hp, rfl⟩)
  · exact h.box.lt
  · exact h.sl.lt k hk
  · exact (h.cl p hp).lt
theorem RecAt.but {w w' : World} {rb eb : Nat} {a : Option Addr} {cap : Nat} {cs : List (Nat × Cl)} {U : Nat → Option Nat} {S : Nat → Prop} (h : RecAt w rb eb a cap cs U) (hb : But S w w') (hS : ∀ k, RK rb a cs k → ¬ S k) : RecAt w' rb eb a cap cs U :=
  ⟨h.box.but hb (hS rb (.inl rfl)), h.sl.but hb (fun j hj => hS j (.inr (.inl hj))), fun p hp => (h.cl p hp).but hb (hS p.1 (.inr (.inr ⟨p, hp, rfl⟩))), h.nd, h.nb, h.na⟩
theorem RecAt.below {w w' : World} {rb eb : Nat} {a : Option Addr} {cap : Nat} {cs : List (Nat × Cl)} {U : Nat → Option Nat} (h : RecAt w rb eb a cap cs U) (hb : Below w.heap.size w w') : RecAt w' rb eb a cap cs U :=
  h.but (S := fun _ => False) (But.of_below hb) (fun _ _ e => e)
theorem RecAt.new {w : World} {rb eb : Nat} (h : BoxAt w rb (rcells eb none 0 0 (fun _ => none))) : RecAt w rb eb none 0 [] (fun _ => none) :=
  ⟨h, SlAt.nil _ _, (fun p hp => by cases hp), List.Pairwise.nil, (fun p hp => by cases hp), (fun ⟨x, hx, _⟩ => by cases hx)⟩

theorem of14_any (eb : Nat) (w : World) : Calls Tryz.prog 14 #[.pointer (some ⟨eb, 0, none⟩)] w fun e w' => e = .returned (.pointer (some ⟨w.heap.size, 0, none⟩)) ∧ RecAt w' w.heap.size eb none 0 [] (fun _ => none) ∧ Below w.heap.size w w' := by
  go_enter Tryz.func14, Tryz.ntmps14
  go_wp2
  go_ret
  exact ⟨rfl, RecAt.new (BoxAt.new w (rcells eb none 0 0 (fun _ => none)) _), (Below.refl _ _).alloc (Nat.le_refl _) _⟩
theorem forget_nil (r : Value) (w : World) : Calls Tryz.prog 103 #[r, .pointer none] w fun e w' => e = .returned (.tuple #[]) ∧ w' = w := by
  go_enter Tryz.func103, Tryz.ntmps103
  go_wp2
  exact bodyPost_end (results_none Tryz.results103 _ _ _) rfl ⟨rfl, rfl⟩
theorem plainH : PlainK Tryz.prog 1 41 42 := by
  have h : (Tryz.prog.info? 42).map (fun i => (i.zero, i.size, i.bytes)) = some (some (.pointer none), 1, 8) := by kernel_rfl
  obtain ⟨i, hi, he⟩ := Option.map_eq_some_iff.1 h
  simp only [Prod.mk.injEq] at he
  exact ⟨i, _, Tryz.underlying41, hi, he.1, he.2.1, rfl, by rw [he.2.2]; decide⟩
end Go.Proofs.YtdghgmaoamjnlaaGreat
