/-
  A whole struct stored into a box of its own, or read out of it, as one step of the walk.
  Layer 14: a call as it lies in memory; is it done, is one ahead of another one: contracts.
  Layer 14: calls one behind the other, by their cells.
-/
import Derived.Test.YtepigofpcjmddaaFrame6All
import Derived.Deep.MidRow
namespace Go.Proofs.Ytepigofpcjmddaa
open Go.RowKit Go.Sort

theorem BoxAt.there0 {w : World} {b : Nat} {l : List Value} {n : Nat} (h : BoxAt w b l) (hn : n = l.length) : w.there b 0 n := fun j hj => by
  rw [Nat.zero_add]; subst hn
  exact ⟨by rw [h.cell j _ (List.getElem?_eq_getElem hj)]; rfl, h.fz j hj⟩
theorem BoxAt.range0 {w : World} {b : Nat} {l : List Value} (h : BoxAt w b l) : w.rangeAt b 0 l := fun j v hv => by
  rw [Nat.zero_add]; exact h.cell j v hv
/-- A part of a box. -/
theorem BoxAt.range {w : World} {b : Nat} {l : List Value} (h : BoxAt w b l) (o : Nat) (cs : List Value) (hc : ∀ j, j < cs.length → l[o + j]? = cs[j]?) : w.rangeAt b o cs := fun j v hv => by
  refine h.cell (o + j) v ?_
  rw [hc j (List.getElem?_eq_some_iff.1 hv).1]; exact hv
/-- THE STORE. -/
theorem wpList_store_box {P : Program} {ops : Array Oper} {rest : List Oper} {o : Oper} {a : Act} {Q : Exit → Act → World → Prop} (w : World) (hg : o.guard = none) (T : TypeId) (s x : Operand) (hop : o.op = Op.store T s x) (hd : o.dst = none)
    (b : Nat) (vs : List Value) (hs : a.eval s = .pointer (some ⟨b, 0, none⟩)) (hx : a.eval x = .agg vs.toArray) (hi : (P.info? T).map (·.size) = some vs.length) (h1 : vs.all (·.oneCell') = true)
    {l : List Value} (hB : BoxAt w b l) (hl : l.length = vs.length)
    (hK : ∀ W, BoxAt W b vs → But (fun j => j = b) w W → wpList P ops Q rest a W) : wpList P ops Q (o :: rest) a w := by
  have hall : vs.toArray.all (·.oneCell') = true := by rw [List.all_toArray]; exact h1
  refine wpList_store_mid hg T s x hop b 0 vs.toArray hs hx (hB.there0 (by simp; omega)) (by rw [hi]; simp) hall ?_
  rw [hd]
  exact hK _ (box_cells hB hl) (but_setCells b vs 0 w w (But.refl _ w))
/-- THE LOAD. -/
theorem wpList_load_box {P : Program} {ops : Array Oper} {rest : List Oper} {o : Oper} {a : Act} {Q : Exit → Act → World → Prop} (w : World) (hg : o.guard = none) (T : TypeId) (x : Operand) (hop : o.op = Op.load T x)
    (b off : Nat) (cs : List Value) (hx : a.eval x = .pointer (some ⟨b, off, none⟩)) {d : TypeDesc} (hu : P.underlying T = some d) (hdr : d.isRow = true) (hi : (P.info? T).map (·.size) = some cs.length)
    {l : List Value} (hB : BoxAt w b l) (hc : ∀ j, j < cs.length → l[off + j]? = cs[j]?)
    (hK : wpList P ops Q rest (a.put o.dst (.agg cs.toArray)) w) : wpList P ops Q (o :: rest) a w :=
  wpList_load_mid hg T x hop b off hx cs d (hB.range off cs hc) hu hdr hi hK
end Go.Proofs.Ytepigofpcjmddaa

namespace Go.Proofs.Ytepigofpcjmddaa
open Go.RowKit Go.Sort

/-- A call. -/
structure Cl where
  thread : Int
  kind : Int
  pri : Nat
  val : Int
  d0 : Int
  d1 : Int
  beg : Int
  fin : Int
  ans : Ans
abbrev Cl.l (c : Cl) : List Value := [.int .i64 c.thread, .int .i64 c.kind, .float .f64 c.pri, .int .i64 c.val, .int .i64 c.d0, .int .i64 c.d1, .int .i64 c.beg, .int .i64 c.fin, .bool c.ans.ok, .float .f64 c.ans.pri, .int .i64 c.ans.val, .int .i64 c.ans.n]
abbrev Cl.v (c : Cl) : Value := .agg #[.int .i64 c.thread, .int .i64 c.kind, .float .f64 c.pri, .int .i64 c.val, .int .i64 c.d0, .int .i64 c.d1, .int .i64 c.beg, .int .i64 c.fin, .bool c.ans.ok, .float .f64 c.ans.pri, .int .i64 c.ans.val, .int .i64 c.ans.n]
def Cl.done (c : Cl) : Bool := decide (0 ≤ c.fin)
def Cl.ahead (c d : Cl) : Bool := decide (0 ≤ c.fin ∧ c.fin < d.beg)

theorem cdone_any (c : Cl) (w : World) : Calls Try.prog 107 #[c.v] w fun e w' => e = .returned (.bool c.done) ∧ Below w.heap.size w w' := by
  have hb : Below w.heap.size w (w.alloc (.cells c.l.toArray 101)) := (Below.refl _ _).alloc (Nat.le_refl _) _
  have HB := hidq hb
  clear hb
  cases hd : c.done
  · have h0 : decide (0 ≤ c.fin) = false := hd
    clear hd
    go_enter Try.func107, Try.ntmps107
    go_wp2
    go_ret
    exact ⟨rfl, HB.out⟩
  · have h0 : decide (0 ≤ c.fin) = true := hd
    clear hd
    go_enter Try.func107, Try.ntmps107
    go_wp2
    go_ret
    exact ⟨rfl, HB.out⟩

set_option maxHeartbeats 2000000 in
theorem cahead_any (c d : Cl) (w : World) : Calls Try.prog 124 #[c.v, d.v] w fun e w' => e = .returned (.bool (c.ahead d)) ∧ Below w.heap.size w w' := by
  obtain ⟨W, hW, hb, hs, h1, h2⟩ := two_new w c.l d.l 101 101 0
  obtain ⟨b, hbb⟩ : ∃ b, w.heap.size = b := ⟨_, rfl⟩
  have hW' : (w.alloc (.cells c.l.toArray 101)).alloc (.cells d.l.toArray 101) = W := hW
  rw [hbb] at h1 h2 hs
  have hdn := fun w => cdone_any c w
  have HB := hidq hb
  have HBB := hidq hbb
  have f7 := fun W' (hW : Below W.heap.size W W') => ((h1.below hW).get 7 _ rfl).1
  have f6 := fun W' (hW : Below W.heap.size W W') => ((h2.below hW).get 6 _ rfl).1
  have hl1 := h1.lt
  have hl2 := h2.lt
  have c0 := (h1.get 0 _ rfl).1
  have c1 := (h1.get 1 _ rfl).1
  have c2 := (h1.get 2 _ rfl).1
  have c3 := (h1.get 3 _ rfl).1
  have c4 := (h1.get 4 _ rfl).1
  have c5 := (h1.get 5 _ rfl).1
  have c6 := (h1.get 6 _ rfl).1
  have c7 := (h1.get 7 _ rfl).1
  have c8 := (h1.get 8 _ rfl).1
  have c9 := (h1.get 9 _ rfl).1
  have c10 := (h1.get 10 _ rfl).1
  have c11 := (h1.get 11 _ rfl).1
  have HF := hidq (And.intro f7 f6)
  have hS := hs
  clear hW hb h1 h2 f7 f6
  by_cases hd : c.done = true
  · rw [hd] at hdn
    have h0 : 0 ≤ c.fin := of_decide_eq_true hd
    by_cases hlt : c.fin < d.beg
    · have hr : c.ahead d = true := decide_eq_true ⟨h0, hlt⟩
      rw [hr]
      clear hr hd
      go_enter Try.func124, Try.ntmps124
      go_wp2_with fail
      refine (hdn _).mono ?_
      rintro e w1 ⟨rfl, hb1⟩
      have f7 := HF.out.1 _ hb1
      have f6 := HF.out.2 _ hb1
      have hsz := hb1.size
      have HX := hidq (HB.out.trans (hb1.mono HB.out.size))
      clear hb1
      go_wp2_with fail
      go_ret
      exact ⟨rfl, HX.out⟩
    · have hr : c.ahead d = false := decide_eq_false (fun e => hlt e.2)
      have hl0 : decide (c.fin < d.beg) = false := decide_eq_false hlt
      rw [hr]
      clear hr hd
      go_enter Try.func124, Try.ntmps124
      go_wp2_with fail
      refine (hdn _).mono ?_
      rintro e w1 ⟨rfl, hb1⟩
      have f7 := HF.out.1 _ hb1
      have f6 := HF.out.2 _ hb1
      have hsz := hb1.size
      have HX := hidq (HB.out.trans (hb1.mono HB.out.size))
      clear hb1
      go_wp2_with fail
      go_ret
      exact ⟨rfl, HX.out⟩
  · have hd' : c.done = false := by cases e : c.done <;> simp_all
    have hr : c.ahead d = false := decide_eq_false (fun e => hd (decide_eq_true e.1))
    rw [hd'] at hdn
    rw [hr]
    clear hr hd hd'
    go_enter Try.func124, Try.ntmps124
    go_wp2_with fail
    refine (hdn _).mono ?_
    rintro e w1 ⟨rfl, hb1⟩
    have HX := hidq (HB.out.trans (hb1.mono HB.out.size))
    clear hb1
    go_wp2_with fail
    go_ret
    exact ⟨rfl, HX.out⟩
end Go.Proofs.Ytepigofpcjmddaa

namespace Go.Proofs.Ytepigofpcjmddaa
open Go.RowKit Go.Sort

/-- Calls in a row. -/
def flatCl (L : List Cl) : List Value := L.flatMap Cl.l
theorem flatCl_snoc (L : List Cl) (c : Cl) : flatCl (L ++ [c]) = flatCl L ++ c.l := by simp [flatCl]
theorem flatCl_len (L : List Cl) : (flatCl L).length = L.length * 12 := by
  induction L with
  | nil => rfl
  | cons a l ih =>
    show (a.l ++ flatCl l).length = _
    rw [List.length_append, ih]
    show 12 + l.length * 12 = (l.length + 1) * 12
    omega
theorem flatCl_get : ∀ (L : List Cl) (i k : Nat) (c : Cl), L[i]? = some c → k < 12 → (flatCl L)[i * 12 + k]? = c.l[k]? := by
  intro L
  induction L with
  | nil => intro i k c h; simp at h
  | cons a l ih =>
    intro i k c h hk
    show (a.l ++ flatCl l)[i * 12 + k]? = _
    cases i with
    | zero =>
      simp only [List.getElem?_cons_zero, Option.some.injEq] at h
      subst h
      rw [Nat.zero_mul, Nat.zero_add, List.getElem?_append_left (by show k < 12; exact hk)]
    | succ i =>
      rw [List.getElem?_cons_succ] at h
      rw [List.getElem?_append_right (by show 12 ≤ _; omega), show (i + 1) * 12 + k - a.l.length = i * 12 + k by show (i + 1) * 12 + k - 12 = _; omega]
      exact ih i k c h hk
theorem plainCl : PlainK Try.prog 12 102 101 := by
  have h : (Try.prog.info? 101).map (fun i => (i.zero, i.size, i.bytes)) = some (some (.agg #[.int .i64 0, .int .i64 0, .float .f64 0, .int .i64 0, .int .i64 0, .int .i64 0, .int .i64 0, .int .i64 0, .bool false, .float .f64 0, .int .i64 0, .int .i64 0]), 12, 96) := by kernel_rfl
  obtain ⟨i, hi, he⟩ := Option.map_eq_some_iff.1 h
  simp only [Prod.mk.injEq] at he
  exact ⟨i, _, Try.underlying102, hi, he.1, he.2.1, rfl, by rw [he.2.2]; decide⟩
theorem cl_one (c : Cl) : ∀ u ∈ c.l, u.oneCell' = true := by
  intro u hu
  simp only [List.mem_cons, List.not_mem_nil, or_false] at hu
  rcases hu with h | h | h | h | h | h | h | h | h | h | h | h <;> (subst h; rfl)

end Go.Proofs.Ytepigofpcjmddaa
