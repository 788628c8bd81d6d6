/-
  A whole struct stored into a box of its own, or read out of it, as one step of the walk.
  Layer 13: an engine in memory; a new one: contracts.
  Slices that are nil or lie at the beginning of a block of their own, by their cells one behind the other: appending, copying.
-/
import Derived.Test.YtdghgmaoamjnlaaGreatKNew9All
import Derived.Deep.MidRow
namespace Go.Proofs.YtdghgmaoamjnlaaGreat
open Go.RowKit Go.Sort

theorem BoxAt.there0 {w : World} {b : Nat} {l : List Value} {n : Nat} (h : BoxAt w b l) (hn : n = l.length) : w.there b 0 n := fun j hj => by
  rw [Nat.zero_add]; subst hn
  exact ⟨by rw [h.cell j _ (List.getElem?_eq_getElem hj)]; rfl, h.fz j hj⟩
theorem BoxAt.range0 {w : World} {b : Nat} {l : List Value} (h : BoxAt w b l) : w.rangeAt b 0 l := fun j v hv => by
  rw [Nat.zero_add]; exact h.cell j v hv
/-- A part of a box. -/
theorem BoxAt.range {w : World} {b : Nat} {l : List Value} (h : BoxAt w b l) (o : Nat) (cs : List Value) (hc : ∀ j, j < cs.length → l[o + j]? = cs[j]?) : w.rangeAt b o cs := fun j v hv => by
  refine h.cell (o + j) v ?_
  rw [hc j (List.getElem?_eq_some_iff.1 hv).1]; exact hv
/-- THE STORE. -/
theorem wpList_store_box {P : Program} {ops : Array Oper} {rest : List Oper} {o : Oper} {a : Act} {Q : Exit → Act → World → Prop} (w : World) (hg : o.guard = none) (T : TypeId) (s x : Operand) (hop : o.op = Op.store T s x) (hd : o.dst = none)
    (b : Nat) (vs : List Value) (hs : a.eval s = .pointer (some ⟨b, 0, none⟩)) (hx : a.eval x = .agg vs.toArray) (hi : (P.info? T).map (·.size) = some vs.length) (h1 : vs.all (·.oneCell') = true)
    {l : List Value} (hB : BoxAt w b l) (hl : l.length = vs.length)
    (hK : ∀ W, BoxAt W b vs → But (fun j => j = b) w W → wpList P ops Q rest a W) : wpList P ops Q (o :: rest) a w := by
  have hall : vs.toArray.all (·.oneCell') = true := by rw [List.all_toArray]; exact h1
  refine wpList_store_mid hg T s x hop b 0 vs.toArray hs hx (hB.there0 (by simp; omega)) (by rw [hi]; simp) hall ?_
  rw [hd]
  exact hK _ (box_cells hB hl) (but_setCells b vs 0 w w (But.refl _ w))
/-- THE LOAD. -/
theorem wpList_load_box {P : Program} {ops : Array Oper} {rest : List Oper} {o : Oper} {a : Act} {Q : Exit → Act → World → Prop} (w : World) (hg : o.guard = none) (T : TypeId) (x : Operand) (hop : o.op = Op.load T x)
    (b off : Nat) (cs : List Value) (hx : a.eval x = .pointer (some ⟨b, off, none⟩)) {d : TypeDesc} (hu : P.underlying T = some d) (hdr : d.isRow = true) (hi : (P.info? T).map (·.size) = some cs.length)
    {l : List Value} (hB : BoxAt w b l) (hc : ∀ j, j < cs.length → l[off + j]? = cs[j]?)
    (hK : wpList P ops Q rest (a.put o.dst (.agg cs.toArray)) w) : wpList P ops Q (o :: rest) a w :=
  wpList_load_mid hg T x hop b off hx cs d (hB.range off cs hc) hu hdr hi hK
end Go.Proofs.YtdghgmaoamjnlaaGreat

namespace Go.Proofs.YtdghgmaoamjnlaaGreat
open Go.RowKit Go.Sort

/-- The pointer to a frame, or none. -/
abbrev eptr (q : Option Nat) : Value := .pointer (q.map fun fb => ⟨fb, 0, none⟩)
/-- An engine's cells: kind, parameter, machine, memory, whose frames, the gate, steps. -/
abbrev ecells (kind param : Int) (T : TypeId) (v : Value) (mb : Nat) (Q : Nat → Option Nat) (closed : Bool) (steps : Int) : List Value :=
  [.int .i64 kind, .int .i64 param, .iface T v, .pointer (some ⟨mb, 0, none⟩), eptr (Q 0), eptr (Q 1), eptr (Q 2), eptr (Q 3), eptr (Q 4), eptr (Q 5), .bool closed, .int .i64 steps]
theorem ecells_thread (kind param : Int) (T : TypeId) (v : Value) (mb : Nat) (Q : Nat → Option Nat) (closed : Bool) (steps : Int) (k : Nat) (hk : k < 6) : (ecells kind param T v mb Q closed steps)[4 + k]? = some (eptr (Q k)) := by
  have : k = 0 ∨ k = 1 ∨ k = 2 ∨ k = 3 ∨ k = 4 ∨ k = 5 := by omega
  rcases this with rfl | rfl | rfl | rfl | rfl | rfl <;> rfl
/-- Whose frames, with one anew. -/
def qset (Q : Nat → Option Nat) (k : Nat) (q : Option Nat) : Nat → Option Nat := fun j => if j = k then q else Q j
theorem qset_same (Q : Nat → Option Nat) (k : Nat) (q : Option Nat) : qset Q k q k = q := if_pos rfl
theorem qset_other (Q : Nat → Option Nat) (k : Nat) (q : Option Nat) {j : Nat} (h : j ≠ k) : qset Q k q j = Q j := if_neg h
theorem ecells_set (kind param : Int) (T : TypeId) (v : Value) (mb : Nat) (Q : Nat → Option Nat) (closed : Bool) (steps : Int) (k : Nat) (hk : k < 6) (q : Option Nat) : (ecells kind param T v mb Q closed steps).set (4 + k) (eptr q) = ecells kind param T v mb (qset Q k q) closed steps := by
  have : k = 0 ∨ k = 1 ∨ k = 2 ∨ k = 3 ∨ k = 4 ∨ k = 5 := by omega
  rcases this with rfl | rfl | rfl | rfl | rfl | rfl <;> rfl

/-- How a machine is made: what it is (K), the error. -/
def MachEnd (K : Nat → TypeId → Value → World → Prop) (r : Int) (w : World) (e : Ending) (w' : World) : Prop :=
  ∃ T v, e = .returned (.tuple #[.iface T v, .int .i64 r]) ∧ K w.heap.size T v w' ∧ Below w.heap.size w w'

theorem machine1_any (p : Int) (w : World) : Calls Tryz.prog 79 #[.int .i64 1, .int .i64 p] w (MachEnd (fun _ T v _ => T = 209 ∧ (legal 1 p = 0 → v = .agg #[.int .i64 p])) (legal 1 p) w) := by
  have hN := fun w => mnew_any p w
  have hv : legal 1 p = 0 → (if legal 1 p = 0 then p else 0) = p := fun h => if_pos h
  generalize legal 1 p = r at *
  generalize (if r = 0 then p else 0) = v at *
  have HV := hidq hv
  clear hv
  go_enter Tryz.func79, Tryz.ntmps79
  go_wp2_with fail
  refine (hN _).mono ?_
  rintro e w1 ⟨rfl, hb⟩
  have HB := hidq hb
  clear hb hN
  go_wp2
  go_ret2
  exact ⟨_, _, rfl, ⟨rfl, fun h => by rw [HV.out h]⟩, HB.out⟩
theorem machine2_any (p : Int) (w : World) : Calls Tryz.prog 79 #[.int .i64 2, .int .i64 p] w (MachEnd (fun _ T v _ => T = 213 ∧ (legal 2 p = 0 → v = .agg #[.int .i64 p])) (legal 2 p) w) := by
  have hN := fun w => knew_any p w
  have hv : legal 2 p = 0 → knewV p = .agg #[.int .i64 p] := fun h => if_pos h
  generalize legal 2 p = r at *
  generalize knewV p = v at *
  have HV := hidq hv
  clear hv
  go_enter Tryz.func79, Tryz.ntmps79
  go_wp2_with fail
  refine (hN _).mono ?_
  rintro e w1 ⟨rfl, hb⟩
  have HB := hidq hb
  clear hb hN
  go_wp2
  go_ret2
  exact ⟨_, _, rfl, ⟨rfl, HV.out⟩, HB.out⟩
theorem machine3_any (p : Int) (w : World) : Calls Tryz.prog 79 #[.int .i64 3, .int .i64 p] w (MachEnd (fun _ T v _ => T = 217 ∧ (legal 3 p = 0 → v = .agg #[.int .i64 p])) (legal 3 p) w) := by
  have hN := fun w => tnew_any p w
  have hv : legal 3 p = 0 → (if legal 3 p = 0 then p else 0) = p := fun h => if_pos h
  generalize legal 3 p = r at *
  generalize (if r = 0 then p else 0) = v at *
  have HV := hidq hv
  clear hv
  go_enter Tryz.func79, Tryz.ntmps79
  go_wp2_with fail
  refine (hN _).mono ?_
  rintro e w1 ⟨rfl, hb⟩
  have HB := hidq hb
  clear hb hN
  go_wp2
  go_ret2
  exact ⟨_, _, rfl, ⟨rfl, fun h => by rw [HV.out h]⟩, HB.out⟩
end Go.Proofs.YtdghgmaoamjnlaaGreat

namespace Go.Proofs.YtdghgmaoamjnlaaGreat
open Go.RowKit Go.Sort


/-- A slice of n elements of k cells each, l one behind the other. -/
def SlAt (k : Nat) (w : World) (a : Option Addr) (cap n : Nat) (l : List Value) : Prop :=
  (a = none ∧ n = 0 ∧ cap = 0 ∧ l = []) ∨ ∃ g, a = some ⟨g, 0, none⟩ ∧ Flat k w g cap n l
/-- The block of a slice. -/
def inB (a : Option Addr) (k : Nat) : Prop := ∃ x, a = some x ∧ x.block = k

section
variable {k cap n : Nat} {a : Option Addr} {l : List Value} {w w' : World} {S : Nat → Prop}
theorem SlAt.nil (k : Nat) (w : World) : SlAt k w none 0 0 [] := .inl ⟨rfl, rfl, rfl, rfl⟩
theorem SlAt.len (h : SlAt k w a cap n l) : l.length = n * k := by
  rcases h with ⟨_, rfl, _, rfl⟩ | ⟨g, _, h⟩
  · simp
  · exact h.len
theorem SlAt.but (h : SlAt k w a cap n l) (hb : But S w w') (hS : ∀ j, inB a j → ¬ S j) : SlAt k w' a cap n l := by
  rcases h with h | ⟨g, rfl, h⟩
  · exact .inl h
  · exact .inr ⟨g, rfl, h.but hb (hS g ⟨_, rfl, rfl⟩)⟩
theorem SlAt.below (h : SlAt k w a cap n l) (hb : Below w.heap.size w w') : SlAt k w' a cap n l := h.but (S := fun _ => False) (But.of_below hb) (fun _ _ e => e)
theorem SlAt.lt (h : SlAt k w a cap n l) : ∀ j, inB a j → j < w.heap.size := by
  rintro j ⟨x, hx, rfl⟩
  rcases h with ⟨h, _⟩ | ⟨g, h, hf⟩
  · rw [h] at hx; cases hx
  · rw [h] at hx; cases hx; exact hf.lt
theorem SlAt.le (h : SlAt k w a cap n l) : n ≤ cap := by
  rcases h with ⟨_, rfl, rfl, rfl⟩ | ⟨g, _, h⟩
  · exact Nat.le_refl _
  · exact h.le
theorem SlAt.cell (h : SlAt k w a cap n l) {t : Nat} {u : Value} (hu : l[t]? = some u) : ∃ g, a = some ⟨g, 0, none⟩ ∧ g < w.heap.size ∧ w.cell? ⟨g, t, none⟩ = some u := by
  rcases h with ⟨_, _, _, rfl⟩ | ⟨g, h, hf⟩
  · simp at hu
  · exact ⟨g, h, hf.lt, hf.cell t u hu⟩
theorem SlAt.src {P : Program} {tx e : TypeId} (h : SlAt k w a cap n l) (hk : P.underlying tx = some (.slice e)) : Src P k tx (.slice a n cap) n l w := by
  rcases h with ⟨rfl, rfl, rfl, rfl⟩ | ⟨g, rfl, hf⟩
  · exact Src.ofNil w hk 0
  · exact hf.src hk
end

/-- Appending onto nil. -/
theorem nil_append {P : Program} (k : Nat) (T E ty : TypeId) (i : TypeInfo) (z : Value) (hT : P.underlying T = some (.slice E)) (hi : P.info? E = some i) (hz : i.zero = some z) (hsz : i.size = k) (hzc : z.cells.size = k)
    (w : World) (x : Value) (m : Nat) (ys : List Value) (hs : Src P k T x m ys w) (hm : 0 < m) (hmx : m ≤ maxLen) (hby : m * i.bytes ≤ 140737488355328) :
    ∃ g' cap' w', (Builtin.append_ #[T, T] ty #[.slice none 0 0, x]).run P w = .ok (.slice (some ⟨g', 0, none⟩) m cap') w' ∧
      Flat k w' g' cap' m ys ∧ Below w.heap.size w w' ∧ w.heap.size ≤ g' := by
  subst hsz
  have hyl := hs.newsLen
  have hold : (Builtin.firstCells i.size 0 (.slice none 0 0)).run P w.drew = .ok ([] : List Value).toArray w.drew := run_firstCells_none w.drew i.size 0 0 0
  have h63 : ((0 + m : Nat) : Int) ≤ 9223372036854775807 := by unfold maxLen at hmx; omega
  have hr := run_append_grow_src (P := P) w T T ty E i z hT hi hz none 0 0 [] hold x m ys hs (by omega) h63 (growslice_fits (by omega) (by rw [Nat.zero_add]; exact hby))
  rw [Nat.zero_add] at hr
  have hge := grownCap_ge w m 0 E
  have hcm := grownCap_le_maxLen w m 0 E hmx
  generalize grownCap w m 0 E = C at hr hge hcm
  rw [List.nil_append] at hr
  have hc : ∀ j, (w.drew.alloc (.cells (ys.toArray ++ Builtin.zeroCells z.cells (C - m)) E)).cell? ⟨w.heap.size, j, none⟩ = (ys.toArray ++ Builtin.zeroCells z.cells (C - m))[j]? := fun j => World.cell?_alloc_new w.drew _ _ j
  refine ⟨w.heap.size, C, _, hr, ?_, ⟨rfl, rfl, rfl, by simp, fun j hj => Below.heap_alloc w.drew _ j hj⟩, Nat.le_refl _⟩
  refine ⟨by simp, hyl, hge, hcm, ?_, hs.one, ?_⟩
  · intro t u hu
    have ht : t < ys.length := (List.getElem?_eq_some_iff.1 hu).1
    rw [hc, Array.getElem?_append_left (by simpa using ht), List.getElem?_toArray]
    exact hu
  · intro j hj
    refine ⟨?_, World.frozen?_alloc_new w.drew _ _ _⟩
    rw [hc]
    have : j < (ys.toArray ++ Builtin.zeroCells z.cells (C - m)).size := by
      rw [Array.size_append, size_zeroCells, List.size_toArray, hyl]
      have e2 : m * i.size + (C - m) * i.size = C * i.size := by rw [← Nat.add_mul]; congr 1; omega
      rw [hzc]
      first | omega | (rw [Nat.mul_comm] at e2; omega)
    rw [Array.getElem?_eq_getElem this]; rfl

/-- Appending onto any such slice. -/
theorem sl_append {P : Program} {k : Nat} {T E : TypeId} (hp : PlainK P k T E) (ty : TypeId) (w : World) (a : Option Addr) (cap n : Nat) (l : List Value) (h : SlAt k w a cap n l) (x : Value) (m : Nat) (ys : List Value)
    (hs : Src P k T x m ys w) (hm : 0 < m) (hb : n + m ≤ 1099511627776) :
    ∃ g' cap' w', (Builtin.append_ #[T, T] ty #[.slice a n cap, x]).run P w = .ok (.slice (some ⟨g', 0, none⟩) (n + m) cap') w' ∧
      Flat k w' g' cap' (n + m) (l ++ ys) ∧ But (inB a) w w' ∧ (inB a g' ∨ w.heap.size ≤ g') := by
  obtain ⟨i, z, hT, hi, hz, hsz, hzc, hby⟩ := hp
  have hm2 : n + m ≤ maxLen := by unfold maxLen; omega
  have hb2 : (n + m) * i.bytes ≤ 140737488355328 := Nat.le_trans (Nat.mul_le_mul hb hby) (by decide)
  rcases h with ⟨rfl, rfl, rfl, rfl⟩ | ⟨g, rfl, hf⟩
  · rw [Nat.zero_add] at hm2 hb2 ⊢
    obtain ⟨g', cap', w', h1, h2, h3, h4⟩ := nil_append k T E ty i z hT hi hz hsz hzc w x m ys hs hm hm2 hb2
    exact ⟨g', cap', w', h1, by rw [List.nil_append]; exact h2, But.of_below h3, .inr h4⟩
  · obtain ⟨g', cap', w', h1, h2, h3, h4⟩ := flat_append k T E ty i z hT hi hz hsz hzc w g cap n l hf x m ys hs hm2 hb2
    refine ⟨g', cap', w', h1, h2, h3.mono (fun j _ e => ⟨_, rfl, e.symm⟩), h4.imp (fun e => ⟨_, rfl, e.symm⟩) id⟩

theorem wpList_sl {P : Program} {k : Nat} {T E : TypeId} (hp : PlainK P k T E) (w : World) {ops : Array Oper} {rest : List Oper} {o : Oper} {a : Act} {Q : Exit → Act → World → Prop}
    (hg : o.guard = none) (s x : Operand) (hop : o.op = Op.call { callee := Callee.builtin Builtin.append, args := #[s, x], argTypes := #[T, T] })
    (b : Option Addr) (cap n : Nat) (l : List Value) (hs : a.eval s = .slice b n cap) (hF : SlAt k w b cap n l) (xv : Value) (hx : a.eval x = xv) (m : Nat) (ys : List Value)
    (hsrc : Src P k T xv m ys w) (hm : 0 < m) (hb : n + m ≤ 1099511627776)
    (hK : ∀ g' cap' w', Flat k w' g' cap' (n + m) (l ++ ys) → But (inB b) w w' → (inB b g' ∨ w.heap.size ≤ g') → wpList P ops Q rest (a.put o.dst (.slice (some ⟨g', 0, none⟩) (n + m) cap')) w') : wpList P ops Q (o :: rest) a w := by
  refine wpList_plain hg fun K hK' => ?_
  obtain ⟨g', cap', w', hrun, r1, r2, r3⟩ := sl_append hp o.type w b cap n l hF xv m ys hsrc hm hb
  unfold Oper.wp
  simp [execOp, hop, resolve, invoke, builtin, hs, hx, hrun, Result.andThen]
  exact hK' _ _ (hK g' cap' w' r1 r2 r3)

/-- One element, laid in a block of its own. -/
theorem src_new {P : Program} {T E : TypeId} (k : Nat) (w : World) (hk : P.underlying T = some (.slice E)) (b : Nat) (us : List Value) (hl : us.length = k) (hc : ∀ j u, us[j]? = some u → w.cell? ⟨b, j, none⟩ = some u) (h1 : ∀ u ∈ us, u.oneCell' = true) :
    Src P k T (.slice (some ⟨b, 0, none⟩) 1 1) 1 us w :=
  Src.ofSlice w hk _ 1 1 us (by rw [hl, Nat.one_mul]) (fun j u hu => by rw [Addr.add_lit, Nat.zero_add]; exact hc j u hu) h1

end Go.Proofs.YtdghgmaoamjnlaaGreat
