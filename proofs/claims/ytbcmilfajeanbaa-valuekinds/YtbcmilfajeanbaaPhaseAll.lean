/-
  A whole struct stored into a box of its own, or read out of it, as one step of the walk.
  Slices that are nil or lie at the beginning of a block of their own, by their cells one behind the other: appending, copying.
  Slices of items: copying.
  A region that draws its order, by a property of each operation's value: whatever order is drawn, each operation runs where those that it waits for have left values with their properties; at the end all properties hold.
  A region that draws its order, by a property of each operation's value AND A GHOST that the operations carry on: for values that an operation of the region makes and another of the region turns (a fresh slice that is appended to).
  The slots behind a region that draws its order, written out: those that it wrote by what was said of them, the others as they were.
  A region that draws its order in which some operations turn memory that was there (an append, a store), one behind the other: their number is carried on as a ghost; all others only read, or make memory.
-/
import Derived.Test.YtbcmilfajeanbaaBoxGAll
import Derived.Deep.MidRow
import Derived.Orders
import Derived.WalkKit
import Derived.Deep.QuietTactic
namespace Go.Proofs.Ytbcmilfajeanbaa
open Go.RowKit Go.Sort

theorem BoxAt.there0 {w : World} {b : Nat} {l : List Value} {n : Nat} (h : BoxAt w b l) (hn : n = l.length) : w.there b 0 n := fun j hj => by
  rw [Nat.zero_add]; subst hn
  exact ⟨by rw [h.cell j _ (List.getElem?_eq_getElem hj)]; rfl, h.fz j hj⟩
theorem BoxAt.range0 {w : World} {b : Nat} {l : List Value} (h : BoxAt w b l) : w.rangeAt b 0 l := fun j v hv => by
  rw [Nat.zero_add]; exact h.cell j v hv
/-- A part of a box. -/
theorem BoxAt.range {w : World} {b : Nat} {l : List Value} (h : BoxAt w b l) (o : Nat) (cs : List Value) (hc : ∀ j, j < cs.length → l[o + j]? = cs[j]?) : w.rangeAt b o cs := fun j v hv => by
  refine h.cell (o + j) v ?_
  rw [hc j (List.getElem?_eq_some_iff.1 hv).1]; exact hv
/-- THE STORE. -/
theorem wpList_store_box {P : Program} {ops : Array Oper} {rest : List Oper} {o : Oper} {a : Act} {Q : Exit → Act → World → Prop} (w : World) (hg : o.guard = none) (T : TypeId) (s x : Operand) (hop : o.op = Op.store T s x) (hd : o.dst = none)
    (b : Nat) (vs : List Value) (hs : a.eval s = .pointer (some ⟨b, 0, none⟩)) (hx : a.eval x = .agg vs.toArray) (hi : (P.info? T).map (·.size) = some vs.length) (h1 : vs.all (·.oneCell') = true)
    {l : List Value} (hB : BoxAt w b l) (hl : l.length = vs.length)
    (hK : ∀ W, BoxAt W b vs → But (fun j => j = b) w W → wpList P ops Q rest a W) : wpList P ops Q (o :: rest) a w := by
  have hall : vs.toArray.all (·.oneCell') = true := by rw [List.all_toArray]; exact h1
  refine wpList_store_mid hg T s x hop b 0 vs.toArray hs hx (hB.there0 (by simp; omega)) (by rw [hi]; simp) hall ?_
  rw [hd]
  exact hK _ (box_cells hB hl) (but_setCells b vs 0 w w (But.refl _ w))
/-- THE LOAD. -/
theorem wpList_load_box {P : Program} {ops : Array Oper} {rest : List Oper} {o : Oper} {a : Act} {Q : Exit → Act → World → Prop} (w : World) (hg : o.guard = none) (T : TypeId) (x : Operand) (hop : o.op = Op.load T x)
    (b off : Nat) (cs : List Value) (hx : a.eval x = .pointer (some ⟨b, off, none⟩)) {d : TypeDesc} (hu : P.underlying T = some d) (hdr : d.isRow = true) (hi : (P.info? T).map (·.size) = some cs.length)
    {l : List Value} (hB : BoxAt w b l) (hc : ∀ j, j < cs.length → l[off + j]? = cs[j]?)
    (hK : wpList P ops Q rest (a.put o.dst (.agg cs.toArray)) w) : wpList P ops Q (o :: rest) a w :=
  wpList_load_mid hg T x hop b off hx cs d (hB.range off cs hc) hu hdr hi hK
end Go.Proofs.Ytbcmilfajeanbaa

namespace Go.Proofs.Ytbcmilfajeanbaa
open Go.RowKit Go.Sort


/-- A slice of n elements of k cells each, l one behind the other. -/
def SlAt (k : Nat) (w : World) (a : Option Addr) (cap n : Nat) (l : List Value) : Prop :=
  (a = none ∧ n = 0 ∧ cap = 0 ∧ l = []) ∨ ∃ g, a = some ⟨g, 0, none⟩ ∧ Flat k w g cap n l
/-- The block of a slice. -/
def inB (a : Option Addr) (k : Nat) : Prop := ∃ x, a = some x ∧ x.block = k

section
variable {k cap n : Nat} {a : Option Addr} {l : List Value} {w w' : World} {S : Nat → Prop}
theorem SlAt.nil (k : Nat) (w : World) : SlAt k w none 0 0 [] := .inl ⟨rfl, rfl, rfl, rfl⟩
theorem SlAt.len (h : SlAt k w a cap n l) : l.length = n * k := by
  rcases h with ⟨_, rfl, _, rfl⟩ | ⟨g, _, h⟩
  · simp
  · exact h.len
theorem SlAt.but (h : SlAt k w a cap n l) (hb : But S w w') (hS : ∀ j, inB a j → ¬ S j) : SlAt k w' a cap n l := by
  rcases h with h | ⟨g, rfl, h⟩
  · exact .inl h
  · exact .inr ⟨g, rfl, h.but hb (hS g ⟨_, rfl, rfl⟩)⟩
theorem SlAt.below (h : SlAt k w a cap n l) (hb : Below w.heap.size w w') : SlAt k w' a cap n l := h.but (S := fun _ => False) (But.of_below hb) (fun _ _ e => e)
theorem SlAt.lt (h : SlAt k w a cap n l) : ∀ j, inB a j → j < w.heap.size := by
  rintro j ⟨x, hx, rfl⟩
  rcases h with ⟨h, _⟩ | ⟨g, h, hf⟩
  · rw [h] at hx; cases hx
  · rw [h] at hx; cases hx; exact hf.lt
theorem SlAt.le (h : SlAt k w a cap n l) : n ≤ cap := by
  rcases h with ⟨_, rfl, rfl, rfl⟩ | ⟨g, _, h⟩
  · exact Nat.le_refl _
  · exact h.le
theorem SlAt.cell (h : SlAt k w a cap n l) {t : Nat} {u : Value} (hu : l[t]? = some u) : ∃ g, a = some ⟨g, 0, none⟩ ∧ g < w.heap.size ∧ w.cell? ⟨g, t, none⟩ = some u := by
  rcases h with ⟨_, _, _, rfl⟩ | ⟨g, h, hf⟩
  · simp at hu
  · exact ⟨g, h, hf.lt, hf.cell t u hu⟩
theorem SlAt.src {P : Program} {tx e : TypeId} (h : SlAt k w a cap n l) (hk : P.underlying tx = some (.slice e)) : Src P k tx (.slice a n cap) n l w := by
  rcases h with ⟨rfl, rfl, rfl, rfl⟩ | ⟨g, rfl, hf⟩
  · exact Src.ofNil w hk 0
  · exact hf.src hk
end

/-- Appending onto nil. -/
theorem nil_append {P : Program} (k : Nat) (T E ty : TypeId) (i : TypeInfo) (z : Value) (hT : P.underlying T = some (.slice E)) (hi : P.info? E = some i) (hz : i.zero = some z) (hsz : i.size = k) (hzc : z.cells.size = k)
    (w : World) (x : Value) (m : Nat) (ys : List Value) (hs : Src P k T x m ys w) (hm : 0 < m) (hmx : m ≤ maxLen) (hby : m * i.bytes ≤ 140737488355328) :
    ∃ g' cap' w', (Builtin.append_ #[T, T] ty #[.slice none 0 0, x]).run P w = .ok (.slice (some ⟨g', 0, none⟩) m cap') w' ∧
      Flat k w' g' cap' m ys ∧ Below w.heap.size w w' ∧ w.heap.size ≤ g' := by
  subst hsz
  have hyl := hs.newsLen
  have hold : (Builtin.firstCells i.size 0 (.slice none 0 0)).run P w.drew = .ok ([] : List Value).toArray w.drew := run_firstCells_none w.drew i.size 0 0 0
  have h63 : ((0 + m : Nat) : Int) ≤ 9223372036854775807 := by unfold maxLen at hmx; omega
  have hr := run_append_grow_src (P := P) w T T ty E i z hT hi hz none 0 0 [] hold x m ys hs (by omega) h63 (growslice_fits (by omega) (by rw [Nat.zero_add]; exact hby))
  rw [Nat.zero_add] at hr
  have hge := grownCap_ge w m 0 E
  have hcm := grownCap_le_maxLen w m 0 E hmx
  generalize grownCap w m 0 E = C at hr hge hcm
  rw [List.nil_append] at hr
  have hc : ∀ j, (w.drew.alloc (.cells (ys.toArray ++ Builtin.zeroCells z.cells (C - m)) E)).cell? ⟨w.heap.size, j, none⟩ = (ys.toArray ++ Builtin.zeroCells z.cells (C - m))[j]? := fun j => World.cell?_alloc_new w.drew _ _ j
  refine ⟨w.heap.size, C, _, hr, ?_, ⟨rfl, rfl, rfl, by simp, fun j hj => Below.heap_alloc w.drew _ j hj⟩, Nat.le_refl _⟩
  refine ⟨by simp, hyl, hge, hcm, ?_, hs.one, ?_⟩
  · intro t u hu
    have ht : t < ys.length := (List.getElem?_eq_some_iff.1 hu).1
    rw [hc, Array.getElem?_append_left (by simpa using ht), List.getElem?_toArray]
    exact hu
  · intro j hj
    refine ⟨?_, World.frozen?_alloc_new w.drew _ _ _⟩
    rw [hc]
    have : j < (ys.toArray ++ Builtin.zeroCells z.cells (C - m)).size := by
      rw [Array.size_append, size_zeroCells, List.size_toArray, hyl]
      have e2 : m * i.size + (C - m) * i.size = C * i.size := by rw [← Nat.add_mul]; congr 1; omega
      rw [hzc]
      first | omega | (rw [Nat.mul_comm] at e2; omega)
    rw [Array.getElem?_eq_getElem this]; rfl

/-- Appending onto any such slice. -/
theorem sl_append {P : Program} {k : Nat} {T E : TypeId} (hp : PlainK P k T E) (ty : TypeId) (w : World) (a : Option Addr) (cap n : Nat) (l : List Value) (h : SlAt k w a cap n l) (x : Value) (m : Nat) (ys : List Value)
    (hs : Src P k T x m ys w) (hm : 0 < m) (hb : n + m ≤ 1099511627776) :
    ∃ g' cap' w', (Builtin.append_ #[T, T] ty #[.slice a n cap, x]).run P w = .ok (.slice (some ⟨g', 0, none⟩) (n + m) cap') w' ∧
      Flat k w' g' cap' (n + m) (l ++ ys) ∧ But (inB a) w w' ∧ (inB a g' ∨ w.heap.size ≤ g') := by
  obtain ⟨i, z, hT, hi, hz, hsz, hzc, hby⟩ := hp
  have hm2 : n + m ≤ maxLen := by unfold maxLen; omega
  have hb2 : (n + m) * i.bytes ≤ 140737488355328 := Nat.le_trans (Nat.mul_le_mul hb hby) (by decide)
  rcases h with ⟨rfl, rfl, rfl, rfl⟩ | ⟨g, rfl, hf⟩
  · rw [Nat.zero_add] at hm2 hb2 ⊢
    obtain ⟨g', cap', w', h1, h2, h3, h4⟩ := nil_append k T E ty i z hT hi hz hsz hzc w x m ys hs hm hm2 hb2
    exact ⟨g', cap', w', h1, by rw [List.nil_append]; exact h2, But.of_below h3, .inr h4⟩
  · obtain ⟨g', cap', w', h1, h2, h3, h4⟩ := flat_append k T E ty i z hT hi hz hsz hzc w g cap n l hf x m ys hs hm2 hb2
    refine ⟨g', cap', w', h1, h2, h3.mono (fun j _ e => ⟨_, rfl, e.symm⟩), h4.imp (fun e => ⟨_, rfl, e.symm⟩) id⟩

theorem wpList_sl {P : Program} {k : Nat} {T E : TypeId} (hp : PlainK P k T E) (w : World) {ops : Array Oper} {rest : List Oper} {o : Oper} {a : Act} {Q : Exit → Act → World → Prop}
    (hg : o.guard = none) (s x : Operand) (hop : o.op = Op.call { callee := Callee.builtin Builtin.append, args := #[s, x], argTypes := #[T, T] })
    (b : Option Addr) (cap n : Nat) (l : List Value) (hs : a.eval s = .slice b n cap) (hF : SlAt k w b cap n l) (xv : Value) (hx : a.eval x = xv) (m : Nat) (ys : List Value)
    (hsrc : Src P k T xv m ys w) (hm : 0 < m) (hb : n + m ≤ 1099511627776)
    (hK : ∀ g' cap' w', Flat k w' g' cap' (n + m) (l ++ ys) → But (inB b) w w' → (inB b g' ∨ w.heap.size ≤ g') → wpList P ops Q rest (a.put o.dst (.slice (some ⟨g', 0, none⟩) (n + m) cap')) w') : wpList P ops Q (o :: rest) a w := by
  refine wpList_plain hg fun K hK' => ?_
  obtain ⟨g', cap', w', hrun, r1, r2, r3⟩ := sl_append hp o.type w b cap n l hF xv m ys hsrc hm hb
  unfold Oper.wp
  simp [execOp, hop, resolve, invoke, builtin, hs, hx, hrun, Result.andThen]
  exact hK' _ _ (hK g' cap' w' r1 r2 r3)

/-- One element, laid in a block of its own. -/
theorem src_new {P : Program} {T E : TypeId} (k : Nat) (w : World) (hk : P.underlying T = some (.slice E)) (b : Nat) (us : List Value) (hl : us.length = k) (hc : ∀ j u, us[j]? = some u → w.cell? ⟨b, j, none⟩ = some u) (h1 : ∀ u ∈ us, u.oneCell' = true) :
    Src P k T (.slice (some ⟨b, 0, none⟩) 1 1) 1 us w :=
  Src.ofSlice w hk _ 1 1 us (by rw [hl, Nat.one_mul]) (fun j u hu => by rw [Addr.add_lit, Nat.zero_add]; exact hc j u hu) h1

end Go.Proofs.Ytbcmilfajeanbaa

namespace Go.Proofs.Ytbcmilfajeanbaa
open Go.RowKit Go.Sort

/-! Items: their bits and values. -/
abbrev It := Nat × Int
def encI (x : It) : List Value := [.float .f64 x.1, .int .i64 x.2]
def flatI (L : List It) : List Value := L.flatMap encI
theorem flatI_length (L : List It) : (flatI L).length = L.length * 2 := by
  induction L with
  | nil => rfl
  | cons x L ih => simp only [flatI, List.flatMap_cons, List.length_append, List.length_cons] at *; rw [ih]; simp [encI]; omega
theorem flatI_append (L M : List It) : flatI (L ++ M) = flatI L ++ flatI M := by simp [flatI]
theorem flatI_get : ∀ (L : List It) (i : Nat) (h : i < L.length), (flatI L)[i * 2]? = some (.float .f64 L[i].1) ∧ (flatI L)[i * 2 + 1]? = some (.int .i64 L[i].2)
  | x :: L, 0, h => ⟨rfl, rfl⟩
  | x :: L, i + 1, h => by
    have := flatI_get L i (by simpa using h)
    simp only [List.getElem_cons_succ]
    have e : flatI (x :: L) = .float .f64 x.1 :: .int .i64 x.2 :: flatI L := rfl
    rw [e, show (i + 1) * 2 = i * 2 + 1 + 1 by omega]
    exact this
theorem flatI_one (L : List It) : ∀ u ∈ flatI L, u.oneCell' = true := by
  intro u hu
  simp only [flatI, List.mem_flatMap, encI] at hu
  obtain ⟨x, _, hx⟩ := hu
  simp at hx
  rcases hx with rfl | rfl <;> rfl
theorem plainI : PlainK Try.prog 2 26 39 := by
  have h : (Try.prog.info? 39).map (fun i => (i.zero, i.size, i.bytes)) = some (some (.agg #[.float .f64 0, .int .i64 0]), 2, 16) := by kernel_rfl
  obtain ⟨i, hi, he⟩ := Option.map_eq_some_iff.1 h
  simp only [Prod.mk.injEq] at he
  exact ⟨i, _, Try.underlying26, hi, he.1, he.2.1, rfl, by rw [he.2.2]; decide⟩

/-- slices.Clone of items. -/
theorem sclone_any (a : Option Addr) (cap n : Nat) (l : List Value) (w : World) (h : SlAt 2 w a cap n l) (hn : n ≤ 1000000) :
    Calls Try.prog 35 #[.slice a n cap] w fun e w' => ∃ a' cap', e = .returned (.slice a' n cap') ∧ SlAt 2 w' a' cap' n l ∧ (∀ j, inB a' j → w.heap.size ≤ j) ∧ Below w.heap.size w w' := by
  have hq := fun w a n c => Lib.run_eql_slice_nil (P := Try.prog) w 26 39 a n c 0 0 Try.underlying26
  rcases h with ⟨rfl, rfl, rfl, rfl⟩ | ⟨g, rfl, hf⟩
  · go_enter Try.func35, Try.ntmps35
    go_wp2
    go_ret
    exact ⟨none, 0, rfl, SlAt.nil _ _, (fun j e => by obtain ⟨x, hx, _⟩ := e; cases hx), Below.refl _ _⟩
  · have hF := hidq hf
    have hlt := hf.lt
    go_enter Try.func35, Try.ntmps35
    clear hf
    go_wp2_with (at_builtin; refine wpList_flat plainI _ rfl (.tmp 5) (.tmp 6) rfl w.heap.size 0 0 [] rfl (Flat.new w [] 39 2 0 rfl (Nat.zero_le _) (fun _ h => (by cases h))) _ rfl n l ((hF.out.but (S := fun _ => False) ((But.refl _ _).alloc _) id).src Try.underlying26) (by omega) ?_; intro g2 cap2 w2 hF2 hb2 hg2)
    go_ret
    first | rw [Nat.zero_add, List.nil_append] at hF2 | rw [List.nil_append] at hF2 | skip
    refine ⟨some ⟨g2, 0, none⟩, cap2, rfl, .inr ⟨g2, rfl, hF2⟩, ?_, ?_⟩
    · rintro j ⟨x, hx, rfl⟩
      cases hx
      simp at hg2
      show w.heap.size ≤ g2
      omega
    · exact (((But.refl (fun k => k = w.heap.size) w).alloc _).trans hb2).below (Nat.le_refl _) (fun k e => by omega)
end Go.Proofs.Ytbcmilfajeanbaa

namespace Go.Proofs.Ytbcmilfajeanbaa.Reg
open Go

/-- What an operation comes to: a value, or a call that returns. -/
def Outcome (P : Program) (K : Value → World → Prop) : Result Next → Prop
  | .ok (.value v) w' => K v w'
  | .ok .skip w' => K undef w'
  | .ok (.enter f args) w' => Calls P f args w' fun e w'' => ∃ v, e = .returned v ∧ K v w''
  | _ => False

theorem outcome_value {P : Program} {K : Value → World → Prop} {v : Value} {w : World} (h : K v w) : Outcome P K (.ok (.value v) w) := h

theorem outcome_wp {P : Program} {o : Oper} {a : Act} {w : World} {K : Value → World → Prop} {N : Act → World → Prop} {Q : Exit → Act → World → Prop}
    (h : Outcome P K ((execOp a.eval o).run P w)) (hn : ∀ v w', K v w' → N (a.put o.dst v) w') : o.wp P a w N Q := by
  unfold Oper.wp
  generalize (execOp a.eval o).run P w = r at *
  cases r with
  | ok n w' =>
    cases n <;> simp only [Outcome, Oper.upon] at h ⊢
    case value v => exact hn _ _ h
    case skip => exact hn _ _ h
    case enter f args =>
      refine Calls.mono h ?_
      rintro e w'' ⟨v, rfl, hk⟩
      exact hn _ _ hk
  | halt x w' => simp [Outcome] at h

/-- The edges lead back, and no two operations write one slot; every slot is there. -/
def fineB (ops : Array Oper) (n : Nat) : Bool :=
  (List.range ops.size).all fun i => match ops[i]? with
    | none => true
    | some o => o.after.all (fun e => decide (e.on < i) || !Region.binds .any e) &&
      (match o.dst with
       | none => true
       | some t => decide (t < n) && (List.range ops.size).all fun j => decide (j = i) || ((ops[j]?).bind (·.dst)) != some t)

theorem fine_back {ops : Array Oper} {n i : Nat} {o : Oper} (h : fineB ops n = true) (ho : ops[i]? = some o) : ∀ e ∈ o.after, Region.binds .any e = true → e.on < i := by
  have hi : i < ops.size := by
    rcases Nat.lt_or_ge i ops.size with h' | h'
    · exact h'
    · rw [Array.getElem?_eq_none h'] at ho; cases ho
  have := List.all_eq_true.1 h i (List.mem_range.2 hi)
  simp only [ho, Bool.and_eq_true] at this
  intro e he hb
  have h2 := this.1
  rw [Array.all_eq_true_iff_forall_mem] at h2
  have h3 := h2 e he
  rw [hb] at h3
  simpa using h3

theorem fine_dst {ops : Array Oper} {n i j t : Nat} {o o' : Oper} (h : fineB ops n = true) (ho : ops[i]? = some o) (ho' : ops[j]? = some o') (hd : o.dst = some t) (hd' : o'.dst = some t) : j = i := by
  have hi : i < ops.size := by
    rcases Nat.lt_or_ge i ops.size with h' | h'
    · exact h'
    · rw [Array.getElem?_eq_none h'] at ho; cases ho
  have hj : j < ops.size := by
    rcases Nat.lt_or_ge j ops.size with h' | h'
    · exact h'
    · rw [Array.getElem?_eq_none h'] at ho'; cases ho'
  have := List.all_eq_true.1 h i (List.mem_range.2 hi)
  simp only [ho, hd, Bool.and_eq_true] at this
  have h2 := List.all_eq_true.1 this.2.2 j (List.mem_range.2 hj)
  simp only [ho', Option.bind_some, hd'] at h2
  simpa using h2

theorem fine_lt {ops : Array Oper} {n i t : Nat} {o : Oper} (h : fineB ops n = true) (ho : ops[i]? = some o) (hd : o.dst = some t) : t < n := by
  have hi : i < ops.size := by
    rcases Nat.lt_or_ge i ops.size with h' | h'
    · exact h'
    · rw [Array.getElem?_eq_none h'] at ho; cases ho
  have := List.all_eq_true.1 h i (List.mem_range.2 hi)
  simp only [ho, hd, Bool.and_eq_true] at this
  simpa using this.2.1

section
variable (P : Program) (ops : Array Oper) (a0 : Act) (R : Nat → Value → World → Prop) (Pres : World → World → Prop) (Inv : Array Bool → World → Prop)

/-- Where the operations that are listed have come up: their slots have their properties, the others are as at the start. -/
structure Fits (L : Array Bool) (a : Act) (w : World) : Prop where
  defers : a.defers = a0.defers
  size : a.tmps.size = a0.tmps.size
  lsize : L.size = ops.size
  val : ∀ j o t, ops[j]? = some o → L.getD j false = true → o.dst = some t → R j (a.eval (.tmp t)) w
  old : ∀ t, (∀ j o, ops[j]? = some o → L.getD j false = true → o.dst ≠ some t) → a.eval (.tmp t) = a0.eval (.tmp t)
  closed : ∀ j o, ops[j]? = some o → L.getD j false = true → ∀ e ∈ o.after, Region.binds .any e = true → L.getD e.on false = true

/-- The slots as a plain function. -/
structure At (L : Array Bool) (ev : Operand → Value) (w : World) : Prop where
  val : ∀ j o t, ops[j]? = some o → L.getD j false = true → o.dst = some t → R j (ev (.tmp t)) w
  old : ∀ t, (∀ j o, ops[j]? = some o → L.getD j false = true → o.dst ≠ some t) → ev (.tmp t) = a0.eval (.tmp t)
  closed : ∀ j o, ops[j]? = some o → L.getD j false = true → ∀ e ∈ o.after, Region.binds .any e = true → L.getD e.on false = true
  const : ∀ v, ev (.const v) = v
  func : ∀ f, ev (.func f) = .func (.func f) #[] #[]
  global : ∀ g, ev (.global g) = .pointer (some ⟨g, 0, none⟩)

/-- What is asked of one operation. -/
def StepAt (i : Nat) (o : Oper) : Prop :=
  ∀ (L : Array Bool) (ev : Operand → Value) (w : World), Inv L w → L.getD i true = false → (∀ e ∈ o.after, Region.binds .any e = true → L.getD e.on false = true) → At ops a0 R L ev w →
    match o.guard with
    | none => Outcome P (fun v w' => R i v w' ∧ Pres w w' ∧ Inv (L.setIfInBounds i true) w') ((execOp ev o).run P w)
    | some (g, want) => (∃ og t b, ops[g]? = some og ∧ og.dst = some t ∧ ev (.tmp t) = .bool b ∧
        if b = want then Outcome P (fun v w' => R i v w' ∧ Pres w w' ∧ Inv (L.setIfInBounds i true) w') ((execOp ev o).run P w)
        else R i undef w ∧ Inv (L.setIfInBounds i true) w) ∨
      ∃ og t, ops[g]? = some og ∧ og.dst = some t ∧ ev (.tmp t) = undef ∧ R i undef w ∧ Inv (L.setIfInBounds i true) w

def AllSteps : Nat → List Oper → Prop
  | _, [] => True
  | k, o :: l => StepAt P ops a0 R Pres Inv k o ∧ AllSteps (k + 1) l
end

section
variable {P : Program} {ops : Array Oper} {a0 : Act} {R : Nat → Value → World → Prop} {Pres : World → World → Prop} {Inv : Array Bool → World → Prop}

theorem StepAt.plain {i : Nat} {o : Oper} (hg : o.guard = none)
    (h : ∀ (L : Array Bool) (ev : Operand → Value) (w : World), Inv L w → L.getD i true = false → (∀ e ∈ o.after, Region.binds .any e = true → L.getD e.on false = true) → At ops a0 R L ev w →
      Outcome P (fun v w' => R i v w' ∧ Pres w w' ∧ Inv (L.setIfInBounds i true) w') ((execOp ev o).run P w)) : StepAt P ops a0 R Pres Inv i o := by
  intro L ev w hI hk hp hA
  rw [hg]; exact h L ev w hI hk hp hA
theorem StepAt.guarded {i g : Nat} {want : Bool} {o : Oper} (hg : o.guard = some (g, want))
    (h : ∀ (L : Array Bool) (ev : Operand → Value) (w : World), Inv L w → L.getD i true = false → (∀ e ∈ o.after, Region.binds .any e = true → L.getD e.on false = true) → At ops a0 R L ev w →
      ∃ og t b, ops[g]? = some og ∧ og.dst = some t ∧ ev (.tmp t) = .bool b ∧
        if b = want then Outcome P (fun v w' => R i v w' ∧ Pres w w' ∧ Inv (L.setIfInBounds i true) w') ((execOp ev o).run P w)
        else R i undef w ∧ Inv (L.setIfInBounds i true) w) : StepAt P ops a0 R Pres Inv i o := by
  intro L ev w hI hk hp hA
  rw [hg]; exact .inl (h L ev w hI hk hp hA)
/-- A guard that is not reached itself. -/
theorem StepAt.unreached {i g : Nat} {want : Bool} {o : Oper} (hg : o.guard = some (g, want))
    (h : ∀ (L : Array Bool) (ev : Operand → Value) (w : World), Inv L w → L.getD i true = false → (∀ e ∈ o.after, Region.binds .any e = true → L.getD e.on false = true) → At ops a0 R L ev w →
      ∃ og t, ops[g]? = some og ∧ og.dst = some t ∧ ev (.tmp t) = undef ∧ R i undef w ∧ Inv (L.setIfInBounds i true) w) : StepAt P ops a0 R Pres Inv i o := by
  intro L ev w hI hk hp hA
  rw [hg]; exact .inr (h L ev w hI hk hp hA)
/-- What is not there says neither yes nor no. -/
theorem yielded_undef {ops : Array Oper} {tmps : Array Value} {g t : Nat} {og : Oper} (hog : ops[g]? = some og) (hd : og.dst = some t) (h : tmps.getD t undef = undef) : yielded ops tmps g = none := by
  unfold yielded
  rw [hog]
  simp only [Option.bind_some, hd]
  rw [Array.getD_eq_getD_getElem?] at h
  cases hx : tmps[t]? with
  | none => rfl
  | some x => rw [hx] at h; simp only [Option.getD_some] at h; subst h; rfl

theorem AllSteps.at : ∀ (l : List Oper) (k : Nat), AllSteps P ops a0 R Pres Inv k l → ∀ (i : Nat) (o : Oper), l[i]? = some o → StepAt P ops a0 R Pres Inv (k + i) o
  | [], _, _, i, o, h => by simp at h
  | x :: l, k, hs, 0, o, h => by simp at h; subst h; exact hs.1
  | x :: l, k, hs, i + 1, o, h => by
    have := AllSteps.at l (k + 1) hs.2 i o (by simpa using h)
    rw [show k + (i + 1) = k + 1 + i by omega]; exact this

theorem Fits.at {L : Array Bool} {a : Act} {w : World} (h : Fits ops a0 R L a w) : At ops a0 R L a.eval w :=
  ⟨h.val, h.old, h.closed, fun _ => rfl, fun _ => rfl, fun _ => rfl⟩

theorem eval_put_same {a : Act} {t : Nat} {v : Value} (h : t < a.tmps.size) : (a.put (some t) v).eval (.tmp t) = v := by
  simp [Act.put, Act.eval, h]
theorem eval_put_other {a : Act} {t u : Nat} {v : Value} (h : t ≠ u) : (a.put (some t) v).eval (.tmp u) = a.eval (.tmp u) := by
  simp [Act.put, Act.eval, Array.getElem?_setIfInBounds_ne h]
theorem size_put {a : Act} {d : Option Tmp} {v : Value} : (a.put d v).tmps.size = a.tmps.size := by
  cases d <;> simp [Act.put]
theorem defers_put {a : Act} {d : Option Tmp} {v : Value} : (a.put d v).defers = a.defers := by
  cases d <;> simp [Act.put]

theorem getD_set_of {L : Array Bool} {i j : Nat} (h : (L.setIfInBounds i true).getD j false = true) : j = i ∨ L.getD j false = true := by
  by_cases e : i = j
  · exact .inl e.symm
  · rw [getD_set_ne false e] at h; exact .inr h

theorem Fits.put {L : Array Bool} {a : Act} {w w' : World} {i : Nat} {o : Oper} {v : Value} (hf : fineB ops a0.tmps.size = true) (ho : ops[i]? = some o)
    (hall : ∀ e ∈ o.after, Region.binds .any e = true → L.getD e.on false = true)
    (hR : ∀ j v, R j v w → R j v w') (h : Fits ops a0 R L a w) (hv : o.dst.isSome → R i v w') : Fits ops a0 R (L.setIfInBounds i true) (a.put o.dst v) w' where
  defers := by rw [defers_put]; exact h.defers
  size := by rw [size_put]; exact h.size
  lsize := by rw [Array.size_setIfInBounds]; exact h.lsize
  val := by
    intro j oj t hj hL hd
    rcases getD_set_of hL with rfl | hL'
    · rw [ho] at hj; injection hj with hj; subst hj
      rw [hd, eval_put_same (by rw [h.size]; exact fine_lt hf ho hd)]
      exact hv (by rw [hd]; rfl)
    · by_cases e : j = i
      · subst e; rw [ho] at hj; injection hj with hj; subst hj
        rw [hd, eval_put_same (by rw [h.size]; exact fine_lt hf ho hd)]
        exact hv (by rw [hd]; rfl)
      · cases hd' : o.dst with
        | none => exact hR _ _ (h.val j oj t hj hL' hd)
        | some u =>
          have hne : u ≠ t := fun e2 => e (fine_dst hf ho hj (e2 ▸ hd') hd)
          rw [eval_put_other hne]; exact hR _ _ (h.val j oj t hj hL' hd)
  old := by
    intro t hno
    have h1 : a.eval (.tmp t) = a0.eval (.tmp t) := h.old t (fun j oj hj hL => hno j oj hj (getD_set_true hL))
    cases hd' : o.dst with
    | none => exact h1
    | some u =>
      have hlt : i < L.size := by
        rcases Nat.lt_or_ge i ops.size with h' | h'
        · rw [h.lsize]; exact h'
        · rw [Array.getElem?_eq_none h'] at ho; cases ho
      have hne : u ≠ t := fun e2 => hno i o ho (by simp [hlt]) (e2 ▸ hd')
      rw [eval_put_other hne]; exact h1
  closed := by
    intro j oj hj hL e he hb
    rcases getD_set_of hL with rfl | hL'
    · rw [ho] at hj; injection hj with hj; subst hj
      exact getD_set_true (hall e he hb)
    · exact getD_set_true (h.closed j oj hj hL' e he hb)

/-- Nothing may come up: all have. -/
theorem all_listed {n : Nat} {L : Array Bool} (hf : fineB ops n = true) (hl : L.size = ops.size) (hr : Region.ready .any ops L = []) : ∀ i, i < ops.size → L.getD i false = true := by
  intro i
  induction i using Nat.strongRecOn with
  | ind i ih =>
    intro hi
    have ho : ops[i]? = some ops[i] := Array.getElem?_eq_getElem hi
    cases hL : L.getD i false with
    | true => rfl
    | false =>
      have hm : i ∈ Region.ready .any ops L := by
        rw [mem_ready]
        refine ⟨?_, ops[i], ho, fun e he hb => ih e.on (fine_back hf ho e he hb) (Nat.lt_trans (fine_back hf ho e he hb) hi)⟩
        have hlt : i < L.size := by omega
        simp [hlt] at hL ⊢; exact hL
      rw [hr] at hm; cases hm

theorem count_set {L : Array Bool} {i : Nat} (h : L.getD i true = false) : (L.setIfInBounds i true).toList.countP (! ·) + 1 = L.toList.countP (! ·) := by
  have hlt : i < L.size := by
    rcases Nat.lt_or_ge i L.size with h' | h'
    · exact h'
    · simp [Array.getElem?_eq_none h'] at h
  have hv : L[i] = false := by simpa [hlt] using h
  have hp : 0 < L.toList.countP (! ·) := List.countP_pos_iff.2 ⟨L[i], by simp, by simp [hv]⟩
  rw [Array.toList_setIfInBounds, List.countP_set (by simpa using hlt)]
  have e : (L.toList)[i]'(by simpa using hlt) = false := by simpa using hv
  rw [e]
  show L.toList.countP (! ·) - 1 + 0 + 1 = _
  omega

/-- The rule, from any stage on. -/
theorem wpAny_of_steps {Q : Exit → Act → World → Prop} (hf : fineB ops a0.tmps.size = true) (hR : ∀ j v w w', Pres w w' → R j v w → R j v w')
    (hs : ∀ i o, ops[i]? = some o → StepAt P ops a0 R Pres Inv i o) (hrefl : ∀ w, Pres w w)
    (hend : ∀ L a w, (∀ i, i < ops.size → L.getD i false = true) → Inv L w → Fits ops a0 R L a w → Q .normal a w) :
    ∀ (fuel : Nat) (L : Array Bool) (a : Act) (w : World), L.toList.countP (! ·) = fuel → Inv L w → Fits ops a0 R L a w → wpAny P .any ops Q fuel L a w := by
  intro fuel
  induction fuel with
  | zero =>
    intro L a w hc hI hF
    have hr : Region.ready .any ops L = [] := by
      cases h : Region.ready .any ops L with
      | nil => rfl
      | cons x xs =>
        have hx : x ∈ Region.ready .any ops L := by rw [h]; simp
        have := count_set (mem_ready.1 hx).1
        omega
    exact ⟨hr, hend L a w (all_listed hf hF.lsize hr) hI hF⟩
  | succ fuel ih =>
    intro L a w hc hI hF
    refine ⟨fun hr => hend L a w (all_listed hf hF.lsize hr) hI hF, fun i hi => ?_⟩
    obtain ⟨h0, o, ho, hall⟩ := mem_ready.1 hi
    have hst := hs i o ho L a.eval w hI h0 hall hF.at
    have hcs := count_set h0
    unfold wpOp
    simp only [ho]
    have go : Outcome P (fun v w' => R i v w' ∧ Pres w w' ∧ Inv (L.setIfInBounds i true) w') ((execOp a.eval o).run P w) →
        o.wp P a w (wpAny P .any ops Q fuel (L.setIfInBounds i true)) Q := fun h =>
      outcome_wp h fun v w' ⟨h1, h2, h3⟩ => ih _ _ _ (by omega) h3 (hF.put hf ho hall (fun j v => hR j v w w' h2) (fun _ => h1))
    cases hg : o.guard with
    | none =>
      rw [hg] at hst
      rw [if_pos (by simp [Region.wanted, hg])]
      exact .inl (go hst)
    | some gw =>
      obtain ⟨g, want⟩ := gw
      rw [hg] at hst
      rcases hst with ⟨og, t, b, hog, hd, hev, hcase⟩ | ⟨og, t, hog, hd, hev, hcase⟩
      case inr =>
        have hy : yielded ops a.tmps g = none := yielded_undef hog hd hev
        rw [if_neg (by simp [Region.wanted, hg, hy])]
        exact ih _ _ _ (by omega) hcase.2 (hF.put hf ho hall (fun j v => hR j v w w (hrefl w)) (fun _ => hcase.1))
      have hy : yielded ops a.tmps g = some b := by
        have hb : a.tmps[t]? = some (.bool b) := by
          have : a.tmps.getD t undef = .bool b := hev
          rw [Array.getD_eq_getD_getElem?] at this
          cases h : a.tmps[t]? with
          | none => rw [h] at this; cases this
          | some x => rw [h] at this; simpa using this
        simp [yielded, hog, hd, hb]
      by_cases hbw : b = want
      · rw [if_pos hbw] at hcase
        rw [if_pos (by simp [Region.wanted, hg, hy, hbw])]
        exact .inl (go hcase)
      · rw [if_neg hbw] at hcase
        rw [if_neg (by simp [Region.wanted, hg, hy, hbw])]
        exact ih _ _ _ (by omega) hcase.2 (hF.put hf ho hall (fun j v => hR j v w w (hrefl w)) (fun _ => hcase.1))

/-- No operation writes slot t. -/
def noneWrites (ops : Array Oper) (t : Nat) : Bool := ops.all fun o => o.dst != some t
/-- None but number j writes slot t. -/
def onlyWrites (ops : Array Oper) (t j : Nat) : Bool := (List.range ops.size).all fun i => decide (i = j) || ((ops[i]?).bind (·.dst)) != some t

theorem At.oldNone {L : Array Bool} {ev : Operand → Value} {w : World} (h : At ops a0 R L ev w) (t : Nat) (hb : noneWrites ops t = true) : ev (.tmp t) = a0.eval (.tmp t) := by
  refine h.old t fun j o ho _ hd => ?_
  have := (Array.all_eq_true_iff_forall_mem.1 hb) o (Array.mem_of_getElem? ho)
  simp [hd] at this

theorem At.oldBut {L : Array Bool} {ev : Operand → Value} {w : World} {i : Nat} (h : At ops a0 R L ev w) (j : Nat) (oj : Oper) (t : Nat) (hb : onlyWrites ops t j = true) (hj : ops[j]? = some oj)
    (e : Edge) (he : e ∈ oj.after) (hbi : Region.binds .any e = true) (hi : L.getD i true = false) (hei : e.on = i := by rfl) : ev (.tmp t) = a0.eval (.tmp t) := by
  refine h.old t fun k o ho hL hd => ?_
  have hk : k < ops.size := by
    rcases Nat.lt_or_ge k ops.size with h' | h'
    · exact h'
    · rw [Array.getElem?_eq_none h'] at ho; cases ho
  have h1 := List.all_eq_true.1 hb k (List.mem_range.2 hk)
  simp only [ho, Option.bind_some, hd] at h1
  have hkj : k = j := by simpa using h1
  subst hkj
  have h2 := h.closed k oj hj hL e he hbi
  rw [hei] at h2
  rcases Nat.lt_or_ge i L.size with h' | h'
  · simp [h'] at h2 hi; rw [hi] at h2; cases h2
  · simp [Array.getElem?_eq_none h'] at h2

/-- Properties by a list. -/
def ofList (l : List (Value → World → Prop)) : Nat → Value → World → Prop := fun j => l.getD j (fun _ _ => True)

/-- Each of them is kept. -/
def AllKept (Pres : World → World → Prop) : List (Value → World → Prop) → Prop
  | [] => True
  | p :: l => (∀ v w w', Pres w w' → p v w → p v w') ∧ AllKept Pres l

theorem AllKept.at {Pres : World → World → Prop} : ∀ (l : List (Value → World → Prop)), AllKept Pres l → ∀ j v w w', Pres w w' → ofList l j v w → ofList l j v w'
  | [], _, _, _, _, _, _, _ => trivial
  | _ :: _, h, 0, v, w, w', hp, hv => h.1 v w w' hp hv
  | _ :: l, h, j + 1, v, w, w', hp, hv => AllKept.at l h.2 j v w w' hp hv

theorem out_new {K : Value → World → Prop} {ev : Operand → Value} {o : Oper} {w w' : World} {v : Value} (hrun : (execOp ev o).run P w = .ok (.value v) w') (hk : K v w') :
    Outcome P K ((execOp ev o).run P w) := by
  rw [hrun]; exact hk
theorem out_value {K : Value → World → Prop} {ev : Operand → Value} {o : Oper} {w : World} {v : Value} (hrun : (execOp ev o).run P w = .ok (.value v) w) (hk : K v w) :
    Outcome P K ((execOp ev o).run P w) := by
  rw [hrun]; exact hk
theorem out_call {f : Nat} {K : Value → World → Prop} {ev : Operand → Value} {o : Oper} {w w0 : World} {args : Array Value} (hrun : (execOp ev o).run P w = .ok (.enter f args) w0)
    (hc : Calls P f args w0 fun e w'' => ∃ v, e = .returned v ∧ K v w'') : Outcome P K ((execOp ev o).run P w) := by
  rw [hrun]; exact hc

/-- THE RULE. -/
theorem wp_region_props {id : Nat} {l : List Oper} {Q : Exit → Act → World → Prop} {w : World} (R : Nat → Value → World → Prop) (Pres : World → World → Prop) (Inv : Array Bool → World → Prop)
    (hm : P.follows .mixedOrders = true) (hf : fineB l.toArray a0.tmps.size = true) (hR : ∀ j v w w', Pres w w' → R j v w → R j v w') (hrefl : ∀ w, Pres w w)
    (hI : Inv (Array.replicate l.length false) w.drew)
    (hs : AllSteps P l.toArray a0 R Pres Inv 0 l)
    (hend : ∀ L a w, (∀ i, i < l.length → L.getD i false = true) → Inv L w → Fits l.toArray a0 R L a w → Q .normal a w) : (Code.region id l.toArray true).wp P Q a0 w := by
  refine wp_region_any hm ?_
  refine wpAny_of_steps (Pres := Pres) (Inv := Inv) (R := R) (a0 := a0) hf hR ?_ hrefl (by simpa using hend) _ _ _ _ ?_ (by simpa using hI) ?_
  · intro i o ho
    have := hs.at l 0 i o (by simpa using ho)
    simpa using this
  · simp [List.countP_replicate]
  · refine ⟨rfl, rfl, by simp, ?_, fun _ _ => rfl, ?_⟩
    · intro j o t ho hL
      exfalso
      rw [Array.getD_eq_getD_getElem?] at hL
      by_cases hj : j < l.toArray.size
      · simp at hj; simp [hj] at hL
      · simp at hj; simp [hj] at hL
    · intro j o ho hL
      exfalso
      rw [Array.getD_eq_getD_getElem?] at hL
      by_cases hj : j < l.toArray.size
      · simp at hj; simp [hj] at hL
      · simp at hj; simp [hj] at hL
end

/-- A slice of just these values, in a block of its own. -/
def OwnSl (l : List Value) (v : Value) (w : World) : Prop :=
  ∃ sb, v = .slice (some ⟨sb, 0, none⟩) l.length l.length ∧ sb < w.heap.size ∧ ∀ i (h : i < l.length), w.cell? ⟨sb, i, none⟩ = some l[i]
/-- Nothing that was there is another one. -/
def Keeps (w w' : World) : Prop := RowKit.Below w.heap.size w w'
theorem Keeps.refl (w : World) : Keeps w w := RowKit.Below.refl _ _
theorem Keeps.drewN {w w' : World} (h : Keeps w w') (n : Nat) : Keeps w (w'.drewN n) := ⟨h.os, h.tape, h.output, h.size, h.block⟩
theorem Keeps.alloc {w w' : World} (h : Keeps w w') (o : Obj) : Keeps w (w'.alloc o) := RowKit.Below.alloc h h.size o
theorem Keeps.trans {w w' w'' : World} (h : Keeps w w') (k : Keeps w' w'') : Keeps w w'' := RowKit.Below.trans h (RowKit.Below.mono k h.size)
theorem OwnSl.keeps {l : List Value} {v : Value} {w w' : World} (hk : Keeps w w') (h : OwnSl l v w) : OwnSl l v w' := by
  obtain ⟨sb, hv, hs, hc⟩ := h
  refine ⟨sb, hv, Nat.lt_of_lt_of_le hs hk.size, fun i hi => ?_⟩
  rw [hk.cell (p := ⟨sb, i, none⟩) hs]; exact hc i hi
theorem OwnSl.new (l : List Value) (w : World) (t : TypeId) (n : Nat) (hn : n = l.length) : OwnSl l (.slice (some ⟨w.heap.size, 0, none⟩) n n) (w.alloc (.cells l.toArray t)) := by
  subst hn
  refine ⟨w.heap.size, rfl, by simp, fun i hi => ?_⟩
  rw [World.cell?_alloc_new]; simp [hi]
end Go.Proofs.Ytbcmilfajeanbaa.Reg

namespace Go.Proofs.Ytbcmilfajeanbaa.Reg
open Go

section
variable {γ : Type} (P : Program) (ops : Array Oper) (a0 : Act) (R : Nat → Value → γ → World → Prop) (Pres : γ → World → γ → World → Prop) (Inv : γ → Array Bool → World → Prop)

/-- What is asked of one operation. -/
def GStepAt (i : Nat) (o : Oper) : Prop :=
  ∀ (x : γ) (L : Array Bool) (ev : Operand → Value) (w : World), Inv x L w → L.getD i true = false → (∀ e ∈ o.after, Region.binds .any e = true → L.getD e.on false = true) → At ops a0 (fun j v w => R j v x w) L ev w →
    match o.guard with
    | none => Outcome P (fun v w' => ∃ x', R i v x' w' ∧ Pres x w x' w' ∧ Inv x' (L.setIfInBounds i true) w') ((execOp ev o).run P w)
    | some (g, want) => ∃ og t b, ops[g]? = some og ∧ og.dst = some t ∧ ev (.tmp t) = .bool b ∧
        if b = want then Outcome P (fun v w' => ∃ x', R i v x' w' ∧ Pres x w x' w' ∧ Inv x' (L.setIfInBounds i true) w') ((execOp ev o).run P w)
        else R i undef x w ∧ Inv x (L.setIfInBounds i true) w

def GAllSteps : Nat → List Oper → Prop
  | _, [] => True
  | k, o :: l => GStepAt P ops a0 R Pres Inv k o ∧ GAllSteps (k + 1) l
end

section
variable {γ : Type} {P : Program} {ops : Array Oper} {a0 : Act} {R : Nat → Value → γ → World → Prop} {Pres : γ → World → γ → World → Prop} {Inv : γ → Array Bool → World → Prop}

theorem GStepAt.plain {i : Nat} {o : Oper} (hg : o.guard = none)
    (h : ∀ (x : γ) (L : Array Bool) (ev : Operand → Value) (w : World), Inv x L w → L.getD i true = false → (∀ e ∈ o.after, Region.binds .any e = true → L.getD e.on false = true) → At ops a0 (fun j v w => R j v x w) L ev w →
      Outcome P (fun v w' => ∃ x', R i v x' w' ∧ Pres x w x' w' ∧ Inv x' (L.setIfInBounds i true) w') ((execOp ev o).run P w)) : GStepAt P ops a0 R Pres Inv i o := by
  intro x L ev w hI hk hp hA
  rw [hg]; exact h x L ev w hI hk hp hA
theorem GStepAt.guarded {i g : Nat} {want : Bool} {o : Oper} (hg : o.guard = some (g, want))
    (h : ∀ (x : γ) (L : Array Bool) (ev : Operand → Value) (w : World), Inv x L w → L.getD i true = false → (∀ e ∈ o.after, Region.binds .any e = true → L.getD e.on false = true) → At ops a0 (fun j v w => R j v x w) L ev w →
      ∃ og t, ops[g]? = some og ∧ og.dst = some t ∧ ev (.tmp t) = .bool want ∧
        Outcome P (fun v w' => ∃ x', R i v x' w' ∧ Pres x w x' w' ∧ Inv x' (L.setIfInBounds i true) w') ((execOp ev o).run P w)) : GStepAt P ops a0 R Pres Inv i o := by
  intro x L ev w hI hk hp hA
  rw [hg]
  obtain ⟨og, t, h1, h2, h3, h4⟩ := h x L ev w hI hk hp hA
  exact ⟨og, t, want, h1, h2, h3, by rw [if_pos rfl]; exact h4⟩

theorem GAllSteps.at : ∀ (l : List Oper) (k : Nat), GAllSteps P ops a0 R Pres Inv k l → ∀ (i : Nat) (o : Oper), l[i]? = some o → GStepAt P ops a0 R Pres Inv (k + i) o
  | [], _, _, i, o, h => by simp at h
  | x :: l, k, hs, 0, o, h => by simp at h; subst h; exact hs.1
  | x :: l, k, hs, i + 1, o, h => by
    have := GAllSteps.at l (k + 1) hs.2 i o (by simpa using h)
    rw [show k + (i + 1) = k + 1 + i by omega]; exact this

/-- The properties turned, all at once. -/
theorem Fits.turn {R R' : Nat → Value → World → Prop} {L : Array Bool} {a : Act} {w w' : World} (h : Fits ops a0 R L a w) (hR : ∀ j v, R j v w → R' j v w') : Fits ops a0 R' L a w' :=
  ⟨h.defers, h.size, h.lsize, fun j o t h1 h2 h3 => hR _ _ (h.val j o t h1 h2 h3), h.old, h.closed⟩

theorem gwpAny_of_steps {Q : Exit → Act → World → Prop} (hf : fineB ops a0.tmps.size = true) (hR : ∀ j v x w x' w', Pres x w x' w' → R j v x w → R j v x' w')
    (hs : ∀ i o, ops[i]? = some o → GStepAt P ops a0 R Pres Inv i o)
    (hend : ∀ x L a w, (∀ i, i < ops.size → L.getD i false = true) → Inv x L w → Fits ops a0 (fun j v w => R j v x w) L a w → Q .normal a w) :
    ∀ (fuel : Nat) (x : γ) (L : Array Bool) (a : Act) (w : World), L.toList.countP (! ·) = fuel → Inv x L w → Fits ops a0 (fun j v w => R j v x w) L a w → wpAny P .any ops Q fuel L a w := by
  intro fuel
  induction fuel with
  | zero =>
    intro x L a w hc hI hF
    have hr : Region.ready .any ops L = [] := by
      cases h : Region.ready .any ops L with
      | nil => rfl
      | cons y ys =>
        have hx : y ∈ Region.ready .any ops L := by rw [h]; simp
        have := count_set (mem_ready.1 hx).1
        omega
    exact ⟨hr, hend x L a w (all_listed hf hF.lsize hr) hI hF⟩
  | succ fuel ih =>
    intro x L a w hc hI hF
    refine ⟨fun hr => hend x L a w (all_listed hf hF.lsize hr) hI hF, fun i hi => ?_⟩
    obtain ⟨h0, o, ho, hall⟩ := mem_ready.1 hi
    have hst := hs i o ho x L a.eval w hI h0 hall hF.at
    have hcs := count_set h0
    unfold wpOp
    simp only [ho]
    have go : Outcome P (fun v w' => ∃ x', R i v x' w' ∧ Pres x w x' w' ∧ Inv x' (L.setIfInBounds i true) w') ((execOp a.eval o).run P w) →
        o.wp P a w (wpAny P .any ops Q fuel (L.setIfInBounds i true)) Q := fun h =>
      outcome_wp h fun v w' ⟨x', h1, h2, h3⟩ => ih x' _ _ _ (by omega) h3 ((hF.turn (R' := fun j v w => R j v x' w) (w' := w') (fun j v => hR j v x w x' w' h2)).put hf ho hall (fun _ _ h => h) (fun _ => h1))
    cases hg : o.guard with
    | none =>
      rw [hg] at hst
      rw [if_pos (by simp [Region.wanted, hg])]
      exact .inl (go hst)
    | some gw =>
      obtain ⟨g, want⟩ := gw
      rw [hg] at hst
      obtain ⟨og, t, b, hog, hd, hev, hcase⟩ := hst
      have hy : yielded ops a.tmps g = some b := by
        have hb : a.tmps[t]? = some (.bool b) := by
          have : a.tmps.getD t undef = .bool b := hev
          rw [Array.getD_eq_getD_getElem?] at this
          cases h : a.tmps[t]? with
          | none => rw [h] at this; cases this
          | some y => rw [h] at this; simpa using this
        simp [yielded, hog, hd, hb]
      by_cases hbw : b = want
      · rw [if_pos hbw] at hcase
        rw [if_pos (by simp [Region.wanted, hg, hy, hbw])]
        exact .inl (go hcase)
      · rw [if_neg hbw] at hcase
        rw [if_neg (by simp [Region.wanted, hg, hy, hbw])]
        exact ih x _ _ _ (by omega) hcase.2 (hF.put hf ho hall (fun _ _ h => h) (fun _ => hcase.1))

/-- THE RULE, with a ghost. -/
theorem wp_region_ghost {id : Nat} {l : List Oper} {Q : Exit → Act → World → Prop} {w : World} (R : Nat → Value → γ → World → Prop) (Pres : γ → World → γ → World → Prop) (Inv : γ → Array Bool → World → Prop) (x0 : γ)
    (hm : P.follows .mixedOrders = true) (hf : fineB l.toArray a0.tmps.size = true) (hR : ∀ j v x w x' w', Pres x w x' w' → R j v x w → R j v x' w')
    (hI : Inv x0 (Array.replicate l.length false) w.drew)
    (hs : GAllSteps P l.toArray a0 R Pres Inv 0 l)
    (hend : ∀ x L a w, (∀ i, i < l.length → L.getD i false = true) → Inv x L w → Fits l.toArray a0 (fun j v w => R j v x w) L a w → Q .normal a w) : (Code.region id l.toArray true).wp P Q a0 w := by
  refine wp_region_any hm ?_
  refine gwpAny_of_steps (Pres := Pres) (Inv := Inv) (R := R) (a0 := a0) hf hR ?_ (by simpa using hend) _ x0 _ _ _ ?_ (by simpa using hI) ?_
  · intro i o ho
    have := hs.at l 0 i o (by simpa using ho)
    simpa using this
  · simp [List.countP_replicate]
  · refine ⟨rfl, rfl, by simp, ?_, fun _ _ => rfl, ?_⟩
    · intro j o t ho hL
      exfalso
      rw [Array.getD_eq_getD_getElem?] at hL
      by_cases hj : j < l.toArray.size
      · simp at hj; simp [hj] at hL
      · simp at hj; simp [hj] at hL
    · intro j o ho hL
      exfalso
      rw [Array.getD_eq_getD_getElem?] at hL
      by_cases hj : j < l.toArray.size
      · simp at hj; simp [hj] at hL
      · simp at hj; simp [hj] at hL

/-- Properties by a list. -/
def gofList (l : List (Value → γ → World → Prop)) : Nat → Value → γ → World → Prop := fun j => l.getD j (fun _ _ _ => True)
def GAllKept (Pres : γ → World → γ → World → Prop) : List (Value → γ → World → Prop) → Prop
  | [] => True
  | p :: l => (∀ v x w x' w', Pres x w x' w' → p v x w → p v x' w') ∧ GAllKept Pres l
theorem GAllKept.at {Pres : γ → World → γ → World → Prop} : ∀ (l : List (Value → γ → World → Prop)), GAllKept Pres l → ∀ j v x w x' w', Pres x w x' w' → gofList l j v x w → gofList l j v x' w'
  | [], _, _, _, _, _, _, _, _, _ => trivial
  | _ :: _, h, 0, v, x, w, x', w', hp, hv => h.1 v x w x' w' hp hv
  | _ :: l, h, j + 1, v, x, w, x', w', hp, hv => GAllKept.at l h.2 j v x w x' w' hp hv
end
end Go.Proofs.Ytbcmilfajeanbaa.Reg

namespace Go.Proofs.Ytbcmilfajeanbaa
open Go.RowKit
namespace Reg

theorem fold_size (f : Nat → Value) : ∀ (ds : List Nat) (T : Array Value), (ds.foldl (fun T t => T.setIfInBounds t (f t)) T).size = T.size
  | [], _ => rfl
  | d :: ds, T => by rw [List.foldl_cons, fold_size f ds]; simp
theorem fold_get (f : Nat → Value) : ∀ (ds : List Nat) (T : Array Value) (i : Nat), i < T.size → (ds.foldl (fun T t => T.setIfInBounds t (f t)) T)[i]? = if ds.contains i = true then some (f i) else T[i]?
  | [], T, i, _ => by simp
  | d :: ds, T, i, h => by
    rw [List.foldl_cons, fold_get f ds _ i (by simpa using h), Array.getElem?_setIfInBounds]
    by_cases e : ds.contains i = true
    · rw [if_pos e, if_pos (by simp at e ⊢; exact .inr e)]
    · rw [if_neg e]
      by_cases e2 : d = i
      · subst e2; rw [if_pos rfl, if_pos h, if_pos (by simp)]
      · rw [if_neg e2, if_neg (by simp at e ⊢; exact ⟨fun q => e2 q.symm, e⟩)]

def coversB (ops : Array Oper) (ds : List Nat) : Bool := (List.range ops.size).all fun j => match (ops[j]?).bind (·.dst) with | none => true | some t => ds.contains t
theorem covers_at {ops : Array Oper} {ds : List Nat} (h : coversB ops ds = true) {j t : Nat} {o : Oper} (ho : ops[j]? = some o) (hd : o.dst = some t) : ds.contains t = true := by
  have hj : j < ops.size := by
    rcases Nat.lt_or_ge j ops.size with h' | h'
    · exact h'
    · rw [Array.getElem?_eq_none h'] at ho; cases ho
  have := List.all_eq_true.1 h j (List.mem_range.2 hj)
  simp only [ho, Option.bind_some, hd] at this
  exact this

theorem Fits.act {ops : Array Oper} {a0 : Act} {R : Nat → Value → World → Prop} {L : Array Bool} {a : Act} {w : World} (hF : Fits ops a0 R L a w) (ds : List Nat) (hc : coversB ops ds = true) :
    a = ⟨ds.foldl (fun T t => T.setIfInBounds t (a.eval (.tmp t))) a0.tmps, a0.defers⟩ := by
  have hsz := hF.size
  have hdf := hF.defers
  have hold : ∀ t, ds.contains t = false → a.eval (.tmp t) = a0.eval (.tmp t) := fun t ht => hF.old t (fun j o ho _ hd => by rw [covers_at hc ho hd] at ht; cases ht)
  have hev : ∀ t, a.eval (.tmp t) = a.tmps.getD t undef := fun _ => rfl
  have hev0 : ∀ t, a0.eval (.tmp t) = a0.tmps.getD t undef := fun _ => rfl
  have ht : a.tmps = ds.foldl (fun T t => T.setIfInBounds t (a.eval (.tmp t))) a0.tmps := by
    apply Array.ext_getElem?
    intro i
    by_cases hi : i < a0.tmps.size
    · rw [fold_get (fun t => a.eval (.tmp t)) ds a0.tmps i hi]
      have hia : i < a.tmps.size := by rw [hsz]; exact hi
      cases e : ds.contains i
      · rw [if_neg (by decide)]
        have := hold i e
        rw [hev, hev0, Array.getD_eq_getD_getElem?, Array.getD_eq_getD_getElem?, Array.getElem?_eq_getElem hia, Array.getElem?_eq_getElem hi] at this
        rw [Array.getElem?_eq_getElem hia, Array.getElem?_eq_getElem hi]
        exact congrArg some this
      · rw [if_pos rfl, hev, Array.getD_eq_getD_getElem?, Array.getElem?_eq_getElem hia]
        rfl
    · rw [Array.getElem?_eq_none (by rw [hsz]; omega), Array.getElem?_eq_none (by rw [fold_size]; omega)]
  obtain ⟨t, d⟩ := a
  simp only at hdf
  subst hdf
  exact congrArg (fun q => (⟨q, a0.defers⟩ : Act)) ht
end Reg
end Go.Proofs.Ytbcmilfajeanbaa

namespace Go.Proofs.Ytbcmilfajeanbaa.Reg
open Go Go.RowKit

/-- How many of these have come up. -/
def cnt (hs : List Nat) (L : Array Bool) : Nat := hs.countP (fun j => L.getD j false)
theorem cnt_light {hs : List Nat} (L : Array Bool) (i : Nat) (h : hs.contains i = false) : cnt hs (L.setIfInBounds i true) = cnt hs L := by
  unfold cnt
  refine List.countP_congr (fun j hj => ?_)
  have hne : i ≠ j := fun e => by subst e; rw [List.contains_iff_mem.2 hj] at h; cases h
  rw [getD_set_ne false hne]
theorem cnt_none (hs : List Nat) (n : Nat) : cnt hs (Array.replicate n false) = 0 := by
  unfold cnt
  rw [List.countP_eq_zero]
  intro j _
  rw [Array.getD_eq_getD_getElem?]
  by_cases hj : j < n
  · simp [hj]
  · simp [hj]
theorem cnt_all {hs : List Nat} {L : Array Bool} (h : ∀ j ∈ hs, L.getD j false = true) : cnt hs L = hs.length := by
  unfold cnt
  rw [List.countP_eq_length]
  exact h
theorem getD_true {L : Array Bool} {i : Nat} (h : L.getD i true = false) : L.getD i false = false := by
  rw [Array.getD_eq_getD_getElem?] at h ⊢
  cases hx : L[i]? with
  | none => rw [hx] at h; cases h
  | some b => rw [hx] at h; simpa using h
theorem cnt_heavy {hs : List Nat} {L : Array Bool} {i : Nat} (hn : hs.Nodup) (hi : i ∈ hs) (h0 : L.getD i true = false) : cnt hs (L.setIfInBounds i true) = cnt hs L + 1 := by
  have hlt : i < L.size := by
    rcases Nat.lt_or_ge i L.size with h' | h'
    · exact h'
    · rw [Array.getD_eq_getD_getElem?, Array.getElem?_eq_none h'] at h0; cases h0
  have h1 : (L.setIfInBounds i true).getD i false = true := by simp [hlt]
  have h2 := getD_true h0
  unfold cnt
  induction hs with
  | nil => cases hi
  | cons a l ih =>
    rw [List.nodup_cons] at hn
    rw [List.countP_cons, List.countP_cons]
    by_cases e : a = i
    · subst e
      rw [if_pos h1, if_neg (by rw [h2]; decide)]
      have : l.countP (fun j => (L.setIfInBounds a true).getD j false) = l.countP (fun j => L.getD j false) := by
        refine List.countP_congr (fun j hj => ?_)
        have hne : a ≠ j := fun e => by subst e; exact hn.1 hj
        rw [getD_set_ne false hne]
      rw [this]
    · have hi' : i ∈ l := by
        rcases List.mem_cons.1 hi with h | h
        · exact absurd h.symm e
        · exact h
      rw [ih hn.2 hi', getD_set_ne false (Ne.symm e)]
      omega
theorem cnt_zero {hs : List Nat} {L : Array Bool} (h : ∀ j ∈ hs, L.getD j false = false) : cnt hs L = 0 := by
  unfold cnt
  rw [List.countP_eq_zero]
  intro j hj
  rw [h j hj]; decide

theorem cnt_zero1 {a : Nat} {L : Array Bool} (h : L.getD a false = false) : cnt [a] L = 0 := by simp only [cnt, List.countP_cons, List.countP_nil, h]; decide
theorem cnt_zero2 {a b : Nat} {L : Array Bool} (h : L.getD a false = false) (h2 : L.getD b false = false) : cnt [a, b] L = 0 := by simp only [cnt, List.countP_cons, List.countP_nil, h, h2]; decide
theorem cnt_one2 {a b : Nat} {L : Array Bool} (h : L.getD a false = true) (h2 : L.getD b false = false) : cnt [a, b] L = 1 := by simp only [cnt, List.countP_cons, List.countP_nil, h, h2]; decide
/-- What each step leaves. -/
def PPres (S : Nat → Prop) (x : Nat) (w : World) (x' : Nat) (w' : World) : Prop := x ≤ x' ∧ (x' = x → Below w.heap.size w w') ∧ But S w w'
theorem PPres.light {S : Nat → Prop} {x : Nat} {w w' : World} (h : Below w.heap.size w w') : PPres S x w x w' := ⟨Nat.le_refl _, fun _ => h, But.of_below h⟩
theorem PPres.refl (S : Nat → Prop) (x : Nat) (w : World) : PPres S x w x w := PPres.light (Below.refl _ _)
theorem PPres.heavy {S : Nat → Prop} {x : Nat} {w w' : World} (h : But S w w') : PPres S x w (x + 1) w' := ⟨Nat.le_succ _, fun e => by omega, h⟩
/-- A property that only what is turned next may break. -/
def At1 (p : Nat) (F : World → Prop) (x : Nat) (w : World) : Prop := p ≤ x ∧ (x = p → F w)
theorem At1.kept {S : Nat → Prop} {p : Nat} {F : World → Prop} (hF : ∀ w w', Below w.heap.size w w' → F w → F w') {x x' : Nat} {w w' : World} (hp : PPres S x w x' w') (h : At1 p F x w) : At1 p F x' w' :=
  ⟨Nat.le_trans h.1 hp.1, fun e => by
    have hx : x' = x := by have := h.1; have := hp.1; omega
    exact hF _ _ (hp.2.1 hx) (h.2 (by omega))⟩
/-- What holds from step to step. -/
def PInv (hs : List Nat) (S : Nat → Prop) (W0 : World) (F : Nat → World → Prop) (x : Nat) (L : Array Bool) (w : World) : Prop :=
  x = cnt hs L ∧ But S W0 w ∧ F x w
theorem PInv.light {hs : List Nat} {S : Nat → Prop} {W0 : World} {F : Nat → World → Prop} (hF : ∀ x w w', Below w.heap.size w w' → F x w → F x w') {x : Nat} {L : Array Bool} {w w' : World} (h : PInv hs S W0 F x L w) (i : Nat) (hi : hs.contains i = false) (hb : Below w.heap.size w w') :
    PInv hs S W0 F x (L.setIfInBounds i true) w' := ⟨by rw [cnt_light L i hi]; exact h.1, h.2.1.trans (But.of_below hb), hF _ _ _ hb h.2.2⟩
theorem PInv.heavy {hs : List Nat} {S : Nat → Prop} {W0 : World} {F : Nat → World → Prop} {x : Nat} {L : Array Bool} {w w' : World} (h : PInv hs S W0 F x L w) (i : Nat) (hn : hs.Nodup) (hi : i ∈ hs) (h0 : L.getD i true = false) (hb : But S w w') (hf : F (x + 1) w') :
    PInv hs S W0 F (x + 1) (L.setIfInBounds i true) w' := ⟨by rw [cnt_heavy hn hi h0, h.1], h.2.1.trans hb, hf⟩
theorem PInv.start {hs : List Nat} {S : Nat → Prop} {w : World} {F : Nat → World → Prop} (n : Nat) (hf : F 0 w.drew) : PInv hs S w F 0 (Array.replicate n false) w.drew :=
  ⟨(cnt_none hs n).symm, (But.refl S w).drew, hf⟩
theorem PInv.done {hs : List Nat} {S : Nat → Prop} {W0 : World} {F : Nat → World → Prop} {x : Nat} {L : Array Bool} {w : World} (h : PInv hs S W0 F x L w) (hl : ∀ j ∈ hs, L.getD j false = true) : x = hs.length ∧ But S W0 w ∧ F hs.length w := by
  have := cnt_all hl
  refine ⟨h.1.trans this, h.2.1, ?_⟩
  have h2 := h.2.2
  rw [h.1, this] at h2
  exact h2
theorem out_skipP {P : Program} {K : Value → World → Prop} {ev : Operand → Value} {o : Oper} {w w' : World} (hrun : (execOp ev o).run P w = .ok .skip w') (hk : K undef w') : Outcome P K ((execOp ev o).run P w) := by
  rw [hrun]; exact hk
/-- What is not listed keeps what waits for it from being listed. -/
theorem not_listed {ops : Array Oper} {a0 : Act} {R : Nat → Value → World → Prop} {L : Array Bool} {ev : Operand → Value} {w : World} (h : At ops a0 R L ev w) (i j : Nat) (oj : Oper) (hj : ops[j]? = some oj) (e : Edge) (he : e ∈ oj.after) (hb : Region.binds .any e = true) (hi : L.getD i true = false) (hei : e.on = i := by rfl) : L.getD j false = false := by
  cases hL : L.getD j false with
  | false => rfl
  | true =>
    have := h.closed j oj hj hL e he hb
    rw [hei, getD_true hi] at this
    cases this
/-- A guarded operation, whichever way its guard is. -/
theorem GStepAt.either {γ : Type} {P : Program} {ops : Array Oper} {a0 : Act} {R : Nat → Value → γ → World → Prop} {Pres : γ → World → γ → World → Prop} {Inv : γ → Array Bool → World → Prop} {i g : Nat} {want : Bool} {o : Oper} (hg : o.guard = some (g, want))
    (h : ∀ (x : γ) (L : Array Bool) (ev : Operand → Value) (w : World), Inv x L w → L.getD i true = false → (∀ e ∈ o.after, Region.binds .any e = true → L.getD e.on false = true) → At ops a0 (fun j v w => R j v x w) L ev w →
      ∃ og t b, ops[g]? = some og ∧ og.dst = some t ∧ ev (.tmp t) = .bool b ∧
        if b = want then Outcome P (fun v w' => ∃ x', R i v x' w' ∧ Pres x w x' w' ∧ Inv x' (L.setIfInBounds i true) w') ((execOp ev o).run P w)
        else R i undef x w ∧ Inv x (L.setIfInBounds i true) w) : GStepAt P ops a0 R Pres Inv i o := by
  intro x L ev w hI hk hp hA
  rw [hg]; exact h x L ev w hI hk hp hA
theorem getD_setb {L : Array Bool} {i c0 : Nat} (hi : i ≠ c0) : (L.setIfInBounds i true).getD c0 false = L.getD c0 false := by
  rw [Array.getD_eq_getD_getElem?, Array.getD_eq_getD_getElem?, Array.getElem?_setIfInBounds_ne hi]
theorem getD_sets {L : Array Bool} {i : Nat} (h : L.getD i true = false) : (L.setIfInBounds i true).getD i false = true := by
  have hi : i < L.size := by
    rcases Nat.lt_or_ge i L.size with h' | h'
    · exact h'
    · rw [Array.getD_eq_getD_getElem?, Array.getElem?_eq_none h'] at h; cases h
  rw [Array.getD_eq_getD_getElem?, Array.getElem?_setIfInBounds_self_of_lt hi]; rfl
end Go.Proofs.Ytbcmilfajeanbaa.Reg
