/-
  What turns in a memory, and what stays; slices by their cells one behind the other: appending to them.
  Blocks whose cells are known one by one.
-/
import Derived.Test.YtbcmilfajeanbaaChecked
import Derived.WalkKit
import Derived.WalkSpells
import Derived.Laws.Cover2
import Derived.Laws.Externs
import Derived.Deep.RegionWith
import Derived.Deep.AppendSrc
import Derived.Deep.Upon
import Derived.Laws.IdiomStrings
import Derived.Laws.IdiomCopy
import Derived.Deep.RegionLaw
import Derived.BigQuiet
import Derived.Deep.QuietTactic
import Derived.Sort.Lot0
import Derived.Sort.LotA
namespace Go.Proofs.Ytbcmilfajeanbaa
open Go.RowKit Go.Sort

theorem hidq {p : Prop} (h : p) : Hid p := h
theorem hidd {p : Prop} (h : p) : Hid p := h
theorem run_store_float {P : Program} (a : Addr) (n : Nat) (w : World) : (store a (.float .f64 n)).run P w = stored P w a (.float .f64 n) .plain := run_store P w a _ _ rfl

/-- But for some blocks, and new ones, nothing has turned. -/
structure But (S : Nat → Prop) (w w' : World) : Prop where
  os : w'.os = w.os
  tape : w'.tape = w.tape
  output : w'.output = w.output
  size : w.heap.size ≤ w'.heap.size
  block : ∀ k, k < w.heap.size → ¬ S k → w'.heap[k]? = w.heap[k]?
theorem But.refl (S : Nat → Prop) (w : World) : But S w w := ⟨rfl, rfl, rfl, Nat.le_refl _, fun _ _ _ => rfl⟩
theorem But.trans {S : Nat → Prop} {a b c : World} (h : But S a b) (k : But S b c) : But S a c :=
  ⟨k.os.trans h.os, k.tape.trans h.tape, k.output.trans h.output, Nat.le_trans h.size k.size, fun i hi hn => (k.block i (Nat.lt_of_lt_of_le hi h.size) hn).trans (h.block i hi hn)⟩
theorem But.mono {S T : Nat → Prop} {a b : World} (h : But S a b) (hT : ∀ k, k < a.heap.size → S k → T k) : But T a b :=
  ⟨h.os, h.tape, h.output, h.size, fun i hi hn => h.block i hi (fun e => hn (hT i hi e))⟩
theorem But.of_below {S : Nat → Prop} {a b : World} (h : Below a.heap.size a b) : But S a b := ⟨h.os, h.tape, h.output, h.size, fun i hi _ => h.block i hi⟩
theorem But.below {S : Nat → Prop} {a b : World} {B : Nat} (h : But S a b) (hB : B ≤ a.heap.size) (hS : ∀ k, S k → B ≤ k) : Below B a b :=
  ⟨h.os, h.tape, h.output, h.size, fun i hi => h.block i (by omega) (fun e => by have := hS i e; omega)⟩
theorem But.drew {S : Nat → Prop} {a b : World} (h : But S a b) : But S a b.drew := ⟨h.os, h.tape, h.output, h.size, h.block⟩
theorem But.drewN {S : Nat → Prop} {a b : World} (h : But S a b) (n : Nat) : But S a (b.drewN n) := ⟨h.os, h.tape, h.output, h.size, h.block⟩
theorem But.alloc {S : Nat → Prop} {a b : World} (h : But S a b) (o : Obj) : But S a (b.alloc o) := h.trans (But.of_below ((Below.refl _ _).alloc (Nat.le_refl _) o))
theorem heap_set_ne (w : World) (p : Addr) (v : Value) {i : Nat} (h : i ≠ p.block) : (w.setCell p v).heap[i]? = w.heap[i]? := by
  simp only [World.setCell, Array.getElem?_modify]
  rw [if_neg (Ne.symm h)]
theorem But.setCell {S : Nat → Prop} {a b : World} (h : But S a b) {p : Addr} (hp : a.heap.size ≤ p.block ∨ S p.block) (v : Value) : But S a (b.setCell p v) := by
  refine ⟨h.os, h.tape, h.output, by rw [World.size_setCell]; exact h.size, fun i hi hn => ?_⟩
  have hne : i ≠ p.block := fun e => by subst e; rcases hp with h1 | h1; · omega
                                        · exact hn h1
  rw [← h.block i hi hn]
  exact heap_set_ne b p v hne
theorem But.cell {S : Nat → Prop} {a b : World} (h : But S a b) {p : Addr} (hp : p.block < a.heap.size) (hS : ¬ S p.block) : b.cell? p = a.cell? p := World.cell?_of_block (h.block p.block hp hS)
theorem But.frozen {S : Nat → Prop} {a b : World} (h : But S a b) {p : Addr} (hp : p.block < a.heap.size) (hS : ¬ S p.block) : b.frozen? p = a.frozen? p := World.frozen?_of_block (h.block p.block hp hS)
theorem But.set1 {S : Nat → Prop} {a b : World} (h : But S a b) (g o : Nat) (hg : S g) (v : Value) : But S a (b.setCell ⟨g, o, none⟩ v) := h.setCell (p := ⟨g, o, none⟩) (.inr hg) v
theorem But.then {S T : Nat → Prop} {a b c : World} (h : But S a b) (k : But T b c) (hT : ∀ i, i < a.heap.size → T i → S i) : But S a c :=
  ⟨k.os.trans h.os, k.tape.trans h.tape, k.output.trans h.output, Nat.le_trans h.size k.size, fun i hi hn => (k.block i (Nat.lt_of_lt_of_le hi h.size) (fun e => hn (hT i hi e))).trans (h.block i hi hn)⟩
theorem below_drewN {B : Nat} {a b : World} (h : Below B a b) (n : Nat) : Below B a (b.drewN n) := ⟨h.os, h.tape, h.output, h.size, h.block⟩

/-- Block g holds n elements of k cells, l one behind the other, with room for cap. -/
structure Flat (k : Nat) (w : World) (g cap n : Nat) (l : List Value) : Prop where
  lt : g < w.heap.size
  len : l.length = n * k
  le : n ≤ cap
  cmax : cap ≤ maxLen
  cell : ∀ t u, l[t]? = some u → w.cell? ⟨g, t, none⟩ = some u
  one : ∀ u ∈ l, u.oneCell' = true
  there : ∀ j, j < cap * k → (w.cell? ⟨g, j, none⟩).isSome = true ∧ w.frozen? ⟨g, j, none⟩ = false

section
variable {k g cap n : Nat} {l : List Value} {w w' : World} {S : Nat → Prop}
theorem Flat.but (h : Flat k w g cap n l) (hb : But S w w') (hS : ¬ S g) : Flat k w' g cap n l :=
  ⟨Nat.lt_of_lt_of_le h.lt hb.size, h.len, h.le, h.cmax, fun t u hu => (hb.cell (p := ⟨g, t, none⟩) h.lt hS).trans (h.cell t u hu), h.one,
   fun j hj => by rw [hb.cell (p := ⟨g, j, none⟩) h.lt hS, hb.frozen (p := ⟨g, j, none⟩) h.lt hS]; exact h.there j hj⟩
theorem Flat.src {P : Program} {tx e : TypeId} (h : Flat k w g cap n l) (hk : P.underlying tx = some (.slice e)) : Src P k tx (.slice (some ⟨g, 0, none⟩) n cap) n l w :=
  Src.ofSlice w hk ⟨g, 0, none⟩ n cap l h.len (fun j u hu => by rw [Addr.add_lit, Nat.zero_add]; exact h.cell j u hu) h.one
/-- A fresh one. -/
theorem Flat.new (w : World) (l : List Value) (e : TypeId) (k n : Nat) (hl : l.length = n * k) (hn : n ≤ maxLen) (h1 : ∀ u ∈ l, u.oneCell' = true) : Flat k (w.alloc (.cells l.toArray e)) w.heap.size n n l :=
  ⟨by simp, hl, Nat.le_refl _, hn, fun t u hu => by rw [World.cell?_alloc_new, List.getElem?_toArray]; exact hu, h1,
   fun j hj => ⟨by rw [World.cell?_alloc_new, List.getElem?_toArray, List.getElem?_eq_getElem (by omega)]; rfl, World.frozen?_alloc_new w _ _ _⟩⟩

theorem but_setCells (b : Nat) : ∀ (vs : List Value) (o : Nat) (w0 w : World), But (fun j => j = b) w0 w → But (fun j => j = b) w0 (w.setCells b o vs)
  | [], _, _, _, h => h
  | v :: vs, o, w0, _, h => but_setCells b vs (o + 1) w0 _ (h.set1 b o rfl v)

theorem flat_append {P : Program} (k : Nat) (T E ty : TypeId) (i : TypeInfo) (z : Value) (hT : P.underlying T = some (.slice E)) (hi : P.info? E = some i) (hz : i.zero = some z) (hsz : i.size = k) (hzc : z.cells.size = k)
    (w : World) (g cap n : Nat) (l : List Value) (h : Flat k w g cap n l) (x : Value) (m : Nat) (ys : List Value) (hs : Src P k T x m ys w) (hmx : n + m ≤ maxLen) (hby : (n + m) * i.bytes ≤ 140737488355328) :
    ∃ g' cap' w', (Builtin.append_ #[T, T] ty #[.slice (some ⟨g, 0, none⟩) n cap, x]).run P w = .ok (.slice (some ⟨g', 0, none⟩) (n + m) cap') w' ∧
      Flat k w' g' cap' (n + m) (l ++ ys) ∧ But (fun j => j = g) w w' ∧ (g' = g ∨ w.heap.size ≤ g') := by
  subst hsz
  have hl := h.len
  have hyl := hs.newsLen
  by_cases hroom : n + m ≤ cap
  · have hin : ∀ j, j < ys.length → 0 + n * i.size + j < cap * i.size := fun j hj => by
      have h1 : (n + m) * i.size ≤ cap * i.size := Nat.mul_le_mul_right _ hroom
      rw [Nat.add_mul] at h1
      omega
    have hr := run_append_room_src (P := P) w T T ty E i hT hi g 0 n cap x m ys hs hroom (fun j hj => (h.there _ (hin j hj)).1) (fun j hj => (h.there _ (hin j hj)).2)
    have hsome : ∀ j, j < ys.length → (w.cell? ⟨g, 0 + n * i.size + j, none⟩).isSome = true := fun j hj => (h.there _ (hin j hj)).1
    have hb := but_setCells g ys (0 + n * i.size) w w (But.refl _ w)
    refine ⟨g, cap, _, hr, ?_, hb, .inl rfl⟩
    refine ⟨Nat.lt_of_lt_of_le h.lt hb.size, by rw [List.length_append, hl, hyl, Nat.add_mul], hroom, h.cmax, ?_, ?_, ?_⟩
    · intro t u hu
      by_cases e : t < l.length
      · rw [List.getElem?_append_left e] at hu
        rw [World.cell?_setCells_out g ys _ w ⟨g, t, none⟩ (fun _ _ => .inl (by show t < _; omega))]
        exact h.cell t u hu
      · rw [List.getElem?_append_right (by omega)] at hu
        obtain ⟨hj, hv⟩ := List.getElem?_eq_some_iff.1 hu
        have := World.cell?_setCells_in g ys (0 + n * i.size) w hsome (t - l.length) hj
        rw [show 0 + n * i.size + (t - l.length) = t by omega] at this
        rw [this, hv]
    · intro u hu
      rcases List.mem_append.1 hu with hu | hu
      · exact h.one u hu
      · exact hs.one u hu
    · intro j hj
      refine ⟨?_, by rw [World.frozen?_setCells]; exact (h.there j hj).2⟩
      by_cases e : n * i.size ≤ j ∧ j < n * i.size + ys.length
      · have := World.cell?_setCells_in g ys (0 + n * i.size) w hsome (j - n * i.size) (by omega)
        rw [show 0 + n * i.size + (j - n * i.size) = j by omega] at this
        rw [this]; rfl
      · rw [World.cell?_setCells_out g ys _ w ⟨g, j, none⟩ (fun _ _ => by show j < _ ∨ _ ≤ j; omega)]
        exact (h.there j hj).1
  · have hold : (Builtin.firstCells i.size n (.slice (some ⟨g, 0, none⟩) n cap)).run P w.drew = .ok l.toArray w.drew :=
      run_firstCells_some w.drew i.size n ⟨g, 0, none⟩ n cap l hl (fun j u hu => by
        rw [Addr.add_lit, Nat.zero_add]; exact h.cell j u hu)
    have hg : cap < n + m := by omega
    have h63 : ((n + m : Nat) : Int) ≤ 9223372036854775807 := by unfold maxLen at hmx; omega
    have hr := run_append_grow_src (P := P) w T T ty E i z hT hi hz (some ⟨g, 0, none⟩) n cap l hold x m ys hs hg h63 (growslice_fits hg hby)
    have hge := grownCap_ge w (n + m) cap E
    have hcm := grownCap_le_maxLen w (n + m) cap E hmx
    generalize grownCap w (n + m) cap E = C at hr hge hcm
    have hc : ∀ j, (w.drew.alloc (.cells ((l ++ ys).toArray ++ Builtin.zeroCells z.cells (C - (n + m))) E)).cell? ⟨w.heap.size, j, none⟩ = ((l ++ ys).toArray ++ Builtin.zeroCells z.cells (C - (n + m)))[j]? := fun j => World.cell?_alloc_new w.drew _ _ j
    have hll : (l ++ ys).length = (n + m) * i.size := by rw [List.length_append, hl, hyl, Nat.add_mul]
    refine ⟨w.heap.size, C, _, hr, ?_, But.of_below ⟨rfl, rfl, rfl, by simp, fun j hj => Below.heap_alloc w.drew _ j hj⟩, .inr (Nat.le_refl _)⟩
    refine ⟨by simp, hll, hge, hcm, ?_, ?_, ?_⟩
    · intro t u hu
      have ht : t < (l ++ ys).length := (List.getElem?_eq_some_iff.1 hu).1
      rw [hc, Array.getElem?_append_left (by simpa using ht), List.getElem?_toArray]
      exact hu
    · intro u hu
      rcases List.mem_append.1 hu with hu | hu
      · exact h.one u hu
      · exact hs.one u hu
    · intro j hj
      refine ⟨?_, World.frozen?_alloc_new w.drew _ _ _⟩
      rw [hc]
      have : j < ((l ++ ys).toArray ++ Builtin.zeroCells z.cells (C - (n + m))).size := by
        rw [Array.size_append, size_zeroCells, List.size_toArray, hll]
        have e2 : (n + m) * i.size + (C - (n + m)) * i.size = C * i.size := by rw [← Nat.add_mul]; congr 1; omega
        rw [hzc]
        first | omega | (rw [Nat.mul_comm] at e2; omega)
      rw [Array.getElem?_eq_getElem this]; rfl
end

/-- What is asked of the element's type. -/
def PlainK (P : Program) (k : Nat) (T E : TypeId) : Prop := ∃ i z, P.underlying T = some (.slice E) ∧ P.info? E = some i ∧ i.zero = some z ∧ i.size = k ∧ z.cells.size = k ∧ i.bytes ≤ 128
theorem wpList_flat {P : Program} {k : Nat} {T E : TypeId} (hp : PlainK P k T E) (w : World) {ops : Array Oper} {rest : List Oper} {o : Oper} {a : Act} {Q : Exit → Act → World → Prop}
    (hg : o.guard = none) (s x : Operand) (hop : o.op = Op.call { callee := Callee.builtin Builtin.append, args := #[s, x], argTypes := #[T, T] })
    (g cap n : Nat) (l : List Value) (hs : a.eval s = .slice (some ⟨g, 0, none⟩) n cap) (hF : Flat k w g cap n l) (xv : Value) (hx : a.eval x = xv) (m : Nat) (ys : List Value)
    (hsrc : Src P k T xv m ys w) (hb : n + m ≤ 1099511627776)
    (hK : ∀ g' cap' w', Flat k w' g' cap' (n + m) (l ++ ys) → But (fun j => j = g) w w' → (g' = g ∨ w.heap.size ≤ g') → wpList P ops Q rest (a.put o.dst (.slice (some ⟨g', 0, none⟩) (n + m) cap')) w') : wpList P ops Q (o :: rest) a w := by
  refine wpList_plain hg fun K hK' => ?_
  obtain ⟨i, z, hT, hi, hz, hsz, hzc, hby⟩ := hp
  have hm : n + m ≤ maxLen := by unfold maxLen; omega
  have hb2 : (n + m) * i.bytes ≤ 140737488355328 := Nat.le_trans (Nat.mul_le_mul hb hby) (by decide)
  obtain ⟨g', cap', w', hrun, r1, r2, r3⟩ := flat_append k T E o.type i z hT hi hz hsz hzc w g cap n l hF xv m ys hsrc hm hb2
  unfold Oper.wp
  simp [execOp, hop, resolve, invoke, builtin, hs, hx, hrun, Result.andThen]
  exact hK' _ _ (hK g' cap' w' r1 r2 r3)
/-- append as one step of a region that draws, by what it comes to. -/
theorem step_append {P : Program} {ops : Array Oper} {o : Oper} {a : Act} {w : World} {K : Act → World → Prop} {Q : Exit → Act → World → Prop} {E : Prop}
    (hg : o.guard = none) (s x : Operand) (t : TypeId) (hop : o.op = Op.call { callee := Callee.builtin Builtin.append, args := #[s, x], argTypes := #[t, t] })
    (vs vx : Value) (hs : a.eval s = vs) (hx : a.eval x = vx) (v' : Value) (w' : World) (hrun : (Builtin.append_ #[t, t] o.type #[vs, vx]).run P w = .ok v' w') (hK : K (a.put o.dst v') w') :
    if Region.wanted o (yielded ops a.tmps) = true then Oper.wp P o a w K Q else E := by
  have hw : Region.wanted o (yielded ops a.tmps) = true := by simp [Region.wanted, hg]
  rw [if_pos hw]
  unfold Oper.wp
  simp [execOp, hop, resolve, invoke, builtin, hs, hx, hrun, Result.andThen]
  exact hK
end Go.Proofs.Ytbcmilfajeanbaa

namespace Go.Proofs.Ytbcmilfajeanbaa
open Go.RowKit Go.Sort

/-- Block b begins with these cells, none of them frozen. -/
structure BoxAt (w : World) (b : Nat) (l : List Value) : Prop where
  lt : b < w.heap.size
  cell : ∀ i u, l[i]? = some u → w.cell? ⟨b, i, none⟩ = some u
  fz : ∀ i, i < l.length → w.frozen? ⟨b, i, none⟩ = false

section
variable {w w' : World} {b : Nat} {l : List Value} {S : Nat → Prop}
theorem BoxAt.but (h : BoxAt w b l) (hb : But S w w') (hS : ¬ S b) : BoxAt w' b l :=
  ⟨Nat.lt_of_lt_of_le h.lt hb.size, fun i u hu => (hb.cell (p := ⟨b, i, none⟩) h.lt hS).trans (h.cell i u hu), fun i hi => (hb.frozen (p := ⟨b, i, none⟩) h.lt hS).trans (h.fz i hi)⟩
theorem BoxAt.below (h : BoxAt w b l) (hb : Below w.heap.size w w') : BoxAt w' b l := h.but (S := fun _ => False) (But.of_below hb) id
theorem BoxAt.new (w : World) (l : List Value) (t : TypeId) : BoxAt (w.alloc (.cells l.toArray t)) w.heap.size l :=
  ⟨by simp, fun i u hu => by rw [World.cell?_alloc_new, List.getElem?_toArray]; exact hu, fun i _ => World.frozen?_alloc_new _ _ _ _⟩
theorem BoxAt.set (h : BoxAt w b l) (i : Nat) (v : Value) : BoxAt (w.setCell ⟨b, i, none⟩ v) b (l.set i v) := by
  refine ⟨by rw [World.size_setCell]; exact h.lt, fun j u hu => ?_, fun j hj => ?_⟩
  · rw [List.getElem?_set] at hu
    by_cases e : i = j
    · subst e
      rw [if_pos rfl] at hu
      split at hu
      case isTrue hl =>
        rw [World.cell?_setCell_same' _ _ _ (by rw [h.cell i _ (List.getElem?_eq_getElem hl)]; rfl)]
        exact hu
      case isFalse hl => cases hu
    · rw [if_neg e] at hu
      rw [World.cell?_setCell_other _ _ _ _ (fun q => e (by injection q))]
      exact h.cell j u hu
  · rw [World.frozen?_setCell]
    exact h.fz j (by simpa using hj)
theorem BoxAt.same (h : BoxAt w b l) {l' : List Value} (e : l = l') : BoxAt w b l' := e ▸ h
theorem BoxAt.drew (h : BoxAt w b l) : BoxAt w.drew b l := ⟨h.lt, h.cell, h.fz⟩
theorem BoxAt.get (h : BoxAt w b l) (i : Nat) (u : Value) (e : l[i]? = some u) : w.cell? ⟨b, i, none⟩ = some u ∧ w.frozen? ⟨b, i, none⟩ = false :=
  ⟨h.cell i u e, h.fz i (List.getElem?_eq_some_iff.1 e).1⟩
end

theorem BoxAt.drewN {w : World} {b : Nat} {l : List Value} (h : BoxAt w b l) (n : Nat) : BoxAt (w.drewN n) b l := ⟨h.lt, h.cell, h.fz⟩
/-- Two new boxes, one behind the other. -/
theorem two_new (w : World) (l1 l2 : List Value) (t1 t2 : TypeId) (n : Nat) : ∃ W, ((w.alloc (.cells l1.toArray t1)).alloc (.cells l2.toArray t2)).drewN n = W ∧ Below w.heap.size w W ∧ W.heap.size = w.heap.size + 2 ∧ BoxAt W w.heap.size l1 ∧ BoxAt W (w.heap.size + 1) l2 := by
  have h1 := BoxAt.new w l1 t1
  have h2 := BoxAt.new (w.alloc (.cells l1.toArray t1)) l2 t2
  rw [World.size_alloc] at h2
  refine ⟨_, rfl, below_drewN (((Below.refl _ _).alloc (Nat.le_refl _) _).alloc (by simp) _) n, by simp, (h1.below ((Below.refl _ _).alloc (Nat.le_refl _) _)).drewN n, h2.drewN n⟩
theorem drewN_zero (w : World) : w.drewN 0 = w := rfl
/-- All of a box laid anew. -/
theorem box_cells {w : World} {b : Nat} {l cs : List Value} (h : BoxAt w b l) (hl : l.length = cs.length) : BoxAt (w.setCells b 0 cs) b cs := by
  have hc : ∀ j, j < cs.length → (w.cell? ⟨b, 0 + j, none⟩).isSome = true := fun j hj => by rw [Nat.zero_add, h.cell j _ (List.getElem?_eq_getElem (by omega))]; rfl
  refine ⟨Nat.lt_of_lt_of_le h.lt (but_setCells b cs 0 w w (But.refl _ w)).size, fun i u hu => ?_, fun i hi => ?_⟩
  · obtain ⟨hj, hv⟩ := List.getElem?_eq_some_iff.1 hu
    have := World.cell?_setCells_in b cs 0 w hc i hj
    rw [Nat.zero_add] at this
    rw [this, hv]
  · rw [World.frozen?_setCells]; exact h.fz i (by omega)

/-- Some cells of a block laid anew, one behind the other. -/
def setBox (w : World) (b : Nat) : List (Nat × Value) → World
  | [] => w
  | p :: l => setBox (w.setCell ⟨b, p.1, none⟩ p.2) b l
theorem setBox_but (b : Nat) : ∀ (s : List (Nat × Value)) (w : World), But (fun j => j = b) w (setBox w b s)
  | [], w => But.refl _ w
  | p :: l, w => ((But.refl (fun j => j = b) w).set1 b p.1 rfl p.2).trans (setBox_but b l _)
theorem setBox_size (b : Nat) : ∀ (s : List (Nat × Value)) (w : World), (setBox w b s).heap.size = w.heap.size
  | [], _ => rfl
  | _ :: l, _ => (setBox_size b l _).trans (World.size_setCell _ _ _)
theorem setBox_box {b : Nat} : ∀ (s : List (Nat × Value)) {w : World} {l : List Value}, BoxAt w b l → BoxAt (setBox w b s) b (s.foldl (fun l p => l.set p.1 p.2) l)
  | [], _, _, h => h
  | p :: s, _, _, h => setBox_box s (h.set p.1 p.2)
end Go.Proofs.Ytbcmilfajeanbaa
