/-
  What turns in a memory, and what stays; slices by their cells one behind the other: appending to them.
  Blocks whose cells are known one by one.
  Slices that are nil or lie at the beginning of a block of their own, by their cells one behind the other: appending, copying.
  Layer 17: how many lists and counts, how much room; nothing put together: contracts.
  Layer 6's reference: the operations of a kind: contract.
  Layer 6: Check: contracts.
-/
import Derived.Test.YtbcmilfajeanbaaChecked
import Derived.WalkKit
import Derived.WalkSpells
import Derived.Laws.Cover2
import Derived.Laws.Externs
import Derived.Deep.RegionWith
import Derived.Deep.AppendSrc
import Derived.Deep.Upon
import Derived.Laws.IdiomStrings
import Derived.Laws.IdiomCopy
import Derived.Deep.RegionLaw
import Derived.BigQuiet
import Derived.Deep.QuietTactic
import Derived.Sort.Lot0
import Derived.Sort.LotA
import Derived.Test.YtbcmilfajeanbaaOpLegAll
namespace Go.Proofs.Ytbcmilfajeanbaa
open Go.RowKit Go.Sort

theorem hidq {p : Prop} (h : p) : Hid p := h
theorem hidd {p : Prop} (h : p) : Hid p := h
theorem run_store_float {P : Program} (a : Addr) (n : Nat) (w : World) : (store a (.float .f64 n)).run P w = stored P w a (.float .f64 n) .plain := run_store P w a _ _ rfl

/-- But for some blocks, and new ones, nothing has turned. -/
structure But (S : Nat → Prop) (w w' : World) : Prop where
  os : w'.os = w.os
  tape : w'.tape = w.tape
  output : w'.output = w.output
  size : w.heap.size ≤ w'.heap.size
  block : ∀ k, k < w.heap.size → ¬ S k → w'.heap[k]? = w.heap[k]?
theorem But.refl (S : Nat → Prop) (w : World) : But S w w := ⟨rfl, rfl, rfl, Nat.le_refl _, fun _ _ _ => rfl⟩
theorem But.trans {S : Nat → Prop} {a b c : World} (h : But S a b) (k : But S b c) : But S a c :=
  ⟨k.os.trans h.os, k.tape.trans h.tape, k.output.trans h.output, Nat.le_trans h.size k.size, fun i hi hn => (k.block i (Nat.lt_of_lt_of_le hi h.size) hn).trans (h.block i hi hn)⟩
theorem But.mono {S T : Nat → Prop} {a b : World} (h : But S a b) (hT : ∀ k, k < a.heap.size → S k → T k) : But T a b :=
  ⟨h.os, h.tape, h.output, h.size, fun i hi hn => h.block i hi (fun e => hn (hT i hi e))⟩
theorem But.of_below {S : Nat → Prop} {a b : World} (h : Below a.heap.size a b) : But S a b := ⟨h.os, h.tape, h.output, h.size, fun i hi _ => h.block i hi⟩
theorem But.below {S : Nat → Prop} {a b : World} {B : Nat} (h : But S a b) (hB : B ≤ a.heap.size) (hS : ∀ k, S k → B ≤ k) : Below B a b :=
  ⟨h.os, h.tape, h.output, h.size, fun i hi => h.block i (by omega) (fun e => by have := hS i e; omega)⟩
theorem But.drew {S : Nat → Prop} {a b : World} (h : But S a b) : But S a b.drew := ⟨h.os, h.tape, h.output, h.size, h.block⟩
theorem But.drewN {S : Nat → Prop} {a b : World} (h : But S a b) (n : Nat) : But S a (b.drewN n) := ⟨h.os, h.tape, h.output, h.size, h.block⟩
theorem But.alloc {S : Nat → Prop} {a b : World} (h : But S a b) (o : Obj) : But S a (b.alloc o) := h.trans (But.of_below ((Below.refl _ _).alloc (Nat.le_refl _) o))
theorem heap_set_ne (w : World) (p : Addr) (v : Value) {i : Nat} (h : i ≠ p.block) : (w.setCell p v).heap[i]? = w.heap[i]? := by
  simp only [World.setCell, Array.getElem?_modify]
  rw [if_neg (Ne.symm h)]
theorem But.setCell {S : Nat → Prop} {a b : World} (h : But S a b) {p : Addr} (hp : a.heap.size ≤ p.block ∨ S p.block) (v : Value) : But S a (b.setCell p v) := by
  refine ⟨h.os, h.tape, h.output, by rw [World.size_setCell]; exact h.size, fun i hi hn => ?_⟩
  have hne : i ≠ p.block := fun e => by subst e; rcases hp with h1 | h1; · omega
                                        · exact hn h1
  rw [← h.block i hi hn]
  exact heap_set_ne b p v hne
theorem But.cell {S : Nat → Prop} {a b : World} (h : But S a b) {p : Addr} (hp : p.block < a.heap.size) (hS : ¬ S p.block) : b.cell? p = a.cell? p := World.cell?_of_block (h.block p.block hp hS)
theorem But.frozen {S : Nat → Prop} {a b : World} (h : But S a b) {p : Addr} (hp : p.block < a.heap.size) (hS : ¬ S p.block) : b.frozen? p = a.frozen? p := World.frozen?_of_block (h.block p.block hp hS)
theorem But.set1 {S : Nat → Prop} {a b : World} (h : But S a b) (g o : Nat) (hg : S g) (v : Value) : But S a (b.setCell ⟨g, o, none⟩ v) := h.setCell (p := ⟨g, o, none⟩) (.inr hg) v
theorem But.then {S T : Nat → Prop} {a b c : World} (h : But S a b) (k : But T b c) (hT : ∀ i, i < a.heap.size → T i → S i) : But S a c :=
  ⟨k.os.trans h.os, k.tape.trans h.tape, k.output.trans h.output, Nat.le_trans h.size k.size, fun i hi hn => (k.block i (Nat.lt_of_lt_of_le hi h.size) (fun e => hn (hT i hi e))).trans (h.block i hi hn)⟩
theorem below_drewN {B : Nat} {a b : World} (h : Below B a b) (n : Nat) : Below B a (b.drewN n) := ⟨h.os, h.tape, h.output, h.size, h.block⟩

/-- Block g holds n elements of k cells, l one behind the other, with room for cap. -/
structure Flat (k : Nat) (w : World) (g cap n : Nat) (l : List Value) : Prop where
  lt : g < w.heap.size
  len : l.length = n * k
  le : n ≤ cap
  cmax : cap ≤ maxLen
  cell : ∀ t u, l[t]? = some u → w.cell? ⟨g, t, none⟩ = some u
  one : ∀ u ∈ l, u.oneCell' = true
  there : ∀ j, j < cap * k → (w.cell? ⟨g, j, none⟩).isSome = true ∧ w.frozen? ⟨g, j, none⟩ = false

section
variable {k g cap n : Nat} {l : List Value} {w w' : World} {S : Nat → Prop}
theorem Flat.but (h : Flat k w g cap n l) (hb : But S w w') (hS : ¬ S g) : Flat k w' g cap n l :=
  ⟨Nat.lt_of_lt_of_le h.lt hb.size, h.len, h.le, h.cmax, fun t u hu => (hb.cell (p := ⟨g, t, none⟩) h.lt hS).trans (h.cell t u hu), h.one,
   fun j hj => by rw [hb.cell (p := ⟨g, j, none⟩) h.lt hS, hb.frozen (p := ⟨g, j, none⟩) h.lt hS]; exact h.there j hj⟩
theorem Flat.src {P : Program} {tx e : TypeId} (h : Flat k w g cap n l) (hk : P.underlying tx = some (.slice e)) : Src P k tx (.slice (some ⟨g, 0, none⟩) n cap) n l w :=
  Src.ofSlice w hk ⟨g, 0, none⟩ n cap l h.len (fun j u hu => by rw [Addr.add_lit, Nat.zero_add]; exact h.cell j u hu) h.one
/-- A fresh one. -/
theorem Flat.new (w : World) (l : List Value) (e : TypeId) (k n : Nat) (hl : l.length = n * k) (hn : n ≤ maxLen) (h1 : ∀ u ∈ l, u.oneCell' = true) : Flat k (w.alloc (.cells l.toArray e)) w.heap.size n n l :=
  ⟨by simp, hl, Nat.le_refl _, hn, fun t u hu => by rw [World.cell?_alloc_new, List.getElem?_toArray]; exact hu, h1,
   fun j hj => ⟨by rw [World.cell?_alloc_new, List.getElem?_toArray, List.getElem?_eq_getElem (by omega)]; rfl, World.frozen?_alloc_new w _ _ _⟩⟩

theorem but_setCells (b : Nat) : ∀ (vs : List Value) (o : Nat) (w0 w : World), But (fun j => j = b) w0 w → But (fun j => j = b) w0 (w.setCells b o vs)
  | [], _, _, _, h => h
  | v :: vs, o, w0, _, h => but_setCells b vs (o + 1) w0 _ (h.set1 b o rfl v)

theorem flat_append {P : Program} (k : Nat) (T E ty : TypeId) (i : TypeInfo) (z : Value) (hT : P.underlying T = some (.slice E)) (hi : P.info? E = some i) (hz : i.zero = some z) (hsz : i.size = k) (hzc : z.cells.size = k)
    (w : World) (g cap n : Nat) (l : List Value) (h : Flat k w g cap n l) (x : Value) (m : Nat) (ys : List Value) (hs : Src P k T x m ys w) (hmx : n + m ≤ maxLen) (hby : (n + m) * i.bytes ≤ 140737488355328) :
    ∃ g' cap' w', (Builtin.append_ #[T, T] ty #[.slice (some ⟨g, 0, none⟩) n cap, x]).run P w = .ok (.slice (some ⟨g', 0, none⟩) (n + m) cap') w' ∧
      Flat k w' g' cap' (n + m) (l ++ ys) ∧ But (fun j => j = g) w w' ∧ (g' = g ∨ w.heap.size ≤ g') := by
  subst hsz
  have hl := h.len
  have hyl := hs.newsLen
  by_cases hroom : n + m ≤ cap
  · have hin : ∀ j, j < ys.length → 0 + n * i.size + j < cap * i.size := fun j hj => by
      have h1 : (n + m) * i.size ≤ cap * i.size := Nat.mul_le_mul_right _ hroom
      rw [Nat.add_mul] at h1
      omega
    have hr := run_append_room_src (P := P) w T T ty E i hT hi g 0 n cap x m ys hs hroom (fun j hj => (h.there _ (hin j hj)).1) (fun j hj => (h.there _ (hin j hj)).2)
    have hsome : ∀ j, j < ys.length → (w.cell? ⟨g, 0 + n * i.size + j, none⟩).isSome = true := fun j hj => (h.there _ (hin j hj)).1
    have hb := but_setCells g ys (0 + n * i.size) w w (But.refl _ w)
    refine ⟨g, cap, _, hr, ?_, hb, .inl rfl⟩
    refine ⟨Nat.lt_of_lt_of_le h.lt hb.size, by rw [List.length_append, hl, hyl, Nat.add_mul], hroom, h.cmax, ?_, ?_, ?_⟩
    · intro t u hu
      by_cases e : t < l.length
      · rw [List.getElem?_append_left e] at hu
        rw [World.cell?_setCells_out g ys _ w ⟨g, t, none⟩ (fun _ _ => .inl (by show t < _; omega))]
        exact h.cell t u hu
      · rw [List.getElem?_append_right (by omega)] at hu
        obtain ⟨hj, hv⟩ := List.getElem?_eq_some_iff.1 hu
        have := World.cell?_setCells_in g ys (0 + n * i.size) w hsome (t - l.length) hj
        rw [show 0 + n * i.size + (t - l.length) = t by omega] at this
        rw [this, hv]
    · intro u hu
      rcases List.mem_append.1 hu with hu | hu
      · exact h.one u hu
      · exact hs.one u hu
    · intro j hj
      refine ⟨?_, by rw [World.frozen?_setCells]; exact (h.there j hj).2⟩
      by_cases e : n * i.size ≤ j ∧ j < n * i.size + ys.length
      · have := World.cell?_setCells_in g ys (0 + n * i.size) w hsome (j - n * i.size) (by omega)
        rw [show 0 + n * i.size + (j - n * i.size) = j by omega] at this
        rw [this]; rfl
      · rw [World.cell?_setCells_out g ys _ w ⟨g, j, none⟩ (fun _ _ => by show j < _ ∨ _ ≤ j; omega)]
        exact (h.there j hj).1
  · have hold : (Builtin.firstCells i.size n (.slice (some ⟨g, 0, none⟩) n cap)).run P w.drew = .ok l.toArray w.drew :=
      run_firstCells_some w.drew i.size n ⟨g, 0, none⟩ n cap l hl (fun j u hu => by
        rw [Addr.add_lit, Nat.zero_add]; exact h.cell j u hu)
    have hg : cap < n + m := by omega
    have h63 : ((n + m : Nat) : Int) ≤ 9223372036854775807 := by unfold maxLen at hmx; omega
    have hr := run_append_grow_src (P := P) w T T ty E i z hT hi hz (some ⟨g, 0, none⟩) n cap l hold x m ys hs hg h63 (growslice_fits hg hby)
    have hge := grownCap_ge w (n + m) cap E
    have hcm := grownCap_le_maxLen w (n + m) cap E hmx
    generalize grownCap w (n + m) cap E = C at hr hge hcm
    have hc : ∀ j, (w.drew.alloc (.cells ((l ++ ys).toArray ++ Builtin.zeroCells z.cells (C - (n + m))) E)).cell? ⟨w.heap.size, j, none⟩ = ((l ++ ys).toArray ++ Builtin.zeroCells z.cells (C - (n + m)))[j]? := fun j => World.cell?_alloc_new w.drew _ _ j
    have hll : (l ++ ys).length = (n + m) * i.size := by rw [List.length_append, hl, hyl, Nat.add_mul]
    refine ⟨w.heap.size, C, _, hr, ?_, But.of_below ⟨rfl, rfl, rfl, by simp, fun j hj => Below.heap_alloc w.drew _ j hj⟩, .inr (Nat.le_refl _)⟩
    refine ⟨by simp, hll, hge, hcm, ?_, ?_, ?_⟩
    · intro t u hu
      have ht : t < (l ++ ys).length := (List.getElem?_eq_some_iff.1 hu).1
      rw [hc, Array.getElem?_append_left (by simpa using ht), List.getElem?_toArray]
      exact hu
    · intro u hu
      rcases List.mem_append.1 hu with hu | hu
      · exact h.one u hu
      · exact hs.one u hu
    · intro j hj
      refine ⟨?_, World.frozen?_alloc_new w.drew _ _ _⟩
      rw [hc]
      have : j < ((l ++ ys).toArray ++ Builtin.zeroCells z.cells (C - (n + m))).size := by
        rw [Array.size_append, size_zeroCells, List.size_toArray, hll]
        have e2 : (n + m) * i.size + (C - (n + m)) * i.size = C * i.size := by rw [← Nat.add_mul]; congr 1; omega
        rw [hzc]
        first | omega | (rw [Nat.mul_comm] at e2; omega)
      rw [Array.getElem?_eq_getElem this]; rfl
end

/-- What is asked of the element's type. -/
def PlainK (P : Program) (k : Nat) (T E : TypeId) : Prop := ∃ i z, P.underlying T = some (.slice E) ∧ P.info? E = some i ∧ i.zero = some z ∧ i.size = k ∧ z.cells.size = k ∧ i.bytes ≤ 128
theorem wpList_flat {P : Program} {k : Nat} {T E : TypeId} (hp : PlainK P k T E) (w : World) {ops : Array Oper} {rest : List Oper} {o : Oper} {a : Act} {Q : Exit → Act → World → Prop}
    (hg : o.guard = none) (s x : Operand) (hop : o.op = Op.call { callee := Callee.builtin Builtin.append, args := #[s, x], argTypes := #[T, T] })
    (g cap n : Nat) (l : List Value) (hs : a.eval s = .slice (some ⟨g, 0, none⟩) n cap) (hF : Flat k w g cap n l) (xv : Value) (hx : a.eval x = xv) (m : Nat) (ys : List Value)
    (hsrc : Src P k T xv m ys w) (hb : n + m ≤ 1099511627776)
    (hK : ∀ g' cap' w', Flat k w' g' cap' (n + m) (l ++ ys) → But (fun j => j = g) w w' → (g' = g ∨ w.heap.size ≤ g') → wpList P ops Q rest (a.put o.dst (.slice (some ⟨g', 0, none⟩) (n + m) cap')) w') : wpList P ops Q (o :: rest) a w := by
  refine wpList_plain hg fun K hK' => ?_
  obtain ⟨i, z, hT, hi, hz, hsz, hzc, hby⟩ := hp
  have hm : n + m ≤ maxLen := by unfold maxLen; omega
  have hb2 : (n + m) * i.bytes ≤ 140737488355328 := Nat.le_trans (Nat.mul_le_mul hb hby) (by decide)
  obtain ⟨g', cap', w', hrun, r1, r2, r3⟩ := flat_append k T E o.type i z hT hi hz hsz hzc w g cap n l hF xv m ys hsrc hm hb2
  unfold Oper.wp
  simp [execOp, hop, resolve, invoke, builtin, hs, hx, hrun, Result.andThen]
  exact hK' _ _ (hK g' cap' w' r1 r2 r3)
/-- append as one step of a region that draws, by what it comes to. -/
theorem step_append {P : Program} {ops : Array Oper} {o : Oper} {a : Act} {w : World} {K : Act → World → Prop} {Q : Exit → Act → World → Prop} {E : Prop}
    (hg : o.guard = none) (s x : Operand) (t : TypeId) (hop : o.op = Op.call { callee := Callee.builtin Builtin.append, args := #[s, x], argTypes := #[t, t] })
    (vs vx : Value) (hs : a.eval s = vs) (hx : a.eval x = vx) (v' : Value) (w' : World) (hrun : (Builtin.append_ #[t, t] o.type #[vs, vx]).run P w = .ok v' w') (hK : K (a.put o.dst v') w') :
    if Region.wanted o (yielded ops a.tmps) = true then Oper.wp P o a w K Q else E := by
  have hw : Region.wanted o (yielded ops a.tmps) = true := by simp [Region.wanted, hg]
  rw [if_pos hw]
  unfold Oper.wp
  simp [execOp, hop, resolve, invoke, builtin, hs, hx, hrun, Result.andThen]
  exact hK
end Go.Proofs.Ytbcmilfajeanbaa

namespace Go.Proofs.Ytbcmilfajeanbaa
open Go.RowKit Go.Sort

/-- Block b begins with these cells, none of them frozen. -/
structure BoxAt (w : World) (b : Nat) (l : List Value) : Prop where
  lt : b < w.heap.size
  cell : ∀ i u, l[i]? = some u → w.cell? ⟨b, i, none⟩ = some u
  fz : ∀ i, i < l.length → w.frozen? ⟨b, i, none⟩ = false

section
variable {w w' : World} {b : Nat} {l : List Value} {S : Nat → Prop}
theorem BoxAt.but (h : BoxAt w b l) (hb : But S w w') (hS : ¬ S b) : BoxAt w' b l :=
  ⟨Nat.lt_of_lt_of_le h.lt hb.size, fun i u hu => (hb.cell (p := ⟨b, i, none⟩) h.lt hS).trans (h.cell i u hu), fun i hi => (hb.frozen (p := ⟨b, i, none⟩) h.lt hS).trans (h.fz i hi)⟩
theorem BoxAt.below (h : BoxAt w b l) (hb : Below w.heap.size w w') : BoxAt w' b l := h.but (S := fun _ => False) (But.of_below hb) id
theorem BoxAt.new (w : World) (l : List Value) (t : TypeId) : BoxAt (w.alloc (.cells l.toArray t)) w.heap.size l :=
  ⟨by simp, fun i u hu => by rw [World.cell?_alloc_new, List.getElem?_toArray]; exact hu, fun i _ => World.frozen?_alloc_new _ _ _ _⟩
theorem BoxAt.set (h : BoxAt w b l) (i : Nat) (v : Value) : BoxAt (w.setCell ⟨b, i, none⟩ v) b (l.set i v) := by
  refine ⟨by rw [World.size_setCell]; exact h.lt, fun j u hu => ?_, fun j hj => ?_⟩
  · rw [List.getElem?_set] at hu
    by_cases e : i = j
    · subst e
      rw [if_pos rfl] at hu
      split at hu
      case isTrue hl =>
        rw [World.cell?_setCell_same' _ _ _ (by rw [h.cell i _ (List.getElem?_eq_getElem hl)]; rfl)]
        exact hu
      case isFalse hl => cases hu
    · rw [if_neg e] at hu
      rw [World.cell?_setCell_other _ _ _ _ (fun q => e (by injection q))]
      exact h.cell j u hu
  · rw [World.frozen?_setCell]
    exact h.fz j (by simpa using hj)
theorem BoxAt.same (h : BoxAt w b l) {l' : List Value} (e : l = l') : BoxAt w b l' := e ▸ h
theorem BoxAt.drew (h : BoxAt w b l) : BoxAt w.drew b l := ⟨h.lt, h.cell, h.fz⟩
theorem BoxAt.get (h : BoxAt w b l) (i : Nat) (u : Value) (e : l[i]? = some u) : w.cell? ⟨b, i, none⟩ = some u ∧ w.frozen? ⟨b, i, none⟩ = false :=
  ⟨h.cell i u e, h.fz i (List.getElem?_eq_some_iff.1 e).1⟩
end

theorem BoxAt.drewN {w : World} {b : Nat} {l : List Value} (h : BoxAt w b l) (n : Nat) : BoxAt (w.drewN n) b l := ⟨h.lt, h.cell, h.fz⟩
/-- Two new boxes, one behind the other. -/
theorem two_new (w : World) (l1 l2 : List Value) (t1 t2 : TypeId) (n : Nat) : ∃ W, ((w.alloc (.cells l1.toArray t1)).alloc (.cells l2.toArray t2)).drewN n = W ∧ Below w.heap.size w W ∧ W.heap.size = w.heap.size + 2 ∧ BoxAt W w.heap.size l1 ∧ BoxAt W (w.heap.size + 1) l2 := by
  have h1 := BoxAt.new w l1 t1
  have h2 := BoxAt.new (w.alloc (.cells l1.toArray t1)) l2 t2
  rw [World.size_alloc] at h2
  refine ⟨_, rfl, below_drewN (((Below.refl _ _).alloc (Nat.le_refl _) _).alloc (by simp) _) n, by simp, (h1.below ((Below.refl _ _).alloc (Nat.le_refl _) _)).drewN n, h2.drewN n⟩
theorem drewN_zero (w : World) : w.drewN 0 = w := rfl
/-- All of a box laid anew. -/
theorem box_cells {w : World} {b : Nat} {l cs : List Value} (h : BoxAt w b l) (hl : l.length = cs.length) : BoxAt (w.setCells b 0 cs) b cs := by
  have hc : ∀ j, j < cs.length → (w.cell? ⟨b, 0 + j, none⟩).isSome = true := fun j hj => by rw [Nat.zero_add, h.cell j _ (List.getElem?_eq_getElem (by omega))]; rfl
  refine ⟨Nat.lt_of_lt_of_le h.lt (but_setCells b cs 0 w w (But.refl _ w)).size, fun i u hu => ?_, fun i hi => ?_⟩
  · obtain ⟨hj, hv⟩ := List.getElem?_eq_some_iff.1 hu
    have := World.cell?_setCells_in b cs 0 w hc i hj
    rw [Nat.zero_add] at this
    rw [this, hv]
  · rw [World.frozen?_setCells]; exact h.fz i (by omega)

end Go.Proofs.Ytbcmilfajeanbaa

namespace Go.Proofs.Ytbcmilfajeanbaa
open Go.RowKit Go.Sort


/-- A slice of n elements of k cells each, l one behind the other. -/
def SlAt (k : Nat) (w : World) (a : Option Addr) (cap n : Nat) (l : List Value) : Prop :=
  (a = none ∧ n = 0 ∧ cap = 0 ∧ l = []) ∨ ∃ g, a = some ⟨g, 0, none⟩ ∧ Flat k w g cap n l
/-- The block of a slice. -/
def inB (a : Option Addr) (k : Nat) : Prop := ∃ x, a = some x ∧ x.block = k

section
variable {k cap n : Nat} {a : Option Addr} {l : List Value} {w w' : World} {S : Nat → Prop}
theorem SlAt.nil (k : Nat) (w : World) : SlAt k w none 0 0 [] := .inl ⟨rfl, rfl, rfl, rfl⟩
theorem SlAt.len (h : SlAt k w a cap n l) : l.length = n * k := by
  rcases h with ⟨_, rfl, _, rfl⟩ | ⟨g, _, h⟩
  · simp
  · exact h.len
theorem SlAt.but (h : SlAt k w a cap n l) (hb : But S w w') (hS : ∀ j, inB a j → ¬ S j) : SlAt k w' a cap n l := by
  rcases h with h | ⟨g, rfl, h⟩
  · exact .inl h
  · exact .inr ⟨g, rfl, h.but hb (hS g ⟨_, rfl, rfl⟩)⟩
theorem SlAt.below (h : SlAt k w a cap n l) (hb : Below w.heap.size w w') : SlAt k w' a cap n l := h.but (S := fun _ => False) (But.of_below hb) (fun _ _ e => e)
theorem SlAt.lt (h : SlAt k w a cap n l) : ∀ j, inB a j → j < w.heap.size := by
  rintro j ⟨x, hx, rfl⟩
  rcases h with ⟨h, _⟩ | ⟨g, h, hf⟩
  · rw [h] at hx; cases hx
  · rw [h] at hx; cases hx; exact hf.lt
theorem SlAt.le (h : SlAt k w a cap n l) : n ≤ cap := by
  rcases h with ⟨_, rfl, rfl, rfl⟩ | ⟨g, _, h⟩
  · exact Nat.le_refl _
  · exact h.le
theorem SlAt.cell (h : SlAt k w a cap n l) {t : Nat} {u : Value} (hu : l[t]? = some u) : ∃ g, a = some ⟨g, 0, none⟩ ∧ g < w.heap.size ∧ w.cell? ⟨g, t, none⟩ = some u := by
  rcases h with ⟨_, _, _, rfl⟩ | ⟨g, h, hf⟩
  · simp at hu
  · exact ⟨g, h, hf.lt, hf.cell t u hu⟩
theorem SlAt.src {P : Program} {tx e : TypeId} (h : SlAt k w a cap n l) (hk : P.underlying tx = some (.slice e)) : Src P k tx (.slice a n cap) n l w := by
  rcases h with ⟨rfl, rfl, rfl, rfl⟩ | ⟨g, rfl, hf⟩
  · exact Src.ofNil w hk 0
  · exact hf.src hk
end

/-- Appending onto nil. -/
theorem nil_append {P : Program} (k : Nat) (T E ty : TypeId) (i : TypeInfo) (z : Value) (hT : P.underlying T = some (.slice E)) (hi : P.info? E = some i) (hz : i.zero = some z) (hsz : i.size = k) (hzc : z.cells.size = k)
    (w : World) (x : Value) (m : Nat) (ys : List Value) (hs : Src P k T x m ys w) (hm : 0 < m) (hmx : m ≤ maxLen) (hby : m * i.bytes ≤ 140737488355328) :
    ∃ g' cap' w', (Builtin.append_ #[T, T] ty #[.slice none 0 0, x]).run P w = .ok (.slice (some ⟨g', 0, none⟩) m cap') w' ∧
      Flat k w' g' cap' m ys ∧ Below w.heap.size w w' ∧ w.heap.size ≤ g' := by
  subst hsz
  have hyl := hs.newsLen
  have hold : (Builtin.firstCells i.size 0 (.slice none 0 0)).run P w.drew = .ok ([] : List Value).toArray w.drew := run_firstCells_none w.drew i.size 0 0 0
  have h63 : ((0 + m : Nat) : Int) ≤ 9223372036854775807 := by unfold maxLen at hmx; omega
  have hr := run_append_grow_src (P := P) w T T ty E i z hT hi hz none 0 0 [] hold x m ys hs (by omega) h63 (growslice_fits (by omega) (by rw [Nat.zero_add]; exact hby))
  rw [Nat.zero_add] at hr
  have hge := grownCap_ge w m 0 E
  have hcm := grownCap_le_maxLen w m 0 E hmx
  generalize grownCap w m 0 E = C at hr hge hcm
  rw [List.nil_append] at hr
  have hc : ∀ j, (w.drew.alloc (.cells (ys.toArray ++ Builtin.zeroCells z.cells (C - m)) E)).cell? ⟨w.heap.size, j, none⟩ = (ys.toArray ++ Builtin.zeroCells z.cells (C - m))[j]? := fun j => World.cell?_alloc_new w.drew _ _ j
  refine ⟨w.heap.size, C, _, hr, ?_, ⟨rfl, rfl, rfl, by simp, fun j hj => Below.heap_alloc w.drew _ j hj⟩, Nat.le_refl _⟩
  refine ⟨by simp, hyl, hge, hcm, ?_, hs.one, ?_⟩
  · intro t u hu
    have ht : t < ys.length := (List.getElem?_eq_some_iff.1 hu).1
    rw [hc, Array.getElem?_append_left (by simpa using ht), List.getElem?_toArray]
    exact hu
  · intro j hj
    refine ⟨?_, World.frozen?_alloc_new w.drew _ _ _⟩
    rw [hc]
    have : j < (ys.toArray ++ Builtin.zeroCells z.cells (C - m)).size := by
      rw [Array.size_append, size_zeroCells, List.size_toArray, hyl]
      have e2 : m * i.size + (C - m) * i.size = C * i.size := by rw [← Nat.add_mul]; congr 1; omega
      rw [hzc]
      first | omega | (rw [Nat.mul_comm] at e2; omega)
    rw [Array.getElem?_eq_getElem this]; rfl

/-- Appending onto any such slice. -/
theorem sl_append {P : Program} {k : Nat} {T E : TypeId} (hp : PlainK P k T E) (ty : TypeId) (w : World) (a : Option Addr) (cap n : Nat) (l : List Value) (h : SlAt k w a cap n l) (x : Value) (m : Nat) (ys : List Value)
    (hs : Src P k T x m ys w) (hm : 0 < m) (hb : n + m ≤ 1099511627776) :
    ∃ g' cap' w', (Builtin.append_ #[T, T] ty #[.slice a n cap, x]).run P w = .ok (.slice (some ⟨g', 0, none⟩) (n + m) cap') w' ∧
      Flat k w' g' cap' (n + m) (l ++ ys) ∧ But (inB a) w w' ∧ (inB a g' ∨ w.heap.size ≤ g') := by
  obtain ⟨i, z, hT, hi, hz, hsz, hzc, hby⟩ := hp
  have hm2 : n + m ≤ maxLen := by unfold maxLen; omega
  have hb2 : (n + m) * i.bytes ≤ 140737488355328 := Nat.le_trans (Nat.mul_le_mul hb hby) (by decide)
  rcases h with ⟨rfl, rfl, rfl, rfl⟩ | ⟨g, rfl, hf⟩
  · rw [Nat.zero_add] at hm2 hb2 ⊢
    obtain ⟨g', cap', w', h1, h2, h3, h4⟩ := nil_append k T E ty i z hT hi hz hsz hzc w x m ys hs hm hm2 hb2
    exact ⟨g', cap', w', h1, by rw [List.nil_append]; exact h2, But.of_below h3, .inr h4⟩
  · obtain ⟨g', cap', w', h1, h2, h3, h4⟩ := flat_append k T E ty i z hT hi hz hsz hzc w g cap n l hf x m ys hs hm2 hb2
    refine ⟨g', cap', w', h1, h2, h3.mono (fun j _ e => ⟨_, rfl, e.symm⟩), h4.imp (fun e => ⟨_, rfl, e.symm⟩) id⟩

theorem wpList_sl {P : Program} {k : Nat} {T E : TypeId} (hp : PlainK P k T E) (w : World) {ops : Array Oper} {rest : List Oper} {o : Oper} {a : Act} {Q : Exit → Act → World → Prop}
    (hg : o.guard = none) (s x : Operand) (hop : o.op = Op.call { callee := Callee.builtin Builtin.append, args := #[s, x], argTypes := #[T, T] })
    (b : Option Addr) (cap n : Nat) (l : List Value) (hs : a.eval s = .slice b n cap) (hF : SlAt k w b cap n l) (xv : Value) (hx : a.eval x = xv) (m : Nat) (ys : List Value)
    (hsrc : Src P k T xv m ys w) (hm : 0 < m) (hb : n + m ≤ 1099511627776)
    (hK : ∀ g' cap' w', Flat k w' g' cap' (n + m) (l ++ ys) → But (inB b) w w' → (inB b g' ∨ w.heap.size ≤ g') → wpList P ops Q rest (a.put o.dst (.slice (some ⟨g', 0, none⟩) (n + m) cap')) w') : wpList P ops Q (o :: rest) a w := by
  refine wpList_plain hg fun K hK' => ?_
  obtain ⟨g', cap', w', hrun, r1, r2, r3⟩ := sl_append hp o.type w b cap n l hF xv m ys hsrc hm hb
  unfold Oper.wp
  simp [execOp, hop, resolve, invoke, builtin, hs, hx, hrun, Result.andThen]
  exact hK' _ _ (hK g' cap' w' r1 r2 r3)

/-- One element, laid in a block of its own. -/
theorem src_new {P : Program} {T E : TypeId} (k : Nat) (w : World) (hk : P.underlying T = some (.slice E)) (b : Nat) (us : List Value) (hl : us.length = k) (hc : ∀ j u, us[j]? = some u → w.cell? ⟨b, j, none⟩ = some u) (h1 : ∀ u ∈ us, u.oneCell' = true) :
    Src P k T (.slice (some ⟨b, 0, none⟩) 1 1) 1 us w :=
  Src.ofSlice w hk _ 1 1 us (by rw [hl, Nat.one_mul]) (fun j u hu => by rw [Addr.add_lit, Nat.zero_add]; exact hc j u hu) h1

end Go.Proofs.Ytbcmilfajeanbaa

namespace Go.Proofs.Ytbcmilfajeanbaa
open Go.RowKit Go.Sort

def shL (k p : Int) : Int := if k = 1 then p else if k = 2 then 1 else 0
def shC (k p : Int) : Int := if k = 3 then p else if k = 4 then 1 else 0
theorem shape_any (k p : Int) (w : World) : Calls Try.prog 28 #[.int .i64 k, .int .i64 p] w fun e w' => e = .returned (.tuple #[.int .i64 (shL k p), .int .i64 (shC k p)]) ∧ w' = w := by
  rcases kinds k with rfl | rfl | rfl | rfl | ⟨h1, h2, h3, h4⟩
  · go_enter Try.func28, Try.ntmps28
    go_wp2
    go_ret2
    exact ⟨rfl, rfl⟩
  · go_enter Try.func28, Try.ntmps28
    go_wp2
    go_ret2
    exact ⟨rfl, rfl⟩
  · go_enter Try.func28, Try.ntmps28
    go_wp2
    go_ret2
    exact ⟨rfl, rfl⟩
  · go_enter Try.func28, Try.ntmps28
    go_wp2
    go_ret2
    exact ⟨rfl, rfl⟩
  · have e1 : shL k p = 0 := by unfold shL; rw [if_neg h1, if_neg h2]
    have e2 : shC k p = 0 := by unfold shC; rw [if_neg h3, if_neg h4]
    rw [e1, e2]
    have b1 : (k == 1) = false := by simpa using h1
    have b2 : (k == 2) = false := by simpa using h2
    have b3 : (k == 3) = false := by simpa using h3
    have b4 : (k == 4) = false := by simpa using h4
    clear h1 h2 h3 h4 e1 e2
    go_enter Try.func28, Try.ntmps28
    go_wp2
    go_ret2
    exact ⟨rfl, rfl⟩

/-- How much room. -/
def roomI (k : Int) : Int := 998 / max k 1 * max k 1
theorem room_rng (k : Int) : 0 ≤ roomI k ∧ roomI k ≤ 998 ∧ roomI k % max k 1 = 0 ∧ (998 < max k 1 ∨ 998 - max k 1 < roomI k) := by
  unfold roomI
  have h1 : 1 ≤ max k 1 := by omega
  generalize max k 1 = m at *
  have a := Int.mul_ediv_add_emod 998 m
  have b := Int.emod_nonneg 998 (show m ≠ 0 by omega)
  have c := Int.emod_lt_of_pos 998 (show 0 < m by omega)
  rw [Int.mul_comm] at a
  have d : 0 ≤ 998 / m := Int.ediv_nonneg (by decide) (by omega)
  have e : 0 ≤ 998 / m * m := Int.mul_nonneg d (by omega)
  exact ⟨e, by omega, Int.mul_emod_left _ _, by omega⟩
theorem room_any (k : Int) (w : World) : Calls Try.prog 29 #[.int .i64 k] w fun e w' => e = .returned (.int .i64 (roomI k)) ∧ w' = w := by
  obtain ⟨r1, r2, _⟩ := room_rng k
  have hw : wrap64 (roomI k) = roomI k := by unfold wrap64; omega
  unfold roomI at hw
  unfold roomI
  clear r1 r2
  rcases Classical.em (k < 1) with h | h
  · have e : max k 1 = 1 := by omega
    rw [e]
    go_enter Try.func29, Try.ntmps29
    go_wp2
    all_goals first | omega | skip
    go_ret
    exact ⟨rfl, rfl⟩
  · have e : max k 1 = k := by omega
    have hk : 1 ≤ k := by omega
    rw [e] at hw
    rw [e]
    have HW := hidq hw
    clear hw e h
    go_enter Try.func29, Try.ntmps29
    go_wp2
    all_goals first | omega | skip
    go_ret
    refine ⟨?_, rfl⟩
    show Ending.returned (Value.int .i64 (wrap64 (998 / k * k))) = _
    rw [HW.out]

set_option maxRecDepth 10000 in
/-- Nothing put together. -/
theorem concat_nil (w : World) : Calls Try.prog 54 #[.slice none 0 0] w fun e w' => e = .returned (.slice none 0 0) ∧ Below w.heap.size w w' := by
  have hG : ∀ W, Calls Try.prog 86 #[.slice none 0 0, .int .i64 0] W fun e w' => e = .returned (.slice none 0 0) ∧ Below W.heap.size W w' := by
    intro W
    go_enter Try.func86, Try.ntmps86
    go_wp2
    go_ret
    exact ⟨rfl, Below.refl _ _⟩
  go_enter Try.func54, Try.ntmps54
  go_wp2
  go_loopw [3, 11] (fun n i wr => n = .int .i64 0 ∧ i = .int .i64 0 ∧ Below w.heap.size w wr) (fun _ _ _ => 0)
  case atStart => exact ⟨rfl, rfl, Below.refl _ _⟩
  case round =>
    obtain ⟨rfl, rfl, hB⟩ := hrel
    go_wp2_with fail
    refine (hG _).mono ?_
    rintro e w1 ⟨rfl, hb1⟩
    have HB := hidq (show Below w.heap.size w w1 from hB.trans (hb1.mono hB.size))
    clear hB hb1
    go_wp2
    go_loopw [6, 27] (fun n i wr => n = .slice none 0 0 ∧ i = .int .i64 0 ∧ Below w.heap.size w wr) (fun _ _ _ => 0)
    case atStart => exact ⟨rfl, rfl, HB.out⟩
    case round =>
      obtain ⟨rfl, rfl, hB⟩ := hrel
      go_wp2
      go_ret
      exact ⟨rfl, hB⟩
end Go.Proofs.Ytbcmilfajeanbaa

namespace Go.Proofs.Ytbcmilfajeanbaa
open Go.RowKit

theorem rof_any (k : Int) (w : World) : Calls Try.prog 44 #[.int .i64 k] w fun e w' => e = .returned (.tuple #[.int .i64 (opFrom k), .int .i64 (opTo k)]) ∧ w' = w := by
  rcases kinds k with rfl | rfl | rfl | rfl | h
  · go_enter Try.func44, Try.ntmps44
    go_wp2
    go_ret2
    exact ⟨rfl, rfl⟩
  · go_enter Try.func44, Try.ntmps44
    go_wp2
    go_ret2
    exact ⟨rfl, rfl⟩
  · go_enter Try.func44, Try.ntmps44
    go_wp2
    go_ret2
    exact ⟨rfl, rfl⟩
  · go_enter Try.func44, Try.ntmps44
    go_wp2
    go_ret2
    exact ⟨rfl, rfl⟩
  · rw [(opl_none h).2.1, (opl_none h).2.2]
    obtain ⟨h1, h2, h3, h4⟩ := h
    go_enter Try.func44, Try.ntmps44
    go_wp2
    go_ret2
    exact ⟨rfl, rfl⟩
end Go.Proofs.Ytbcmilfajeanbaa

namespace Go.Proofs.Ytbcmilfajeanbaa
open Go.RowKit

theorem opindex_any (a : Option Addr) (cap n : Nat) (l : List Int) (x : Int) (w : World) (h : IntsAt w a l) (hl : l.length = n) (hn : n ≤ 1000) :
    Calls Try.prog 92 #[.slice a n cap, .int .i64 x] w fun e w' => ∃ r : Int, e = .returned (.int .i64 r) ∧ (0 ≤ r ↔ x ∈ l) ∧ w' = w := by
  have hn1 : (n : Int) ≤ 1000 := by omega
  have HL : Hid (l.length = n) := hl
  clear hl
  go_enter Try.func92, Try.ntmps92
  go_wp2
  go_loop [8] (fun s => ∃ k : Nat, k ≤ n ∧ s = .int .i64 (k : Int) ∧ ∀ j, j < k → ¬ x = l[j]!) (fun s => n - (intOf s).toNat)
  case atStart => exact ⟨0, Nat.zero_le _, rfl, fun j hj => absurd hj (Nat.not_lt_zero _)⟩
  case round =>
    obtain ⟨k, hk, rfl, hno⟩ := hrel
    by_cases hlt : k < n
    · obtain ⟨b, rfl, hb, hc⟩ := h k (by rw [HL]; exact hlt)
      have k1 : (k : Int) < (n : Int) := by omega
      have hm : l[k]! ∈ l := by rw [getElem!_pos l k (by rw [HL]; exact hlt)]; exact List.getElem_mem _
      by_cases e : x = l[k]!
      · have HX : Hid (x ∈ l) := by rw [e]; exact hm
        have HE : Hid (∀ _ : Unit, x = l[k]!) := fun _ => e
        have hcx : w.cell? ⟨b, k, none⟩ = some (.int .i64 x) := by rw [e]; exact hc
        clear e hc hno hm
        go_wp2
        go_ret
        exact ⟨k, rfl, ⟨fun _ => HX, fun _ => by omega⟩, rfl⟩
      · have HN : Hid (∀ j, j < k + 1 → ¬ x = l[j]!) := fun j hj => by
          rcases Nat.lt_succ_iff_lt_or_eq.1 hj with h1 | h1
          · exact hno j h1
          · rw [h1]; exact e
        generalize l[k]! = y at *
        have eb : (x == y) = false := by simpa using e
        clear e hno hm
        go_wp2
        go_round
        case rel => exact ⟨k + 1, by omega, by go_num, HN⟩
        case measure => simp [intOf]; omega
    · have hkn : k = n := by omega
      have HX : Hid (¬ x ∈ l) := fun hm => by
        obtain ⟨j, hj, ej⟩ := List.getElem_of_mem hm
        have := hno j (by rw [HL] at hj; omega)
        rw [getElem!_pos l j hj] at this
        exact this ej.symm
      have hd : decide ((k : Int) < (n : Int)) = false := decide_eq_false (by omega)
      clear hno hkn
      go_wp2
      go_ret
      exact ⟨-1, rfl, ⟨fun h => absurd h (by decide), fun h => absurd h HX⟩, rfl⟩

theorem contains_any (a : Option Addr) (cap n : Nat) (l : List Int) (x : Int) (w : World) (h : IntsAt w a l) (hl : l.length = n) (hn : n ≤ 1000) :
    Calls Try.prog 70 #[.slice a n cap, .int .i64 x] w fun e w' => e = .returned (.bool (decide (x ∈ l))) ∧ w' = w := by
  have hI := opindex_any a cap n l x w h hl hn
  clear h hl hn
  by_cases hx : x ∈ l
  · rw [decide_eq_true hx]
    go_enter Try.func70, Try.ntmps70
    go_wp2_with fail
    refine hI.mono ?_
    rintro e w' ⟨r, rfl, hr, hw⟩
    replace hw := hw.symm; subst hw
    have h0 := hr.2 hx
    clear hr hx hI
    go_wp2
    go_ret
    exact ⟨rfl, rfl⟩
  · rw [decide_eq_false hx]
    go_enter Try.func70, Try.ntmps70
    go_wp2_with fail
    refine hI.mono ?_
    rintro e w' ⟨r, rfl, hr, hw⟩
    replace hw := hw.symm; subst hw
    have h0 : decide (0 ≤ r) = false := decide_eq_false (fun h => hx (hr.1 h))
    clear hr hx hI
    go_wp2
    go_ret
    exact ⟨rfl, rfl⟩

/-- May it be done? -/
def chk (kind k v : Int) : Int := if ¬ (opFrom kind ≤ k ∧ k ≤ opTo kind) then 6 else if k = 5 ∧ (v < 0 ∨ 4294967296 < v) then 4 else 0
theorem chk6 {kind k v : Int} (h : ¬ (opFrom kind ≤ k ∧ k ≤ opTo kind)) : chk kind k v = 6 := if_pos h
theorem chk4 {kind k v : Int} (h : opFrom kind ≤ k ∧ k ≤ opTo kind) (h2 : k = 5 ∧ (v < 0 ∨ 4294967296 < v)) : chk kind k v = 4 := by unfold chk; rw [if_neg (fun e => e h), if_pos h2]
theorem chk0 {kind k v : Int} (h : opFrom kind ≤ k ∧ k ≤ opTo kind) (h2 : ¬ (k = 5 ∧ (v < 0 ∨ 4294967296 < v))) : chk kind k v = 0 := by unfold chk; rw [if_neg (fun e => e h), if_neg h2]

abbrev boxO (k : Int) (f : Nat) (v d0 d1 : Int) : Obj := .cells #[.int .i64 k, .float .f64 f, .int .i64 v, .int .i64 d0, .int .i64 d1] 42

set_option maxHeartbeats 2000000 in
theorem check_any (kind k v d0 d1 : Int) (f : Nat) (w : World) :
    Calls Try.prog 36 #[.agg #[.int .i64 k, .float .f64 f, .int .i64 v, .int .i64 d0, .int .i64 d1], .int .i64 kind] w fun e w' => e = .returned (.int .i64 (chk kind k v)) ∧ Below w.heap.size w w' := by
  have hO := fun w => of_any kind w
  have hC := fun a w h => contains_any a (opl kind).length _ (opl kind) k w h rfl (by have := (opl_length kind).2; omega)
  have hm := (op_rng kind).2.2.2.2 k
  generalize opl kind = l at *
  generalize l.length = n at *
  have hz : ∀ w1, Below (w.alloc (boxO k f v d0 d1)).drew.heap.size (w.alloc (boxO k f v d0 d1)).drew w1 → w1.cell? ⟨w.heap.size, 0, none⟩ = some (.int .i64 k) ∧ w1.cell? ⟨w.heap.size, 2, none⟩ = some (.int .i64 v) := fun w1 hb => by
    constructor
    · rw [hb.cell (p := ⟨w.heap.size, 0, none⟩) (by simp)]; simp
    · rw [hb.cell (p := ⟨w.heap.size, 2, none⟩) (by simp)]; simp
  have hB0 : ∀ w1, Below (w.alloc (boxO k f v d0 d1)).drew.heap.size (w.alloc (boxO k f v d0 d1)).drew w1 → Below w.heap.size w w1 := fun w1 hb =>
    (((Below.refl _ _).alloc (Nat.le_refl _) _).drew).trans (hb.mono (by simp))
  have hfin : opFrom kind ≤ k ∧ k ≤ opTo kind → Hid (∀ _ : Unit, decide (k ∈ l) = true) := fun h _ => decide_eq_true (hm.2 h)
  by_cases hin : opFrom kind ≤ k ∧ k ≤ opTo kind
  · rw [hfin hin ()] at hC
    by_cases h5 : k = 5
    · by_cases hv : v < 0
      · rw [chk4 hin ⟨h5, .inl hv⟩]
        subst h5
        clear hm hin hfin
        go_enter Try.func36, Try.ntmps36
        go_wp2
        go_region_with (first | (go_at_call 61; refine (hO _).mono ?_; rintro e w1 ⟨a, rfl, hi, hb⟩; obtain ⟨hz1, hz2⟩ := hz _ hb) | (go_at_call 70; refine (hC a _ hi).mono ?_; rintro e w1 ⟨rfl, hw⟩; replace hw := hw.symm; subst hw))
        all_goals go_wp2
        all_goals go_ret
        all_goals exact ⟨rfl, hB0 _ hb⟩
      · have hv0 : decide (v < 0) = false := decide_eq_false hv
        by_cases hv1 : 4294967296 < v
        · rw [chk4 hin ⟨h5, .inr hv1⟩]
          subst h5
          clear hm hin hfin hv
          go_enter Try.func36, Try.ntmps36
          go_wp2
          go_region_with (first | (go_at_call 61; refine (hO _).mono ?_; rintro e w1 ⟨a, rfl, hi, hb⟩; obtain ⟨hz1, hz2⟩ := hz _ hb) | (go_at_call 70; refine (hC a _ hi).mono ?_; rintro e w1 ⟨rfl, hw⟩; replace hw := hw.symm; subst hw))
          all_goals go_wp2
          all_goals go_ret
          all_goals exact ⟨rfl, hB0 _ hb⟩
        · rw [chk0 hin (fun e => e.2.elim hv hv1)]
          have hv2 : decide (4294967296 < v) = false := decide_eq_false hv1
          subst h5
          clear hm hin hfin hv hv1
          go_enter Try.func36, Try.ntmps36
          go_wp2
          go_region_with (first | (go_at_call 61; refine (hO _).mono ?_; rintro e w1 ⟨a, rfl, hi, hb⟩; obtain ⟨hz1, hz2⟩ := hz _ hb) | (go_at_call 70; refine (hC a _ hi).mono ?_; rintro e w1 ⟨rfl, hw⟩; replace hw := hw.symm; subst hw))
          all_goals go_wp2
          all_goals go_ret
          all_goals exact ⟨rfl, hB0 _ hb⟩
    · rw [chk0 hin (fun e => h5 e.1)]
      have hk5 : (k == 5) = false := by simpa using h5
      clear hm hin hfin h5
      go_enter Try.func36, Try.ntmps36
      go_wp2
      go_region_with (first | (go_at_call 61; refine (hO _).mono ?_; rintro e w1 ⟨a, rfl, hi, hb⟩; obtain ⟨hz1, hz2⟩ := hz _ hb) | (go_at_call 70; refine (hC a _ hi).mono ?_; rintro e w1 ⟨rfl, hw⟩; replace hw := hw.symm; subst hw))
      all_goals go_wp2
      all_goals go_ret
      all_goals exact ⟨rfl, hB0 _ hb⟩
  · rw [chk6 hin]
    have hd : decide (k ∈ l) = false := decide_eq_false (fun e => hin (hm.1 e))
    rw [hd] at hC
    clear hd hm hin hfin
    go_enter Try.func36, Try.ntmps36
    go_wp2
    go_region_with (first | (go_at_call 61; refine (hO _).mono ?_; rintro e w1 ⟨a, rfl, hi, hb⟩; obtain ⟨hz1, hz2⟩ := hz _ hb) | (go_at_call 70; refine (hC a _ hi).mono ?_; rintro e w1 ⟨rfl, hw⟩; replace hw := hw.symm; subst hw))
    all_goals go_wp2
    all_goals go_ret
    all_goals exact ⟨rfl, hB0 _ hb⟩
end Go.Proofs.Ytbcmilfajeanbaa
