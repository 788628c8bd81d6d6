/-
  What turns in a memory, and what stays; slices by their cells one behind the other: appending to them.
  Slices that are nil or lie at the beginning of a block of their own, by their cells one behind the other: appending, copying.
  Slices of items: copying.
  Layer 5: values, cells, memories: what they hold; copies: contracts.
  Layer 5: a memory: what it holds, and its calls: contracts.
  Layer 5: a memory is written: contracts.
  Layer 5: Force, Write: contracts.
  Layer 5: Write: contracts.
  Blocks whose cells are known one by one.
  Layer 6: the operations of a kind: contracts.
  Layer 6: parameters: contracts.
  An operation under way, as it lies in memory; what a step of a machine comes to.
-/
import Derived.Test.YtepigofpcjmddaaChecked
import Derived.WalkKit
import Derived.WalkSpells
import Derived.Laws.Cover2
import Derived.Laws.Externs
import Derived.Deep.RegionWith
import Derived.Deep.AppendSrc
import Derived.Deep.Upon
import Derived.Laws.IdiomStrings
import Derived.Laws.IdiomCopy
import Derived.Deep.RegionLaw
import Derived.BigQuiet
import Derived.Deep.QuietTactic
import Derived.Sort.Lot0
import Derived.Sort.LotA
namespace Go.Proofs.Ytepigofpcjmddaa
open Go.RowKit Go.Sort

theorem hidq {p : Prop} (h : p) : Hid p := h
theorem hidd {p : Prop} (h : p) : Hid p := h
theorem run_store_float {P : Program} (a : Addr) (n : Nat) (w : World) : (store a (.float .f64 n)).run P w = stored P w a (.float .f64 n) .plain := run_store P w a _ _ rfl

/-- But for some blocks, and new ones, nothing has turned. -/
structure But (S : Nat → Prop) (w w' : World) : Prop where
  os : w'.os = w.os
  tape : w'.tape = w.tape
  output : w'.output = w.output
  size : w.heap.size ≤ w'.heap.size
  block : ∀ k, k < w.heap.size → ¬ S k → w'.heap[k]? = w.heap[k]?
theorem But.refl (S : Nat → Prop) (w : World) : But S w w := ⟨rfl, rfl, rfl, Nat.le_refl _, fun _ _ _ => rfl⟩
theorem But.trans {S : Nat → Prop} {a b c : World} (h : But S a b) (k : But S b c) : But S a c :=
  ⟨k.os.trans h.os, k.tape.trans h.tape, k.output.trans h.output, Nat.le_trans h.size k.size, fun i hi hn => (k.block i (Nat.lt_of_lt_of_le hi h.size) hn).trans (h.block i hi hn)⟩
theorem But.mono {S T : Nat → Prop} {a b : World} (h : But S a b) (hT : ∀ k, k < a.heap.size → S k → T k) : But T a b :=
  ⟨h.os, h.tape, h.output, h.size, fun i hi hn => h.block i hi (fun e => hn (hT i hi e))⟩
theorem But.of_below {S : Nat → Prop} {a b : World} (h : Below a.heap.size a b) : But S a b := ⟨h.os, h.tape, h.output, h.size, fun i hi _ => h.block i hi⟩
theorem But.below {S : Nat → Prop} {a b : World} {B : Nat} (h : But S a b) (hB : B ≤ a.heap.size) (hS : ∀ k, S k → B ≤ k) : Below B a b :=
  ⟨h.os, h.tape, h.output, h.size, fun i hi => h.block i (by omega) (fun e => by have := hS i e; omega)⟩
theorem But.drew {S : Nat → Prop} {a b : World} (h : But S a b) : But S a b.drew := ⟨h.os, h.tape, h.output, h.size, h.block⟩
theorem But.drewN {S : Nat → Prop} {a b : World} (h : But S a b) (n : Nat) : But S a (b.drewN n) := ⟨h.os, h.tape, h.output, h.size, h.block⟩
theorem But.alloc {S : Nat → Prop} {a b : World} (h : But S a b) (o : Obj) : But S a (b.alloc o) := h.trans (But.of_below ((Below.refl _ _).alloc (Nat.le_refl _) o))
theorem heap_set_ne (w : World) (p : Addr) (v : Value) {i : Nat} (h : i ≠ p.block) : (w.setCell p v).heap[i]? = w.heap[i]? := by
  simp only [World.setCell, Array.getElem?_modify]
  rw [if_neg (Ne.symm h)]
theorem But.setCell {S : Nat → Prop} {a b : World} (h : But S a b) {p : Addr} (hp : a.heap.size ≤ p.block ∨ S p.block) (v : Value) : But S a (b.setCell p v) := by
  refine ⟨h.os, h.tape, h.output, by rw [World.size_setCell]; exact h.size, fun i hi hn => ?_⟩
  have hne : i ≠ p.block := fun e => by subst e; rcases hp with h1 | h1; · omega
                                        · exact hn h1
  rw [← h.block i hi hn]
  exact heap_set_ne b p v hne
theorem But.cell {S : Nat → Prop} {a b : World} (h : But S a b) {p : Addr} (hp : p.block < a.heap.size) (hS : ¬ S p.block) : b.cell? p = a.cell? p := World.cell?_of_block (h.block p.block hp hS)
theorem But.frozen {S : Nat → Prop} {a b : World} (h : But S a b) {p : Addr} (hp : p.block < a.heap.size) (hS : ¬ S p.block) : b.frozen? p = a.frozen? p := World.frozen?_of_block (h.block p.block hp hS)
theorem But.set1 {S : Nat → Prop} {a b : World} (h : But S a b) (g o : Nat) (hg : S g) (v : Value) : But S a (b.setCell ⟨g, o, none⟩ v) := h.setCell (p := ⟨g, o, none⟩) (.inr hg) v
theorem But.then {S T : Nat → Prop} {a b c : World} (h : But S a b) (k : But T b c) (hT : ∀ i, i < a.heap.size → T i → S i) : But S a c :=
  ⟨k.os.trans h.os, k.tape.trans h.tape, k.output.trans h.output, Nat.le_trans h.size k.size, fun i hi hn => (k.block i (Nat.lt_of_lt_of_le hi h.size) (fun e => hn (hT i hi e))).trans (h.block i hi hn)⟩
theorem below_drewN {B : Nat} {a b : World} (h : Below B a b) (n : Nat) : Below B a (b.drewN n) := ⟨h.os, h.tape, h.output, h.size, h.block⟩

/-- Block g holds n elements of k cells, l one behind the other, with room for cap. -/
structure Flat (k : Nat) (w : World) (g cap n : Nat) (l : List Value) : Prop where
  lt : g < w.heap.size
  len : l.length = n * k
  le : n ≤ cap
  cmax : cap ≤ maxLen
  cell : ∀ t u, l[t]? = some u → w.cell? ⟨g, t, none⟩ = some u
  one : ∀ u ∈ l, u.oneCell' = true
  there : ∀ j, j < cap * k → (w.cell? ⟨g, j, none⟩).isSome = true ∧ w.frozen? ⟨g, j, none⟩ = false

section
variable {k g cap n : Nat} {l : List Value} {w w' : World} {S : Nat → Prop}
theorem Flat.but (h : Flat k w g cap n l) (hb : But S w w') (hS : ¬ S g) : Flat k w' g cap n l :=
  ⟨Nat.lt_of_lt_of_le h.lt hb.size, h.len, h.le, h.cmax, fun t u hu => (hb.cell (p := ⟨g, t, none⟩) h.lt hS).trans (h.cell t u hu), h.one,
   fun j hj => by rw [hb.cell (p := ⟨g, j, none⟩) h.lt hS, hb.frozen (p := ⟨g, j, none⟩) h.lt hS]; exact h.there j hj⟩
theorem Flat.src {P : Program} {tx e : TypeId} (h : Flat k w g cap n l) (hk : P.underlying tx = some (.slice e)) : Src P k tx (.slice (some ⟨g, 0, none⟩) n cap) n l w :=
  Src.ofSlice w hk ⟨g, 0, none⟩ n cap l h.len (fun j u hu => by rw [Addr.add_lit, Nat.zero_add]; exact h.cell j u hu) h.one
/-- A fresh one. -/
theorem Flat.new (w : World) (l : List Value) (e : TypeId) (k n : Nat) (hl : l.length = n * k) (hn : n ≤ maxLen) (h1 : ∀ u ∈ l, u.oneCell' = true) : Flat k (w.alloc (.cells l.toArray e)) w.heap.size n n l :=
  ⟨by simp, hl, Nat.le_refl _, hn, fun t u hu => by rw [World.cell?_alloc_new, List.getElem?_toArray]; exact hu, h1,
   fun j hj => ⟨by rw [World.cell?_alloc_new, List.getElem?_toArray, List.getElem?_eq_getElem (by omega)]; rfl, World.frozen?_alloc_new w _ _ _⟩⟩

theorem but_setCells (b : Nat) : ∀ (vs : List Value) (o : Nat) (w0 w : World), But (fun j => j = b) w0 w → But (fun j => j = b) w0 (w.setCells b o vs)
  | [], _, _, _, h => h
  | v :: vs, o, w0, _, h => but_setCells b vs (o + 1) w0 _ (h.set1 b o rfl v)

theorem flat_append {P : Program} (k : Nat) (T E ty : TypeId) (i : TypeInfo) (z : Value) (hT : P.underlying T = some (.slice E)) (hi : P.info? E = some i) (hz : i.zero = some z) (hsz : i.size = k) (hzc : z.cells.size = k)
    (w : World) (g cap n : Nat) (l : List Value) (h : Flat k w g cap n l) (x : Value) (m : Nat) (ys : List Value) (hs : Src P k T x m ys w) (hmx : n + m ≤ maxLen) (hby : (n + m) * i.bytes ≤ 140737488355328) :
    ∃ g' cap' w', (Builtin.append_ #[T, T] ty #[.slice (some ⟨g, 0, none⟩) n cap, x]).run P w = .ok (.slice (some ⟨g', 0, none⟩) (n + m) cap') w' ∧
      Flat k w' g' cap' (n + m) (l ++ ys) ∧ But (fun j => j = g) w w' ∧ (g' = g ∨ w.heap.size ≤ g') := by
  subst hsz
  have hl := h.len
  have hyl := hs.newsLen
  by_cases hroom : n + m ≤ cap
  · have hin : ∀ j, j < ys.length → 0 + n * i.size + j < cap * i.size := fun j hj => by
      have h1 : (n + m) * i.size ≤ cap * i.size := Nat.mul_le_mul_right _ hroom
      rw [Nat.add_mul] at h1
      omega
    have hr := run_append_room_src (P := P) w T T ty E i hT hi g 0 n cap x m ys hs hroom (fun j hj => (h.there _ (hin j hj)).1) (fun j hj => (h.there _ (hin j hj)).2)
    have hsome : ∀ j, j < ys.length → (w.cell? ⟨g, 0 + n * i.size + j, none⟩).isSome = true := fun j hj => (h.there _ (hin j hj)).1
    have hb := but_setCells g ys (0 + n * i.size) w w (But.refl _ w)
    refine ⟨g, cap, _, hr, ?_, hb, .inl rfl⟩
    refine ⟨Nat.lt_of_lt_of_le h.lt hb.size, by rw [List.length_append, hl, hyl, Nat.add_mul], hroom, h.cmax, ?_, ?_, ?_⟩
    · intro t u hu
      by_cases e : t < l.length
      · rw [List.getElem?_append_left e] at hu
        rw [World.cell?_setCells_out g ys _ w ⟨g, t, none⟩ (fun _ _ => .inl (by show t < _; omega))]
        exact h.cell t u hu
      · rw [List.getElem?_append_right (by omega)] at hu
        obtain ⟨hj, hv⟩ := List.getElem?_eq_some_iff.1 hu
        have := World.cell?_setCells_in g ys (0 + n * i.size) w hsome (t - l.length) hj
        rw [show 0 + n * i.size + (t - l.length) = t by omega] at this
        rw [this, hv]
    · intro u hu
      rcases List.mem_append.1 hu with hu | hu
      · exact h.one u hu
      · exact hs.one u hu
    · intro j hj
      refine ⟨?_, by rw [World.frozen?_setCells]; exact (h.there j hj).2⟩
      by_cases e : n * i.size ≤ j ∧ j < n * i.size + ys.length
      · have := World.cell?_setCells_in g ys (0 + n * i.size) w hsome (j - n * i.size) (by omega)
        rw [show 0 + n * i.size + (j - n * i.size) = j by omega] at this
        rw [this]; rfl
      · rw [World.cell?_setCells_out g ys _ w ⟨g, j, none⟩ (fun _ _ => by show j < _ ∨ _ ≤ j; omega)]
        exact (h.there j hj).1
  · have hold : (Builtin.firstCells i.size n (.slice (some ⟨g, 0, none⟩) n cap)).run P w.drew = .ok l.toArray w.drew :=
      run_firstCells_some w.drew i.size n ⟨g, 0, none⟩ n cap l hl (fun j u hu => by
        rw [Addr.add_lit, Nat.zero_add]; exact h.cell j u hu)
    have hg : cap < n + m := by omega
    have h63 : ((n + m : Nat) : Int) ≤ 9223372036854775807 := by unfold maxLen at hmx; omega
    have hr := run_append_grow_src (P := P) w T T ty E i z hT hi hz (some ⟨g, 0, none⟩) n cap l hold x m ys hs hg h63 (growslice_fits hg hby)
    have hge := grownCap_ge w (n + m) cap E
    have hcm := grownCap_le_maxLen w (n + m) cap E hmx
    generalize grownCap w (n + m) cap E = C at hr hge hcm
    have hc : ∀ j, (w.drew.alloc (.cells ((l ++ ys).toArray ++ Builtin.zeroCells z.cells (C - (n + m))) E)).cell? ⟨w.heap.size, j, none⟩ = ((l ++ ys).toArray ++ Builtin.zeroCells z.cells (C - (n + m)))[j]? := fun j => World.cell?_alloc_new w.drew _ _ j
    have hll : (l ++ ys).length = (n + m) * i.size := by rw [List.length_append, hl, hyl, Nat.add_mul]
    refine ⟨w.heap.size, C, _, hr, ?_, But.of_below ⟨rfl, rfl, rfl, by simp, fun j hj => Below.heap_alloc w.drew _ j hj⟩, .inr (Nat.le_refl _)⟩
    refine ⟨by simp, hll, hge, hcm, ?_, ?_, ?_⟩
    · intro t u hu
      have ht : t < (l ++ ys).length := (List.getElem?_eq_some_iff.1 hu).1
      rw [hc, Array.getElem?_append_left (by simpa using ht), List.getElem?_toArray]
      exact hu
    · intro u hu
      rcases List.mem_append.1 hu with hu | hu
      · exact h.one u hu
      · exact hs.one u hu
    · intro j hj
      refine ⟨?_, World.frozen?_alloc_new w.drew _ _ _⟩
      rw [hc]
      have : j < ((l ++ ys).toArray ++ Builtin.zeroCells z.cells (C - (n + m))).size := by
        rw [Array.size_append, size_zeroCells, List.size_toArray, hll]
        have e2 : (n + m) * i.size + (C - (n + m)) * i.size = C * i.size := by rw [← Nat.add_mul]; congr 1; omega
        rw [hzc]
        first | omega | (rw [Nat.mul_comm] at e2; omega)
      rw [Array.getElem?_eq_getElem this]; rfl
end

/-- What is asked of the element's type. -/
def PlainK (P : Program) (k : Nat) (T E : TypeId) : Prop := ∃ i z, P.underlying T = some (.slice E) ∧ P.info? E = some i ∧ i.zero = some z ∧ i.size = k ∧ z.cells.size = k ∧ i.bytes ≤ 128
theorem wpList_flat {P : Program} {k : Nat} {T E : TypeId} (hp : PlainK P k T E) (w : World) {ops : Array Oper} {rest : List Oper} {o : Oper} {a : Act} {Q : Exit → Act → World → Prop}
    (hg : o.guard = none) (s x : Operand) (hop : o.op = Op.call { callee := Callee.builtin Builtin.append, args := #[s, x], argTypes := #[T, T] })
    (g cap n : Nat) (l : List Value) (hs : a.eval s = .slice (some ⟨g, 0, none⟩) n cap) (hF : Flat k w g cap n l) (xv : Value) (hx : a.eval x = xv) (m : Nat) (ys : List Value)
    (hsrc : Src P k T xv m ys w) (hb : n + m ≤ 1099511627776)
    (hK : ∀ g' cap' w', Flat k w' g' cap' (n + m) (l ++ ys) → But (fun j => j = g) w w' → (g' = g ∨ w.heap.size ≤ g') → wpList P ops Q rest (a.put o.dst (.slice (some ⟨g', 0, none⟩) (n + m) cap')) w') : wpList P ops Q (o :: rest) a w := by
  refine wpList_plain hg fun K hK' => ?_
  obtain ⟨i, z, hT, hi, hz, hsz, hzc, hby⟩ := hp
  have hm : n + m ≤ maxLen := by unfold maxLen; omega
  have hb2 : (n + m) * i.bytes ≤ 140737488355328 := Nat.le_trans (Nat.mul_le_mul hb hby) (by decide)
  obtain ⟨g', cap', w', hrun, r1, r2, r3⟩ := flat_append k T E o.type i z hT hi hz hsz hzc w g cap n l hF xv m ys hsrc hm hb2
  unfold Oper.wp
  simp [execOp, hop, resolve, invoke, builtin, hs, hx, hrun, Result.andThen]
  exact hK' _ _ (hK g' cap' w' r1 r2 r3)
/-- append as one step of a region that draws, by what it comes to. -/
theorem step_append {P : Program} {ops : Array Oper} {o : Oper} {a : Act} {w : World} {K : Act → World → Prop} {Q : Exit → Act → World → Prop} {E : Prop}
    (hg : o.guard = none) (s x : Operand) (t : TypeId) (hop : o.op = Op.call { callee := Callee.builtin Builtin.append, args := #[s, x], argTypes := #[t, t] })
    (vs vx : Value) (hs : a.eval s = vs) (hx : a.eval x = vx) (v' : Value) (w' : World) (hrun : (Builtin.append_ #[t, t] o.type #[vs, vx]).run P w = .ok v' w') (hK : K (a.put o.dst v') w') :
    if Region.wanted o (yielded ops a.tmps) = true then Oper.wp P o a w K Q else E := by
  have hw : Region.wanted o (yielded ops a.tmps) = true := by simp [Region.wanted, hg]
  rw [if_pos hw]
  unfold Oper.wp
  simp [execOp, hop, resolve, invoke, builtin, hs, hx, hrun, Result.andThen]
  exact hK
end Go.Proofs.Ytepigofpcjmddaa

namespace Go.Proofs.Ytepigofpcjmddaa
open Go.RowKit Go.Sort


/-- A slice of n elements of k cells each, l one behind the other. -/
def SlAt (k : Nat) (w : World) (a : Option Addr) (cap n : Nat) (l : List Value) : Prop :=
  (a = none ∧ n = 0 ∧ cap = 0 ∧ l = []) ∨ ∃ g, a = some ⟨g, 0, none⟩ ∧ Flat k w g cap n l
/-- The block of a slice. -/
def inB (a : Option Addr) (k : Nat) : Prop := ∃ x, a = some x ∧ x.block = k

section
variable {k cap n : Nat} {a : Option Addr} {l : List Value} {w w' : World} {S : Nat → Prop}
theorem SlAt.nil (k : Nat) (w : World) : SlAt k w none 0 0 [] := .inl ⟨rfl, rfl, rfl, rfl⟩
theorem SlAt.len (h : SlAt k w a cap n l) : l.length = n * k := by
  rcases h with ⟨_, rfl, _, rfl⟩ | ⟨g, _, h⟩
  · simp
  · exact h.len
theorem SlAt.but (h : SlAt k w a cap n l) (hb : But S w w') (hS : ∀ j, inB a j → ¬ S j) : SlAt k w' a cap n l := by
  rcases h with h | ⟨g, rfl, h⟩
  · exact .inl h
  · exact .inr ⟨g, rfl, h.but hb (hS g ⟨_, rfl, rfl⟩)⟩
theorem SlAt.below (h : SlAt k w a cap n l) (hb : Below w.heap.size w w') : SlAt k w' a cap n l := h.but (S := fun _ => False) (But.of_below hb) (fun _ _ e => e)
theorem SlAt.lt (h : SlAt k w a cap n l) : ∀ j, inB a j → j < w.heap.size := by
  rintro j ⟨x, hx, rfl⟩
  rcases h with ⟨h, _⟩ | ⟨g, h, hf⟩
  · rw [h] at hx; cases hx
  · rw [h] at hx; cases hx; exact hf.lt
theorem SlAt.le (h : SlAt k w a cap n l) : n ≤ cap := by
  rcases h with ⟨_, rfl, rfl, rfl⟩ | ⟨g, _, h⟩
  · exact Nat.le_refl _
  · exact h.le
theorem SlAt.cell (h : SlAt k w a cap n l) {t : Nat} {u : Value} (hu : l[t]? = some u) : ∃ g, a = some ⟨g, 0, none⟩ ∧ g < w.heap.size ∧ w.cell? ⟨g, t, none⟩ = some u := by
  rcases h with ⟨_, _, _, rfl⟩ | ⟨g, h, hf⟩
  · simp at hu
  · exact ⟨g, h, hf.lt, hf.cell t u hu⟩
theorem SlAt.src {P : Program} {tx e : TypeId} (h : SlAt k w a cap n l) (hk : P.underlying tx = some (.slice e)) : Src P k tx (.slice a n cap) n l w := by
  rcases h with ⟨rfl, rfl, rfl, rfl⟩ | ⟨g, rfl, hf⟩
  · exact Src.ofNil w hk 0
  · exact hf.src hk
end

/-- Appending onto nil. -/
theorem nil_append {P : Program} (k : Nat) (T E ty : TypeId) (i : TypeInfo) (z : Value) (hT : P.underlying T = some (.slice E)) (hi : P.info? E = some i) (hz : i.zero = some z) (hsz : i.size = k) (hzc : z.cells.size = k)
    (w : World) (x : Value) (m : Nat) (ys : List Value) (hs : Src P k T x m ys w) (hm : 0 < m) (hmx : m ≤ maxLen) (hby : m * i.bytes ≤ 140737488355328) :
    ∃ g' cap' w', (Builtin.append_ #[T, T] ty #[.slice none 0 0, x]).run P w = .ok (.slice (some ⟨g', 0, none⟩) m cap') w' ∧
      Flat k w' g' cap' m ys ∧ Below w.heap.size w w' ∧ w.heap.size ≤ g' := by
  subst hsz
  have hyl := hs.newsLen
  have hold : (Builtin.firstCells i.size 0 (.slice none 0 0)).run P w.drew = .ok ([] : List Value).toArray w.drew := run_firstCells_none w.drew i.size 0 0 0
  have h63 : ((0 + m : Nat) : Int) ≤ 9223372036854775807 := by unfold maxLen at hmx; omega
  have hr := run_append_grow_src (P := P) w T T ty E i z hT hi hz none 0 0 [] hold x m ys hs (by omega) h63 (growslice_fits (by omega) (by rw [Nat.zero_add]; exact hby))
  rw [Nat.zero_add] at hr
  have hge := grownCap_ge w m 0 E
  have hcm := grownCap_le_maxLen w m 0 E hmx
  generalize grownCap w m 0 E = C at hr hge hcm
  rw [List.nil_append] at hr
  have hc : ∀ j, (w.drew.alloc (.cells (ys.toArray ++ Builtin.zeroCells z.cells (C - m)) E)).cell? ⟨w.heap.size, j, none⟩ = (ys.toArray ++ Builtin.zeroCells z.cells (C - m))[j]? := fun j => World.cell?_alloc_new w.drew _ _ j
  refine ⟨w.heap.size, C, _, hr, ?_, ⟨rfl, rfl, rfl, by simp, fun j hj => Below.heap_alloc w.drew _ j hj⟩, Nat.le_refl _⟩
  refine ⟨by simp, hyl, hge, hcm, ?_, hs.one, ?_⟩
  · intro t u hu
    have ht : t < ys.length := (List.getElem?_eq_some_iff.1 hu).1
    rw [hc, Array.getElem?_append_left (by simpa using ht), List.getElem?_toArray]
    exact hu
  · intro j hj
    refine ⟨?_, World.frozen?_alloc_new w.drew _ _ _⟩
    rw [hc]
    have : j < (ys.toArray ++ Builtin.zeroCells z.cells (C - m)).size := by
      rw [Array.size_append, size_zeroCells, List.size_toArray, hyl]
      have e2 : m * i.size + (C - m) * i.size = C * i.size := by rw [← Nat.add_mul]; congr 1; omega
      rw [hzc]
      first | omega | (rw [Nat.mul_comm] at e2; omega)
    rw [Array.getElem?_eq_getElem this]; rfl

/-- Appending onto any such slice. -/
theorem sl_append {P : Program} {k : Nat} {T E : TypeId} (hp : PlainK P k T E) (ty : TypeId) (w : World) (a : Option Addr) (cap n : Nat) (l : List Value) (h : SlAt k w a cap n l) (x : Value) (m : Nat) (ys : List Value)
    (hs : Src P k T x m ys w) (hm : 0 < m) (hb : n + m ≤ 1099511627776) :
    ∃ g' cap' w', (Builtin.append_ #[T, T] ty #[.slice a n cap, x]).run P w = .ok (.slice (some ⟨g', 0, none⟩) (n + m) cap') w' ∧
      Flat k w' g' cap' (n + m) (l ++ ys) ∧ But (inB a) w w' ∧ (inB a g' ∨ w.heap.size ≤ g') := by
  obtain ⟨i, z, hT, hi, hz, hsz, hzc, hby⟩ := hp
  have hm2 : n + m ≤ maxLen := by unfold maxLen; omega
  have hb2 : (n + m) * i.bytes ≤ 140737488355328 := Nat.le_trans (Nat.mul_le_mul hb hby) (by decide)
  rcases h with ⟨rfl, rfl, rfl, rfl⟩ | ⟨g, rfl, hf⟩
  · rw [Nat.zero_add] at hm2 hb2 ⊢
    obtain ⟨g', cap', w', h1, h2, h3, h4⟩ := nil_append k T E ty i z hT hi hz hsz hzc w x m ys hs hm hm2 hb2
    exact ⟨g', cap', w', h1, by rw [List.nil_append]; exact h2, But.of_below h3, .inr h4⟩
  · obtain ⟨g', cap', w', h1, h2, h3, h4⟩ := flat_append k T E ty i z hT hi hz hsz hzc w g cap n l hf x m ys hs hm2 hb2
    refine ⟨g', cap', w', h1, h2, h3.mono (fun j _ e => ⟨_, rfl, e.symm⟩), h4.imp (fun e => ⟨_, rfl, e.symm⟩) id⟩

theorem wpList_sl {P : Program} {k : Nat} {T E : TypeId} (hp : PlainK P k T E) (w : World) {ops : Array Oper} {rest : List Oper} {o : Oper} {a : Act} {Q : Exit → Act → World → Prop}
    (hg : o.guard = none) (s x : Operand) (hop : o.op = Op.call { callee := Callee.builtin Builtin.append, args := #[s, x], argTypes := #[T, T] })
    (b : Option Addr) (cap n : Nat) (l : List Value) (hs : a.eval s = .slice b n cap) (hF : SlAt k w b cap n l) (xv : Value) (hx : a.eval x = xv) (m : Nat) (ys : List Value)
    (hsrc : Src P k T xv m ys w) (hm : 0 < m) (hb : n + m ≤ 1099511627776)
    (hK : ∀ g' cap' w', Flat k w' g' cap' (n + m) (l ++ ys) → But (inB b) w w' → (inB b g' ∨ w.heap.size ≤ g') → wpList P ops Q rest (a.put o.dst (.slice (some ⟨g', 0, none⟩) (n + m) cap')) w') : wpList P ops Q (o :: rest) a w := by
  refine wpList_plain hg fun K hK' => ?_
  obtain ⟨g', cap', w', hrun, r1, r2, r3⟩ := sl_append hp o.type w b cap n l hF xv m ys hsrc hm hb
  unfold Oper.wp
  simp [execOp, hop, resolve, invoke, builtin, hs, hx, hrun, Result.andThen]
  exact hK' _ _ (hK g' cap' w' r1 r2 r3)

/-- One element, laid in a block of its own. -/
theorem src_new {P : Program} {T E : TypeId} (k : Nat) (w : World) (hk : P.underlying T = some (.slice E)) (b : Nat) (us : List Value) (hl : us.length = k) (hc : ∀ j u, us[j]? = some u → w.cell? ⟨b, j, none⟩ = some u) (h1 : ∀ u ∈ us, u.oneCell' = true) :
    Src P k T (.slice (some ⟨b, 0, none⟩) 1 1) 1 us w :=
  Src.ofSlice w hk _ 1 1 us (by rw [hl, Nat.one_mul]) (fun j u hu => by rw [Addr.add_lit, Nat.zero_add]; exact hc j u hu) h1

end Go.Proofs.Ytepigofpcjmddaa

namespace Go.Proofs.Ytepigofpcjmddaa
open Go.RowKit Go.Sort

/-! Items: their bits and values. -/
abbrev It := Nat × Int
def encI (x : It) : List Value := [.float .f64 x.1, .int .i64 x.2]
def flatI (L : List It) : List Value := L.flatMap encI
theorem flatI_length (L : List It) : (flatI L).length = L.length * 2 := by
  induction L with
  | nil => rfl
  | cons x L ih => simp only [flatI, List.flatMap_cons, List.length_append, List.length_cons] at *; rw [ih]; simp [encI]; omega
theorem flatI_append (L M : List It) : flatI (L ++ M) = flatI L ++ flatI M := by simp [flatI]
theorem flatI_get : ∀ (L : List It) (i : Nat) (h : i < L.length), (flatI L)[i * 2]? = some (.float .f64 L[i].1) ∧ (flatI L)[i * 2 + 1]? = some (.int .i64 L[i].2)
  | x :: L, 0, h => ⟨rfl, rfl⟩
  | x :: L, i + 1, h => by
    have := flatI_get L i (by simpa using h)
    simp only [List.getElem_cons_succ]
    have e : flatI (x :: L) = .float .f64 x.1 :: .int .i64 x.2 :: flatI L := rfl
    rw [e, show (i + 1) * 2 = i * 2 + 1 + 1 by omega]
    exact this
theorem flatI_one (L : List It) : ∀ u ∈ flatI L, u.oneCell' = true := by
  intro u hu
  simp only [flatI, List.mem_flatMap, encI] at hu
  obtain ⟨x, _, hx⟩ := hu
  simp at hx
  rcases hx with rfl | rfl <;> rfl
theorem plainI : PlainK Try.prog 2 25 29 := by
  have h : (Try.prog.info? 29).map (fun i => (i.zero, i.size, i.bytes)) = some (some (.agg #[.float .f64 0, .int .i64 0]), 2, 16) := by kernel_rfl
  obtain ⟨i, hi, he⟩ := Option.map_eq_some_iff.1 h
  simp only [Prod.mk.injEq] at he
  exact ⟨i, _, Try.underlying25, hi, he.1, he.2.1, rfl, by rw [he.2.2]; decide⟩

/-- slices.Clone of items. -/
theorem sclone_any (a : Option Addr) (cap n : Nat) (l : List Value) (w : World) (h : SlAt 2 w a cap n l) (hn : n ≤ 1000000) :
    Calls Try.prog 69 #[.slice a n cap] w fun e w' => ∃ a' cap', e = .returned (.slice a' n cap') ∧ SlAt 2 w' a' cap' n l ∧ (∀ j, inB a' j → w.heap.size ≤ j) ∧ Below w.heap.size w w' := by
  have hq := fun w a n c => Lib.run_eql_slice_nil (P := Try.prog) w 25 29 a n c 0 0 Try.underlying25
  rcases h with ⟨rfl, rfl, rfl, rfl⟩ | ⟨g, rfl, hf⟩
  · go_enter Try.func69, Try.ntmps69
    go_wp2
    go_ret
    exact ⟨none, 0, rfl, SlAt.nil _ _, (fun j e => by obtain ⟨x, hx, _⟩ := e; cases hx), Below.refl _ _⟩
  · have hF := hidq hf
    have hlt := hf.lt
    go_enter Try.func69, Try.ntmps69
    clear hf
    go_wp2_with (at_builtin; refine wpList_flat plainI _ rfl (.tmp 5) (.tmp 6) rfl w.heap.size 0 0 [] rfl (Flat.new w [] 29 2 0 rfl (Nat.zero_le _) (fun _ h => (by cases h))) _ rfl n l ((hF.out.but (S := fun _ => False) ((But.refl _ _).alloc _) id).src Try.underlying25) (by omega) ?_; intro g2 cap2 w2 hF2 hb2 hg2)
    go_ret
    first | rw [Nat.zero_add, List.nil_append] at hF2 | rw [List.nil_append] at hF2 | skip
    refine ⟨some ⟨g2, 0, none⟩, cap2, rfl, .inr ⟨g2, rfl, hF2⟩, ?_, ?_⟩
    · rintro j ⟨x, hx, rfl⟩
      cases hx
      simp at hg2
      show w.heap.size ≤ g2
      omega
    · exact (((But.refl (fun k => k = w.heap.size) w).alloc _).trans hb2).below (Nat.le_refl _) (fun k e => by omega)
end Go.Proofs.Ytepigofpcjmddaa

namespace Go.Proofs.Ytepigofpcjmddaa
open Go.RowKit Go.Sort

/-- A value in a box. -/
abbrev boxV (n : Int) (s : Value) : Obj := .cells #[.int .i64 n, s] 62

theorem vclone_any (x : Int) (a : Option Addr) (cap n : Nat) (l : List Value) (w : World) (h : SlAt 2 w a cap n l) (hn : n ≤ 1000000) :
    Calls Try.prog 93 #[.agg #[.int .i64 x, .slice a n cap]] w fun e w' => ∃ a' cap', e = .returned (.agg #[.int .i64 x, .slice a' n cap']) ∧ SlAt 2 w' a' cap' n l ∧ (∀ j, inB a' j → w.heap.size ≤ j) ∧ Below w.heap.size w w' := by
  have hC := hidq (sclone_any a cap n l ((w.alloc (boxV x (.slice a n cap))).alloc (boxV 0 (.slice none 0 0))) (h.but (S := fun _ => False) (((But.refl _ _).alloc _).alloc _) (fun _ _ e => e)) hn)
  clear h
  go_enter Try.func93, Try.ntmps93
  go_wp2_with fail
  refine hC.out.mono ?_
  rintro e w1 ⟨a', cap', rfl, hS, hf, hb⟩
  have HS := hidq hS
  have HF := hidq hf
  clear hS hf
  have hz : w.heap.size + 1 < w1.heap.size := by have := hb.size; simp at this; omega
  have c0 : w1.cell? ⟨w.heap.size, 0, none⟩ = some (.int .i64 x) := by rw [hb.cell (p := ⟨w.heap.size, 0, none⟩) (by simp; omega)]; simp
  have c1 : w1.cell? ⟨w.heap.size, 1, none⟩ = some (.slice a n cap) := by rw [hb.cell (p := ⟨w.heap.size, 1, none⟩) (by simp; omega)]; simp
  have d0 : w1.cell? ⟨w.heap.size + 1, 0, none⟩ = some (.int .i64 0) := by rw [hb.cell (p := ⟨w.heap.size + 1, 0, none⟩) (by simp)]; simp
  have d1 : w1.cell? ⟨w.heap.size + 1, 1, none⟩ = some (.slice none 0 0) := by rw [hb.cell (p := ⟨w.heap.size + 1, 1, none⟩) (by simp)]; simp
  have z1 : w1.frozen? ⟨w.heap.size, 1, none⟩ = false := by rw [hb.frozen (p := ⟨w.heap.size, 1, none⟩) (by simp; omega)]; simp
  have y0 : w1.frozen? ⟨w.heap.size + 1, 0, none⟩ = false := by rw [hb.frozen (p := ⟨w.heap.size + 1, 0, none⟩) (by simp)]; simp
  have y1 : w1.frozen? ⟨w.heap.size + 1, 1, none⟩ = false := by rw [hb.frozen (p := ⟨w.heap.size + 1, 1, none⟩) (by simp)]; simp
  have hb0 : Below w.heap.size w w1 := (((Below.refl _ _).alloc (Nat.le_refl _) _).alloc (by simp) _).trans (hb.mono (by simp; omega))
  have hfin : ∀ w2, But (fun k => k = w.heap.size ∨ k = w.heap.size + 1) w1 w2 → SlAt 2 w2 a' cap' n l ∧ (∀ j, inB a' j → w.heap.size ≤ j) ∧ Below w.heap.size w w2 := fun w2 h2 =>
    ⟨HS.out.but h2 (fun j hj e => by have := HF.out j hj; simp at this; omega), fun j hj => by have := HF.out j hj; simp at this; omega, hb0.trans (h2.below hb0.size (fun k e => by omega))⟩
  have HFIN := hidq hfin
  clear hb hb0 hfin
  go_wp2
  refine bodyPost_ret (v := .agg #[.int .i64 x, .slice a' n cap']) (by simp [results, Try.results93, go_sem, d0, d1]) rfl ⟨a', cap', rfl, HFIN.out _ ?_⟩
  exact (((But.refl _ _).set1 _ _ (.inl rfl) _).set1 _ _ (.inr rfl) _).set1 _ _ (.inr rfl) _

abbrev boxC (v x : Int) (s : Value) : Obj := .cells #[.int .u64 v, .int .i64 x, s] 64
set_option maxHeartbeats 1000000 in
theorem copied_any (v x : Int) (a : Option Addr) (cap n : Nat) (l : List Value) (w : World) (h : SlAt 2 w a cap n l) (hn : n ≤ 1000000) :
    Calls Try.prog 59 #[.agg #[.int .u64 v, .int .i64 x, .slice a n cap]] w fun e w' => ∃ a' cap', e = .returned (.agg #[.int .u64 v, .int .i64 x, .slice a' n cap']) ∧ SlAt 2 w' a' cap' n l ∧ (∀ j, inB a' j → w.heap.size ≤ j) ∧ Below w.heap.size w w' := by
  have hC := hidq (fun W (hW : But (fun _ => False) w W) => vclone_any x a cap n l W (h.but hW (fun _ _ e => e)) hn)
  have hfin : ∀ a' cap' w1 w2, SlAt 2 w1 a' cap' n l → (∀ j, inB a' j → w.heap.size + 2 ≤ j) → Below (w.heap.size + 2) ((w.alloc (boxC v x (.slice a n cap))).alloc (boxC 0 0 (.slice none 0 0))) w1 → But (fun k => k = w.heap.size ∨ k = w.heap.size + 1) w1 w2 → SlAt 2 w2 a' cap' n l ∧ (∀ j, inB a' j → w.heap.size ≤ j) ∧ Below w.heap.size w w2 := fun a' cap' w1 w2 hS hF hb h2 => by
    have hb0 : Below w.heap.size w w1 := (((Below.refl _ _).alloc (Nat.le_refl _) _).alloc (by simp) _).trans (hb.mono (by omega))
    exact ⟨hS.but h2 (fun j hj e => by have := hF j hj; omega), fun j hj => by have := hF j hj; omega, hb0.trans (h2.below hb0.size (fun k e => by omega))⟩
  have hcells : ∀ w1, Below (w.heap.size + 2) ((w.alloc (boxC v x (.slice a n cap))).alloc (boxC 0 0 (.slice none 0 0))) w1 →
      (w.heap.size + 1 < w1.heap.size ∧ w1.cell? ⟨w.heap.size, 0, none⟩ = some (.int .u64 v)) ∧ (w1.cell? ⟨w.heap.size + 1, 0, none⟩ = some (.int .u64 0) ∧ w1.cell? ⟨w.heap.size + 1, 1, none⟩ = some (.int .i64 0) ∧ w1.cell? ⟨w.heap.size + 1, 2, none⟩ = some (.slice none 0 0)) ∧
      w1.frozen? ⟨w.heap.size + 1, 0, none⟩ = false ∧ w1.frozen? ⟨w.heap.size + 1, 1, none⟩ = false ∧ w1.frozen? ⟨w.heap.size + 1, 2, none⟩ = false := fun w1 hb => by
    refine ⟨⟨by have := hb.size; simp at this; omega, ?_⟩, ⟨?_, ?_, ?_⟩, ?_, ?_, ?_⟩
    · rw [hb.cell (p := ⟨w.heap.size, 0, none⟩) (by simp)]; simp
    · rw [hb.cell (p := ⟨w.heap.size + 1, 0, none⟩) (by simp)]; simp
    · rw [hb.cell (p := ⟨w.heap.size + 1, 1, none⟩) (by simp)]; simp
    · rw [hb.cell (p := ⟨w.heap.size + 1, 2, none⟩) (by simp)]; simp
    · rw [hb.frozen (p := ⟨w.heap.size + 1, 0, none⟩) (by simp)]; simp
    · rw [hb.frozen (p := ⟨w.heap.size + 1, 1, none⟩) (by simp)]; simp
    · rw [hb.frozen (p := ⟨w.heap.size + 1, 2, none⟩) (by simp)]; simp
  have HFIN := hidq hfin
  have HCEL := hidq hcells
  have hsz : ((w.alloc (boxC v x (.slice a n cap))).alloc (boxC 0 0 (.slice none 0 0))).drew.heap.size = w.heap.size + 2 := by simp
  have HSZ := hidq hsz
  clear h hfin hcells hsz
  go_enter Try.func59, Try.ntmps59
  go_wp2
  go_region_with (go_at_call 93; refine (hC.out _ (((But.refl _ w).alloc _).alloc _).drew).mono ?_; rintro e w1 ⟨a', cap', rfl, hS, hf, hb⟩; have HS := hidq hS; rw [HSZ.out] at hf hb; have HF := hidq hf; have HB := hidq hb; obtain ⟨⟨hz, c0⟩, ⟨d0, d1, d2⟩, z0, z1, z2⟩ := HCEL.out w1 (by exact ⟨hb.os, hb.tape, hb.output, hb.size, hb.block⟩); clear hS hf hb)
  all_goals go_wp2
  all_goals refine bodyPost_ret (v := .agg #[.int .u64 v, .int .i64 x, .slice a' n cap']) (by simp [results, Try.results59, go_sem, d0, d1, d2]) rfl ⟨a', cap', rfl, HFIN.out _ _ w1 _ HS.out HF.out ?_ ?_⟩
  all_goals first
    | exact ⟨HB.out.os, HB.out.tape, HB.out.output, HB.out.size, HB.out.block⟩
    | exact (((But.refl _ _).set1 _ _ (.inr rfl) _).set1 _ _ (.inr rfl) _).set1 _ _ (.inr rfl) _
end Go.Proofs.Ytepigofpcjmddaa

namespace Go.Proofs.Ytepigofpcjmddaa
open Go.RowKit Go.Sort

/-- A cell: its version, its number, its items. -/
structure CV where
  ver : Int
  n : Int
  L : List It
def CV.zero : CV := ⟨0, 0, []⟩
/-- A memory: how many cells, each of them, how many writes. -/
structure Mem where
  len : Nat
  cell : Nat → CV
  clock : Nat
def Mem.empty : Mem := ⟨0, fun _ => CV.zero, 0⟩
def Mem.reach (M : Mem) (n : Nat) : Mem := { M with len := max M.len n }
def Mem.put (M : Mem) (i : Nat) (n : Int) (L : List It) : Mem := ⟨max M.len (i + 1), fun j => if j = i then ⟨((M.clock + 1 : Nat) : Int), n, L⟩ else M.cell j, M.clock + 1⟩

def cellC (M : Mem) (A : Nat → Option Addr) (C : Nat → Nat) (t : Nat) : Value :=
  if t % 3 = 0 then .int .u64 (M.cell (t / 3)).ver else if t % 3 = 1 then .int .i64 (M.cell (t / 3)).n else .slice (A (t / 3)) (M.cell (t / 3)).L.length (C (t / 3))
def flatC (M : Mem) (A : Nat → Option Addr) (C : Nat → Nat) : List Value := (List.range (M.len * 3)).map (cellC M A C)
theorem flatC_length (M : Mem) (A : Nat → Option Addr) (C : Nat → Nat) : (flatC M A C).length = M.len * 3 := by simp [flatC]
theorem flatC_get (M : Mem) (A : Nat → Option Addr) (C : Nat → Nat) (t : Nat) (h : t < M.len * 3) : (flatC M A C)[t]? = some (cellC M A C t) := by simp [flatC, h]
theorem flatC_0 (M : Mem) (A : Nat → Option Addr) (C : Nat → Nat) (i : Nat) (h : i < M.len) : (flatC M A C)[i * 3]? = some (.int .u64 (M.cell i).ver) := by
  rw [flatC_get M A C _ (by omega)]; unfold cellC; rw [if_pos (by omega), show i * 3 / 3 = i by omega]
theorem flatC_1 (M : Mem) (A : Nat → Option Addr) (C : Nat → Nat) (i : Nat) (h : i < M.len) : (flatC M A C)[i * 3 + 1]? = some (.int .i64 (M.cell i).n) := by
  rw [flatC_get M A C _ (by omega)]; unfold cellC; rw [if_neg (by omega), if_pos (by omega), show (i * 3 + 1) / 3 = i by omega]
theorem flatC_2 (M : Mem) (A : Nat → Option Addr) (C : Nat → Nat) (i : Nat) (h : i < M.len) : (flatC M A C)[i * 3 + 2]? = some (.slice (A i) (M.cell i).L.length (C i)) := by
  rw [flatC_get M A C _ (by omega)]; unfold cellC; rw [if_neg (by omega), if_neg (by omega), show (i * 3 + 2) / 3 = i by omega]

/-- The row of a memory's cells, and their items. -/
structure RowC (w : World) (b : Nat) (O : Nat → Prop) (M : Mem) (a : Option Addr) (cap : Nat) (A : Nat → Option Addr) (C : Nat → Nat) : Prop where
  hd : w.cell? ⟨b, 0, none⟩ = some (.slice a M.len cap)
  sl : SlAt 3 w a cap M.len (flatC M A C)
  own : ∀ j, inB a j → O j ∧ j ≠ b
  its : ∀ i, i < M.len → SlAt 2 w (A i) (C i) (M.cell i).L.length (flatI (M.cell i).L)
  ito : ∀ i, i < M.len → ∀ j, inB (A i) j → O j ∧ j ≠ b ∧ ¬ inB a j
structure MemAt (w : World) (b : Nat) (O : Nat → Prop) (M : Mem) : Prop where
  ob : O b
  lt : ∀ k, O k → k < w.heap.size
  row : ∃ a cap A C, RowC w b O M a cap A C
  clk : w.cell? ⟨b, 1, none⟩ = some (.int .u64 (M.clock : Int))
  fz0 : w.frozen? ⟨b, 0, none⟩ = false
  fz1 : w.frozen? ⟨b, 1, none⟩ = false
  max : M.len ≤ 1000
  rest : ∀ i, M.len ≤ i → M.cell i = CV.zero
  few : ∀ i, (M.cell i).L.length ≤ 1000000

section
variable {w w' : World} {b : Nat} {O S : Nat → Prop} {M : Mem}
theorem RowC.but {a : Option Addr} {cap : Nat} {A : Nat → Option Addr} {C : Nat → Nat} (h : RowC w b O M a cap A C) (hl : b < w.heap.size) (hb : But S w w') (hS : ∀ k, O k → ¬ S k) (hO : O b) : RowC w' b O M a cap A C :=
  ⟨by rw [hb.cell (p := ⟨b, 0, none⟩) hl (hS b hO)]; exact h.hd, h.sl.but hb (fun j hj => hS j (h.own j hj).1), h.own, fun i hi => (h.its i hi).but hb (fun j hj => hS j (h.ito i hi j hj).1), h.ito⟩
theorem MemAt.but (h : MemAt w b O M) (hb : But S w w') (hS : ∀ k, O k → ¬ S k) : MemAt w' b O M := by
  have hl := h.lt b h.ob
  obtain ⟨a, cap, A, C, hr⟩ := h.row
  exact ⟨h.ob, fun k hk => Nat.lt_of_lt_of_le (h.lt k hk) hb.size, ⟨a, cap, A, C, hr.but hl hb hS h.ob⟩, by rw [hb.cell (p := ⟨b, 1, none⟩) hl (hS b h.ob)]; exact h.clk,
    by rw [hb.frozen (p := ⟨b, 0, none⟩) hl (hS b h.ob)]; exact h.fz0, by rw [hb.frozen (p := ⟨b, 1, none⟩) hl (hS b h.ob)]; exact h.fz1, h.max, h.rest, h.few⟩
theorem MemAt.below (h : MemAt w b O M) (hb : Below w.heap.size w w') : MemAt w' b O M := h.but (S := fun _ => False) (But.of_below hb) (fun _ _ e => e)
end

/-- What is owned, with what has come since. -/
def own' (O : Nat → Prop) (w w' : World) (k : Nat) : Prop := O k ∨ (w.heap.size ≤ k ∧ k < w'.heap.size)

theorem new5_any (w : World) : Calls Try.prog 25 #[] w fun e w' => e = .returned (.pointer (some ⟨w.heap.size, 0, none⟩)) ∧ MemAt w' w.heap.size (fun k => k = w.heap.size) Mem.empty ∧ Below w.heap.size w w' := by
  go_enter Try.func25, Try.ntmps25
  go_wp2
  go_ret
  refine ⟨rfl, ⟨rfl, fun k hk => by rw [hk]; simp, ⟨none, 0, fun _ => none, fun _ => 0, ?_⟩, ?_, ?_, ?_, Nat.zero_le _, fun _ _ => rfl, fun _ => Nat.zero_le _⟩, (Below.refl _ _).alloc (Nat.le_refl _) _⟩
  · refine ⟨by rw [World.cell?_alloc_new]; rfl, SlAt.nil _ _, (fun j hj => by obtain ⟨x, hx, _⟩ := hj; cases hx), fun i hi => absurd hi (Nat.not_lt_zero _), fun i hi => absurd hi (Nat.not_lt_zero _)⟩
  · rw [World.cell?_alloc_new]; rfl
  · exact World.frozen?_alloc_new w _ _ _
  · exact World.frozen?_alloc_new w _ _ _
/-- The cell of a number, or a zero one. -/
def Mem.look (M : Mem) (i : Int) : CV := if i < 0 then CV.zero else M.cell i.toNat
theorem look_neg {M : Mem} {i : Int} (h : i < 0) : M.look i = CV.zero := if_pos h
theorem look_nat {M : Mem} (i : Nat) : M.look (i : Int) = M.cell i := by unfold Mem.look; rw [if_neg (by omega)]; rfl

theorem version_any (b : Nat) (O : Nat → Prop) (M : Mem) (i : Int) (w : World) (h : MemAt w b O M) :
    Calls Try.prog 60 #[.pointer (some ⟨b, 0, none⟩), .int .i64 i] w fun e w' => e = .returned (.int .u64 (M.look i).ver) ∧ w' = w := by
  obtain ⟨a, cap, A, C, hr⟩ := h.row
  have hd := hr.hd
  have hmax := h.max
  by_cases h0 : i < 0
  · rw [look_neg h0]
    clear hr h
    go_enter Try.func60, Try.ntmps60
    go_wp2
    go_ret
    exact ⟨rfl, rfl⟩
  · have h0' : decide (i < 0) = false := decide_eq_false h0
    obtain ⟨k, rfl⟩ : ∃ k : Nat, i = (k : Int) := ⟨i.toNat, by omega⟩
    rw [look_nat]
    by_cases h1 : M.len ≤ k
    · rw [h.rest k h1]
      have h1i : (M.len : Int) ≤ (k : Int) := by omega
      clear hr h
      generalize M.len = n at *
      go_enter Try.func60, Try.ntmps60
      go_wp2
      go_ret
      exact ⟨rfl, rfl⟩
    · have h1' : decide ((M.len : Int) ≤ (k : Int)) = false := decide_eq_false (by omega)
      have h1i : (k : Int) < (M.len : Int) := by omega
      obtain ⟨g, rfl, hg, hc⟩ := hr.sl.cell (flatC_0 M A C k (by omega))
      have hle := hr.sl.le
      generalize (M.cell k).ver = v at *
      clear hr h
      generalize M.len = n at *
      go_enter Try.func60, Try.ntmps60
      go_wp2
      go_ret
      exact ⟨rfl, rfl⟩

theorem read5_any (b : Nat) (O : Nat → Prop) (M : Mem) (i : Int) (w : World) (h : MemAt w b O M) :
    Calls Try.prog 23 #[.pointer (some ⟨b, 0, none⟩), .int .i64 i] w fun e w' => ∃ a' cap', e = .returned (.agg #[.int .u64 (M.look i).ver, .int .i64 (M.look i).n, .slice a' (M.look i).L.length cap']) ∧
      SlAt 2 w' a' cap' (M.look i).L.length (flatI (M.look i).L) ∧ (∀ j, inB a' j → w.heap.size ≤ j) ∧ Below w.heap.size w w' := by
  obtain ⟨a, cap, A, C, hr⟩ := h.row
  have hd := hr.hd
  have hmax := h.max
  have hbl := h.lt b h.ob
  have hz : ∀ W, M.look i = CV.zero → Below w.heap.size w W → ∃ a' cap', Value.agg #[.int .u64 0, .int .i64 0, .slice none 0 0] = Value.agg #[.int .u64 (M.look i).ver, .int .i64 (M.look i).n, .slice a' (M.look i).L.length cap'] ∧
      SlAt 2 W a' cap' (M.look i).L.length (flatI (M.look i).L) ∧ (∀ j, inB a' j → w.heap.size ≤ j) ∧ Below w.heap.size w W := fun W e hB => by
    rw [e]
    exact ⟨none, 0, rfl, SlAt.nil _ _, (fun j hj => by obtain ⟨x, hx, _⟩ := hj; cases hx), hB⟩
  by_cases h0 : i < 0
  · have HZ := hidq (fun W => hz W (look_neg h0))
    clear hr h hz
    go_enter Try.func23, Try.ntmps23
    go_wp2
    obtain ⟨a', cap', hv, hq⟩ := HZ.out _ ((Below.refl _ _).alloc (Nat.le_refl _) _)
    exact bodyPost_ret (v := .agg #[.int .u64 0, .int .i64 0, .slice none 0 0]) (by simp [results, Try.results23, go_sem]) rfl ⟨a', cap', congrArg _ hv, hq⟩
  · have h0' : decide (i < 0) = false := decide_eq_false h0
    obtain ⟨k, rfl⟩ : ∃ k : Nat, i = (k : Int) := ⟨i.toNat, by omega⟩
    by_cases h1 : M.len ≤ k
    · have HZ := hidq (fun W => hz W (by rw [look_nat]; exact h.rest k h1))
      have h1i : (M.len : Int) ≤ (k : Int) := by omega
      clear hr h hz
      generalize M.len = n at *
      go_enter Try.func23, Try.ntmps23
      go_wp2
      obtain ⟨a', cap', hv, hq⟩ := HZ.out _ ((Below.refl _ _).alloc (Nat.le_refl _) _)
      exact bodyPost_ret (v := .agg #[.int .u64 0, .int .i64 0, .slice none 0 0]) (by simp [results, Try.results23, go_sem]) rfl ⟨a', cap', congrArg _ hv, hq⟩
    · rw [look_nat]
      have h1' : decide ((M.len : Int) ≤ (k : Int)) = false := decide_eq_false (by omega)
      have h1i : (k : Int) < (M.len : Int) := by omega
      obtain ⟨g, rfl, hg, hc0⟩ := hr.sl.cell (flatC_0 M A C k (by omega))
      obtain ⟨g1, e1, _, hc1⟩ := hr.sl.cell (flatC_1 M A C k (by omega))
      obtain ⟨g2, e2, _, hc2⟩ := hr.sl.cell (flatC_2 M A C k (by omega))
      cases e1; cases e2
      have hcp := hidq (copied_any (M.cell k).ver (M.cell k).n (A k) (C k) _ _ (w.alloc (boxC 0 0 (.slice none 0 0))) ((hr.its k (by omega)).but (S := fun _ => False) ((But.refl _ _).alloc _) (fun _ _ e => e)) (h.few k))
      have hle := hr.sl.le
      generalize (M.cell k).ver = v at *
      generalize (M.cell k).n = x at *
      generalize (M.cell k).L = L at *
      generalize A k = ak at *
      generalize C k = ck at *
      clear hr h hz
      generalize M.len = n at *
      go_enter Try.func23, Try.ntmps23
      go_wp2_with fail
      refine hcp.out.mono ?_
      rintro e w1 ⟨a', cap', rfl, hS, hF, hb⟩
      have hz2 : w.heap.size < w1.heap.size := by have := hb.size; simp at this; omega
      have d0 : w1.cell? ⟨w.heap.size, 0, none⟩ = some (.int .u64 0) := by rw [hb.cell (p := ⟨w.heap.size, 0, none⟩) (by simp)]; simp
      have d1 : w1.cell? ⟨w.heap.size, 1, none⟩ = some (.int .i64 0) := by rw [hb.cell (p := ⟨w.heap.size, 1, none⟩) (by simp)]; simp
      have d2 : w1.cell? ⟨w.heap.size, 2, none⟩ = some (.slice none 0 0) := by rw [hb.cell (p := ⟨w.heap.size, 2, none⟩) (by simp)]; simp
      have z0 : w1.frozen? ⟨w.heap.size, 0, none⟩ = false := by rw [hb.frozen (p := ⟨w.heap.size, 0, none⟩) (by simp)]; simp
      have z1 : w1.frozen? ⟨w.heap.size, 1, none⟩ = false := by rw [hb.frozen (p := ⟨w.heap.size, 1, none⟩) (by simp)]; simp
      have z2 : w1.frozen? ⟨w.heap.size, 2, none⟩ = false := by rw [hb.frozen (p := ⟨w.heap.size, 2, none⟩) (by simp)]; simp
      have hB0 : Below w.heap.size w w1 := ((Below.refl _ _).alloc (Nat.le_refl _) _).trans (hb.mono (by simp))
      have hfin := hidq (fun w2 (h2 : But (fun j => j = w.heap.size) w1 w2) => (show SlAt 2 w2 a' cap' L.length (flatI L) ∧ (∀ j, inB a' j → w.heap.size ≤ j) ∧ Below w.heap.size w w2 from
        ⟨hS.but h2 (fun j hj e => by have := hF j hj; simp at this; omega), fun j hj => by have := hF j hj; simp at this; omega, hB0.trans (h2.below hB0.size (fun j e => by omega))⟩))
      clear hb hS hF hB0 hcp
      go_wp2
      refine bodyPost_ret (v := .agg #[.int .u64 v, .int .i64 x, .slice a' L.length cap']) (by simp [results, Try.results23, go_sem, d0, d1, d2]) rfl ⟨a', cap', rfl, hfin.out _ ?_⟩
      exact (((But.refl (fun j => j = w.heap.size) w1).set1 _ _ rfl _).set1 _ _ rfl _).set1 _ _ rfl _

/-- How many cells a memory's row has. -/
def lenIn (w : World) (b : Nat) : Nat := match w.cell? ⟨b, 0, none⟩ with | some (.slice _ n _) => n | _ => 0
theorem lenIn_at {w : World} {b : Nat} {O : Nat → Prop} {M : Mem} (h : MemAt w b O M) : lenIn w b = M.len := by
  obtain ⟨a, cap, A, C, hr⟩ := h.row
  unfold lenIn; rw [hr.hd]
theorem plainC : PlainK Try.prog 3 131 64 := by
  have h : (Try.prog.info? 64).map (fun i => (i.zero, i.size, i.bytes)) = some (some (.agg #[.int .u64 0, .int .i64 0, .slice none 0 0]), 3, 40) := by kernel_rfl
  obtain ⟨i, hi, he⟩ := Option.map_eq_some_iff.1 h
  simp only [Prod.mk.injEq] at he
  exact ⟨i, _, Try.underlying131, hi, he.1, he.2.1, rfl, by rw [he.2.2]; decide⟩

/-- One cell more at the end. -/
theorem flatC_snoc (M : Mem) (A : Nat → Option Addr) (C : Nat → Nat) (hz : M.cell M.len = CV.zero) :
    flatC (M.reach (M.len + 1)) (fun i => if i = M.len then none else A i) (fun i => if i = M.len then 0 else C i) = flatC M A C ++ [.int .u64 0, .int .i64 0, .slice none 0 0] := by
  have hm : (M.reach (M.len + 1)).len = M.len + 1 := by show max M.len (M.len + 1) = _; omega
  have hcell : ∀ j, (M.reach (M.len + 1)).cell j = M.cell j := fun _ => rfl
  apply List.ext_getElem?
  intro t
  by_cases ht : t < M.len * 3
  · rw [flatC_get _ _ _ t (by rw [hm]; omega), List.getElem?_append_left (by rw [flatC_length]; exact ht), flatC_get _ _ _ t ht]
    unfold cellC
    dsimp only
    rw [hcell, if_neg (show ¬ t / 3 = M.len by omega), if_neg (show ¬ t / 3 = M.len by omega)]
  · rw [List.getElem?_append_right (by rw [flatC_length]; omega), flatC_length]
    by_cases ht2 : t < (M.len + 1) * 3
    · rw [flatC_get _ _ _ t (by rw [hm]; exact ht2)]
      have : t = M.len * 3 ∨ t = M.len * 3 + 1 ∨ t = M.len * 3 + 2 := by omega
      unfold cellC
      rw [hcell]
      rcases this with rfl | rfl | rfl
      · rw [if_pos (by omega), show M.len * 3 / 3 = M.len by omega, hz, show M.len * 3 - M.len * 3 = 0 by omega]; rfl
      · rw [if_neg (by omega), if_pos (by omega), show (M.len * 3 + 1) / 3 = M.len by omega, hz, show M.len * 3 + 1 - M.len * 3 = 1 by omega]; rfl
      · rw [if_neg (by omega), if_neg (by omega), show (M.len * 3 + 2) / 3 = M.len by omega, hz, show M.len * 3 + 2 - M.len * 3 = 2 by omega]; dsimp only; rw [if_pos rfl, if_pos rfl]; rfl
    · rw [List.getElem?_eq_none (by rw [flatC_length, hm]; omega), List.getElem?_eq_none (by simp; omega)]

/-! Parts of a cell, of a value. -/
theorem fldC_0 (x y z : Value) (w : World) : (Instr.field 64 (.agg #[x, y, z]) 0).run Try.prog w = .ok x w := by kernel_rfl
theorem fldC_1 (x y z : Value) (w : World) : (Instr.field 64 (.agg #[x, y, z]) 1).run Try.prog w = .ok (.agg #[y, z]) w := by kernel_rfl
theorem fldV_0 (x y : Value) (w : World) : (Instr.field 62 (.agg #[x, y]) 0).run Try.prog w = .ok x w := by kernel_rfl
theorem fldV_1 (x y : Value) (w : World) : (Instr.field 62 (.agg #[x, y]) 1).run Try.prog w = .ok y w := by kernel_rfl
end Go.Proofs.Ytepigofpcjmddaa

namespace Go.Proofs.Ytepigofpcjmddaa
open Go.RowKit Go.Sort

theorem own'_mono {O : Nat → Prop} {w w1 w2 : World} (h1 : w.heap.size ≤ w1.heap.size) (h2 : w1.heap.size ≤ w2.heap.size) {k : Nat} (h : own' (own' O w w1) w1 w2 k) : own' O w w2 k := by
  rcases h with (h | h) | h
  · exact .inl h
  · exact .inr ⟨h.1, by omega⟩
  · exact .inr ⟨by omega, h.2⟩
theorem MemAt.own {w : World} {b : Nat} {O O' : Nat → Prop} {M : Mem} (h : MemAt w b O M) (hi : ∀ k, O k → O' k) (hl : ∀ k, O' k → k < w.heap.size) : MemAt w b O' M := by
  obtain ⟨a, cap, A, C, hr⟩ := h.row
  exact ⟨hi _ h.ob, hl, ⟨a, cap, A, C, hr.hd, hr.sl, fun j hj => ⟨hi _ (hr.own j hj).1, (hr.own j hj).2⟩, hr.its, fun i hi' j hj => ⟨hi _ (hr.ito i hi' j hj).1, (hr.ito i hi' j hj).2⟩⟩, h.clk, h.fz0, h.fz1, h.max, h.rest, h.few⟩

theorem reach_max (M : Mem) (n : Nat) (h : n ≤ M.len) : M.reach n = M := by
  unfold Mem.reach; rw [Nat.max_eq_left h]
theorem reach_twice (M : Mem) (m n : Nat) (h : m ≤ n) : (M.reach m).reach n = M.reach n := by
  unfold Mem.reach; simp only [Mem.mk.injEq, and_true]; omega

/-- A row that was moved or grown in place, with one cell more. -/
theorem mem_grown {w w1 : World} {b g cap' : Nat} {O : Nat → Prop} {M : Mem} {a : Option Addr} {cap : Nat} {A : Nat → Option Addr} {C : Nat → Nat}
    (h : MemAt w b O M) (hr : RowC w b O M a cap A C) (hl : M.len < 1000)
    (hF : Flat 3 w1 g cap' (M.len + 1) (flatC M A C ++ [.int .u64 0, .int .i64 0, .slice none 0 0])) (hb : But (inB a) w w1) (hg : inB a g ∨ w.heap.size ≤ g) :
    MemAt (w1.setCell ⟨b, 0, none⟩ (.slice (some ⟨g, 0, none⟩) (M.len + 1) cap')) b (own' O w w1) (M.reach (M.len + 1)) ∧ But O w (w1.setCell ⟨b, 0, none⟩ (.slice (some ⟨g, 0, none⟩) (M.len + 1) cap')) := by
  have hbl := h.lt b h.ob
  have hnb : ¬ inB a b := fun e => (hr.own b e).2 rfl
  have hm : (M.reach (M.len + 1)).len = M.len + 1 := by show max M.len (M.len + 1) = _; omega
  have c0 : w1.cell? ⟨b, 0, none⟩ = some (.slice a M.len cap) := by rw [hb.cell (p := ⟨b, 0, none⟩) hbl hnb]; exact hr.hd
  have hgo : own' O w w1 g ∧ g ≠ b := by
    rcases hg with hg | hg
    · exact ⟨.inl (hr.own g hg).1, (hr.own g hg).2⟩
    · exact ⟨.inr ⟨hg, hF.lt⟩, by omega⟩
  have hset : But (fun k => k = b) w1 (w1.setCell ⟨b, 0, none⟩ (.slice (some ⟨g, 0, none⟩) (M.len + 1) cap')) := (But.refl (fun k => k = b) w1).set1 b 0 rfl _
  refine ⟨⟨.inl h.ob, ?_, ⟨some ⟨g, 0, none⟩, cap', fun i => if i = M.len then none else A i, fun i => if i = M.len then 0 else C i, ?_⟩, ?_, ?_, ?_, by rw [hm]; omega, ?_, h.few⟩, ?_⟩
  · intro k hk
    rw [World.size_setCell]
    rcases hk with hk | hk
    · exact Nat.lt_of_lt_of_le (h.lt k hk) hb.size
    · exact hk.2
  · refine ⟨by rw [World.cell?_setCell_same' _ _ _ (by rw [c0]; rfl), hm], .inr ⟨g, rfl, ?_⟩, ?_, ?_, ?_⟩
    · rw [hm, flatC_snoc M A C (h.rest _ (Nat.le_refl _))]
      exact hF.but hset hgo.2
    · rintro j ⟨x, hx, rfl⟩; cases hx; exact hgo
    · intro i hi
      rw [hm] at hi
      by_cases e : i = M.len
      · subst e
        show SlAt 2 _ (if M.len = M.len then none else A M.len) (if M.len = M.len then 0 else C M.len) (M.cell M.len).L.length (flatI (M.cell M.len).L)
        rw [if_pos rfl, if_pos rfl, h.rest _ (Nat.le_refl _)]
        exact SlAt.nil _ _
      · show SlAt 2 _ (if i = M.len then none else A i) (if i = M.len then 0 else C i) (M.cell i).L.length (flatI (M.cell i).L)
        rw [if_neg e, if_neg e]
        have hi' : i < M.len := by omega
        exact ((hr.its i hi').but hb (fun j hj => (hr.ito i hi' j hj).2.2)).but hset (fun j hj => (hr.ito i hi' j hj).2.1)
    · intro i hi j hj
      rw [hm] at hi
      by_cases e : i = M.len
      · rw [if_pos e] at hj; obtain ⟨x, hx, _⟩ := hj; cases hx
      · rw [if_neg e] at hj
        have hi' : i < M.len := by omega
        have h1 := hr.ito i hi' j hj
        refine ⟨.inl h1.1, h1.2.1, ?_⟩
        rintro ⟨x, hx, hxj⟩
        cases hx
        have hxj' : g = j := hxj
        rcases hg with hg | hg
        · rw [hxj'] at hg; exact h1.2.2 hg
        · have := h.lt j h1.1; omega
  · rw [World.cell?_setCell_other _ _ _ _ (fun e => by injection e with _ e2; cases e2), hb.cell (p := ⟨b, 1, none⟩) hbl hnb]
    exact h.clk
  · rw [World.frozen?_setCell, hb.frozen (p := ⟨b, 0, none⟩) hbl hnb]; exact h.fz0
  · rw [World.frozen?_setCell, hb.frozen (p := ⟨b, 1, none⟩) hbl hnb]; exact h.fz1
  · intro i hi
    rw [hm] at hi
    exact h.rest i (by omega)
  · exact (hb.mono (fun k _ e => (hr.own k e).1)).trans (hset.mono (fun k _ e => by rw [e]; exact h.ob))

theorem add1 (n : Nat) : ((n + 1 : Nat) : Int) = (n : Int) + 1 := by omega
set_option maxHeartbeats 1000000 in
theorem reach_any (b i : Nat) (O : Nat → Prop) (M : Mem) (w : World) (h : MemAt w b O M) (hi : i < 1000) :
    Calls Try.prog 92 #[.pointer (some ⟨b, 0, none⟩), .int .i64 (i : Int)] w fun e w' => e = .returned (.tuple #[]) ∧ MemAt w' b (own' O w w') (M.reach (i + 1)) ∧ But O w w' := by
  have hi1 : (i : Int) < 1000 := by omega
  go_enter Try.func92, Try.ntmps92
  go_wp2_with fail
  go_loopw [] (fun wr => ∃ n, n ≤ max M.len (i + 1) ∧ MemAt wr b (own' O w wr) (M.reach n) ∧ But O w wr) (fun wr => i + 1 - lenIn wr b)
  case atStart => exact ⟨M.len, by omega, by rw [reach_max M _ (Nat.le_refl _)]; exact h.own (fun k hk => .inl hk) (fun k hk => hk.elim (h.lt k) (fun e => e.2)), But.refl _ _⟩
  case round =>
    obtain ⟨n, hn, hM, hB⟩ := hrel
    obtain ⟨a, cap, A, C, hr⟩ := hM.row
    obtain ⟨m, hm⟩ : ∃ m, (M.reach n).len = m := ⟨_, rfl⟩
    have hmm : m = max M.len n := hm.symm
    have hd := hr.hd
    rw [hm] at hd
    have hfz := hM.fz0
    have hbl := hM.lt b hM.ob
    have hmx := hM.max
    rw [hm] at hmx
    have hmx1 : (m : Int) ≤ 1000 := by omega
    by_cases hlt : m ≤ i
    · have hl1 : (m : Int) ≤ (i : Int) := by omega
      have hsr : Src Try.prog 3 131 (.slice (some ⟨wr.heap.size, 0, none⟩) 1 1) 1 [.int .u64 0, .int .i64 0, .slice none 0 0] (wr.alloc (boxC 0 0 (.slice none 0 0))) :=
        src_new 3 _ Try.underlying131 _ _ rfl (fun j u hu => by rw [World.cell?_alloc_new]; rcases j with _ | _ | _ | j <;> first | exact hu | (simp at hu)) (fun u hu => by simp at hu; rcases hu with rfl | rfl | rfl <;> rfl)
      have hM1 : MemAt (wr.alloc (boxC 0 0 (.slice none 0 0))) b (own' O w wr) (M.reach n) := hM.but (S := fun _ => False) ((But.refl _ _).alloc _) (fun _ _ e => e)
      have hr1 := hr.but (S := fun _ => False) hbl ((But.refl _ wr).alloc (boxC 0 0 (.slice none 0 0))) (fun _ _ e => e) hM.ob
      have hsl := hr1.sl
      rw [hm] at hsl
      have hc1 := hr1.hd
      rw [hm] at hc1
      have hz1 := hM1.fz0
      have hnb : ¬ inB a b := fun e => (hr.own b e).2 rfl
      have hbl1 : b < (wr.alloc (boxC 0 0 (.slice none 0 0))).heap.size := by simp; omega
      have FIN := hidq (fun g' cap' w' (hF : Flat 3 w' g' cap' (m + 1) (flatC (M.reach n) A C ++ [.int .u64 0, .int .i64 0, .slice none 0 0])) (hb' : But (inB a) (wr.alloc (boxC 0 0 (.slice none 0 0))) w') (hg' : inB a g' ∨ (wr.alloc (boxC 0 0 (.slice none 0 0))).heap.size ≤ g') =>
        mem_grown hM1 hr1 (by rw [hm]; omega) (by rw [hm]; exact hF) hb' hg')
      rw [hm] at FIN
      have FC := hidq (fun w' (hb' : But (inB a) (wr.alloc (boxC 0 0 (.slice none 0 0))) w') => (show w'.cell? ⟨b, 0, none⟩ = some (.slice a m cap) ∧ w'.frozen? ⟨b, 0, none⟩ = false ∧ b < w'.heap.size from
        ⟨(hb'.cell (p := ⟨b, 0, none⟩) hbl1 hnb).trans hc1, (hb'.frozen (p := ⟨b, 0, none⟩) hbl1 hnb).trans hz1, Nat.lt_of_lt_of_le hbl1 hb'.size⟩))
      have HSL := hidq hsl
      have HSR := hidq hsr
      have HMM := hidq hmm
      have HM := hidq hM
      have HM1 := hidq hm
      clear hM1 hr1 hr hsl hsr hmm hM hm hnb hbl1
      go_wp2_with (at_builtin; refine wpList_sl plainC _ rfl (.tmp 15) (.tmp 17) rfl a cap m _ rfl HSL.out _ rfl 1 _ HSR.out (by omega) (by omega) ?_; intro g' cap' w' hF hb' hg'; obtain ⟨fc1, fc2, fc3⟩ := FC.out w' hb'; have HF := hidq hF; have HB := hidq hb'; clear hF hb')
      have hgr := FIN.out g' cap' w' HF.out HB.out hg'
      have hsz := HB.out.size
      rw [World.size_alloc] at hsz
      have hmn : m = max M.len n := HMM.out
      have hB2 : But O w (w'.setCell ⟨b, 0, none⟩ (.slice (some ⟨g', 0, none⟩) (m + 1) cap')) := by
        refine hB.then (T := own' O w wr) (((But.refl _ wr).alloc _).trans hgr.2) (fun k hk e => ?_)
        rcases e with e | e
        · exact e
        · omega
      have hM2 : MemAt (w'.setCell ⟨b, 0, none⟩ (.slice (some ⟨g', 0, none⟩) (m + 1) cap')) b (own' O w (w'.setCell ⟨b, 0, none⟩ (.slice (some ⟨g', 0, none⟩) (m + 1) cap'))) (M.reach (m + 1)) := by
        have h1 := hgr.1
        rw [reach_twice M n (m + 1) (by omega)] at h1
        refine h1.own (fun k hk => ?_) (fun k hk => ?_)
        · rcases hk with (e | e) | e
          · exact .inl e
          · exact .inr ⟨e.1, by rw [World.size_setCell]; omega⟩
          · rw [World.size_alloc] at e; exact .inr ⟨by have := hB.size; omega, by rw [World.size_setCell]; omega⟩
        · rcases hk with e | e
          · exact h1.lt k (.inl (.inl e))
          · exact e.2
      have HM2 := hidq hM2
      have HB2 := hidq hB2
      have hl2 : lenIn (w'.setCell ⟨b, 0, none⟩ (.slice (some ⟨g', 0, none⟩) (m + 1) cap')) b = m + 1 := by rw [lenIn_at hM2]; show max M.len (m + 1) = m + 1; omega
      have hl1' : lenIn wr b = m := by rw [lenIn_at HM.out]; exact HM1.out
      have HL := hidq (And.intro hl2 hl1')
      clear hgr hM2 hB2 hl2 hl1'
      go_wp2
      go_roundw
      case rel => exact ⟨m + 1, by have := HMM.out; omega, HM2.out, HB2.out⟩
      case measure => rw [HL.out.1, HL.out.2]; omega
    · have hl1 : decide ((m : Int) ≤ (i : Int)) = false := decide_eq_false (by omega)
      have hM2 : MemAt wr b (own' O w wr) (M.reach (i + 1)) := by
        have e : M.reach n = M.reach (i + 1) := by unfold Mem.reach; simp only [Mem.mk.injEq, and_true]; omega
        rw [← e]; exact hM
      have HM2 := hidq hM2
      clear hM2 hM hr hmm hm hn
      go_wp2
      go_end0
      exact ⟨rfl, HM2.out, hB⟩
end Go.Proofs.Ytepigofpcjmddaa

namespace Go.Proofs.Ytepigofpcjmddaa
open Go.RowKit Go.Sort

/-- One cell of a row is laid anew. -/
theorem Flat.set {k g cap n t : Nat} {w : World} {l : List Value} {v : Value} (h : Flat k w g cap n l) (ht : t < l.length) (hv : v.oneCell' = true) : Flat k (w.setCell ⟨g, t, none⟩ v) g cap n (l.set t v) := by
  have hc : (w.cell? ⟨g, t, none⟩).isSome = true := by rw [h.cell t _ (List.getElem?_eq_getElem ht)]; rfl
  refine ⟨by rw [World.size_setCell]; exact h.lt, by rw [List.length_set]; exact h.len, h.le, h.cmax, ?_, ?_, ?_⟩
  · intro s u hu
    rw [List.getElem?_set] at hu
    by_cases e : t = s
    · subst e
      rw [if_pos rfl, if_pos ht] at hu
      cases hu
      rw [World.cell?_setCell_same' _ _ _ hc]
    · rw [if_neg e] at hu
      rw [World.cell?_setCell_other _ _ _ _ (fun q => e (by injection q))]
      exact h.cell s u hu
  · intro u hu
    rcases List.mem_or_eq_of_mem_set hu with hu | rfl
    · exact h.one u hu
    · exact hv
  · intro j hj
    refine ⟨?_, by rw [World.frozen?_setCell]; exact (h.there j hj).2⟩
    by_cases e : t = j
    · subst e; rw [World.cell?_setCell_same' _ _ _ hc]; rfl
    · rw [World.cell?_setCell_other _ _ _ _ (fun q => e (by injection q))]; exact (h.there j hj).1

theorem flatC_set (M : Mem) (A : Nat → Option Addr) (C : Nat → Nat) (i : Nat) (v x : Int) (L : List It) (a' : Option Addr) (cap' : Nat) (M' : Mem) (hl : M'.len = M.len) (hc : ∀ j, M'.cell j = if j = i then ⟨v, x, L⟩ else M.cell j) :
    (((flatC M A C).set (i * 3) (.int .u64 v)).set (i * 3 + 1) (.int .i64 x)).set (i * 3 + 2) (.slice a' L.length cap') = flatC M' (fun j => if j = i then a' else A j) (fun j => if j = i then cap' else C j) := by
  apply List.ext_getElem?
  intro t
  by_cases ht : t < M.len * 3
  · rw [List.getElem?_set, List.getElem?_set, List.getElem?_set, flatC_get M' _ _ t (by rw [hl]; exact ht), flatC_get M A C t ht]
    simp only [List.length_set, flatC_length]
    unfold cellC
    dsimp only
    rw [hc]
    by_cases e : t / 3 = i
    · have : t = i * 3 ∨ t = i * 3 + 1 ∨ t = i * 3 + 2 := by omega
      rw [if_pos e, if_pos e, if_pos e]
      rcases this with rfl | rfl | rfl
      · rw [if_neg (by omega), if_neg (by omega), if_pos rfl, if_pos (by omega), if_pos (by omega)]
      · rw [if_neg (by omega), if_pos rfl, if_pos (by omega), if_neg (by omega), if_pos (by omega)]
      · rw [if_pos rfl, if_pos (by omega), if_neg (by omega), if_neg (by omega)]
    · rw [if_neg e, if_neg e, if_neg e, if_neg (by omega), if_neg (by omega), if_neg (by omega)]
  · rw [List.getElem?_eq_none (by simp [flatC_length]; omega), List.getElem?_eq_none (by rw [flatC_length, hl]; omega)]

/-- A memory whose clock has gone on and whose cell was laid anew. -/
theorem mem_laid {w w1 : World} {b i : Nat} {O : Nat → Prop} {M : Mem} (h : MemAt w b O M) (hi : i < M.len) (g cap : Nat) (A : Nat → Option Addr) (C : Nat → Nat) (hr : RowC w b O M (some ⟨g, 0, none⟩) cap A C)
    (x : Int) (L : List It) (a' : Option Addr) (cap' : Nat) (hb0 : But (fun _ => False) (w.setCell ⟨b, 1, none⟩ (.int .u64 ((M.clock + 1 : Nat) : Int))) w1) (hS : SlAt 2 w1 a' cap' L.length (flatI L)) (hF : ∀ j, inB a' j → w.heap.size ≤ j) (hL : L.length ≤ 1000000) (w2 : World)
    (hw2 : w2 = ((w1.setCell ⟨g, i * 3, none⟩ (.int .u64 ((M.clock + 1 : Nat) : Int))).setCell ⟨g, i * 3 + 1, none⟩ (.int .i64 x)).setCell ⟨g, i * 3 + 2, none⟩ (.slice a' L.length cap')) :
    MemAt w2 b (own' O w w2) (M.put i x L) ∧ But O w w2 := by
  have hbl := h.lt b h.ob
  have hgo := hr.own g ⟨_, rfl, rfl⟩
  have hgl := h.lt g hgo.1
  have hput : (M.put i x L).len = M.len := by show max M.len (i + 1) = _; omega
  have hbut : But (fun k => k = g) w1 w2 := by
    rw [hw2]
    exact (((But.refl (fun k => k = g) w1).set1 _ _ rfl _).set1 _ _ rfl _).set1 _ _ rfl _
  have hb : But (fun k => k = b) w w1 := ((But.refl (fun k => k = b) w).set1 b 1 rfl _).then hb0 (fun _ _ e => e.elim)
  have hsz : w2.heap.size = w1.heap.size := by rw [hw2]; simp [World.size_setCell]
  have hneb : ∀ (p q : Nat), (⟨g, p, none⟩ : Addr) ≠ ⟨b, q, none⟩ := fun p q e => by injection e with e1; exact hgo.2 e1
  have hc1 : w1.cell? ⟨b, 1, none⟩ = some (.int .u64 ((M.clock + 1 : Nat) : Int)) := by
    rw [hb0.cell (p := ⟨b, 1, none⟩) (by rw [World.size_setCell]; exact hbl) id, World.cell?_setCell_same' _ _ _ (by rw [h.clk]; rfl)]
  have hc0 : w1.cell? ⟨b, 0, none⟩ = some (.slice (some ⟨g, 0, none⟩) M.len cap) := by
    rw [hb0.cell (p := ⟨b, 0, none⟩) (by rw [World.size_setCell]; exact hbl) id, World.cell?_setCell_other _ _ _ _ (fun e => by injection e with _ e2; cases e2)]
    exact hr.hd
  have hB : But O w w2 := (hb.mono (fun k _ e => by rw [e]; exact h.ob)).then hbut (fun k _ e => by rw [e]; exact hgo.1)
  refine ⟨⟨.inl h.ob, ?_, ⟨some ⟨g, 0, none⟩, cap, fun j => if j = i then a' else A j, fun j => if j = i then cap' else C j, ?_⟩, ?_, ?_, ?_, by rw [hput]; exact h.max, ?_, ?_⟩, hB⟩
  · intro k hk
    rcases hk with hk | hk
    · exact Nat.lt_of_lt_of_le (h.lt k hk) hB.size
    · exact hk.2
  · refine ⟨?_, .inr ⟨g, rfl, ?_⟩, ?_, ?_, ?_⟩
    · rw [hput, hw2, World.cell?_setCell_other _ _ _ _ (hneb _ _), World.cell?_setCell_other _ _ _ _ (hneb _ _), World.cell?_setCell_other _ _ _ _ (hneb _ _)]
      exact hc0
    · rcases hr.sl with ⟨e, _⟩ | ⟨g', e, hf⟩
      · cases e
      · cases e
        have hf1 := hf.but hb hgo.2
        have hlen := flatC_length M A C
        have hf2 := ((hf1.set (t := i * 3) (v := .int .u64 ((M.clock + 1 : Nat) : Int)) (by rw [hlen]; omega) rfl).set (t := i * 3 + 1) (v := .int .i64 x) (by rw [List.length_set, hlen]; omega) rfl).set (t := i * 3 + 2) (v := .slice a' L.length cap') (by rw [List.length_set, List.length_set, hlen]; omega) rfl
        rw [flatC_set M A C i ((M.clock + 1 : Nat) : Int) x L a' cap' (M.put i x L) hput (fun j => rfl), ← hw2] at hf2
        rw [hput]
        exact hf2
    · rintro j ⟨y, hy, rfl⟩; cases hy; exact ⟨.inl hgo.1, hgo.2⟩
    · intro j hj
      rw [hput] at hj
      show SlAt 2 w2 (if j = i then a' else A j) (if j = i then cap' else C j) (if j = i then (⟨((M.clock + 1 : Nat) : Int), x, L⟩ : CV) else M.cell j).L.length (flatI (if j = i then (⟨((M.clock + 1 : Nat) : Int), x, L⟩ : CV) else M.cell j).L)
      by_cases e : j = i
      · rw [if_pos e, if_pos e, if_pos e]
        exact hS.but hbut (fun k hk e => by have := hF k hk; omega)
      · rw [if_neg e, if_neg e, if_neg e]
        refine ((hr.its j hj).but hb (fun k hk => (hr.ito j hj k hk).2.1)).but hbut (fun k hk e => ?_)
        exact (hr.ito j hj k hk).2.2 ⟨_, rfl, e.symm⟩
    · intro j hj k hk
      rw [hput] at hj
      have hk' : inB (if j = i then a' else A j) k := hk
      by_cases e : j = i
      · rw [if_pos e] at hk'
        have h1 := hF k hk'
        have h2 := hS.lt k hk'
        refine ⟨.inr ⟨h1, by omega⟩, by omega, ?_⟩
        rintro ⟨y, hy, hyk⟩; cases hy
        have : g = k := hyk
        omega
      · rw [if_neg e] at hk'
        have h1 := hr.ito j hj k hk'
        exact ⟨.inl h1.1, h1.2.1, h1.2.2⟩
  · show w2.cell? ⟨b, 1, none⟩ = some (.int .u64 ((M.clock + 1 : Nat) : Int))
    rw [hw2, World.cell?_setCell_other _ _ _ _ (hneb _ _), World.cell?_setCell_other _ _ _ _ (hneb _ _), World.cell?_setCell_other _ _ _ _ (hneb _ _)]
    exact hc1
  · rw [hw2, World.frozen?_setCell, World.frozen?_setCell, World.frozen?_setCell, hb0.frozen (p := ⟨b, 0, none⟩) (by rw [World.size_setCell]; exact hbl) id, World.frozen?_setCell]; exact h.fz0
  · rw [hw2, World.frozen?_setCell, World.frozen?_setCell, World.frozen?_setCell, hb0.frozen (p := ⟨b, 1, none⟩) (by rw [World.size_setCell]; exact hbl) id, World.frozen?_setCell]; exact h.fz1
  · intro j hj
    rw [hput] at hj
    show (if j = i then _ else M.cell j) = _
    rw [if_neg (by omega)]; exact h.rest j hj
  · intro j
    show (if j = i then (⟨((M.clock + 1 : Nat) : Int), x, L⟩ : CV) else M.cell j).L.length ≤ _
    by_cases e : j = i
    · rw [if_pos e]; exact hL
    · rw [if_neg e]; exact h.few j

theorem force_no (b : Nat) (i : Int) (x : Int) (s : Value) (w : World) (hi : i < 0 ∨ 1000 ≤ i) :
    Calls Try.prog 56 #[.pointer (some ⟨b, 0, none⟩), .int .i64 i, .agg #[.int .i64 x, s]] w fun e w' => e = .returned (.bool false) ∧ Below w.heap.size w w' := by
  by_cases h0 : i < 0
  · clear hi
    go_enter Try.func56, Try.ntmps56
    go_wp2
    go_ret
    exact ⟨rfl, (Below.refl _ _).alloc (Nat.le_refl _) _⟩
  · have h0' : decide (i < 0) = false := decide_eq_false h0
    have h1 : 1000 ≤ i := by omega
    clear hi h0
    go_enter Try.func56, Try.ntmps56
    go_wp2
    go_ret
    exact ⟨rfl, (Below.refl _ _).alloc (Nat.le_refl _) _⟩

theorem put_reach (M : Mem) (i : Nat) (x : Int) (L : List It) : (M.reach (i + 1)).put i x L = M.put i x L := by
  unfold Mem.put Mem.reach
  simp only [Mem.mk.injEq, and_true]
  omega

set_option maxHeartbeats 4000000 in
theorem force_any (b i : Nat) (O : Nat → Prop) (M : Mem) (x : Int) (a : Option Addr) (cap : Nat) (L : List It) (w : World) (h : MemAt w b O M) (hS : SlAt 2 w a cap L.length (flatI L)) (hO : ∀ j, inB a j → ¬ O j) (hL : L.length ≤ 1000000) (hi : i < 1000) (hck : M.clock < 4611686018427387904) :
    Calls Try.prog 56 #[.pointer (some ⟨b, 0, none⟩), .int .i64 (i : Int), .agg #[.int .i64 x, .slice a L.length cap]] w fun e w' => e = .returned (.bool true) ∧ MemAt w' b (own' O w w') (M.put i x L) ∧ But O w w' := by
  have hbl := h.lt b h.ob
  have hB1 : But (fun _ => False) w (w.alloc (boxV x (.slice a L.length cap))) := (But.refl _ _).alloc _
  have hRe := hidq (reach_any b i O M _ (h.but hB1 (fun _ _ e => e)) hi)
  have hi0 : decide ((i : Int) < 0) = false := decide_eq_false (by omega)
  have hi1 : decide ((1000 : Int) ≤ (i : Int)) = false := decide_eq_false (by omega)
  have HH := hidq h
  have HS := hidq hS
  clear h hS
  go_enter Try.func56, Try.ntmps56
  go_wp2_with fail
  refine hRe.out.mono ?_
  rintro e w1 ⟨rfl, hM, hB2⟩
  have hbl1 := hM.lt b hM.ob
  have hwz : w.heap.size < w1.heap.size := by have := hB2.size; simp at this; omega
  have hOw : ¬ O w.heap.size := fun e => by have := HH.out.lt _ e; omega
  have hck1 := hM.clk
  have hf1 := hM.fz1
  obtain ⟨ar, capr, A, C, hr⟩ := hM.row
  have hlen : i < (M.reach (i + 1)).len := by show i < max M.len (i + 1); omega
  obtain ⟨g, rfl, hg, _⟩ := hr.sl.cell (flatC_0 _ A C i hlen)
  have hd := hr.hd
  have hgo := hr.own g ⟨_, rfl, rfl⟩
  have hle := hr.sl.le
  have hmx := hM.max
  have HA := hidq (show SlAt 2 w1 a cap L.length (flatI L) from (HS.out.but hB1 (fun _ _ e => e)).but hB2 hO)
  have hab : ∀ j, inB a j → ¬ j = b := fun j hj e => hO j hj (by rw [e]; exact HH.out.ob)
  obtain ⟨n, hn⟩ : ∃ n, (M.reach (i + 1)).len = n := ⟨_, rfl⟩
  rw [hn] at hd hlen hle hmx
  have hckr : (M.reach (i + 1)).clock = M.clock := rfl
  rw [hckr] at hck1
  have hNI : (i : Int) < (n : Int) := by omega
  have hle2 : n ≤ capr := hle
  obtain ⟨cv, hcv⟩ : ∃ cv : Int, ((M.clock + 1 : Nat) : Int) = cv := ⟨_, rfl⟩
  have hcv1 : (M.clock : Int) + 1 = cv := by omega
  obtain ⟨ck, hckv⟩ : ∃ ck : Int, (M.clock : Int) = ck := ⟨_, rfl⟩
  rw [hckv] at hck1 hcv1
  have hckb : 0 ≤ ck ∧ ck < 4611686018427387904 := by omega
  have hcl : ∀ k, k < n * 3 → (w1.cell? ⟨g, k, none⟩).isSome = true ∧ w1.frozen? ⟨g, k, none⟩ = false := by
    rcases hr.sl with ⟨e, _⟩ | ⟨g', e, hf⟩
    · cases e
    · cases e
      exact fun k hk => hf.there k (by omega)
  have FIN := hidq (fun w3 a' cap' (hb0 : But (fun _ => False) (w1.setCell ⟨b, 1, none⟩ (.int .u64 cv)) w3) (hS3 : SlAt 2 w3 a' cap' L.length (flatI L)) (hF3 : ∀ j, inB a' j → w1.heap.size ≤ j) =>
    mem_laid hM (by rw [hn]; exact hlen) g capr A C hr x L a' cap' (by rw [hckr, hcv]; exact hb0) hS3 hF3 hL _ rfl)
  rw [put_reach, hckr, hcv] at FIN
  have FC := hidq (fun w3 (hb0 : But (fun _ => False) (w1.setCell ⟨b, 1, none⟩ (.int .u64 cv)) w3) => (show (w3.cell? ⟨b, 0, none⟩ = some (.slice (some ⟨g, 0, none⟩) n capr) ∧ w3.cell? ⟨b, 1, none⟩ = some (.int .u64 cv)) ∧ g < w3.heap.size ∧
      (∃ u0, w3.cell? ⟨g, i * 3, none⟩ = some u0) ∧ (∃ u1, w3.cell? ⟨g, i * 3 + 1, none⟩ = some u1) ∧ (∃ u2, w3.cell? ⟨g, i * 3 + 2, none⟩ = some u2) ∧ w3.frozen? ⟨g, i * 3, none⟩ = false ∧ w3.frozen? ⟨g, i * 3 + 1, none⟩ = false ∧ w3.frozen? ⟨g, i * 3 + 2, none⟩ = false from by
    have hb : But (fun k => k = b) w1 w3 := ((But.refl (fun k => k = b) w1).set1 b 1 rfl _).then hb0 (fun _ _ e => e.elim)
    have hc : ∀ k, k < n * 3 → (∃ u, w3.cell? ⟨g, k, none⟩ = some u) ∧ w3.frozen? ⟨g, k, none⟩ = false := fun k hk => by
      rw [hb.cell (p := ⟨g, k, none⟩) hg hgo.2, hb.frozen (p := ⟨g, k, none⟩) hg hgo.2]
      exact ⟨Option.isSome_iff_exists.1 (hcl k hk).1, (hcl k hk).2⟩
    refine ⟨⟨?_, ?_⟩, Nat.lt_of_lt_of_le hg hb.size, (hc _ (by omega)).1, (hc _ (by omega)).1, (hc _ (by omega)).1, (hc _ (by omega)).2, (hc _ (by omega)).2, (hc _ (by omega)).2⟩
    · rw [hb0.cell (p := ⟨b, 0, none⟩) (by rw [World.size_setCell]; exact hbl1) id, World.cell?_setCell_other _ _ _ _ (fun e => by injection e with _ e2; cases e2)]; exact hd
    · rw [hb0.cell (p := ⟨b, 1, none⟩) (by rw [World.size_setCell]; exact hbl1) id, World.cell?_setCell_same' _ _ _ (by rw [hck1]; rfl)]))
  have hC := hidq (fun W (hW : But (fun k => k = b) w1 W) => vclone_any x a cap L.length _ W (HA.out.but hW hab) hL)
  have hnwb : ¬ w.heap.size = b := by omega
  have bx0 : (w1.setCell ⟨b, 1, none⟩ (.int .u64 cv)).drew.cell? ⟨w.heap.size, 0, none⟩ = some (.int .i64 x) := by
    show (w1.setCell ⟨b, 1, none⟩ (.int .u64 cv)).cell? ⟨w.heap.size, 0, none⟩ = _
    rw [World.cell?_setCell_other _ _ _ _ (fun e => by injection e with e1; exact hnwb e1.symm), hB2.cell (p := ⟨w.heap.size, 0, none⟩) (by simp) hOw]; simp
  have bx1 : (w1.setCell ⟨b, 1, none⟩ (.int .u64 cv)).drew.cell? ⟨w.heap.size, 1, none⟩ = some (.slice a L.length cap) := by
    show (w1.setCell ⟨b, 1, none⟩ (.int .u64 cv)).cell? ⟨w.heap.size, 1, none⟩ = _
    rw [World.cell?_setCell_other _ _ _ _ (fun e => by injection e with e1; exact hnwb e1.symm), hB2.cell (p := ⟨w.heap.size, 1, none⟩) (by simp) hOw]; simp
  have hEND := hidq (fun w2 (hM2 : MemAt w2 b (own' (own' O (w.alloc (boxV x (.slice a L.length cap))) w1) w1 w2) (M.put i x L)) (hBx : But (own' O (w.alloc (boxV x (.slice a L.length cap))) w1) w1 w2) => (show MemAt w2 b (own' O w w2) (M.put i x L) ∧ But O w w2 from by
    refine ⟨hM2.own (fun k hk => ?_) (fun k hk => ?_), ((hB1.mono (fun _ _ e => e.elim)).trans hB2).then hBx (fun k hk e => ?_)⟩
    · have hs1 := hB2.size
      rw [World.size_alloc] at hs1
      have hs2 := hBx.size
      rcases hk with (e | e) | e
      · exact .inl e
      · rw [World.size_alloc] at e; exact .inr ⟨by omega, by omega⟩
      · exact .inr ⟨by omega, by omega⟩
    · rcases hk with e | e
      · exact hM2.lt k (.inl (.inl e))
      · exact e.2
    · rcases e with e | e
      · exact e
      · rw [World.size_alloc] at e; omega))
  have HSZ := hidq (show (w1.setCell ⟨b, 1, none⟩ (.int .u64 cv)).drew.heap.size = w1.heap.size from by show (w1.setCell ⟨b, 1, none⟩ (.int .u64 cv)).heap.size = _; rw [World.size_setCell])
  clear hr hM hcl hB2 hB1 hRe hmx hcv hckv hO hab hck hle hn hgo hckr hOw
  go_wp2
  go_region_with (go_at_call 93; refine (hC.out _ ((But.refl (fun k => k = b) w1).set1 b 1 rfl _).drew).mono ?_; rintro e w3 ⟨a', cap', rfl, hS3, hf3, hb3⟩; have HS3 := hidq hS3; rw [HSZ.out] at hf3; have HF3 := hidq hf3; have hbb : But (fun _ => False) (w1.setCell ⟨b, 1, none⟩ (.int .u64 cv)) w3 := ⟨hb3.os, hb3.tape, hb3.output, hb3.size, fun k hk _ => hb3.block k hk⟩; have HBB := hidq hbb; obtain ⟨⟨e0, e1⟩, e2, ⟨u0, e3⟩, ⟨u1, e4⟩, ⟨u2, e5⟩, e6, e7, e8⟩ := FC.out w3 hbb; clear hS3 hf3 hb3 hbb)
  all_goals go_wp2
  all_goals go_ret
  all_goals exact ⟨rfl, hEND.out _ (FIN.out w3 a' cap' HBB.out HS3.out HF3.out).1 (FIN.out w3 a' cap' HBB.out HS3.out HF3.out).2⟩
end Go.Proofs.Ytepigofpcjmddaa

namespace Go.Proofs.Ytepigofpcjmddaa
open Go.RowKit Go.Sort

/-- What Write does. -/
def Mem.can (M : Mem) (i v : Int) : Bool := decide (0 ≤ i ∧ i < 1000) && ((M.look i).ver == v)
theorem can_yes {M : Mem} {i : Nat} {v : Int} (h : i < 1000) (hv : (M.cell i).ver = v) : M.can (i : Int) v = true := by
  unfold Mem.can; rw [look_nat, hv]; simp; omega

theorem write_no (b : Nat) (O : Nat → Prop) (M : Mem) (i v x : Int) (s : Value) (w : World) (h : MemAt w b O M) (hno : M.can i v = false) :
    Calls Try.prog 27 #[.pointer (some ⟨b, 0, none⟩), .int .i64 i, .int .u64 v, .agg #[.int .i64 x, s]] w fun e w' => e = .returned (.bool false) ∧ Below w.heap.size w w' := by
  have hV := hidq (version_any b O M i _ (h.but (S := fun _ => False) ((But.refl _ _).alloc (boxV x s)) (fun _ _ e => e)))
  by_cases hv : (M.look i).ver = v
  · have hi : i < 0 ∨ 1000 ≤ i := by
      unfold Mem.can at hno
      rw [hv] at hno
      simp at hno
      omega
    rw [hv] at hV
    have hF := hidq (fun W => force_no b i x s W hi)
    clear h hno hv hi
    go_enter Try.func27, Try.ntmps27
    go_wp2_with (first
      | (go_at_call 60; refine hV.out.mono ?_; rintro e w1 ⟨rfl, hw⟩; replace hw := hw.symm; subst hw)
      | (go_at_call 56; refine (hF.out _).mono ?_; rintro e w2 ⟨rfl, hb2⟩))
    go_ret
    exact ⟨rfl, ((Below.refl _ _).alloc (Nat.le_refl _) _).trans (hb2.mono (by simp))⟩
  · have hvb : ((M.look i).ver == v) = false := by simpa using hv
    generalize (M.look i).ver = u at *
    clear h hno hv
    go_enter Try.func27, Try.ntmps27
    go_wp2_with (go_at_call 60; refine hV.out.mono ?_; rintro e w1 ⟨rfl, hw⟩; replace hw := hw.symm; subst hw)
    go_ret
    exact ⟨rfl, (Below.refl _ _).alloc (Nat.le_refl _) _⟩

theorem write_yes (b i : Nat) (O : Nat → Prop) (M : Mem) (v x : Int) (a : Option Addr) (cap : Nat) (L : List It) (w : World) (h : MemAt w b O M) (hS : SlAt 2 w a cap L.length (flatI L)) (hO : ∀ j, inB a j → ¬ O j) (hL : L.length ≤ 1000000) (hi : i < 1000) (hck : M.clock < 4611686018427387904) (hv : (M.cell i).ver = v) :
    Calls Try.prog 27 #[.pointer (some ⟨b, 0, none⟩), .int .i64 (i : Int), .int .u64 v, .agg #[.int .i64 x, .slice a L.length cap]] w fun e w' => e = .returned (.bool true) ∧ MemAt w' b (own' O w w') (M.put i x L) ∧ But O w w' := by
  have hB1 : But (fun _ => False) w (w.alloc (boxV x (.slice a L.length cap))) := (But.refl _ _).alloc _
  have hV := hidq (version_any b O M (i : Int) _ (h.but hB1 (fun _ _ e => e)))
  rw [look_nat, hv] at hV
  have hF := hidq (force_any b i O M x a cap L _ (h.but hB1 (fun _ _ e => e)) (hS.but hB1 (fun _ _ e => e)) hO hL hi hck)
  clear h hS hO hv
  go_enter Try.func27, Try.ntmps27
  go_wp2_with (first
    | (go_at_call 60; refine hV.out.mono ?_; rintro e w1 ⟨rfl, hw⟩; replace hw := hw.symm; subst hw)
    | (go_at_call 56; refine hF.out.mono ?_; rintro e w2 ⟨rfl, hM2, hb2⟩))
  go_ret
  refine ⟨rfl, hM2.own (fun k hk => ?_) (fun k hk => ?_), (hB1.mono (fun _ _ e => e.elim)).trans hb2⟩
  · rcases hk with e | e
    · exact .inl e
    · rw [World.size_alloc] at e; exact .inr ⟨by omega, e.2⟩
  · rcases hk with e | e
    · exact hM2.lt k (.inl e)
    · exact e.2

/-- Write, whichever way it goes. -/
def Mem.write (M : Mem) (i v x : Int) (L : List It) : Mem := if M.can i v = true then M.put i.toNat x L else M
theorem write_as {M : Mem} {i v x : Int} {L : List It} : (M.can i v = true ∧ M.write i v x L = M.put i.toNat x L ∧ ∃ k : Nat, i = (k : Int) ∧ k < 1000 ∧ (M.cell k).ver = v) ∨ (M.can i v = false ∧ M.write i v x L = M) := by
  cases h : M.can i v
  · refine .inr ⟨rfl, ?_⟩
    unfold Mem.write; rw [h]; rfl
  · refine .inl ⟨rfl, ?_, ?_⟩
    · unfold Mem.write; rw [h]; rfl
    · unfold Mem.can at h
      simp at h
      refine ⟨i.toNat, by omega, by omega, ?_⟩
      have := h.2
      unfold Mem.look at this
      rw [if_neg (by omega)] at this
      exact this
theorem own'_lt {O : Nat → Prop} {w w' : World} (h : ∀ k, O k → k < w.heap.size) (hs : w.heap.size ≤ w'.heap.size) : ∀ k, own' O w w' k → k < w'.heap.size := fun k hk => by
  rcases hk with e | e
  · exact Nat.lt_of_lt_of_le (h k e) hs
  · exact e.2
theorem write_any (b : Nat) (O : Nat → Prop) (M : Mem) (i v x : Int) (a : Option Addr) (cap : Nat) (L : List It) (w : World) (h : MemAt w b O M) (hS : SlAt 2 w a cap L.length (flatI L)) (hO : ∀ j, inB a j → ¬ O j) (hL : L.length ≤ 1000000) (hck : M.clock < 4611686018427387904) :
    Calls Try.prog 27 #[.pointer (some ⟨b, 0, none⟩), .int .i64 i, .int .u64 v, .agg #[.int .i64 x, .slice a L.length cap]] w fun e w' => e = .returned (.bool (M.can i v)) ∧ MemAt w' b (own' O w w') (M.write i v x L) ∧ But O w w' := by
  rcases write_as (M := M) (i := i) (v := v) (x := x) (L := L) with ⟨h1, h2, k, rfl, hk, hv⟩ | ⟨h1, h2⟩
  · rw [h1, h2]
    exact write_yes b k O M v x a cap L w h hS hO hL hk hck hv
  · rw [h1, h2]
    refine (write_no b O M i v x _ w h h1).mono ?_
    rintro e w' ⟨rfl, hb⟩
    exact ⟨rfl, (h.below hb).own (fun k e => .inl e) (own'_lt h.lt hb.size), But.of_below hb⟩
/-- Force, whichever way it goes. -/
def inRange (i : Int) : Bool := decide (0 ≤ i ∧ i < 1000)
def Mem.force (M : Mem) (i x : Int) (L : List It) : Mem := if inRange i = true then M.put i.toNat x L else M
theorem force_all (b : Nat) (O : Nat → Prop) (M : Mem) (i x : Int) (a : Option Addr) (cap : Nat) (L : List It) (w : World) (h : MemAt w b O M) (hS : SlAt 2 w a cap L.length (flatI L)) (hO : ∀ j, inB a j → ¬ O j) (hL : L.length ≤ 1000000) (hck : M.clock < 4611686018427387904) :
    Calls Try.prog 56 #[.pointer (some ⟨b, 0, none⟩), .int .i64 i, .agg #[.int .i64 x, .slice a L.length cap]] w fun e w' => e = .returned (.bool (inRange i)) ∧ MemAt w' b (own' O w w') (M.force i x L) ∧ But O w w' := by
  by_cases hr : 0 ≤ i ∧ i < 1000
  · have hd : inRange i = true := decide_eq_true hr
    unfold Mem.force
    rw [hd, if_pos rfl]
    obtain ⟨k, rfl⟩ : ∃ k : Nat, i = (k : Int) := ⟨i.toNat, by omega⟩
    exact force_any b k O M x a cap L w h hS hO hL (by omega) hck
  · have hd : inRange i = false := decide_eq_false hr
    unfold Mem.force
    rw [hd, if_neg (by decide)]
    refine (force_no b i x _ w (by omega)).mono ?_
    rintro e w' ⟨rfl, hb⟩
    exact ⟨rfl, (h.below hb).own (fun k e => .inl e) (own'_lt h.lt hb.size), But.of_below hb⟩
end Go.Proofs.Ytepigofpcjmddaa

namespace Go.Proofs.Ytepigofpcjmddaa
open Go.RowKit Go.Sort

/-- Block b begins with these cells, none of them frozen. -/
structure BoxAt (w : World) (b : Nat) (l : List Value) : Prop where
  lt : b < w.heap.size
  cell : ∀ i u, l[i]? = some u → w.cell? ⟨b, i, none⟩ = some u
  fz : ∀ i, i < l.length → w.frozen? ⟨b, i, none⟩ = false

section
variable {w w' : World} {b : Nat} {l : List Value} {S : Nat → Prop}
theorem BoxAt.but (h : BoxAt w b l) (hb : But S w w') (hS : ¬ S b) : BoxAt w' b l :=
  ⟨Nat.lt_of_lt_of_le h.lt hb.size, fun i u hu => (hb.cell (p := ⟨b, i, none⟩) h.lt hS).trans (h.cell i u hu), fun i hi => (hb.frozen (p := ⟨b, i, none⟩) h.lt hS).trans (h.fz i hi)⟩
theorem BoxAt.below (h : BoxAt w b l) (hb : Below w.heap.size w w') : BoxAt w' b l := h.but (S := fun _ => False) (But.of_below hb) id
theorem BoxAt.new (w : World) (l : List Value) (t : TypeId) : BoxAt (w.alloc (.cells l.toArray t)) w.heap.size l :=
  ⟨by simp, fun i u hu => by rw [World.cell?_alloc_new, List.getElem?_toArray]; exact hu, fun i _ => World.frozen?_alloc_new _ _ _ _⟩
theorem BoxAt.set (h : BoxAt w b l) (i : Nat) (v : Value) : BoxAt (w.setCell ⟨b, i, none⟩ v) b (l.set i v) := by
  refine ⟨by rw [World.size_setCell]; exact h.lt, fun j u hu => ?_, fun j hj => ?_⟩
  · rw [List.getElem?_set] at hu
    by_cases e : i = j
    · subst e
      rw [if_pos rfl] at hu
      split at hu
      case isTrue hl =>
        rw [World.cell?_setCell_same' _ _ _ (by rw [h.cell i _ (List.getElem?_eq_getElem hl)]; rfl)]
        exact hu
      case isFalse hl => cases hu
    · rw [if_neg e] at hu
      rw [World.cell?_setCell_other _ _ _ _ (fun q => e (by injection q))]
      exact h.cell j u hu
  · rw [World.frozen?_setCell]
    exact h.fz j (by simpa using hj)
theorem BoxAt.same (h : BoxAt w b l) {l' : List Value} (e : l = l') : BoxAt w b l' := e ▸ h
theorem BoxAt.drew (h : BoxAt w b l) : BoxAt w.drew b l := ⟨h.lt, h.cell, h.fz⟩
theorem BoxAt.get (h : BoxAt w b l) (i : Nat) (u : Value) (e : l[i]? = some u) : w.cell? ⟨b, i, none⟩ = some u ∧ w.frozen? ⟨b, i, none⟩ = false :=
  ⟨h.cell i u e, h.fz i (List.getElem?_eq_some_iff.1 e).1⟩
end

theorem BoxAt.drewN {w : World} {b : Nat} {l : List Value} (h : BoxAt w b l) (n : Nat) : BoxAt (w.drewN n) b l := ⟨h.lt, h.cell, h.fz⟩
/-- Two new boxes, one behind the other. -/
theorem two_new (w : World) (l1 l2 : List Value) (t1 t2 : TypeId) (n : Nat) : ∃ W, ((w.alloc (.cells l1.toArray t1)).alloc (.cells l2.toArray t2)).drewN n = W ∧ Below w.heap.size w W ∧ W.heap.size = w.heap.size + 2 ∧ BoxAt W w.heap.size l1 ∧ BoxAt W (w.heap.size + 1) l2 := by
  have h1 := BoxAt.new w l1 t1
  have h2 := BoxAt.new (w.alloc (.cells l1.toArray t1)) l2 t2
  rw [World.size_alloc] at h2
  refine ⟨_, rfl, below_drewN (((Below.refl _ _).alloc (Nat.le_refl _) _).alloc (by simp) _) n, by simp, (h1.below ((Below.refl _ _).alloc (Nat.le_refl _) _)).drewN n, h2.drewN n⟩
theorem drewN_zero (w : World) : w.drewN 0 = w := rfl
/-- All of a box laid anew. -/
theorem box_cells {w : World} {b : Nat} {l cs : List Value} (h : BoxAt w b l) (hl : l.length = cs.length) : BoxAt (w.setCells b 0 cs) b cs := by
  have hc : ∀ j, j < cs.length → (w.cell? ⟨b, 0 + j, none⟩).isSome = true := fun j hj => by rw [Nat.zero_add, h.cell j _ (List.getElem?_eq_getElem (by omega))]; rfl
  refine ⟨Nat.lt_of_lt_of_le h.lt (but_setCells b cs 0 w w (But.refl _ w)).size, fun i u hu => ?_, fun i hi => ?_⟩
  · obtain ⟨hj, hv⟩ := List.getElem?_eq_some_iff.1 hu
    have := World.cell?_setCells_in b cs 0 w hc i hj
    rw [Nat.zero_add] at this
    rw [this, hv]
  · rw [World.frozen?_setCells]; exact h.fz i (by omega)

end Go.Proofs.Ytepigofpcjmddaa

namespace Go.Proofs.Ytepigofpcjmddaa
open Go.RowKit

theorem run_store_flt {P : Program} (a : Addr) (n : Nat) (w : World) : (store a (.float .f64 n)).run P w = stored P w a (.float .f64 n) .plain := run_store P w a _ _ rfl

/-- Integers in a row. -/
def IntsAt (w : World) (a : Option Addr) (l : List Int) : Prop :=
  ∀ i, i < l.length → ∃ b, a = some ⟨b, 0, none⟩ ∧ b < w.heap.size ∧ w.cell? ⟨b, i, none⟩ = some (.int .i64 l[i]!)
theorem IntsAt.below {w w' : World} {a : Option Addr} {l : List Int} (h : IntsAt w a l) (hb : Below w.heap.size w w') : IntsAt w' a l := fun i hi => by
  obtain ⟨b, h1, h2, h3⟩ := h i hi
  exact ⟨b, h1, Nat.lt_of_lt_of_le h2 hb.size, by rw [hb.cell (p := ⟨b, i, none⟩) h2]; exact h3⟩

/-- The operations of a kind: the first, the last. -/
def opFrom (k : Int) : Int := if k = 1 then 1 else if k = 2 then 3 else if k = 3 then 5 else if k = 4 then 7 else 0
def opTo (k : Int) : Int := if k = 1 then 2 else if k = 2 then 4 else if k = 3 then 6 else if k = 4 then 7 else -1
def opl (k : Int) : List Int := if k = 1 then [1, 2] else if k = 2 then [3, 4] else if k = 3 then [5, 6] else if k = 4 then [7] else []
theorem kinds (k : Int) : k = 1 ∨ k = 2 ∨ k = 3 ∨ k = 4 ∨ (¬ k = 1 ∧ ¬ k = 2 ∧ ¬ k = 3 ∧ ¬ k = 4) := by omega
theorem opl_none {k : Int} (h : ¬ k = 1 ∧ ¬ k = 2 ∧ ¬ k = 3 ∧ ¬ k = 4) : opl k = [] ∧ opFrom k = 0 ∧ opTo k = -1 := by
  unfold opl opFrom opTo
  rw [if_neg h.1, if_neg h.2.1, if_neg h.2.2.1, if_neg h.2.2.2, if_neg h.1, if_neg h.2.1, if_neg h.2.2.1, if_neg h.2.2.2, if_neg h.1, if_neg h.2.1, if_neg h.2.2.1, if_neg h.2.2.2]
  exact ⟨rfl, rfl, rfl⟩
theorem opl_length (k : Int) : ((opl k).length : Int) = opTo k - opFrom k + 1 ∧ (opl k).length ≤ 2 := by
  rcases kinds k with rfl | rfl | rfl | rfl | h
  · decide
  · decide
  · decide
  · decide
  · rw [(opl_none h).1, (opl_none h).2.1, (opl_none h).2.2]; decide
theorem opl_get (k : Int) (i : Nat) (hi : i < (opl k).length) : (opl k)[i]! = opFrom k + (i : Int) := by
  rcases kinds k with rfl | rfl | rfl | rfl | h
  · have : i = 0 ∨ i = 1 := by have : i < 2 := hi; omega
    rcases this with rfl | rfl <;> decide
  · have : i = 0 ∨ i = 1 := by have : i < 2 := hi; omega
    rcases this with rfl | rfl <;> decide
  · have : i = 0 ∨ i = 1 := by have : i < 2 := hi; omega
    rcases this with rfl | rfl <;> decide
  · have : i = 0 := by have : i < 1 := hi; omega
    subst this; decide
  · rw [(opl_none h).1] at hi; exact absurd hi (Nat.not_lt_zero _)
theorem op_rng (k : Int) : 0 ≤ opFrom k ∧ opFrom k ≤ 7 ∧ -1 ≤ opTo k ∧ opTo k ≤ 7 ∧ (∀ x, x ∈ opl k ↔ opFrom k ≤ x ∧ x ≤ opTo k) := by
  rcases kinds k with rfl | rfl | rfl | rfl | h
  · refine ⟨by decide, by decide, by decide, by decide, fun x => ?_⟩
    show x ∈ [(1 : Int), 2] ↔ (1 : Int) ≤ x ∧ x ≤ 2
    simp; omega
  · refine ⟨by decide, by decide, by decide, by decide, fun x => ?_⟩
    show x ∈ [(3 : Int), 4] ↔ (3 : Int) ≤ x ∧ x ≤ 4
    simp; omega
  · refine ⟨by decide, by decide, by decide, by decide, fun x => ?_⟩
    show x ∈ [(5 : Int), 6] ↔ (5 : Int) ≤ x ∧ x ≤ 6
    simp; omega
  · refine ⟨by decide, by decide, by decide, by decide, fun x => ?_⟩
    show x ∈ [(7 : Int)] ↔ (7 : Int) ≤ x ∧ x ≤ 7
    simp; omega
  · rw [(opl_none h).1, (opl_none h).2.1, (opl_none h).2.2]
    refine ⟨by decide, by decide, by decide, by decide, fun x => ?_⟩
    simp; omega

theorem ints_new (w : World) (l : List Int) (t : TypeId) : IntsAt (w.alloc (.cells (l.map (Value.int .i64)).toArray t)) (some ⟨w.heap.size, 0, none⟩) l := fun i hi =>
  ⟨w.heap.size, rfl, by simp, by rw [World.cell?_alloc_new, List.getElem?_toArray, List.getElem?_map, List.getElem?_eq_getElem hi, getElem!_pos l i hi]; rfl⟩

theorem of_any (k : Int) (w : World) : Calls Try.prog 96 #[.int .i64 k] w fun e w' => ∃ a, e = .returned (.slice a (opl k).length (opl k).length) ∧ IntsAt w' a (opl k) ∧ Below w.heap.size w w' := by
  rcases kinds k with rfl | rfl | rfl | rfl | h
  · go_enter Try.func96, Try.ntmps96
    go_wp2
    go_ret
    exact ⟨_, rfl, ints_new w [1, 2] _, (Below.refl _ _).alloc (Nat.le_refl _) _⟩
  · go_enter Try.func96, Try.ntmps96
    go_wp2
    go_ret
    exact ⟨_, rfl, ints_new w [3, 4] _, (Below.refl _ _).alloc (Nat.le_refl _) _⟩
  · go_enter Try.func96, Try.ntmps96
    go_wp2
    go_ret
    exact ⟨_, rfl, ints_new w [5, 6] _, (Below.refl _ _).alloc (Nat.le_refl _) _⟩
  · go_enter Try.func96, Try.ntmps96
    go_wp2
    go_ret
    exact ⟨_, rfl, ints_new w [7] _, (Below.refl _ _).alloc (Nat.le_refl _) _⟩
  · rw [(opl_none h).1]
    obtain ⟨h1, h2, h3, h4⟩ := h
    go_enter Try.func96, Try.ntmps96
    go_wp2
    go_ret
    exact ⟨none, rfl, fun i hi => absurd hi (Nat.not_lt_zero _), Below.refl _ _⟩

end Go.Proofs.Ytepigofpcjmddaa

namespace Go.Proofs.Ytepigofpcjmddaa
open Go.RowKit

/-- A draw among so many. -/
def into (d n : Int) : Int := if n < 1 then 0 else d % n
theorem into_lo {d n : Int} (h : n < 1) : into d n = 0 := if_pos h
theorem into_hi {d n : Int} (h : ¬ n < 1) : into d n = d % n := if_neg h
theorem tmod_emod_nonneg {d n : Int} (hn : 1 ≤ n) (h : 0 ≤ d.tmod n) : d.tmod n = d % n := by
  have h1 := Int.tmod_add_mul_tdiv d n
  have h2 := Int.tmod_lt_of_pos d (show 0 < n by omega)
  have h3 : d.tmod n % n = d.tmod n := Int.emod_eq_of_lt h h2
  have h4 : d % n = (d.tmod n + n * d.tdiv n) % n := by rw [h1]
  rw [h4, Int.add_mul_emod_self_left, h3]
theorem tmod_emod_neg {d n : Int} (hn : 1 ≤ n) (h : d.tmod n < 0) : d.tmod n + n = d % n := by
  have h1 := Int.tmod_add_mul_tdiv d n
  have h2 := Int.lt_tmod_of_pos d (show 0 < n by omega)
  have h3 : (d.tmod n + n) % n = d.tmod n + n := Int.emod_eq_of_lt (by omega) (by omega)
  have h4 : d % n = (d.tmod n + n * d.tdiv n) % n := by rw [h1]
  rw [h4, Int.add_mul_emod_self_left, ← h3, Int.add_emod_right]
theorem into_rng {d n : Int} (hn : 1 ≤ n) : 0 ≤ into d n ∧ into d n < n := by
  rw [into_hi (by omega)]
  exact ⟨Int.emod_nonneg _ (by omega), Int.emod_lt_of_pos _ (by omega)⟩

def pow2 (p : Int) : Bool := decide (p = 1 ∨ p = 2 ∨ p = 4 ∨ p = 8 ∨ p = 16)
theorem pow2_any (p : Int) (w : World) (h : 1 ≤ p ∧ p ≤ 16) : Calls Try.prog 97 #[.int .i64 p] w fun e w' => e = .returned (.bool (pow2 p)) ∧ w' = w := by
  have hp : bits .and .i64 p (p - 1) = 0 ↔ pow2 p = true := by
    have : p = 1 ∨ p = 2 ∨ p = 3 ∨ p = 4 ∨ p = 5 ∨ p = 6 ∨ p = 7 ∨ p = 8 ∨ p = 9 ∨ p = 10 ∨ p = 11 ∨ p = 12 ∨ p = 13 ∨ p = 14 ∨ p = 15 ∨ p = 16 := by omega
    rcases this with rfl | rfl | rfl | rfl | rfl | rfl | rfl | rfl | rfl | rfl | rfl | rfl | rfl | rfl | rfl | rfl <;> decide
  cases hq : pow2 p
  · have hb : (bits .and .i64 p (p - 1) == 0) = false := by
      cases he : (bits .and .i64 p (p - 1) == 0)
      · rfl
      · rw [hp.1 (by simpa using he)] at hq; cases hq
    clear hp hq
    go_enter Try.func97, Try.ntmps97
    go_wp2
    go_ret
    exact ⟨rfl, rfl⟩
  · have hb := hp.2 hq
    clear hp hq
    go_enter Try.func97, Try.ntmps97
    go_wp2
    go_ret
    exact ⟨rfl, rfl⟩

/-- May a structure of a kind have this parameter? -/
def legal (k p : Int) : Int := if ¬ (1 ≤ k ∧ k ≤ 4) then 6 else if ¬ (1 ≤ p ∧ p ≤ 16) then 5 else if k = 4 ∧ pow2 p = false then 5 else 0
theorem legal_kind {k p : Int} (h : ¬ (1 ≤ k ∧ k ≤ 4)) : legal k p = 6 := if_pos h
theorem legal_par {k p : Int} (h : 1 ≤ k ∧ k ≤ 4) (hp : ¬ (1 ≤ p ∧ p ≤ 16)) : legal k p = 5 := by unfold legal; rw [if_neg (fun e => e h), if_pos hp]
theorem legal_net {k p : Int} (h : 1 ≤ k ∧ k ≤ 4) (hp : 1 ≤ p ∧ p ≤ 16) (hq : k = 4 ∧ pow2 p = false) : legal k p = 5 := by unfold legal; rw [if_neg (fun e => e h), if_neg (fun e => e hp), if_pos hq]
theorem legal_ok {k p : Int} (h : 1 ≤ k ∧ k ≤ 4) (hp : 1 ≤ p ∧ p ≤ 16) (hq : ¬ (k = 4 ∧ pow2 p = false)) : legal k p = 0 := by unfold legal; rw [if_neg (fun e => e h), if_neg (fun e => e hp), if_neg hq]
theorem opl_pos (k : Int) : ((opl k).length = 0 ↔ ¬ (1 ≤ k ∧ k ≤ 4)) := by
  rcases kinds k with rfl | rfl | rfl | rfl | h
  · decide
  · decide
  · decide
  · decide
  · rw [(opl_none h).1]; simp; omega

set_option maxHeartbeats 2000000 in
theorem legal_any (k p : Int) (w : World) : Calls Try.prog 64 #[.int .i64 k, .int .i64 p] w fun e w' => e = .returned (.int .i64 (legal k p)) ∧ Below w.heap.size w w' := by
  have hO := of_any k w
  have hl := opl_pos k
  have hl2 := (opl_length k).2
  generalize opl k = l at *
  by_cases hk : 1 ≤ k ∧ k ≤ 4
  · have hn : ((l.length : Int) == 0) = false := by
      have : ¬ l.length = 0 := fun e => hl.1 e hk
      simp; intro e; exact this (by simp [e])
    generalize l.length = n at *
    clear hl hl2
    by_cases hp : p < 1
    · rw [legal_par hk (by omega)]
      clear hk
      go_enter Try.func64, Try.ntmps64
      go_wp2_with (go_at_call 96; refine hO.mono ?_; rintro e w1 ⟨a, rfl, hi, hb⟩)
      go_ret
      exact ⟨rfl, hb⟩
    · have hp1 : decide (p < 1) = false := decide_eq_false hp
      by_cases hq : 16 < p
      · rw [legal_par hk (by omega)]
        clear hk hp
        go_enter Try.func64, Try.ntmps64
        go_wp2_with (go_at_call 96; refine hO.mono ?_; rintro e w1 ⟨a, rfl, hi, hb⟩)
        go_ret
        exact ⟨rfl, hb⟩
      · have hq1 : decide (16 < p) = false := decide_eq_false hq
        have hpp : 1 ≤ p ∧ p ≤ 16 := by omega
        have hP := fun w => pow2_any p w hpp
        by_cases h4 : k = 4
        · cases hz : pow2 p
          · rw [legal_net hk hpp ⟨h4, hz⟩]
            rw [hz] at hP
            subst h4
            clear hk hp hpp hz hq
            go_enter Try.func64, Try.ntmps64
            go_wp2_with (first | (go_at_call 96; refine hO.mono ?_; rintro e w1 ⟨a, rfl, hi, hb⟩) | (go_at_call 97; refine (hP _).mono ?_; rintro e w2 ⟨rfl, hw⟩; replace hw := hw.symm; subst hw))
            go_ret
            exact ⟨rfl, hb⟩
          · rw [legal_ok hk hpp (fun e => by rw [hz] at e; cases e.2)]
            rw [hz] at hP
            subst h4
            clear hk hp hpp hz hq
            go_enter Try.func64, Try.ntmps64
            go_wp2_with (first | (go_at_call 96; refine hO.mono ?_; rintro e w1 ⟨a, rfl, hi, hb⟩) | (go_at_call 97; refine (hP _).mono ?_; rintro e w2 ⟨rfl, hw⟩; replace hw := hw.symm; subst hw))
            go_ret
            exact ⟨rfl, hb⟩
        · rw [legal_ok hk hpp (fun e => h4 e.1)]
          have h41 : (k == 4) = false := by simpa using h4
          clear hk hp hpp hq h4 hP
          go_enter Try.func64, Try.ntmps64
          go_wp2_with (go_at_call 96; refine hO.mono ?_; rintro e w1 ⟨a, rfl, hi, hb⟩)
          go_ret
          exact ⟨rfl, hb⟩
  · rw [legal_kind hk]
    have hn : l.length = 0 := hl.2 hk
    rw [hn] at hO
    clear hl hl2 hn hk
    go_enter Try.func64, Try.ntmps64
    go_wp2_with (go_at_call 96; refine hO.mono ?_; rintro e w1 ⟨a, rfl, hi, hb⟩)
    go_ret
    exact ⟨rfl, hb⟩

end Go.Proofs.Ytepigofpcjmddaa

namespace Go.Proofs.Ytepigofpcjmddaa
open Go.RowKit Go.Sort

/-- An answer. -/
structure Ans where
  ok : Bool
  pri : Nat
  val : Int
  n : Int
def Ans.zero : Ans := ⟨false, 0, 0, 0⟩
abbrev Ans.l (a : Ans) : List Value := [.bool a.ok, .float .f64 a.pri, .int .i64 a.val, .int .i64 a.n]
abbrev Ans.v (a : Ans) : Value := .agg #[.bool a.ok, .float .f64 a.pri, .int .i64 a.val, .int .i64 a.n]

/-- An operation under way. -/
structure Fr where
  kind : Int
  pri : Nat
  val : Int
  d0 : Int
  d1 : Int
  pc : Int
  at_ : Int
  seen : Int
  seg : Int
  total : Int
  empty : Bool
  c0 : CV
  c1 : CV
/-- One that begins. -/
def Fr.of (kind : Int) (pri : Nat) (val d0 d1 : Int) : Fr := ⟨kind, pri, val, d0, d1, 0, 0, 0, 0, 0, false, CV.zero, CV.zero⟩
abbrev Fr.l (F : Fr) (a0 : Option Addr) (k0 : Nat) (a1 : Option Addr) (k1 : Nat) : List Value :=
  [.int .i64 F.kind, .float .f64 F.pri, .int .i64 F.val, .int .i64 F.d0, .int .i64 F.d1, .int .i64 F.pc, .int .i64 F.at_, .int .i64 F.seen, .int .i64 F.seg, .int .i64 F.total, .bool F.empty,
    .int .u64 F.c0.ver, .int .i64 F.c0.n, .slice a0 F.c0.L.length k0, .int .u64 F.c1.ver, .int .i64 F.c1.n, .slice a1 F.c1.L.length k1]
/-- It lies at block fb; P: the blocks that it owns. -/
structure FrAt (w : World) (fb : Nat) (P : Nat → Prop) (F : Fr) : Prop where
  ob : P fb
  lt : ∀ k, P k → k < w.heap.size
  box : ∃ a0 k0 a1 k1, BoxAt w fb (F.l a0 k0 a1 k1) ∧ SlAt 2 w a0 k0 F.c0.L.length (flatI F.c0.L) ∧ SlAt 2 w a1 k1 F.c1.L.length (flatI F.c1.L) ∧ (∀ j, inB a0 j → P j ∧ j ≠ fb) ∧ (∀ j, inB a1 j → P j ∧ j ≠ fb)
theorem FrAt.but {w w' : World} {fb : Nat} {P S : Nat → Prop} {F : Fr} (h : FrAt w fb P F) (hb : But S w w') (hS : ∀ k, P k → ¬ S k) : FrAt w' fb P F := by
  obtain ⟨a0, k0, a1, k1, h1, h2, h3, h4, h5⟩ := h.box
  exact ⟨h.ob, fun k hk => Nat.lt_of_lt_of_le (h.lt k hk) hb.size, a0, k0, a1, k1, h1.but hb (hS fb h.ob), h2.but hb (fun j hj => hS j (h4 j hj).1), h3.but hb (fun j hj => hS j (h5 j hj).1), h4, h5⟩
theorem FrAt.below {w w' : World} {fb : Nat} {P : Nat → Prop} {F : Fr} (h : FrAt w fb P F) (hb : Below w.heap.size w w') : FrAt w' fb P F := h.but (S := fun _ => False) (But.of_below hb) (fun _ _ e => e)

/-- What a machine's step does: the memory, the operation, the answer, is it done? -/
abbrev StepFn := Mem → Fr → Mem × Fr × Ans × Bool
/-- Some blocks, and new ones. -/
def Grown (O : Nat → Prop) (w w' : World) (O' : Nat → Prop) : Prop := ∀ k, O' k → O k ∨ (w.heap.size ≤ k ∧ k < w'.heap.size)
theorem Grown.refl (O : Nat → Prop) (w w' : World) : Grown O w w' O := fun _ h => .inl h
theorem Grown.trans {O O' O2 : Nat → Prop} {w w1 w2 : World} (h : Grown O w w1 O') (k : Grown O' w1 w2 O2) (h1 : w.heap.size ≤ w1.heap.size) (h2 : w1.heap.size ≤ w2.heap.size) : Grown O w w2 O2 := fun j hj => by
  rcases k j hj with e | e
  · rcases h j e with e | e
    · exact .inl e
    · exact .inr ⟨e.1, by omega⟩
  · exact .inr ⟨by omega, e.2⟩
theorem Grown.own' (O : Nat → Prop) (w w' : World) : Grown O w w' (own' O w w') := fun _ h => h
/-- How a step ends. -/
def StepEnd (b fb : Nat) (O P : Nat → Prop) (r : Mem × Fr × Ans × Bool) (w : World) (e : Ending) (w' : World) : Prop :=
  e = .returned (.tuple #[r.2.2.1.v, .bool r.2.2.2]) ∧ ∃ O' P', MemAt w' b O' r.1 ∧ FrAt w' fb P' r.2.1 ∧ (∀ k, O' k → ¬ P' k) ∧ Grown O w w' O' ∧ Grown P w w' P' ∧ But (fun k => O k ∨ P k) w w'
/-- Function f is a machine's step. -/
def IsStep (f : FuncId) (recv : Value) (G : Mem → Fr → Prop) (st : StepFn) : Prop :=
  ∀ (w : World) (b fb : Nat) (O P : Nat → Prop) (M : Mem) (F : Fr), MemAt w b O M → FrAt w fb P F → (∀ k, O k → ¬ P k) → G M F → M.clock < 4611686018427387904 →
    Calls Try.prog f #[recv, .pointer (some ⟨b, 0, none⟩), .pointer (some ⟨fb, 0, none⟩)] w (StepEnd b fb O P (st M F) w)
end Go.Proofs.Ytepigofpcjmddaa
