/-
  What turns in a memory, and what stays; slices by their cells one behind the other: appending to them.
  Layer 4: items, their order, their places: contracts.
  Canonical items, and their order.
  Layer 4: the library's heap over a pile's items: contracts.
  Calls through the heap's interface of a pile's items: which function is met, with which receiver.
  Layer 4: the library's heap, sifting: contracts.
  Layer 4: the library's heap, sifting up: contract.
  Layer 4: one more item, one less: contracts.
  Layer 4: the library's heap: Init, Push, Pop: contracts.
  Layer 4: items made canonical, a pile of them: contracts.
  Layer 4: its calls: contracts.
  How many a pile has: contract.
  Infinities: contract.
  Layer 4's laws: items in the making, the document's answers: contracts.
  Layer 4: Take; items in the making; the answers that the document fixes.
  Layer 4's answers that the document fixes: the call returns true.
  Slices that are nil or lie at the beginning of a block of their own, by their cells one behind the other: appending, copying.
  Slices of items: copying.
  Canonical items, as a cell has them.
  A slice of elements of k cells in a block of its own, by its cells one behind the other: appending to it.
  The document's items, one behind the other.
-/
import Derived.Test.YtepigofpcjmddaaChecked
import Derived.WalkKit
import Derived.WalkSpells
import Derived.Laws.Cover2
import Derived.Laws.Externs
import Derived.Deep.RegionWith
import Derived.Deep.AppendSrc
import Derived.Deep.Upon
import Derived.Laws.IdiomStrings
import Derived.Laws.IdiomCopy
import Derived.Deep.RegionLaw
import Derived.BigQuiet
import Derived.Deep.QuietTactic
import Derived.Sort.Lot0
import Derived.Sort.LotA
import Derived.Test.YtepigofpcjmddaaRealW
import Derived.Test.YtepigofpcjmddaaHeapM
namespace Go.Proofs.Ytepigofpcjmddaa
open Go.RowKit Go.Sort

theorem hidq {p : Prop} (h : p) : Hid p := h
theorem hidd {p : Prop} (h : p) : Hid p := h
theorem run_store_float {P : Program} (a : Addr) (n : Nat) (w : World) : (store a (.float .f64 n)).run P w = stored P w a (.float .f64 n) .plain := run_store P w a _ _ rfl

/-- But for some blocks, and new ones, nothing has turned. -/
structure But (S : Nat → Prop) (w w' : World) : Prop where
  os : w'.os = w.os
  tape : w'.tape = w.tape
  output : w'.output = w.output
  size : w.heap.size ≤ w'.heap.size
  block : ∀ k, k < w.heap.size → ¬ S k → w'.heap[k]? = w.heap[k]?
theorem But.refl (S : Nat → Prop) (w : World) : But S w w := ⟨rfl, rfl, rfl, Nat.le_refl _, fun _ _ _ => rfl⟩
theorem But.trans {S : Nat → Prop} {a b c : World} (h : But S a b) (k : But S b c) : But S a c :=
  ⟨k.os.trans h.os, k.tape.trans h.tape, k.output.trans h.output, Nat.le_trans h.size k.size, fun i hi hn => (k.block i (Nat.lt_of_lt_of_le hi h.size) hn).trans (h.block i hi hn)⟩
theorem But.mono {S T : Nat → Prop} {a b : World} (h : But S a b) (hT : ∀ k, k < a.heap.size → S k → T k) : But T a b :=
  ⟨h.os, h.tape, h.output, h.size, fun i hi hn => h.block i hi (fun e => hn (hT i hi e))⟩
theorem But.of_below {S : Nat → Prop} {a b : World} (h : Below a.heap.size a b) : But S a b := ⟨h.os, h.tape, h.output, h.size, fun i hi _ => h.block i hi⟩
theorem But.below {S : Nat → Prop} {a b : World} {B : Nat} (h : But S a b) (hB : B ≤ a.heap.size) (hS : ∀ k, S k → B ≤ k) : Below B a b :=
  ⟨h.os, h.tape, h.output, h.size, fun i hi => h.block i (by omega) (fun e => by have := hS i e; omega)⟩
theorem But.drew {S : Nat → Prop} {a b : World} (h : But S a b) : But S a b.drew := ⟨h.os, h.tape, h.output, h.size, h.block⟩
theorem But.drewN {S : Nat → Prop} {a b : World} (h : But S a b) (n : Nat) : But S a (b.drewN n) := ⟨h.os, h.tape, h.output, h.size, h.block⟩
theorem But.alloc {S : Nat → Prop} {a b : World} (h : But S a b) (o : Obj) : But S a (b.alloc o) := h.trans (But.of_below ((Below.refl _ _).alloc (Nat.le_refl _) o))
theorem heap_set_ne (w : World) (p : Addr) (v : Value) {i : Nat} (h : i ≠ p.block) : (w.setCell p v).heap[i]? = w.heap[i]? := by
  simp only [World.setCell, Array.getElem?_modify]
  rw [if_neg (Ne.symm h)]
theorem But.setCell {S : Nat → Prop} {a b : World} (h : But S a b) {p : Addr} (hp : a.heap.size ≤ p.block ∨ S p.block) (v : Value) : But S a (b.setCell p v) := by
  refine ⟨h.os, h.tape, h.output, by rw [World.size_setCell]; exact h.size, fun i hi hn => ?_⟩
  have hne : i ≠ p.block := fun e => by subst e; rcases hp with h1 | h1; · omega
                                        · exact hn h1
  rw [← h.block i hi hn]
  exact heap_set_ne b p v hne
theorem But.cell {S : Nat → Prop} {a b : World} (h : But S a b) {p : Addr} (hp : p.block < a.heap.size) (hS : ¬ S p.block) : b.cell? p = a.cell? p := World.cell?_of_block (h.block p.block hp hS)
theorem But.frozen {S : Nat → Prop} {a b : World} (h : But S a b) {p : Addr} (hp : p.block < a.heap.size) (hS : ¬ S p.block) : b.frozen? p = a.frozen? p := World.frozen?_of_block (h.block p.block hp hS)
theorem But.set1 {S : Nat → Prop} {a b : World} (h : But S a b) (g o : Nat) (hg : S g) (v : Value) : But S a (b.setCell ⟨g, o, none⟩ v) := h.setCell (p := ⟨g, o, none⟩) (.inr hg) v
theorem But.then {S T : Nat → Prop} {a b c : World} (h : But S a b) (k : But T b c) (hT : ∀ i, i < a.heap.size → T i → S i) : But S a c :=
  ⟨k.os.trans h.os, k.tape.trans h.tape, k.output.trans h.output, Nat.le_trans h.size k.size, fun i hi hn => (k.block i (Nat.lt_of_lt_of_le hi h.size) (fun e => hn (hT i hi e))).trans (h.block i hi hn)⟩
theorem below_drewN {B : Nat} {a b : World} (h : Below B a b) (n : Nat) : Below B a (b.drewN n) := ⟨h.os, h.tape, h.output, h.size, h.block⟩

/-- Block g holds n elements of k cells, l one behind the other, with room for cap. -/
structure Flat (k : Nat) (w : World) (g cap n : Nat) (l : List Value) : Prop where
  lt : g < w.heap.size
  len : l.length = n * k
  le : n ≤ cap
  cmax : cap ≤ maxLen
  cell : ∀ t u, l[t]? = some u → w.cell? ⟨g, t, none⟩ = some u
  one : ∀ u ∈ l, u.oneCell' = true
  there : ∀ j, j < cap * k → (w.cell? ⟨g, j, none⟩).isSome = true ∧ w.frozen? ⟨g, j, none⟩ = false

section
variable {k g cap n : Nat} {l : List Value} {w w' : World} {S : Nat → Prop}
theorem Flat.but (h : Flat k w g cap n l) (hb : But S w w') (hS : ¬ S g) : Flat k w' g cap n l :=
  ⟨Nat.lt_of_lt_of_le h.lt hb.size, h.len, h.le, h.cmax, fun t u hu => (hb.cell (p := ⟨g, t, none⟩) h.lt hS).trans (h.cell t u hu), h.one,
   fun j hj => by rw [hb.cell (p := ⟨g, j, none⟩) h.lt hS, hb.frozen (p := ⟨g, j, none⟩) h.lt hS]; exact h.there j hj⟩
theorem Flat.src {P : Program} {tx e : TypeId} (h : Flat k w g cap n l) (hk : P.underlying tx = some (.slice e)) : Src P k tx (.slice (some ⟨g, 0, none⟩) n cap) n l w :=
  Src.ofSlice w hk ⟨g, 0, none⟩ n cap l h.len (fun j u hu => by rw [Addr.add_lit, Nat.zero_add]; exact h.cell j u hu) h.one
/-- A fresh one. -/
theorem Flat.new (w : World) (l : List Value) (e : TypeId) (k n : Nat) (hl : l.length = n * k) (hn : n ≤ maxLen) (h1 : ∀ u ∈ l, u.oneCell' = true) : Flat k (w.alloc (.cells l.toArray e)) w.heap.size n n l :=
  ⟨by simp, hl, Nat.le_refl _, hn, fun t u hu => by rw [World.cell?_alloc_new, List.getElem?_toArray]; exact hu, h1,
   fun j hj => ⟨by rw [World.cell?_alloc_new, List.getElem?_toArray, List.getElem?_eq_getElem (by omega)]; rfl, World.frozen?_alloc_new w _ _ _⟩⟩

theorem but_setCells (b : Nat) : ∀ (vs : List Value) (o : Nat) (w0 w : World), But (fun j => j = b) w0 w → But (fun j => j = b) w0 (w.setCells b o vs)
  | [], _, _, _, h => h
  | v :: vs, o, w0, _, h => but_setCells b vs (o + 1) w0 _ (h.set1 b o rfl v)

theorem flat_append {P : Program} (k : Nat) (T E ty : TypeId) (i : TypeInfo) (z : Value) (hT : P.underlying T = some (.slice E)) (hi : P.info? E = some i) (hz : i.zero = some z) (hsz : i.size = k) (hzc : z.cells.size = k)
    (w : World) (g cap n : Nat) (l : List Value) (h : Flat k w g cap n l) (x : Value) (m : Nat) (ys : List Value) (hs : Src P k T x m ys w) (hmx : n + m ≤ maxLen) (hby : (n + m) * i.bytes ≤ 140737488355328) :
    ∃ g' cap' w', (Builtin.append_ #[T, T] ty #[.slice (some ⟨g, 0, none⟩) n cap, x]).run P w = .ok (.slice (some ⟨g', 0, none⟩) (n + m) cap') w' ∧
      Flat k w' g' cap' (n + m) (l ++ ys) ∧ But (fun j => j = g) w w' ∧ (g' = g ∨ w.heap.size ≤ g') := by
  subst hsz
  have hl := h.len
  have hyl := hs.newsLen
  by_cases hroom : n + m ≤ cap
  · have hin : ∀ j, j < ys.length → 0 + n * i.size + j < cap * i.size := fun j hj => by
      have h1 : (n + m) * i.size ≤ cap * i.size := Nat.mul_le_mul_right _ hroom
      rw [Nat.add_mul] at h1
      omega
    have hr := run_append_room_src (P := P) w T T ty E i hT hi g 0 n cap x m ys hs hroom (fun j hj => (h.there _ (hin j hj)).1) (fun j hj => (h.there _ (hin j hj)).2)
    have hsome : ∀ j, j < ys.length → (w.cell? ⟨g, 0 + n * i.size + j, none⟩).isSome = true := fun j hj => (h.there _ (hin j hj)).1
    have hb := but_setCells g ys (0 + n * i.size) w w (But.refl _ w)
    refine ⟨g, cap, _, hr, ?_, hb, .inl rfl⟩
    refine ⟨Nat.lt_of_lt_of_le h.lt hb.size, by rw [List.length_append, hl, hyl, Nat.add_mul], hroom, h.cmax, ?_, ?_, ?_⟩
    · intro t u hu
      by_cases e : t < l.length
      · rw [List.getElem?_append_left e] at hu
        rw [World.cell?_setCells_out g ys _ w ⟨g, t, none⟩ (fun _ _ => .inl (by show t < _; omega))]
        exact h.cell t u hu
      · rw [List.getElem?_append_right (by omega)] at hu
        obtain ⟨hj, hv⟩ := List.getElem?_eq_some_iff.1 hu
        have := World.cell?_setCells_in g ys (0 + n * i.size) w hsome (t - l.length) hj
        rw [show 0 + n * i.size + (t - l.length) = t by omega] at this
        rw [this, hv]
    · intro u hu
      rcases List.mem_append.1 hu with hu | hu
      · exact h.one u hu
      · exact hs.one u hu
    · intro j hj
      refine ⟨?_, by rw [World.frozen?_setCells]; exact (h.there j hj).2⟩
      by_cases e : n * i.size ≤ j ∧ j < n * i.size + ys.length
      · have := World.cell?_setCells_in g ys (0 + n * i.size) w hsome (j - n * i.size) (by omega)
        rw [show 0 + n * i.size + (j - n * i.size) = j by omega] at this
        rw [this]; rfl
      · rw [World.cell?_setCells_out g ys _ w ⟨g, j, none⟩ (fun _ _ => by show j < _ ∨ _ ≤ j; omega)]
        exact (h.there j hj).1
  · have hold : (Builtin.firstCells i.size n (.slice (some ⟨g, 0, none⟩) n cap)).run P w.drew = .ok l.toArray w.drew :=
      run_firstCells_some w.drew i.size n ⟨g, 0, none⟩ n cap l hl (fun j u hu => by
        rw [Addr.add_lit, Nat.zero_add]; exact h.cell j u hu)
    have hg : cap < n + m := by omega
    have h63 : ((n + m : Nat) : Int) ≤ 9223372036854775807 := by unfold maxLen at hmx; omega
    have hr := run_append_grow_src (P := P) w T T ty E i z hT hi hz (some ⟨g, 0, none⟩) n cap l hold x m ys hs hg h63 (growslice_fits hg hby)
    have hge := grownCap_ge w (n + m) cap E
    have hcm := grownCap_le_maxLen w (n + m) cap E hmx
    generalize grownCap w (n + m) cap E = C at hr hge hcm
    have hc : ∀ j, (w.drew.alloc (.cells ((l ++ ys).toArray ++ Builtin.zeroCells z.cells (C - (n + m))) E)).cell? ⟨w.heap.size, j, none⟩ = ((l ++ ys).toArray ++ Builtin.zeroCells z.cells (C - (n + m)))[j]? := fun j => World.cell?_alloc_new w.drew _ _ j
    have hll : (l ++ ys).length = (n + m) * i.size := by rw [List.length_append, hl, hyl, Nat.add_mul]
    refine ⟨w.heap.size, C, _, hr, ?_, But.of_below ⟨rfl, rfl, rfl, by simp, fun j hj => Below.heap_alloc w.drew _ j hj⟩, .inr (Nat.le_refl _)⟩
    refine ⟨by simp, hll, hge, hcm, ?_, ?_, ?_⟩
    · intro t u hu
      have ht : t < (l ++ ys).length := (List.getElem?_eq_some_iff.1 hu).1
      rw [hc, Array.getElem?_append_left (by simpa using ht), List.getElem?_toArray]
      exact hu
    · intro u hu
      rcases List.mem_append.1 hu with hu | hu
      · exact h.one u hu
      · exact hs.one u hu
    · intro j hj
      refine ⟨?_, World.frozen?_alloc_new w.drew _ _ _⟩
      rw [hc]
      have : j < ((l ++ ys).toArray ++ Builtin.zeroCells z.cells (C - (n + m))).size := by
        rw [Array.size_append, size_zeroCells, List.size_toArray, hll]
        have e2 : (n + m) * i.size + (C - (n + m)) * i.size = C * i.size := by rw [← Nat.add_mul]; congr 1; omega
        rw [hzc]
        first | omega | (rw [Nat.mul_comm] at e2; omega)
      rw [Array.getElem?_eq_getElem this]; rfl
end

/-- What is asked of the element's type. -/
def PlainK (P : Program) (k : Nat) (T E : TypeId) : Prop := ∃ i z, P.underlying T = some (.slice E) ∧ P.info? E = some i ∧ i.zero = some z ∧ i.size = k ∧ z.cells.size = k ∧ i.bytes ≤ 128
theorem wpList_flat {P : Program} {k : Nat} {T E : TypeId} (hp : PlainK P k T E) (w : World) {ops : Array Oper} {rest : List Oper} {o : Oper} {a : Act} {Q : Exit → Act → World → Prop}
    (hg : o.guard = none) (s x : Operand) (hop : o.op = Op.call { callee := Callee.builtin Builtin.append, args := #[s, x], argTypes := #[T, T] })
    (g cap n : Nat) (l : List Value) (hs : a.eval s = .slice (some ⟨g, 0, none⟩) n cap) (hF : Flat k w g cap n l) (xv : Value) (hx : a.eval x = xv) (m : Nat) (ys : List Value)
    (hsrc : Src P k T xv m ys w) (hb : n + m ≤ 1099511627776)
    (hK : ∀ g' cap' w', Flat k w' g' cap' (n + m) (l ++ ys) → But (fun j => j = g) w w' → (g' = g ∨ w.heap.size ≤ g') → wpList P ops Q rest (a.put o.dst (.slice (some ⟨g', 0, none⟩) (n + m) cap')) w') : wpList P ops Q (o :: rest) a w := by
  refine wpList_plain hg fun K hK' => ?_
  obtain ⟨i, z, hT, hi, hz, hsz, hzc, hby⟩ := hp
  have hm : n + m ≤ maxLen := by unfold maxLen; omega
  have hb2 : (n + m) * i.bytes ≤ 140737488355328 := Nat.le_trans (Nat.mul_le_mul hb hby) (by decide)
  obtain ⟨g', cap', w', hrun, r1, r2, r3⟩ := flat_append k T E o.type i z hT hi hz hsz hzc w g cap n l hF xv m ys hsrc hm hb2
  unfold Oper.wp
  simp [execOp, hop, resolve, invoke, builtin, hs, hx, hrun, Result.andThen]
  exact hK' _ _ (hK g' cap' w' r1 r2 r3)
/-- append as one step of a region that draws, by what it comes to. -/
theorem step_append {P : Program} {ops : Array Oper} {o : Oper} {a : Act} {w : World} {K : Act → World → Prop} {Q : Exit → Act → World → Prop} {E : Prop}
    (hg : o.guard = none) (s x : Operand) (t : TypeId) (hop : o.op = Op.call { callee := Callee.builtin Builtin.append, args := #[s, x], argTypes := #[t, t] })
    (vs vx : Value) (hs : a.eval s = vs) (hx : a.eval x = vx) (v' : Value) (w' : World) (hrun : (Builtin.append_ #[t, t] o.type #[vs, vx]).run P w = .ok v' w') (hK : K (a.put o.dst v') w') :
    if Region.wanted o (yielded ops a.tmps) = true then Oper.wp P o a w K Q else E := by
  have hw : Region.wanted o (yielded ops a.tmps) = true := by simp [Region.wanted, hg]
  rw [if_pos hw]
  unfold Oper.wp
  simp [execOp, hop, resolve, invoke, builtin, hs, hx, hrun, Result.andThen]
  exact hK
end Go.Proofs.Ytepigofpcjmddaa

namespace Go.Proofs.Ytepigofpcjmddaa
open Go.RowKit Go.Sort

theorem cisNaNi_any (x : Int) (w : World) : Calls Try.prog 119 #[.int .i64 x] w fun e w' => e = .returned (.bool false) ∧ w' = w := by
  go_enter Try.func119, Try.ntmps119
  go_wp2
  go_ret
  exact ⟨rfl, rfl⟩
theorem comparei_any (x y : Int) (w : World) : Calls Try.prog 95 #[.int .i64 x, .int .i64 y] w fun e w' => e = .returned (.int .i64 (cmpI x y)) ∧ w' = w := by
  rcases Int.lt_trichotomy x y with h | h | h
  · rw [cmpI_lt h]
    go_enter Try.func95, Try.ntmps95
    go_wp2_with (go_at_call 119; refine (cisNaNi_any _ _).mono ?_; rintro e w' ⟨rfl, rfl⟩)
    go_ret
    exact ⟨rfl, rfl⟩
  · rw [cmpI_eq h]
    subst h
    go_enter Try.func95, Try.ntmps95
    go_wp2_with (go_at_call 119; refine (cisNaNi_any _ _).mono ?_; rintro e w' ⟨rfl, rfl⟩)
    go_ret
    exact ⟨rfl, rfl⟩
  · rw [cmpI_gt h]
    have h' : ¬ x < y := by omega
    go_enter Try.func95, Try.ntmps95
    go_wp2_with (go_at_call 119; refine (cisNaNi_any _ _).mono ?_; rintro e w' ⟨rfl, rfl⟩)
    go_ret
    exact ⟨rfl, rfl⟩


/-- How two items stand, by bits. -/
def cmpN (m : Nat) (a : Int) (n : Nat) (b : Int) : Int := if cmpI (key m) (key n) = 0 then cmpI a b else cmpI (key m) (key n)
theorem cmpN_same {m n : Nat} (h : cmpI (key m) (key n) = 0) (a b : Int) : cmpN m a n b = cmpI a b := if_pos h
theorem cmpN_other {m n : Nat} (h : ¬ cmpI (key m) (key n) = 0) (a b : Int) : cmpN m a n b = cmpI (key m) (key n) := if_neg h

/-- An item in a box. -/
abbrev boxI (m : Nat) (a : Int) : Obj := .cells #[.float .f64 m, .int .i64 a] 29

theorem icmp_any (m n : Nat) (a b : Int) (w : World) (hm : m < 18446744073709551616) (hn : n < 18446744073709551616) :
    Calls Try.prog 63 #[.agg #[.float .f64 m, .int .i64 a], .agg #[.float .f64 n, .int .i64 b]] w fun e w' => e = .returned (.int .i64 (cmpN m a n b)) ∧ w' = (w.alloc (boxI m a)).alloc (boxI n b) := by
  have hC := fun w => cmp_any m n w hm hn
  obtain ⟨c, hc⟩ : ∃ c, cmpI (key m) (key n) = c := ⟨_, rfl⟩
  by_cases h0 : c = 0
  · rw [cmpN_same (by rw [hc]; exact h0)]
    subst h0
    rw [hc] at hC
    clear hc hm hn
    go_enter Try.func63, Try.ntmps63
    go_wp2_with (first
      | (go_at_call 94; refine (hC _).mono ?_; rintro e w1 ⟨rfl, hw1⟩; replace hw1 := hw1.symm; subst hw1)
      | (go_at_call 95; refine (comparei_any _ _ _).mono ?_; rintro e w1 ⟨rfl, hw1⟩; replace hw1 := hw1.symm; subst hw1))
    go_ret
    exact ⟨rfl, rfl⟩
  · rw [cmpN_other (by rw [hc]; exact h0), hc]
    have hb : (c != 0) = true := by simpa using h0
    rw [hc] at hC
    clear hc hm hn
    go_enter Try.func63, Try.ntmps63
    go_wp2_with (first
      | (go_at_call 94; refine (hC _).mono ?_; rintro e w1 ⟨rfl, hw1⟩; replace hw1 := hw1.symm; subst hw1))
    go_ret
    exact ⟨rfl, rfl⟩

theorem icanon_any (m : Nat) (a : Int) (w : World) :
    Calls Try.prog 49 #[.agg #[.float .f64 m, .int .i64 a]] w fun e w' => e = .returned (.agg #[.float .f64 (cbits m), .int .i64 a]) ∧ Below w.heap.size w w' := by
  have hsf := run_store_float (P := Try.prog)
  go_enter Try.func49, Try.ntmps49
  go_wp2_with (go_at_call 89; refine (canon_any _ _).mono ?_; rintro e w1 ⟨rfl, hw1⟩; replace hw1 := hw1.symm; subst hw1)
  exact bodyPost_ret (v := .agg #[.float .f64 (cbits m), .int .i64 a]) (by simp [results, Try.results49, go_sem]) rfl ⟨rfl, ((Below.refl _ _).alloc (Nat.le_refl _) _).alloc (by simp) _⟩
end Go.Proofs.Ytepigofpcjmddaa

namespace Go.Proofs.Ytepigofpcjmddaa
open Go.RowKit Go.Sort

/-- A canonical item: none is that of bits 0 and value 0. -/
abbrev KI := Option { p : Nat × Int // (p.1 < 18446744073709551616 ∧ cbits p.1 = p.1) ∧ p ≠ (0, 0) }
def KI.b (x : KI) : Nat := match x with | none => 0 | some p => p.1.1
def KI.v (x : KI) : Int := match x with | none => 0 | some p => p.1.2
theorem KI.ok (x : KI) : x.b < 18446744073709551616 ∧ cbits x.b = x.b := by
  match x with
  | none => exact ⟨by decide, by decide⟩
  | some p => exact p.2.1
theorem KI.ext' {x y : KI} (hb : x.b = y.b) (hv : x.v = y.v) : x = y := by
  match x, y with
  | none, none => rfl
  | none, some q => exact absurd (Prod.ext hb.symm hv.symm) q.2.2
  | some p, none => exact absurd (Prod.ext hb hv) p.2.2
  | some p, some q => exact congrArg some (Subtype.ext (Prod.ext hb hv))
def KI.of (b : Nat) (v : Int) (ok : b < 18446744073709551616 ∧ cbits b = b) : KI := if h : (b, v) = (0, 0) then none else some ⟨(b, v), ok, h⟩
theorem KI.of_b (b : Nat) (v : Int) (ok : b < 18446744073709551616 ∧ cbits b = b) : (KI.of b v ok).b = b := by
  unfold KI.of
  split
  case isTrue h => injection h with h1 h2; exact h1.symm
  case isFalse h => rfl
theorem KI.of_v (b : Nat) (v : Int) (ok : b < 18446744073709551616 ∧ cbits b = b) : (KI.of b v ok).v = v := by
  unfold KI.of
  split
  case isTrue h => injection h with h1 h2; exact h2.symm
  case isFalse h => rfl
def KI.lt (x y : KI) : Bool := decide (cmpN x.b x.v y.b y.v < 0)
theorem key_canon {m n : Nat} (hm : m < 18446744073709551616 ∧ cbits m = m) (hn : n < 18446744073709551616 ∧ cbits n = n) (h : key m = key n) : m = n := by
  unfold key keyI ni at h
  rw [hm.2, hn.2] at h
  split at h <;> split at h <;> omega
theorem cmpN_lt (m n : Nat) (a b : Int) : cmpN m a n b < 0 ↔ key m < key n ∨ (key m = key n ∧ a < b) := by
  unfold cmpN
  have h1 := cmpI_neg_iff (key m) (key n)
  have h2 := cmpI_zero (key m) (key n)
  have h3 := cmpI_neg_iff a b
  generalize cmpI (key m) (key n) = c at *
  generalize key m = p at *
  generalize key n = q at *
  split
  · rw [h3]
    constructor
    · intro h; exact .inr ⟨h2.1 ‹_›, h⟩
    · rintro (h | h)
      · omega
      · exact h.2
  · rw [h1]
    constructor
    · intro h; exact .inl h
    · rintro (h | h)
      · exact h
      · exact absurd (h2.2 h.1) ‹_›
theorem KI.lt_iff (x y : KI) : x.lt y = true ↔ key x.b < key y.b ∨ (key x.b = key y.b ∧ x.v < y.v) := by
  unfold KI.lt; rw [decide_eq_true_eq, cmpN_lt]
theorem KI.lt_false (x y : KI) : x.lt y = false ↔ ¬ (key x.b < key y.b ∨ (key x.b = key y.b ∧ x.v < y.v)) := by
  rw [← KI.lt_iff]; cases x.lt y <;> simp
theorem KI.swo : SWO KI.lt where
  irrefl x := by rw [KI.lt_false]; omega
  trans x y z h1 h2 := by
    rw [KI.lt_iff] at *
    generalize key x.b = p at *; generalize key y.b = q at *; generalize key z.b = r at *
    omega
  ntrans x y z h1 h2 := by
    rw [KI.lt_false] at *
    generalize key x.b = p at *; generalize key y.b = q at *; generalize key z.b = r at *
    omega
theorem KI.total (x y : KI) (h1 : x.lt y = false) (h2 : y.lt x = false) : x = y := by
  rw [KI.lt_false] at h1 h2
  have hk : key x.b = key y.b := by
    generalize key x.b = p at *; generalize key y.b = q at *; omega
  have hb := key_canon x.ok y.ok hk
  have hv : x.v = y.v := by
    rw [hk] at h1 h2; omega
  exact KI.ext' hb hv

theorem cbits_idem (n : Nat) : cbits (cbits n) = cbits n := by
  cases h : nanB n
  · rw [cbits_num h, cbits_num h]
  · rw [cbits_nan h]; decide
/-- Made canonical. -/
def mkKI (p : Nat) (v : Int) : KI := if h : p < 18446744073709551616 then KI.of (cbits p) v ⟨cbits_lt h, cbits_idem p⟩ else none
theorem mkKI_b {p : Nat} (h : p < 18446744073709551616) (v : Int) : (mkKI p v).b = cbits p := by unfold mkKI; rw [dif_pos h]; exact KI.of_b _ _ _
theorem mkKI_v {p : Nat} (h : p < 18446744073709551616) (v : Int) : (mkKI p v).v = v := by unfold mkKI; rw [dif_pos h]; exact KI.of_v _ _ _
theorem mkKI_self (x : KI) : mkKI x.b x.v = x := by
  have h1 := mkKI_b x.ok.1 x.v
  rw [x.ok.2] at h1
  exact KI.ext' h1 (mkKI_v x.ok.1 x.v)
def kiOf (P V : Nat → Int) (i : Nat) : KI := mkKI (nf (P i)) (V i)
end Go.Proofs.Ytepigofpcjmddaa

namespace Go.Proofs.Ytepigofpcjmddaa
open Go.RowKit Go.Sort

/-- Block g holds a row of items with room for cap. -/
structure Row (w : World) (g cap : Nat) (d : Array KI) : Prop where
  lt : g < w.heap.size
  le : d.size ≤ cap
  max : d.size ≤ 1099511627776
  cmax : cap ≤ maxLen
  flt : ∀ i, i < d.size → w.cell? ⟨g, i * 2, none⟩ = some (.float .f64 d[i]!.b)
  val : ∀ i, i < d.size → w.cell? ⟨g, i * 2 + 1, none⟩ = some (.int .i64 d[i]!.v)
  there : ∀ j, j < cap * 2 → (w.cell? ⟨g, j, none⟩).isSome = true ∧ w.frozen? ⟨g, j, none⟩ = false

theorem less_any (g cap i j : Nat) (d : Array KI) (w : World) (h : Row w g cap d) (hi : i < d.size) (hj : j < d.size) :
    Calls Try.prog 185 #[.slice (some ⟨g, 0, none⟩) d.size cap, .int .i64 (i : Int), .int .i64 (j : Int)] w fun e w' => e = .returned (.bool (d[i]!.lt d[j]!)) ∧ Below w.heap.size w w' := by
  have f1 := h.flt i hi
  have f2 := h.flt j hj
  have v1 := h.val i hi
  have v2 := h.val j hj
  generalize d[i]! = x at *
  generalize d[j]! = y at *
  have hN := h.max
  have hle := h.le
  obtain ⟨n, hn⟩ : ∃ n, d.size = n := ⟨_, rfl⟩
  rw [hn] at hi hj hle hN ⊢
  have i1 : (i : Int) < (n : Int) := by omega
  have j1 : (j : Int) < (n : Int) := by omega
  have hC := fun w => icmp_any x.b y.b x.v y.v w x.ok.1 y.ok.1
  obtain ⟨c, hc⟩ : ∃ c, cmpN x.b x.v y.b y.v = c := ⟨_, rfl⟩
  rw [hc] at hC
  have hl : x.lt y = decide (c < 0) := by unfold KI.lt; rw [hc]
  rw [hl]
  clear hl hc hn h
  go_enter Try.func185, Try.ntmps185
  go_wp2
  go_region_with (go_at_call 63; refine (hC _).mono ?_; rintro e w1 ⟨rfl, rfl⟩)
  all_goals go_wp2
  all_goals go_ret
  all_goals exact ⟨rfl, (((Below.refl _ _).alloc (Nat.le_refl _) _).alloc (by simp) _).drew⟩

theorem Row.but {S : Nat → Prop} {w w' : World} {g cap : Nat} {d : Array KI} (h : Row w g cap d) (hb : But S w w') (hS : ¬ S g) : Row w' g cap d :=
  ⟨Nat.lt_of_lt_of_le h.lt hb.size, h.le, h.max, h.cmax, fun i hi => by rw [hb.cell (p := ⟨g, i * 2, none⟩) h.lt hS]; exact h.flt i hi,
   fun i hi => by rw [hb.cell (p := ⟨g, i * 2 + 1, none⟩) h.lt hS]; exact h.val i hi,
   fun j hj => by rw [hb.cell (p := ⟨g, j, none⟩) h.lt hS, hb.frozen (p := ⟨g, j, none⟩) h.lt hS]; exact h.there j hj⟩

/-- One item is laid over another one. -/
theorem Row.set {w : World} {g cap : Nat} {d : Array KI} (h : Row w g cap d) (i : Nat) (hi : i < d.size) (x : KI) :
    Row ((w.setCell ⟨g, i * 2, none⟩ (.float .f64 x.b)).setCell ⟨g, i * 2 + 1, none⟩ (.int .i64 x.v)) g cap (d.setIfInBounds i x) := by
  have s1 : (w.cell? ⟨g, i * 2, none⟩).isSome = true := by rw [h.flt i hi]; rfl
  have hne : ∀ a b : Nat, a ≠ b → (⟨g, a, none⟩ : Addr) ≠ ⟨g, b, none⟩ := fun a b hab e => by injection e; omega
  have s2 : ((w.setCell ⟨g, i * 2, none⟩ (.float .f64 x.b)).cell? ⟨g, i * 2 + 1, none⟩).isSome = true := by
    rw [World.cell?_setCell_other _ _ _ _ (hne _ _ (by omega)), h.val i hi]; rfl
  have gx : ∀ k, k < d.size → (d.setIfInBounds i x)[k]! = if k = i then x else d[k]! := fun k hk => by
    rw [getElem!_pos (d.setIfInBounds i x) k (by simpa using hk), getElem!_pos d k hk, Array.getElem_setIfInBounds (by simpa using hk)]
    by_cases e : i = k
    · subst e; simp
    · rw [if_neg e, if_neg (Ne.symm e)]
  refine ⟨by rw [World.size_setCell, World.size_setCell]; exact h.lt, by simpa using h.le, by simpa using h.max, h.cmax, fun k hk => ?_, fun k hk => ?_, fun j hj => ⟨?_, ?_⟩⟩
  · have hk' : k < d.size := by simpa using hk
    rw [gx k hk', World.cell?_setCell_other _ _ _ _ (hne _ _ (by omega))]
    by_cases e : k = i
    · subst e; rw [if_pos rfl, World.cell?_setCell_same' _ _ _ s1]
    · rw [if_neg e, World.cell?_setCell_other _ _ _ _ (hne _ _ (by omega))]; exact h.flt k hk'
  · have hk' : k < d.size := by simpa using hk
    rw [gx k hk']
    by_cases e : k = i
    · subst e; rw [if_pos rfl, World.cell?_setCell_same' _ _ _ s2]
    · rw [if_neg e, World.cell?_setCell_other _ _ _ _ (hne _ _ (by omega)), World.cell?_setCell_other _ _ _ _ (hne _ _ (by omega))]; exact h.val k hk'
  · by_cases e2 : j = i * 2 + 1
    · subst e2; rw [World.cell?_setCell_same' _ _ _ s2]; rfl
    · rw [World.cell?_setCell_other _ _ _ _ (hne _ _ (Ne.symm e2))]
      by_cases e1 : j = i * 2
      · subst e1; rw [World.cell?_setCell_same' _ _ _ s1]; rfl
      · rw [World.cell?_setCell_other _ _ _ _ (hne _ _ (Ne.symm e1))]; exact (h.there j hj).1
  · rw [World.frozen?_setCell, World.frozen?_setCell]; exact (h.there j hj).2

theorem but4 (w : World) (g a b c e : Nat) (v1 v2 v3 v4 : Value) : But (fun k => k = g) w (((((w.setCell ⟨g, a, none⟩ v1).setCell ⟨g, b, none⟩ v2).setCell ⟨g, c, none⟩ v3).setCell ⟨g, e, none⟩ v4).drew) :=
  (((((But.refl (fun k => k = g) w).set1 g a rfl v1).set1 g b rfl v2).set1 g c rfl v3).set1 g e rfl v4).drew

theorem swap_any (I J : Int) (g cap i j : Nat) (d : Array KI) (w : World) (hI : I = (i : Int)) (hJ : J = (j : Int)) (h : Row w g cap d) (hi : i < d.size) (hj : j < d.size) (hij : i ≠ j) :
    Calls Try.prog 186 #[.slice (some ⟨g, 0, none⟩) d.size cap, .int .i64 I, .int .i64 J] w fun e w' => e = .returned (.tuple #[]) ∧ Row w' g cap (swp d i j) ∧ But (fun k => k = g) w w' := by
  subst hI; subst hJ
  have hend : Row (((((w.setCell ⟨g, i * 2, none⟩ (.float .f64 d[j]!.b)).setCell ⟨g, i * 2 + 1, none⟩ (.int .i64 d[j]!.v)).setCell ⟨g, j * 2, none⟩ (.float .f64 d[i]!.b)).setCell ⟨g, j * 2 + 1, none⟩ (.int .i64 d[i]!.v)).drew) g cap (swp d i j) := by
    have h2 := (h.set i hi d[j]!).set j (by simpa using hj) d[i]!
    exact h2.but (S := fun _ => False) (But.refl _ _).drew id
  have f1 := h.flt i hi
  have f2 := h.flt j hj
  have v1 := h.val i hi
  have v2 := h.val j hj
  generalize d[i]! = x at *
  generalize d[j]! = y at *
  have hN := h.max
  have hle := h.le
  have z1 := (h.there (i * 2) (by omega)).2
  have z2 := (h.there (i * 2 + 1) (by omega)).2
  have z3 := (h.there (j * 2) (by omega)).2
  have z4 := (h.there (j * 2 + 1) (by omega)).2
  clear h
  generalize swp d i j = d2 at hend ⊢
  generalize d.size = n at *
  have i1 : (i : Int) < (n : Int) := by omega
  have j1 : (j : Int) < (n : Int) := by omega
  have hsf := run_store_float (P := Try.prog)
  have n1 : ¬ i * 2 = j * 2 := by omega
  have n2 : ¬ i * 2 = j * 2 + 1 := by omega
  have n3 : ¬ i * 2 + 1 = j * 2 := by omega
  have n4 : ¬ i * 2 + 1 = j * 2 + 1 := by omega
  go_enter Try.func186, Try.ntmps186
  go_wp2
  go_region
  go_wp2
  go_end0
  exact ⟨rfl, hend, but4 _ _ _ _ _ _ _ _ _ _⟩
end Go.Proofs.Ytepigofpcjmddaa

namespace Go.Proofs.Ytepigofpcjmddaa
open Go.RowKit Go.Sort

theorem via (b : Nat) (name : String) (f : Nat) (w : World) (v : Value) (h : w.cell? ⟨b, 0, none⟩ = some v)
    (hm : (method 363 119 (.pointer (some ⟨b, 0, none⟩)) name).run Try.prog w = (Sem.load .plain ⟨b, 0, none⟩ fun v => pure (f, v)).run Try.prog w) :
    (method 363 119 (.pointer (some ⟨b, 0, none⟩)) name).run Try.prog w = .ok (f, v) w := by
  rw [hm]
  simp only [Sem.run, h]
  rfl
theorem mLen (b : Nat) (w : World) (v : Value) (h : w.cell? ⟨b, 0, none⟩ = some v) : (method 363 119 (.pointer (some ⟨b, 0, none⟩)) "Len").run Try.prog w = .ok (184, v) w :=
  via b "Len" 184 w v h (by kernel_rfl)
theorem mLess (b : Nat) (w : World) (v : Value) (h : w.cell? ⟨b, 0, none⟩ = some v) : (method 363 119 (.pointer (some ⟨b, 0, none⟩)) "Less").run Try.prog w = .ok (185, v) w :=
  via b "Less" 185 w v h (by kernel_rfl)
theorem mSwap (b : Nat) (w : World) (v : Value) (h : w.cell? ⟨b, 0, none⟩ = some v) : (method 363 119 (.pointer (some ⟨b, 0, none⟩)) "Swap").run Try.prog w = .ok (186, v) w :=
  via b "Swap" 186 w v h (by kernel_rfl)
theorem mPush (b : Nat) (w : World) : (method 363 119 (.pointer (some ⟨b, 0, none⟩)) "Push").run Try.prog w = .ok (188, .pointer (some ⟨b, 0, none⟩)) w := by kernel_rfl
theorem mPop (b : Nat) (w : World) : (method 363 119 (.pointer (some ⟨b, 0, none⟩)) "Pop").run Try.prog w = .ok (187, .pointer (some ⟨b, 0, none⟩)) w := by kernel_rfl
end Go.Proofs.Ytepigofpcjmddaa

namespace Go.Proofs.Ytepigofpcjmddaa
open Go.RowKit Go.Sort

/-- Block b is a pile whose items lie in block g. -/
structure PileAt (w : World) (b g cap : Nat) (d : Array KI) : Prop where
  hd : w.cell? ⟨b, 0, none⟩ = some (.slice (some ⟨g, 0, none⟩) d.size cap)
  fz : w.frozen? ⟨b, 0, none⟩ = false
  ne : b ≠ g
  blt : b < w.heap.size
  row : Row w g cap d
theorem PileAt.but {S : Nat → Prop} {w w' : World} {b g cap : Nat} {d : Array KI} (h : PileAt w b g cap d) (hb : But S w w') (h1 : ¬ S b) (h2 : ¬ S g) : PileAt w' b g cap d :=
  ⟨by rw [hb.cell (p := ⟨b, 0, none⟩) h.blt h1]; exact h.hd, by rw [hb.frozen (p := ⟨b, 0, none⟩) h.blt h1]; exact h.fz, h.ne, Nat.lt_of_lt_of_le h.blt hb.size, h.row.but hb h2⟩
theorem PileAt.rows {w w' : World} {b g cap : Nat} {d d' : Array KI} (h : PileAt w b g cap d) (hb : But (fun k => k = g) w w') (hr : Row w' g cap d') (hs : d'.size = d.size) : PileAt w' b g cap d' :=
  ⟨by rw [hb.cell (p := ⟨b, 0, none⟩) h.blt h.ne, hs]; exact h.hd, by rw [hb.frozen (p := ⟨b, 0, none⟩) h.blt h.ne]; exact h.fz, h.ne, Nat.lt_of_lt_of_le h.blt hb.size, hr⟩

theorem less_at (I J : Int) (g cap i j : Nat) (d : Array KI) (w : World) (hI : I = (i : Int)) (hJ : J = (j : Int)) (h : Row w g cap d) (hi : i < d.size) (hj : j < d.size) :
    Calls Try.prog 185 #[.slice (some ⟨g, 0, none⟩) d.size cap, .int .i64 I, .int .i64 J] w fun e w' => e = .returned (.bool (d[i]!.lt d[j]!)) ∧ Below w.heap.size w w' := by
  subst hI; subst hJ; exact less_any g cap i j d w h hi hj

/-- What sifting down leaves. -/
structure Sift (w w' : World) (b g cap n : Nat) (d d' : Array KI) : Prop where
  pile : PileAt w' b g cap d'
  but : But (fun k => k = g) w w'
  perm : d'.toList.Perm d.toList
  rest : ∀ x, n ≤ x → d'[x]! = d[x]!
theorem Sift.size {w w' : World} {b g cap n : Nat} {d d' : Array KI} (h : Sift w w' b g cap n d d') : d'.size = d.size := by
  have := h.perm.length_eq; simpa using this

set_option maxHeartbeats 1000000 in
theorem down_any (b g cap n i0 : Nat) (d : Array KI) (w : World) (h : PileAt w b g cap d) (hn : n ≤ d.size) (hh : Hp.Heap KI.lt d n (i0 + 1)) (hi0 : i0 ≤ n) :
    Calls Try.prog 87 #[.iface 119 (.pointer (some ⟨b, 0, none⟩)), .int .i64 (i0 : Int), .int .i64 (n : Int)] w fun e w' => (∃ r, e = .returned (.bool r)) ∧ ∃ d', Sift w w' b g cap n d d' ∧ Hp.Heap KI.lt d' n i0 := by
  have hmax := h.row.max
  have hle := h.row.le
  have hn40 : (n : Int) ≤ 1099511627776 := by omega
  go_enter Try.func87, Try.ntmps87
  go_wp2
  go_loopw [7] (fun a wr => ∃ (i : Nat) (d' : Array KI), a = .int .i64 (i : Int) ∧ i ≤ n ∧ Sift w wr b g cap n d d' ∧ Hp.Down KI.lt d' n i0 i) (fun a _ => n - (intOf a).toNat)
  case atStart => exact ⟨i0, d, rfl, hi0, ⟨h, But.refl _ _, List.Perm.refl _, fun _ _ => rfl⟩, Hp.Down.start hh⟩
  case round =>
    obtain ⟨i, d', rfl, hin, hS, hD⟩ := hrel
    by_cases hj1 : 2 * i + 1 < n
    · have hnd : n ≤ d'.size := by rw [hS.size]; exact hn
      have hP := hS.pile
      have hdn : decide ((n : Int) ≤ 2 * (i : Int) + 1) = false := decide_eq_false (by omega)
      have hdz : decide (2 * (i : Int) + 1 < 0) = false := decide_eq_false (by omega)
      by_cases hj2 : 2 * i + 2 < n
      · have h2n : 2 * (i : Int) + 1 + 1 < (n : Int) := by omega
        cases hl1 : d'[2 * i + 2]!.lt d'[2 * i + 1]!
        · have hL : Hp.Least KI.lt d' n i (2 * i + 1) := ⟨by unfold Hp.Child; omega, by omega, fun o ho hon => by
            unfold Hp.Child at ho
            rcases ho with rfl | rfl
            · exact KI.swo.irrefl _
            · exact hl1⟩
          cases hl2 : d'[2 * i + 1]!.lt d'[i]!
          · have HH := hD.stop KI.swo hL hl2
            have hml := mLess b wr _ hP.hd
            clear hD hL
            go_wp2_with (go_at_call 185; refine (less_at _ _ g cap (2 * i + 2) (2 * i + 1) d' _ (by omega) (by omega) hP.row (by omega) (by omega)).mono ?_; rw [hl1]; rintro e w1 ⟨rfl, hb1⟩; have hP1 := hP.but (S := fun _ => False) (But.of_below hb1) id id; have hml1 := mLess b w1 _ hP1.hd)
            refine (less_at _ _ g cap (2 * i + 1) i d' _ (by omega) (by omega) hP1.row (by omega) (by omega)).mono ?_
            rw [hl2]
            rintro e w2 ⟨rfl, hb2⟩
            have hP2 := hP1.but (S := fun _ => False) (But.of_below hb2) id id
            have hms2 := mSwap b w2 _ hP2.hd
            have hB2 : But (fun k => k = g) w w2 := hS.but.trans ((But.of_below hb1).trans (But.of_below hb2))
            go_wp2
            go_ret
            exact ⟨⟨_, rfl⟩, d', ⟨hP2, hB2, hS.perm, hS.rest⟩, HH⟩
          · have HH := hD.step KI.swo hL hl2 (by omega)
            have hml := mLess b wr _ hP.hd
            clear hD hL
            go_wp2_with (go_at_call 185; refine (less_at _ _ g cap (2 * i + 2) (2 * i + 1) d' _ (by omega) (by omega) hP.row (by omega) (by omega)).mono ?_; rw [hl1]; rintro e w1 ⟨rfl, hb1⟩; have hP1 := hP.but (S := fun _ => False) (But.of_below hb1) id id; have hml1 := mLess b w1 _ hP1.hd)
            refine (less_at _ _ g cap (2 * i + 1) i d' _ (by omega) (by omega) hP1.row (by omega) (by omega)).mono ?_
            rw [hl2]
            rintro e w2 ⟨rfl, hb2⟩
            have hP2 := hP1.but (S := fun _ => False) (But.of_below hb2) id id
            have hms2 := mSwap b w2 _ hP2.hd
            have hB2 : But (fun k => k = g) w w2 := hS.but.trans ((But.of_below hb1).trans (But.of_below hb2))
            go_wp2_with fail
            refine (swap_any _ _ g cap i (2 * i + 1) d' _ (by omega) (by omega) hP2.row (by omega) (by omega) (by omega)).mono ?_
            rintro e w3 ⟨rfl, hr3, hb3⟩
            have hs3 := Hp.swp_perm d' i (2 * i + 1) (by omega) (by omega)
            have hP3 := hP2.rows hb3 hr3 (size_swp _ _ _)
            have HR : ∀ x, n ≤ x → (swp d' i (2 * i + 1))[x]! = d[x]! := fun x hx => by rw [swp_other d' i (2 * i + 1) x (by omega) (by omega)]; exact hS.rest x hx
            go_wp2
            go_roundw
            case rel => exact ⟨2 * i + 1, _, congrArg (Value.int .i64) (by omega), by omega, ⟨hP3, hB2.trans hb3, hs3.trans hS.perm, HR⟩, HH⟩
            case measure => simp [intOf]; omega
        · have hL : Hp.Least KI.lt d' n i (2 * i + 2) := ⟨by unfold Hp.Child; omega, by omega, fun o ho hon => by
            unfold Hp.Child at ho
            rcases ho with rfl | rfl
            · exact Hp.asym KI.swo hl1
            · exact KI.swo.irrefl _⟩
          cases hl2 : d'[2 * i + 2]!.lt d'[i]!
          · have HH := hD.stop KI.swo hL hl2
            have hml := mLess b wr _ hP.hd
            clear hD hL
            go_wp2_with (go_at_call 185; refine (less_at _ _ g cap (2 * i + 2) (2 * i + 1) d' _ (by omega) (by omega) hP.row (by omega) (by omega)).mono ?_; rw [hl1]; rintro e w1 ⟨rfl, hb1⟩; have hP1 := hP.but (S := fun _ => False) (But.of_below hb1) id id; have hml1 := mLess b w1 _ hP1.hd)
            refine (less_at _ _ g cap (2 * i + 2) i d' _ (by omega) (by omega) hP1.row (by omega) (by omega)).mono ?_
            rw [hl2]
            rintro e w2 ⟨rfl, hb2⟩
            have hP2 := hP1.but (S := fun _ => False) (But.of_below hb2) id id
            have hms2 := mSwap b w2 _ hP2.hd
            have hB2 : But (fun k => k = g) w w2 := hS.but.trans ((But.of_below hb1).trans (But.of_below hb2))
            go_wp2
            go_ret
            exact ⟨⟨_, rfl⟩, d', ⟨hP2, hB2, hS.perm, hS.rest⟩, HH⟩
          · have HH := hD.step KI.swo hL hl2 (by omega)
            have hml := mLess b wr _ hP.hd
            clear hD hL
            go_wp2_with (go_at_call 185; refine (less_at _ _ g cap (2 * i + 2) (2 * i + 1) d' _ (by omega) (by omega) hP.row (by omega) (by omega)).mono ?_; rw [hl1]; rintro e w1 ⟨rfl, hb1⟩; have hP1 := hP.but (S := fun _ => False) (But.of_below hb1) id id; have hml1 := mLess b w1 _ hP1.hd)
            refine (less_at _ _ g cap (2 * i + 2) i d' _ (by omega) (by omega) hP1.row (by omega) (by omega)).mono ?_
            rw [hl2]
            rintro e w2 ⟨rfl, hb2⟩
            have hP2 := hP1.but (S := fun _ => False) (But.of_below hb2) id id
            have hms2 := mSwap b w2 _ hP2.hd
            have hB2 : But (fun k => k = g) w w2 := hS.but.trans ((But.of_below hb1).trans (But.of_below hb2))
            go_wp2_with fail
            refine (swap_any _ _ g cap i (2 * i + 2) d' _ (by omega) (by omega) hP2.row (by omega) (by omega) (by omega)).mono ?_
            rintro e w3 ⟨rfl, hr3, hb3⟩
            have hs3 := Hp.swp_perm d' i (2 * i + 2) (by omega) (by omega)
            have hP3 := hP2.rows hb3 hr3 (size_swp _ _ _)
            have HR : ∀ x, n ≤ x → (swp d' i (2 * i + 2))[x]! = d[x]! := fun x hx => by rw [swp_other d' i (2 * i + 2) x (by omega) (by omega)]; exact hS.rest x hx
            go_wp2
            go_roundw
            case rel => exact ⟨2 * i + 2, _, congrArg (Value.int .i64) (by omega), by omega, ⟨hP3, hB2.trans hb3, hs3.trans hS.perm, HR⟩, HH⟩
            case measure => simp [intOf]; omega
      · have h2n : decide (2 * (i : Int) + 1 + 1 < (n : Int)) = false := decide_eq_false (by omega)
        have hL : Hp.Least KI.lt d' n i (2 * i + 1) := ⟨by unfold Hp.Child; omega, by omega, fun o ho hon => by
          unfold Hp.Child at ho
          rcases ho with rfl | rfl
          · exact KI.swo.irrefl _
          · exfalso; omega⟩
        cases hl2 : d'[2 * i + 1]!.lt d'[i]!
        · have HH := hD.stop KI.swo hL hl2
          have hml := mLess b wr _ hP.hd
          clear hD hL
          go_wp2_with fail
          refine (less_at _ _ g cap (2 * i + 1) i d' _ (by omega) (by omega) hP.row (by omega) (by omega)).mono ?_
          rw [hl2]
          rintro e w2 ⟨rfl, hb2⟩
          have hP2 := hP.but (S := fun _ => False) (But.of_below hb2) id id
          have hms2 := mSwap b w2 _ hP2.hd
          have hB2 : But (fun k => k = g) w w2 := hS.but.trans (But.of_below hb2)
          go_wp2
          go_ret
          exact ⟨⟨_, rfl⟩, d', ⟨hP2, hB2, hS.perm, hS.rest⟩, HH⟩
        · have HH := hD.step KI.swo hL hl2 (by omega)
          have hml := mLess b wr _ hP.hd
          clear hD hL
          go_wp2_with fail
          refine (less_at _ _ g cap (2 * i + 1) i d' _ (by omega) (by omega) hP.row (by omega) (by omega)).mono ?_
          rw [hl2]
          rintro e w2 ⟨rfl, hb2⟩
          have hP2 := hP.but (S := fun _ => False) (But.of_below hb2) id id
          have hms2 := mSwap b w2 _ hP2.hd
          have hB2 : But (fun k => k = g) w w2 := hS.but.trans (But.of_below hb2)
          go_wp2_with fail
          refine (swap_any _ _ g cap i (2 * i + 1) d' _ (by omega) (by omega) hP2.row (by omega) (by omega) (by omega)).mono ?_
          rintro e w3 ⟨rfl, hr3, hb3⟩
          have hs3 := Hp.swp_perm d' i (2 * i + 1) (by omega) (by omega)
          have hP3 := hP2.rows hb3 hr3 (size_swp _ _ _)
          have HR : ∀ x, n ≤ x → (swp d' i (2 * i + 1))[x]! = d[x]! := fun x hx => by rw [swp_other d' i (2 * i + 1) x (by omega) (by omega)]; exact hS.rest x hx
          go_wp2
          go_roundw
          case rel => exact ⟨2 * i + 1, _, congrArg (Value.int .i64) (by omega), by omega, ⟨hP3, hB2.trans hb3, hs3.trans hS.perm, HR⟩, HH⟩
          case measure => simp [intOf]; omega
    · have hge : (n : Int) ≤ 2 * (i : Int) + 1 := by omega
      have HE := hD.done (by omega)
      clear hD
      go_wp2
      go_ret
      exact ⟨⟨_, rfl⟩, d', hS, HE⟩
end Go.Proofs.Ytepigofpcjmddaa

namespace Go.Proofs.Ytepigofpcjmddaa
open Go.RowKit Go.Sort

set_option maxHeartbeats 1000000 in
theorem up_any (b g cap j0 : Nat) (d : Array KI) (w : World) (h : PileAt w b g cap d) (hj0 : j0 < d.size) (hu : Hp.Up KI.lt d d.size j0) :
    Calls Try.prog 88 #[.iface 119 (.pointer (some ⟨b, 0, none⟩)), .int .i64 (j0 : Int)] w fun e w' => e = .returned (.tuple #[]) ∧ ∃ d', Sift w w' b g cap d.size d d' ∧ Hp.Heap KI.lt d' d.size 0 := by
  have hmax := h.row.max
  have hle := h.row.le
  obtain ⟨n, hn⟩ : ∃ n, n = d.size := ⟨_, rfl⟩
  rw [← hn] at hj0 hu hle hmax ⊢
  go_enter Try.func88, Try.ntmps88
  go_wp2
  go_loopw [1] (fun a wr => ∃ (j : Nat) (d' : Array KI), a = .int .i64 (j : Int) ∧ j < n ∧ Sift w wr b g cap n d d' ∧ Hp.Up KI.lt d' n j) (fun a _ => (intOf a).toNat)
  case atStart => exact ⟨j0, d, rfl, hj0, ⟨h, But.refl _ _, List.Perm.refl _, fun _ _ => rfl⟩, hu⟩
  case round =>
    obtain ⟨j, d', rfl, hjn, hS, hU⟩ := hrel
    have hnd : n = d'.size := by rw [hS.size]; exact hn
    have hnd2 : n ≤ d'.size := by omega
    have HN : Hid (n = d'.size) := hnd
    clear hnd
    have hP := hS.pile
    have hml := mLess b wr _ hP.hd
    rcases j with _ | k
    · have HH := hU.top
      clear hU
      go_wp2
      go_end0
      exact ⟨rfl, d', hS, HH⟩
    · have hne : ((k : Int) / 2 == (k : Int) + 1) = false := by simp; omega
      have hC : Hp.Child (k + 1) (k / 2) := by unfold Hp.Child; omega
      have hk40 : (k : Int) ≤ 1099511627776 := by omega
      cases hl : d'[k + 1]!.lt d'[k / 2]!
      · have HH := hU.stop hC hl
        clear hU hC
        go_wp2_with (go_at_call 185; refine (less_at _ _ g cap (k + 1) (k / 2) d' _ (by omega) (by omega) hP.row (by omega) (by omega)).mono ?_; rw [hl]; rintro e w1 ⟨rfl, hb1⟩; have hP1 := hP.but (S := fun _ => False) (But.of_below hb1) id id)
        go_end0
        exact ⟨rfl, d', ⟨hP1, hS.but.trans (But.of_below hb1), hS.perm, hS.rest⟩, HH⟩
      · have HH := hU.step KI.swo hC hl hjn hnd2
        clear hU hC
        go_wp2_with (go_at_call 185; refine (less_at _ _ g cap (k + 1) (k / 2) d' _ (by omega) (by omega) hP.row (by omega) (by omega)).mono ?_; rw [hl]; rintro e w1 ⟨rfl, hb1⟩; have hP1 := hP.but (S := fun _ => False) (But.of_below hb1) id id; have hms1 := mSwap b w1 _ hP1.hd)
        refine (swap_any _ _ g cap (k / 2) (k + 1) d' _ (by omega) (by omega) hP1.row (by omega) (by omega) (by omega)).mono ?_
        rintro e w3 ⟨rfl, hr3, hb3⟩
        have hs3 := Hp.swp_perm d' (k / 2) (k + 1) (by omega) (by omega)
        have hP3 := hP1.rows hb3 hr3 (size_swp _ _ _)
        have HR : ∀ x, n ≤ x → (swp d' (k / 2) (k + 1))[x]! = d[x]! := fun x hx => by rw [swp_other d' (k / 2) (k + 1) x (by omega) (by omega)]; exact hS.rest x hx
        go_wp2
        go_roundw
        case rel => exact ⟨k / 2, _, congrArg (Value.int .i64) (by omega), by omega, ⟨hP3, (hS.but.trans (But.of_below hb1)).trans hb3, hs3.trans hS.perm, HR⟩, HH⟩
        case measure => simp [intOf]; omega
end Go.Proofs.Ytepigofpcjmddaa

namespace Go.Proofs.Ytepigofpcjmddaa
open Go.RowKit Go.Sort

/-- A row's cells, one behind the other. -/
def cellOf (d : Array KI) (t : Nat) : Value := if t % 2 = 0 then .float .f64 d[t / 2]!.b else .int .i64 d[t / 2]!.v
def flat (d : Array KI) : List Value := (List.range (d.size * 2)).map (cellOf d)
theorem flat_length (d : Array KI) : (flat d).length = d.size * 2 := by simp [flat]
theorem flat_get (d : Array KI) {t : Nat} {u : Value} (h : (flat d)[t]? = some u) : t < d.size * 2 ∧ u = cellOf d t := by
  have ht : t < (flat d).length := (List.getElem?_eq_some_iff.1 h).1
  rw [flat_length] at ht
  refine ⟨ht, ?_⟩
  simp [flat, ht] at h
  exact h.symm
theorem Row.cell {w : World} {g cap : Nat} {d : Array KI} (h : Row w g cap d) {t : Nat} (ht : t < d.size * 2) : w.cell? ⟨g, t, none⟩ = some (cellOf d t) := by
  unfold cellOf
  by_cases e : t % 2 = 0
  · have := h.flt (t / 2) (by omega)
    rw [show t / 2 * 2 = t by omega] at this
    rw [if_pos e]; exact this
  · have := h.val (t / 2) (by omega)
    rw [show t / 2 * 2 + 1 = t by omega] at this
    rw [if_neg e]; exact this
theorem Row.ofCells {w : World} {g cap : Nat} {d : Array KI} (h1 : g < w.heap.size) (h2 : d.size ≤ cap) (h3 : d.size ≤ 1099511627776) (h4 : cap ≤ maxLen) (h5 : ∀ t, t < d.size * 2 → w.cell? ⟨g, t, none⟩ = some (cellOf d t))
    (h6 : ∀ j, j < cap * 2 → (w.cell? ⟨g, j, none⟩).isSome = true ∧ w.frozen? ⟨g, j, none⟩ = false) : Row w g cap d :=
  ⟨h1, h2, h3, h4, fun i hi => by rw [h5 (i * 2) (by omega)]; unfold cellOf; rw [if_pos (by omega), show i * 2 / 2 = i by omega],
   fun i hi => by rw [h5 (i * 2 + 1) (by omega)]; unfold cellOf; rw [if_neg (by omega), show (i * 2 + 1) / 2 = i by omega], h6⟩
theorem push_get (d : Array KI) (x : KI) {i : Nat} (h : i < d.size) : (d.push x)[i]! = d[i]! := by
  rw [getElem!_pos (d.push x) i (by simp; omega), getElem!_pos d i h, Array.getElem_push_lt h]
theorem push_last (d : Array KI) (x : KI) : (d.push x)[d.size]! = x := by
  rw [getElem!_pos (d.push x) d.size (by simp), Array.getElem_push_eq]
theorem cellOf_push (d : Array KI) (x : KI) {t : Nat} (h : t < d.size * 2) : cellOf (d.push x) t = cellOf d t := by
  unfold cellOf; rw [push_get d x (by omega)]
theorem cellOf_last (d : Array KI) (x : KI) : cellOf (d.push x) (d.size * 2) = .float .f64 x.b ∧ cellOf (d.push x) (d.size * 2 + 1) = .int .i64 x.v := by
  unfold cellOf
  rw [if_pos (by omega), if_neg (by omega), show d.size * 2 / 2 = d.size by omega, show (d.size * 2 + 1) / 2 = d.size by omega, push_last]
  exact ⟨rfl, rfl⟩

theorem info_item : ∃ i : TypeInfo, Try.prog.info? 29 = some i ∧ i.zero = some (.agg #[.float .f64 0, .int .i64 0]) ∧ i.size = 2 ∧ i.bytes = 16 := by
  have h : (Try.prog.info? 29).map (fun i => (i.zero, i.size, i.bytes)) = some (some (.agg #[.float .f64 0, .int .i64 0]), 2, 16) := by kernel_rfl
  obtain ⟨i, hi, he⟩ := Option.map_eq_some_iff.1 h
  simp only [Prod.mk.injEq] at he
  exact ⟨i, hi, he.1, he.2.1, he.2.2⟩

theorem row_append (g cap a : Nat) (d : Array KI) (x : KI) (w : World) (h : Row w g cap d) (hx1 : w.cell? ⟨a, 0, none⟩ = some (.float .f64 x.b)) (hx2 : w.cell? ⟨a, 1, none⟩ = some (.int .i64 x.v)) (hs : d.size + 1 ≤ 1099511627776) :
    ∃ g' cap' w', (Builtin.append_ #[115, 115] 115 #[.slice (some ⟨g, 0, none⟩) d.size cap, .slice (some ⟨a, 0, none⟩) 1 1]).run Try.prog w = .ok (.slice (some ⟨g', 0, none⟩) (d.size + 1) cap') w' ∧
      Row w' g' cap' (d.push x) ∧ But (fun k => k = g) w w' ∧ (g' = g ∨ w.heap.size ≤ g') := by
  obtain ⟨i, hi, hz, hsz, hby⟩ := info_item
  have hsrc : Src Try.prog i.size 115 (.slice (some ⟨a, 0, none⟩) 1 1) 1 [.float .f64 x.b, .int .i64 x.v] w := by
    rw [hsz]
    refine Src.ofSlice w Try.underlying115 _ 1 1 _ rfl (fun j u hu => ?_) (fun u hu => by simp at hu; rcases hu with rfl | rfl <;> rfl)
    rw [Addr.add_lit]
    rcases j with _ | _ | j
    · simp at hu; subst hu; exact hx1
    · simp at hu; subst hu; exact hx2
    · simp at hu
  by_cases hroom : d.size + 1 ≤ cap
  · have hin : ∀ j, j < 2 → 0 + d.size * i.size + j < cap * 2 := fun j hj => by rw [hsz]; omega
    have hr := run_append_room_src (P := Try.prog) w 115 115 115 29 i Try.underlying115 hi g 0 d.size cap _ 1 _ hsrc hroom (fun j hj => (h.there _ (hin j hj)).1) (fun j hj => (h.there _ (hin j hj)).2)
    rw [show 0 + d.size * i.size = d.size * 2 by rw [hsz]; omega] at hr
    have hne : ∀ p q : Nat, p ≠ q → (⟨g, p, none⟩ : Addr) ≠ ⟨g, q, none⟩ := fun p q hpq e => by injection e; omega
    have t1 := (h.there (d.size * 2) (by omega)).1
    have t2 : ((w.setCell ⟨g, d.size * 2, none⟩ (.float .f64 x.b)).cell? ⟨g, d.size * 2 + 1, none⟩).isSome = true := by
      rw [World.cell?_setCell_other _ _ _ _ (hne _ _ (by omega))]; exact (h.there _ (by omega)).1
    refine ⟨g, cap, _, hr, ?_, ((But.refl (fun k => k = g) w).set1 g _ rfl _).set1 g _ rfl _, .inl rfl⟩
    show Row ((w.setCell ⟨g, d.size * 2, none⟩ (.float .f64 x.b)).setCell ⟨g, d.size * 2 + 1, none⟩ (.int .i64 x.v)) g cap (d.push x)
    refine Row.ofCells (by rw [World.size_setCell, World.size_setCell]; exact h.lt) (by simpa using hroom) (by simpa using hs) h.cmax (fun t ht => ?_) (fun j hj => ⟨?_, by rw [World.frozen?_setCell, World.frozen?_setCell]; exact (h.there j hj).2⟩)
    · have ht' : t < (d.size + 1) * 2 := by simpa using ht
      by_cases e2 : t = d.size * 2 + 1
      · subst e2; rw [World.cell?_setCell_same' _ _ _ t2, (cellOf_last d x).2]
      · rw [World.cell?_setCell_other _ _ _ _ (hne _ _ (Ne.symm e2))]
        by_cases e1 : t = d.size * 2
        · subst e1; rw [World.cell?_setCell_same' _ _ _ t1, (cellOf_last d x).1]
        · rw [World.cell?_setCell_other _ _ _ _ (hne _ _ (Ne.symm e1)), cellOf_push d x (by omega)]; exact h.cell (by omega)
    · by_cases e2 : j = d.size * 2 + 1
      · subst e2; rw [World.cell?_setCell_same' _ _ _ t2]; rfl
      · rw [World.cell?_setCell_other _ _ _ _ (hne _ _ (Ne.symm e2))]
        by_cases e1 : j = d.size * 2
        · subst e1; rw [World.cell?_setCell_same' _ _ _ t1]; rfl
        · rw [World.cell?_setCell_other _ _ _ _ (hne _ _ (Ne.symm e1))]; exact (h.there j hj).1
  · have hold : (Builtin.firstCells i.size d.size (.slice (some ⟨g, 0, none⟩) d.size cap)).run Try.prog w.drew = .ok (flat d).toArray w.drew :=
      run_firstCells_some w.drew i.size d.size ⟨g, 0, none⟩ d.size cap (flat d) (by rw [flat_length, hsz]) (fun j u hu => by
        obtain ⟨hj, rfl⟩ := flat_get d hu
        rw [Addr.add_lit, Nat.zero_add]; exact h.cell hj)
    have hg : cap < d.size + 1 := by omega
    have hmx : d.size + 1 ≤ maxLen := by unfold maxLen; omega
    have hr := run_append_grow_src (P := Try.prog) w 115 115 115 29 i _ Try.underlying115 hi hz (some ⟨g, 0, none⟩) d.size cap (flat d) hold _ 1 _ hsrc hg (by omega) (growslice_fits hg (by rw [hby]; omega))
    have hge := grownCap_ge w (d.size + 1) cap 29
    have hcm := grownCap_le_maxLen w (d.size + 1) cap 29 hmx
    generalize grownCap w (d.size + 1) cap 29 = C at hr hge hcm
    refine ⟨w.heap.size, C, _, hr, ?_, ?_, .inr (Nat.le_refl _)⟩
    · have hc : ∀ j, (w.drew.alloc (.cells ((flat d ++ [Value.float .f64 x.b, Value.int .i64 x.v]).toArray ++ Builtin.zeroCells (Value.agg #[.float .f64 0, .int .i64 0]).cells (C - (d.size + 1))) 29)).cell? ⟨w.heap.size, j, none⟩ =
          ((flat d ++ [Value.float .f64 x.b, Value.int .i64 x.v]).toArray ++ Builtin.zeroCells (Value.agg #[.float .f64 0, .int .i64 0]).cells (C - (d.size + 1)))[j]? := fun j => World.cell?_alloc_new w.drew _ _ j
      refine Row.ofCells (by simp) (by simpa using hge) (by simpa using hs) hcm (fun t ht => ?_) (fun j hj => ⟨?_, World.frozen?_alloc_new w.drew _ _ _⟩)
      · have ht' : t < (d.size + 1) * 2 := by simpa using ht
        rw [hc, Array.getElem?_append_left (by simp [flat_length]; omega)]
        by_cases e : t < d.size * 2
        · rw [cellOf_push d x e, List.getElem?_toArray, List.getElem?_append_left (by rw [flat_length]; exact e)]
          simp [flat, e]
        · have : t = d.size * 2 ∨ t = d.size * 2 + 1 := by omega
          rcases this with rfl | rfl
          · rw [(cellOf_last d x).1, List.getElem?_toArray, List.getElem?_append_right (by rw [flat_length]; omega), flat_length]; simp
          · rw [(cellOf_last d x).2, List.getElem?_toArray, List.getElem?_append_right (by rw [flat_length]; omega), flat_length]; simp
      · rw [hc]
        have : j < ((flat d ++ [Value.float .f64 x.b, Value.int .i64 x.v]).toArray ++ Builtin.zeroCells (Value.agg #[.float .f64 0, .int .i64 0]).cells (C - (d.size + 1))).size := by
          rw [Array.size_append, size_zeroCells]
          simp [flat_length, Value.cells]
          omega
        rw [Array.getElem?_eq_getElem this]; rfl
    · exact But.of_below ⟨rfl, rfl, rfl, by simp, fun k hk => Below.heap_alloc w.drew _ k hk⟩

theorem assert_item (v : Value) (w : World) : (Instr.typeAssert (.iface 29 v) 20 29 false).run Try.prog w = .ok v w := by kernel_rfl

theorem pushM_any (b g cap : Nat) (d : Array KI) (x : KI) (w : World) (h : PileAt w b g cap d) (hs : d.size + 1 ≤ 1099511627776) :
    Calls Try.prog 188 #[.pointer (some ⟨b, 0, none⟩), .iface 29 (.agg #[.float .f64 x.b, .int .i64 x.v])] w fun e w' => e = .returned (.tuple #[]) ∧ ∃ g' cap', PileAt w' b g' cap' (d.push x) ∧ But (fun k => k = b ∨ k = g) w w' ∧ (g' = g ∨ w.heap.size ≤ g') := by
  have hW : But (fun _ => False) w (w.alloc (boxI x.b x.v)).drew := ((But.refl _ w).alloc _).drew
  have hP1 := h.but hW id id
  obtain ⟨g', cap', w', hrun, hrow, hbut, hg'⟩ := row_append g cap w.heap.size d x (w.alloc (boxI x.b x.v)).drew hP1.row (World.cell?_alloc_new w _ _ 0) (World.cell?_alloc_new w _ _ 1) hs
  have hsz : (w.alloc (boxI x.b x.v)).drew.heap.size = w.heap.size + 1 := by simp
  rw [hsz] at hg'
  have hd1 := hP1.hd
  have hd0 := h.hd
  have hbb : But (fun k => k = g) w w' := (hW.mono (fun _ _ e => e.elim)).trans hbut
  have hc2 : w'.cell? ⟨b, 0, none⟩ = some (.slice (some ⟨g, 0, none⟩) d.size cap) := by rw [hbb.cell (p := ⟨b, 0, none⟩) h.blt h.ne]; exact h.hd
  have hf2 : w'.frozen? ⟨b, 0, none⟩ = false := by rw [hbb.frozen (p := ⟨b, 0, none⟩) h.blt h.ne]; exact h.fz
  have hne' : b ≠ g' := by
    rcases hg' with e | e
    · rw [e]; exact h.ne
    · have := h.blt; omega
  have hend : PileAt (w'.setCell ⟨b, 0, none⟩ (.slice (some ⟨g', 0, none⟩) (d.size + 1) cap')) b g' cap' (d.push x) := by
    refine ⟨?_, by rw [World.frozen?_setCell]; exact hf2, hne', by rw [World.size_setCell]; exact Nat.lt_of_lt_of_le h.blt hbb.size, ?_⟩
    · rw [World.cell?_setCell_same' _ _ _ (by rw [hc2]; rfl)]; simp
    · exact hrow.but ((But.refl (fun k => k = b) w').set1 b 0 rfl _) (Ne.symm hne')
  have hbend : But (fun k => k = b ∨ k = g) w (w'.setCell ⟨b, 0, none⟩ (.slice (some ⟨g', 0, none⟩) (d.size + 1) cap')) := (hbb.mono (fun _ _ e => .inr e)).set1 b 0 (.inl rfl) _
  have hgg : g' = g ∨ w.heap.size ≤ g' := by omega
  clear hsz hg' hbut hbb hrow hP1 hW h
  have hta := assert_item
  have HR : Hid (∀ _ : Unit, (Builtin.append_ #[115, 115] 115 #[.slice (some ⟨g, 0, none⟩) d.size cap, .slice (some ⟨w.heap.size, 0, none⟩) 1 1]).run Try.prog (w.alloc (boxI x.b x.v)).drew = .ok (.slice (some ⟨g', 0, none⟩) (d.size + 1) cap') w') := fun _ => hrun
  clear hrun
  go_enter Try.func188, Try.ntmps188
  go_wp2
  go_region_law (refine step_append rfl (.tmp 7) (.tmp 10) 115 rfl _ _ (by simp [Act.eval]) (by simp [Act.eval]) _ _ (HR ()) ?_)
  all_goals go_wp2
  all_goals go_end0
  all_goals exact ⟨rfl, g', cap', hend, hbend, hgg⟩

theorem pop_get (d : Array KI) {i : Nat} (h : i + 1 < d.size) : d.pop[i]! = d[i]! := by
  rw [getElem!_pos d.pop i (by simp; omega), getElem!_pos d i (by omega), Array.getElem_pop]
theorem Row.pop {w : World} {g cap : Nat} {d : Array KI} (h : Row w g cap d) : Row w g cap d.pop :=
  ⟨h.lt, by have := h.le; simp; omega, by have := h.max; simp; omega, h.cmax, fun i hi => by simp at hi; rw [pop_get d (by omega)]; exact h.flt i (by omega), fun i hi => by simp at hi; rw [pop_get d (by omega)]; exact h.val i (by omega), h.there⟩

theorem popM_any (b g cap n : Nat) (d : Array KI) (w : World) (h : PileAt w b g cap d) (hn : d.size = n + 1) :
    Calls Try.prog 187 #[.pointer (some ⟨b, 0, none⟩)] w fun e w' => e = .returned (.iface 29 (.agg #[.float .f64 d[n]!.b, .int .i64 d[n]!.v])) ∧ PileAt w' b g cap d.pop ∧ But (fun k => k = b) w w' := by
  have f1 := h.row.flt n (by omega)
  have v1 := h.row.val n (by omega)
  have hd := h.hd
  have hfz := h.fz
  have hle := h.row.le
  have hmax := h.row.max
  rw [hn] at hle hmax hd
  have hend : ∀ o, PileAt ((w.setCell ⟨b, 0, none⟩ (.slice (some ⟨g, 0, none⟩) n cap)).alloc o) b g cap d.pop ∧ But (fun k => k = b) w ((w.setCell ⟨b, 0, none⟩ (.slice (some ⟨g, 0, none⟩) n cap)).alloc o) := fun o => by
    have hb : But (fun k => k = b) w (w.setCell ⟨b, 0, none⟩ (.slice (some ⟨g, 0, none⟩) n cap)) := (But.refl (fun k => k = b) w).set1 b 0 rfl _
    have hP : PileAt (w.setCell ⟨b, 0, none⟩ (.slice (some ⟨g, 0, none⟩) n cap)) b g cap d.pop := by
      refine ⟨?_, by rw [World.frozen?_setCell]; exact h.fz, h.ne, by rw [World.size_setCell]; exact h.blt, h.row.pop.but hb (Ne.symm h.ne)⟩
      rw [World.cell?_setCell_same' _ _ _ (by rw [h.hd]; rfl)]
      simp [hn]
    exact ⟨hP.but (S := fun _ => False) ((But.refl _ _).alloc o) id id, hb.alloc o⟩
  generalize d[n]! = x at *
  have hb := h.blt
  clear h hn
  have hsf := run_store_float (P := Try.prog)
  go_enter Try.func187, Try.ntmps187
  go_wp2
  go_ret
  exact ⟨rfl, (hend _).1, (hend _).2⟩
end Go.Proofs.Ytepigofpcjmddaa

namespace Go.Proofs.Ytepigofpcjmddaa
open Go.RowKit Go.Sort

theorem swp_self (d : Array KI) (i : Nat) (hi : i < d.size) : swp d i i = d := by
  apply Array.ext
  · simp [swp]
  · intro k h1 h2
    have e := swp_get d hi hi k
    rw [getElem!_pos _ k h1, getElem!_pos d k h2] at e
    rw [e]
    by_cases hk : k = i
    · subst hk; simp [h2]
    · simp [hk]
theorem swap_self (I J : Int) (g cap i : Nat) (d : Array KI) (w : World) (hI : I = (i : Int)) (hJ : J = (i : Int)) (h : Row w g cap d) (hi : i < d.size) :
    Calls Try.prog 186 #[.slice (some ⟨g, 0, none⟩) d.size cap, .int .i64 I, .int .i64 J] w fun e w' => e = .returned (.tuple #[]) ∧ Row w' g cap (swp d i i) ∧ But (fun k => k = g) w w' := by
  subst hI; subst hJ
  have hend : Row (((((w.setCell ⟨g, i * 2, none⟩ (.float .f64 d[i]!.b)).setCell ⟨g, i * 2 + 1, none⟩ (.int .i64 d[i]!.v)).setCell ⟨g, i * 2, none⟩ (.float .f64 d[i]!.b)).setCell ⟨g, i * 2 + 1, none⟩ (.int .i64 d[i]!.v)).drew) g cap (swp d i i) := by
    have h2 := (h.set i hi d[i]!).set i (by simpa using hi) d[i]!
    exact h2.but (S := fun _ => False) (But.refl _ _).drew id
  have f1 := h.flt i hi
  have v1 := h.val i hi
  generalize d[i]! = x at *
  have hN := h.max
  have hle := h.le
  have z1 := (h.there (i * 2) (by omega)).2
  have z2 := (h.there (i * 2 + 1) (by omega)).2
  clear h
  generalize swp d i i = d2 at hend ⊢
  generalize d.size = n at *
  have i1 : (i : Int) < (n : Int) := by omega
  have hsf := run_store_float (P := Try.prog)
  go_enter Try.func186, Try.ntmps186
  go_wp2
  go_region
  go_wp2
  go_end0
  exact ⟨rfl, hend, but4 _ _ _ _ _ _ _ _ _ _⟩

theorem len_any (a : Option Addr) (n c : Nat) (w : World) : Calls Try.prog 184 #[.slice a n c] w fun e w' => e = .returned (.int .i64 (n : Int)) ∧ w' = w := by
  go_enter Try.func184, Try.ntmps184
  go_wp2
  go_ret
  exact ⟨rfl, rfl⟩


theorem down_at (I N : Int) (b g cap n i0 : Nat) (d : Array KI) (w : World) (hI : I = (i0 : Int)) (hN : N = (n : Int)) (h : PileAt w b g cap d) (hn : n ≤ d.size) (hh : Hp.Heap KI.lt d n (i0 + 1)) (hi0 : i0 ≤ n) :
    Calls Try.prog 87 #[.iface 119 (.pointer (some ⟨b, 0, none⟩)), .int .i64 I, .int .i64 N] w fun e w' => (∃ r, e = .returned (.bool r)) ∧ ∃ d', Sift w w' b g cap n d d' ∧ Hp.Heap KI.lt d' n i0 := by
  subst hI; subst hN; exact down_any b g cap n i0 d w h hn hh hi0
theorem up_at (J : Int) (b g cap j0 : Nat) (d : Array KI) (w : World) (hJ : J = (j0 : Int)) (h : PileAt w b g cap d) (hj0 : j0 < d.size) (hu : Hp.Up KI.lt d d.size j0) :
    Calls Try.prog 88 #[.iface 119 (.pointer (some ⟨b, 0, none⟩)), .int .i64 J] w fun e w' => e = .returned (.tuple #[]) ∧ ∃ d', Sift w w' b g cap d.size d d' ∧ Hp.Heap KI.lt d' d.size 0 := by
  subst hJ; exact up_any b g cap j0 d w h hj0 hu

theorem init_any (b g cap : Nat) (d : Array KI) (w : World) (h : PileAt w b g cap d) :
    Calls Try.prog 47 #[.iface 119 (.pointer (some ⟨b, 0, none⟩))] w fun e w' => e = .returned (.tuple #[]) ∧ ∃ d', Sift w w' b g cap d.size d d' ∧ Hp.Heap KI.lt d' d.size 0 := by
  have hmax := h.row.max
  obtain ⟨n, hn⟩ : ∃ n, n = d.size := ⟨_, rfl⟩
  have hml := mLen b w _ h.hd
  rw [← hn] at hmax hml ⊢
  go_enter Try.func47, Try.ntmps47
  go_wp2_with (go_at_call 184; refine (len_any _ _ _ _).mono ?_; rintro e w1 ⟨rfl, hw1⟩; replace hw1 := hw1.symm; subst hw1)
  go_loopw [3] (fun a wr => ∃ (k : Nat) (d' : Array KI), a = .int .i64 ((k : Int) - 1) ∧ k ≤ n ∧ Sift w wr b g cap n d d' ∧ Hp.Heap KI.lt d' n k) (fun a _ => (intOf a + 1).toNat)
  case atStart => exact ⟨n / 2, d, congrArg (Value.int .i64) (by omega), by omega, ⟨h, But.refl _ _, List.Perm.refl _, fun _ _ => rfl⟩, Hp.Heap.none (by omega)⟩
  case round =>
    obtain ⟨k, d', rfl, hkn, hS, hH⟩ := hrel
    rcases k with _ | k
    · go_wp2
      go_end0
      exact ⟨rfl, d', hS, hH⟩
    · have hk0 : (0 : Int) ≤ (k : Int) := by omega
      have hle : n ≤ d'.size := by rw [hS.size]; omega
      clear hml
      go_wp2_with (go_at_call 87; refine (down_at _ _ b g cap n k d' _ (by omega) (by omega) hS.pile hle hH (by omega)).mono ?_; rintro e w2 ⟨⟨r, rfl⟩, d2, hS2, hH2⟩)
      go_roundw
      case rel => exact ⟨k, d2, congrArg (Value.int .i64) (by omega), by omega, ⟨hS2.pile, hS.but.trans hS2.but, hS2.perm.trans hS.perm, fun x hx => (hS2.rest x hx).trans (hS.rest x hx)⟩, hH2⟩
      case measure => simp [intOf]

theorem hpush_any (b g cap : Nat) (d : Array KI) (x : KI) (w : World) (h : PileAt w b g cap d) (hs : d.size + 1 ≤ 1099511627776) (hh : Hp.Heap KI.lt d d.size 0) :
    Calls Try.prog 48 #[.iface 119 (.pointer (some ⟨b, 0, none⟩)), .iface 29 (.agg #[.float .f64 x.b, .int .i64 x.v])] w fun e w' => e = .returned (.tuple #[]) ∧
      ∃ g' cap' d', PileAt w' b g' cap' d' ∧ Hp.Heap KI.lt d' d'.size 0 ∧ d'.toList.Perm (x :: d.toList) ∧ But (fun k => k = b ∨ k = g) w w' ∧ (g' = g ∨ w.heap.size ≤ g') := by
  have hmp := mPush b w
  go_enter Try.func48, Try.ntmps48
  go_wp2_with fail
  refine (pushM_any b g cap d x w h hs).mono ?_
  rintro e w1 ⟨rfl, g', cap', hP, hB, hg⟩
  have hml := mLen b w1 _ hP.hd
  have hU := Hp.Up.start hh x rfl
  have hsz : (d.push x).size = d.size + 1 := by simp
  rw [← hsz] at hU
  have hpm : (d.push x).toList.Perm (x :: d.toList) := by
    rw [Array.toList_push]; exact List.perm_append_comm (l₁ := d.toList) (l₂ := [x])
  have hlt : d.size < (d.push x).size := by omega
  have hJ : ((d.push x).size : Int) - 1 = (d.size : Int) := by omega
  have HJ : Hid (((d.push x).size : Int) - 1 = (d.size : Int)) := hJ
  have hi1 : ((d.push x).size : Int) ≤ 1099511627776 := by omega
  have hi2 : 1 ≤ ((d.push x).size : Int) := by omega
  clear hJ hsz hmp
  generalize d.push x = d1 at *
  go_wp2_with (go_at_call 184; refine (len_any _ _ _ _).mono ?_; rintro e w2 ⟨rfl, hw2⟩; replace hw2 := hw2.symm; subst hw2)
  refine (up_at _ b g' cap' d.size d1 _ (by have := HJ.out; omega) hP hlt hU).mono ?_
  rintro e w2 ⟨rfl, d', hS, hH⟩
  go_wp2
  go_end0
  refine ⟨rfl, g', cap', d', hS.pile, by rw [hS.size]; exact hH, hS.perm.trans hpm, hB.then hS.but (fun i hi e => ?_), hg⟩
  rcases hg with hg | hg
  · exact .inr (e.trans hg)
  · omega

theorem pop_push (d : Array KI) (n : Nat) (hn : d.size = n + 1) : d.pop.push d[n]! = d := by
  apply Array.ext
  · simp [hn]
  · intro k h1 h2
    rw [Array.getElem_push]
    split
    · rw [Array.getElem_pop]
    · rename_i e
      have hk : k = n := by simp at e; omega
      subst hk
      exact getElem!_pos d k h2

theorem hpop_any (b g cap n : Nat) (d : Array KI) (w : World) (h : PileAt w b g cap d) (hn : d.size = n + 1) (hh : Hp.Heap KI.lt d d.size 0) :
    Calls Try.prog 50 #[.iface 119 (.pointer (some ⟨b, 0, none⟩))] w fun e w' => e = .returned (.iface 29 (.agg #[.float .f64 d[0]!.b, .int .i64 d[0]!.v])) ∧
      ∃ d', PileAt w' b g cap d' ∧ Hp.Heap KI.lt d' d'.size 0 ∧ d.toList.Perm (d[0]! :: d'.toList) ∧ But (fun k => k = b ∨ k = g) w w' := by
  have hml := mLen b w _ h.hd
  have hms := mSwap b w _ h.hd
  have hSw : ∀ I J : Int, I = ((0 : Nat) : Int) → J = (n : Int) → Calls Try.prog 186 #[.slice (some ⟨g, 0, none⟩) d.size cap, .int .i64 I, .int .i64 J] w fun e w' => e = .returned (.tuple #[]) ∧ Row w' g cap (swp d 0 n) ∧ But (fun k => k = g) w w' := fun I J hI hJ => by
    by_cases e : n = 0
    · subst e; exact swap_self I J g cap 0 d w hI hJ h.row (by omega)
    · exact swap_any I J g cap 0 n d w hI hJ h.row (by omega) (by omega) (Ne.symm e)
  have hH1 : Hp.Heap KI.lt (swp d 0 n) n 1 := Hp.Heap.swapped (by rw [← hn]; exact hh)
  have hperm := Hp.swp_perm d 0 n (by omega) (by omega)
  have hlast : (swp d 0 n)[n]! = d[0]! := swp_right d 0 n (by omega)
  have hsz1 : (swp d 0 n).size = n + 1 := by rw [size_swp]; exact hn
  have hmax : n + 1 ≤ 1099511627776 := by have := h.row.max; omega
  have hi1 : (d.size : Int) ≤ 1099511627776 := by omega
  have hi2 : 1 ≤ (d.size : Int) := by omega
  have hNI : Hid (∀ _ : Unit, (d.size : Int) - 1 = (n : Int)) := fun _ => by omega
  clear hh hn
  go_enter Try.func50, Try.ntmps50
  go_wp2_with (go_at_call 184; refine (len_any _ _ _ _).mono ?_; rintro e w1 ⟨rfl, hw1⟩; replace hw1 := hw1.symm; subst hw1)
  refine (hSw _ _ (by rfl) (by have := hNI (); omega)).mono ?_
  rintro e w2 ⟨rfl, hr2, hb2⟩
  have hP2 := h.rows hb2 hr2 (size_swp _ _ _)
  clear hSw
  generalize swp d 0 n = d1 at *
  go_wp2_with fail
  refine (down_at _ _ b g cap n 0 d1 _ (by rfl) (by have := hNI (); omega) hP2 (by omega) hH1 (Nat.zero_le _)).mono ?_
  rintro e w3 ⟨⟨r, rfl⟩, d2, hS, hH2⟩
  have hmpop := mPop b w3
  have hsz2 : d2.size = n + 1 := by rw [hS.size]; exact hsz1
  have hl2 : d2[n]! = d[0]! := (hS.rest n (Nat.le_refl _)).trans hlast
  have HS2 : Hid (∀ _ : Unit, d2.size = n + 1) := fun _ => hsz2
  have HL2 : Hid (∀ _ : Unit, d2[n]! = d[0]!) := fun _ => hl2
  clear hsz2 hl2 hsz1 hlast
  go_wp2_with fail
  refine (popM_any b g cap n d2 w3 hS.pile (HS2 ())).mono ?_
  rw [HL2 ()]
  rintro e w4 ⟨rfl, hP4, hb4⟩
  go_wp2
  go_ret
  have hz : d2.pop.size = n := by have := HS2 (); simp; omega
  refine ⟨rfl, d2.pop, hP4, ?_, ?_, ?_⟩
  · rw [hz]
    intro p c hp hc hcn
    have hcc : p < n := by unfold Hp.Child at hc; omega
    have := HS2 ()
    rw [pop_get d2 (by omega), pop_get d2 (by omega)]
    exact hH2 p c hp hc hcn
  · have e1 := pop_push d2 n (HS2 ())
    rw [HL2 ()] at e1
    have e2 : d2.toList = d2.pop.toList ++ [d[0]!] := by rw [← Array.toList_push, e1]
    have h3 : d.toList.Perm d2.toList := (hS.perm.trans hperm).symm
    rw [e2] at h3
    exact h3.trans (List.perm_append_comm (l₁ := d2.pop.toList) (l₂ := [d[0]!]))
  · exact ((hb2.mono (fun _ _ e => .inr e)).then hS.but (fun _ _ e => .inr e)).then hb4 (fun _ _ e => .inl e)
end Go.Proofs.Ytepigofpcjmddaa

namespace Go.Proofs.Ytepigofpcjmddaa
open Go.RowKit Go.Sort

/-- Items that are handed over: their bits and values. -/
def Items (w : World) (a : Option Addr) (n : Nat) (P : Nat → Nat) (V : Nat → Int) : Prop :=
  ∀ i, i < n → ∃ g, a = some ⟨g, 0, none⟩ ∧ g < w.heap.size ∧ w.cell? ⟨g, i * 2, none⟩ = some (.float .f64 (P i)) ∧ w.cell? ⟨g, i * 2 + 1, none⟩ = some (.int .i64 (V i)) ∧ P i < 18446744073709551616
theorem Items.below {w w' : World} {a : Option Addr} {n : Nat} {P : Nat → Nat} {V : Nat → Int} (h : Items w a n P V) (hb : Below w.heap.size w w') : Items w' a n P V := fun i hi => by
  obtain ⟨g, h1, h2, h3, h4, h5⟩ := h i hi
  exact ⟨g, h1, Nat.lt_of_lt_of_le h2 hb.size, by rw [hb.cell (p := ⟨g, i * 2, none⟩) h2]; exact h3, by rw [hb.cell (p := ⟨g, i * 2 + 1, none⟩) h2]; exact h4, h5⟩
def canArr (P : Nat → Nat) (V : Nat → Int) (n k : Nat) : Array KI := (Array.range n).map fun i => if i < k then mkKI (P i) (V i) else default
theorem canArr_size (P : Nat → Nat) (V : Nat → Int) (n k : Nat) : (canArr P V n k).size = n := by simp [canArr]
theorem canArr_get (P : Nat → Nat) (V : Nat → Int) (n k i : Nat) (h : i < n) : (canArr P V n k)[i]! = if i < k then mkKI (P i) (V i) else default := by
  rw [getElem!_pos _ i (by rw [canArr_size]; exact h)]; simp [canArr]
theorem canArr_step (P : Nat → Nat) (V : Nat → Int) (n k : Nat) : (canArr P V n k).setIfInBounds k (mkKI (P k) (V k)) = canArr P V n (k + 1) := by
  apply Array.ext
  · simp [canArr]
  · intro i h1 h2
    rw [Array.getElem_setIfInBounds (by simpa using h1)]
    simp only [canArr, Array.getElem_map, Array.getElem_range]
    by_cases e : k = i
    · subst e; simp
    · rw [if_neg e]
      by_cases e2 : i < k
      · rw [if_pos e2, if_pos (by omega)]
      · rw [if_neg e2, if_neg (by omega)]

theorem made (n : Nat) (hn : n ≤ 1099511627776) (P : Nat → Nat) (V : Nat → Int) (w : World) : ∃ w0, (Instr.makeSlice 25 (.int .i64 (n : Int)) (.int .i64 (n : Int))).run Try.prog w = .ok (.slice (some ⟨w.heap.size, 0, none⟩) n n) w0 ∧ Row w0 w.heap.size n (canArr P V n 0) ∧ Below w.heap.size w w0 ∧ w0.heap.size = w.heap.size + 1 := by
  obtain ⟨i, hi, hz, hsz, hby⟩ := info_item
  have hr := run_make (P := Try.prog) w 25 29 i _ Try.underlying25 hi hz .i64 .i64 (n : Int) (n : Int) (by omega) (Int.le_refl _) (by rw [hby]; omega) (by omega)
  rw [Int.toNat_natCast, hsz] at hr
  refine ⟨_, hr, ?_, (Below.refl _ _).alloc (Nat.le_refl _) _, by simp⟩
  have hc : ∀ j, (w.alloc (.cells (madeCells (Value.agg #[.float .f64 0, .int .i64 0]).cells (n * 2)) 29)).cell? ⟨w.heap.size, j, none⟩ = (madeCells (Value.agg #[.float .f64 0, .int .i64 0]).cells (n * 2))[j]? := fun j => World.cell?_alloc_new w _ _ j
  refine Row.ofCells (by simp) (by rw [canArr_size]; exact Nat.le_refl _) (by rw [canArr_size]; exact hn) (by unfold maxLen; omega) (fun t ht => ?_) (fun j hj => ⟨?_, World.frozen?_alloc_new w _ _ _⟩)
  · rw [canArr_size] at ht
    rw [hc, Array.getElem?_eq_getElem (by rw [size_madeCells]; exact ht)]
    have e0 : (canArr P V n 0)[t / 2]! = default := by rw [canArr_get P V n 0 (t / 2) (by omega), if_neg (by omega)]
    unfold cellOf
    rw [e0]
    have ez : (Value.agg #[.float .f64 0, .int .i64 0]).cells = #[.float .f64 0, .int .i64 0] := rfl
    simp only [madeCells, Array.getElem_map, Array.getElem_range, ez]
    rcases Nat.mod_two_eq_zero_or_one t with e | e
    · rw [if_pos e]
      show some ((#[Value.float .f64 0, Value.int .i64 0] : Array Value)[t % 2]!) = _
      rw [e]; rfl
    · rw [if_neg (by omega)]
      show some ((#[Value.float .f64 0, Value.int .i64 0] : Array Value)[t % 2]!) = _
      rw [e]; rfl
  · rw [hc, Array.getElem?_eq_getElem (by rw [size_madeCells]; exact hj)]; rfl

set_option maxHeartbeats 1000000 in
theorem canonical_any (a : Option Addr) (n cap : Nat) (P : Nat → Nat) (V : Nat → Int) (w : World) (h : Items w a n P V) (hn : n ≤ 1099511627776) :
    Calls Try.prog 46 #[.slice a n cap] w fun e w' => ∃ g, e = .returned (.slice (some ⟨g, 0, none⟩) n n) ∧ w.heap.size ≤ g ∧ Row w' g n (canArr P V n n) ∧ Below w.heap.size w w' := by
  have hn1 : (n : Int) ≤ 1099511627776 := by omega
  obtain ⟨w0, hmk, hR0, hB0, hs0⟩ := made n hn P V w
  clear hs0
  have hsf := run_store_float (P := Try.prog)
  go_enter Try.func46, Try.ntmps46
  go_wp2
  go_loopw [11] (fun s wr => ∃ k : Nat, s = .int .i64 (k : Int) ∧ k ≤ n ∧ Row wr w.heap.size n (canArr P V n k) ∧ Below w.heap.size w wr) (fun s _ => n - (intOf s).toNat)
  case atStart => exact ⟨0, rfl, Nat.zero_le _, hR0, hB0⟩
  case round =>
    obtain ⟨k, rfl, hk, hR, hB⟩ := hrel
    by_cases hlt : k < n
    · obtain ⟨ga, rfl, hg, hf, hv, hp⟩ := h k hlt
      have hf' : wr.cell? ⟨ga, k * 2, none⟩ = some (.float .f64 (P k)) := by rw [hB.cell (p := ⟨ga, k * 2, none⟩) hg]; exact hf
      have hv' : wr.cell? ⟨ga, k * 2 + 1, none⟩ = some (.int .i64 (V k)) := by rw [hB.cell (p := ⟨ga, k * 2 + 1, none⟩) hg]; exact hv
      have hcn := icanon_any (P k) (V k) (wr.alloc (boxI (P k) (V k)))
      have k1 : (k : Int) < (n : Int) := by omega
      go_wp2_with fail
      refine hcn.mono ?_
      rintro e w2 ⟨rfl, hb2⟩
      have hbb : But (fun _ => False) wr w2 := ((But.refl _ wr).alloc _).trans (But.of_below hb2)
      have hR2 := hR.but hbb id
      have hs := hR2.set k (by rw [canArr_size]; exact hlt) (mkKI (P k) (V k))
      rw [canArr_step, mkKI_b hp, mkKI_v hp] at hs
      have z1 := (hR2.there (k * 2) (by omega)).2
      have z2 := (hR2.there (k * 2 + 1) (by omega)).2
      have c1 := hR2.flt k (by rw [canArr_size]; exact hlt)
      have c2 := hR2.val k (by rw [canArr_size]; exact hlt)
      have hB2 : Below w.heap.size w w2 := hB.trans (hbb.below hB.size (fun _ e => e.elim))
      clear hcn hR2 hR hbb hb2 hf hv hf' hv' hmk
      go_wp2
      go_roundw
      case rel => exact ⟨k + 1, by go_num, by omega, hs, (hB2.setCell (Nat.le_refl _) _).setCell (Nat.le_refl _) _⟩
      case measure => simp [intOf]; omega
    · have hd : decide ((k : Int) < (n : Int)) = false := decide_eq_false (by omega)
      have hkn : k = n := by omega
      have HR : Row wr w.heap.size n (canArr P V n n) := by rw [hkn] at hR; exact hR
      clear hR hmk hkn
      go_wp2
      go_ret
      exact ⟨w.heap.size, rfl, Nat.le_refl _, HR, hB⟩
end Go.Proofs.Ytepigofpcjmddaa

namespace Go.Proofs.Ytepigofpcjmddaa
open Go.RowKit Go.Sort

/-- A pile that is a heap. -/
structure HeapAt (w : World) (b g : Nat) (d : Array KI) : Prop where
  pile : ∃ cap, PileAt w b g cap d
  heap : Hp.Heap KI.lt d d.size 0
theorem HeapAt.but {S : Nat → Prop} {w w' : World} {b g : Nat} {d : Array KI} (h : HeapAt w b g d) (hb : But S w w') (h1 : ¬ S b) (h2 : ¬ S g) : HeapAt w' b g d := by
  obtain ⟨cap, hP⟩ := h.pile
  exact ⟨⟨cap, hP.but hb h1 h2⟩, h.heap⟩

theorem new_any (a : Option Addr) (n cap : Nat) (P : Nat → Nat) (V : Nat → Int) (w : World) (h : Items w a n P V) (hn : n ≤ 1099511627776) :
    Calls Try.prog 12 #[.slice a n cap] w fun e w' => ∃ b g d, e = .returned (.pointer (some ⟨b, 0, none⟩)) ∧ w.heap.size ≤ b ∧ w.heap.size ≤ g ∧ HeapAt w' b g d ∧ d.toList.Perm (canArr P V n n).toList ∧ Below w.heap.size w w' := by
  go_enter Try.func12, Try.ntmps12
  go_wp2_with (go_at_call 46; refine (canonical_any a n cap P V _ h hn).mono ?_; rintro e w1 ⟨g, rfl, hg, hR, hB⟩)
  have hs := canArr_size P V n n
  have hP : PileAt (w1.alloc (.cells #[.slice (some ⟨g, 0, none⟩) n n] 117)) w1.heap.size g n (canArr P V n n) := by
    refine ⟨?_, World.frozen?_alloc_new w1 _ _ _, ?_, by simp, hR.but (S := fun _ => False) ((But.refl _ _).alloc _) id⟩
    · rw [World.cell?_alloc_new, hs]; rfl
    · have := hR.lt; omega
  have hB1 : Below w.heap.size w (w1.alloc (.cells #[.slice (some ⟨g, 0, none⟩) n n] 117)) := hB.trans ((Below.refl _ _).alloc hB.size _)
  have hgb : g < w1.heap.size := hR.lt
  clear hR
  refine (init_any w1.heap.size g n (canArr P V n n) _ hP).mono ?_
  rintro e w2 ⟨rfl, d, hS, hH⟩
  go_wp2
  go_ret
  refine ⟨w1.heap.size, g, d, rfl, hB.size, hg, ⟨⟨n, hS.pile⟩, by rw [hS.size]; exact hH⟩, hS.perm, hB1.trans (hS.but.below hB1.size (fun k hk => by rw [hk]; exact hg))⟩

theorem put_any (b g p : Nat) (v : Int) (d : Array KI) (w : World) (h : HeapAt w b g d) (hp : p < 18446744073709551616) (hs : d.size + 1 ≤ 1099511627776) :
    Calls Try.prog 13 #[.pointer (some ⟨b, 0, none⟩), .agg #[.float .f64 p, .int .i64 v]] w fun e w' => e = .returned (.tuple #[]) ∧
      ∃ g' d', HeapAt w' b g' d' ∧ d'.toList.Perm (mkKI p v :: d.toList) ∧ But (fun k => k = b ∨ k = g) w w' ∧ (g' = g ∨ w.heap.size ≤ g') := by
  have hPu : ∀ w1, But (fun _ => False) w w1 → Calls Try.prog 48 #[.iface 119 (.pointer (some ⟨b, 0, none⟩)), .iface 29 (.agg #[.float .f64 (cbits p), .int .i64 v])] w1 fun e w' => e = .returned (.tuple #[]) ∧
      ∃ g' d', HeapAt w' b g' d' ∧ d'.toList.Perm (mkKI p v :: d.toList) ∧ But (fun k => k = b ∨ k = g) w w' ∧ (g' = g ∨ w.heap.size ≤ g') := fun w1 hb => by
    obtain ⟨cap, hP⟩ := h.pile
    have := hpush_any b g cap d (mkKI p v) w1 (hP.but hb id id) hs h.heap
    rw [mkKI_b hp, mkKI_v hp] at this
    refine this.mono ?_
    rintro e w' ⟨rfl, g', cap', d', h1, h2, h3, h4, h5⟩
    exact ⟨rfl, g', d', ⟨⟨cap', h1⟩, h2⟩, h3, (hb.mono (fun _ _ e => e.elim)).trans h4, h5.imp id (Nat.le_trans hb.size)⟩
  clear h hs hp
  go_enter Try.func13, Try.ntmps13
  go_wp2
  go_region_with (first
    | (go_at_call 49; refine (icanon_any _ _ _).mono ?_; rintro e w1 ⟨rfl, hb1⟩)
    | (go_at_call 48; refine (hPu _ (((But.refl _ w).alloc _).drew.trans (But.of_below hb1))).mono ?_; rintro e w2 ⟨rfl, g', d', hq⟩))
  all_goals go_wp2
  all_goals go_end0
  all_goals exact ⟨rfl, g', d', hq⟩

theorem first_none (b g : Nat) (d : Array KI) (w : World) (h : HeapAt w b g d) (hd : d.size = 0) :
    Calls Try.prog 16 #[.pointer (some ⟨b, 0, none⟩)] w fun e w' => e = .returned (.tuple #[.agg #[.float .f64 0, .int .i64 0], .bool false]) ∧ Below w.heap.size w w' := by
  obtain ⟨cap, hP⟩ := h.pile
  have hc := hP.hd
  rw [hd] at hc
  have hb := hP.blt
  have hsf := run_store_float (P := Try.prog)
  clear h hP hd
  go_enter Try.func16, Try.ntmps16
  go_wp2
  exact bodyPost_ret (v := .tuple #[.agg #[.float .f64 0, .int .i64 0], .bool false]) (by simp [results, Try.results16, go_sem]) rfl ⟨rfl, (Below.refl _ _).alloc (Nat.le_refl _) _⟩
theorem first_some (b g : Nat) (d : Array KI) (w : World) (h : HeapAt w b g d) (hd : 0 < d.size) :
    Calls Try.prog 16 #[.pointer (some ⟨b, 0, none⟩)] w fun e w' => e = .returned (.tuple #[.agg #[.float .f64 d[0]!.b, .int .i64 d[0]!.v], .bool true]) ∧ Below w.heap.size w w' := by
  obtain ⟨cap, hP⟩ := h.pile
  have hc := hP.hd
  have hb := hP.blt
  have hg := hP.row.lt
  have f := hP.row.flt 0 hd
  have v := hP.row.val 0 hd
  generalize d[0]! = x at *
  generalize d.size = n at *
  have hne : ((n : Int) == 0) = false := by simp; omega
  have hsf := run_store_float (P := Try.prog)
  clear h hP
  go_enter Try.func16, Try.ntmps16
  go_wp2
  exact bodyPost_ret (v := .tuple #[.agg #[.float .f64 x.b, .int .i64 x.v], .bool true]) (by simp [results, Try.results16, go_sem]) rfl ⟨rfl, (Below.refl _ _).alloc (Nat.le_refl _) _⟩
end Go.Proofs.Ytepigofpcjmddaa

namespace Go.Proofs.Ytepigofpcjmddaa
open Go.RowKit Go.Sort

theorem count_any (b g : Nat) (d : Array KI) (w : World) (h : HeapAt w b g d) :
    Calls Try.prog 17 #[.pointer (some ⟨b, 0, none⟩)] w fun e w' => e = .returned (.int .i64 (d.size : Int)) ∧ w' = w := by
  obtain ⟨cap, hP⟩ := h.pile
  have hd := hP.hd
  go_enter Try.func17, Try.ntmps17
  go_wp2
  go_ret
  exact ⟨rfl, rfl⟩

end Go.Proofs.Ytepigofpcjmddaa

namespace Go.Proofs.Ytepigofpcjmddaa
open Go.RowKit

theorem inf_any (s : Int) (w : World) : Calls Try.prog 42 #[.int .i64 s] w fun e w' => e = .returned (.float .f64 (infN s)) ∧ w' = w := by
  have h31 := run_frombits
  unfold infN
  by_cases h : 0 ≤ s
  · rw [if_pos h]
    go_enter Try.func42, Try.ntmps42
    go_wp2
    go_ret
    exact ⟨rfl, rfl⟩
  · rw [if_neg h]
    have h' : decide (0 ≤ s) = false := decide_eq_false h
    go_enter Try.func42, Try.ntmps42
    go_wp2
    go_ret
    exact ⟨rfl, rfl⟩
end Go.Proofs.Ytepigofpcjmddaa

namespace Go.Proofs.Ytepigofpcjmddaa
open Go.RowKit Go.Sort

theorem run_equalIn_float {P : Program} (d : Nat) (t : TypeId) (a b : Nat) (w : World) (h : P.underlying t = some (.float .f64)) : (Op.equalIn (d + 1) t (.float .f64 a) (.float .f64 b)).run P w = .ok (Op.floatEq .f64 a b) w := by
  simp [Op.equalIn, run_underlying h]

theorem own_any (p v : Int) (w : World) : Calls Try.prog 9 #[.agg #[.int .u64 p, .int .i64 v]] w fun e w' => e = .returned (.agg #[.float .f64 (nf p), .int .i64 v]) ∧ Below w.heap.size w w' := by
  have hsf := run_store_float (P := Try.prog)
  go_enter Try.func9, Try.ntmps9
  go_wp2
  go_region_with (go_at_call 43; refine (f_any _ _).mono ?_; rintro e w1 ⟨rfl, hw1⟩; replace hw1 := hw1.symm; subst hw1)
  all_goals go_wp2
  all_goals exact bodyPost_ret (v := .agg #[.float .f64 (nf p), .int .i64 v]) (by simp [results, Try.results9, go_sem]) rfl ⟨rfl, ((((Below.refl _ _).alloc (Nat.le_refl _) _).alloc (by simp) _)).drew⟩

theorem make_any (p v : Int) (w : World) (h0 : 0 ≤ p) (h1 : p < 18446744073709551616) :
    Calls Try.prog 45 #[.int .u64 p, .int .i64 v] w fun e w' => e = .returned (.agg #[.int .u64 (ni (cbits (nf p))), .int .i64 v]) ∧ Below w.heap.size w w' := by
  have hR := fun w => rbits_any p w h0 h1
  clear h0 h1
  go_enter Try.func45, Try.ntmps45
  go_wp2_with (go_at_call 86; refine (hR _).mono ?_; rintro e w1 ⟨rfl, hw1⟩; replace hw1 := hw1.symm; subst hw1)
  exact bodyPost_ret (v := .agg #[.int .u64 (ni (cbits (nf p))), .int .i64 v]) (by simp [results, Try.results45, go_sem]) rfl ⟨rfl, (Below.refl _ _).alloc (Nat.le_refl _) _⟩
theorem told_any (p v : Int) (w : World) (h0 : 0 ≤ p) (h1 : p < 18446744073709551616) :
    Calls Try.prog 11 #[.agg #[.int .u64 p, .int .i64 v]] w fun e w' => e = .returned (.agg #[.int .u64 (ni (cbits (nf p))), .int .i64 v]) ∧ Below w.heap.size w w' := by
  have hM := fun w => make_any p v w h0 h1
  obtain ⟨q, hq⟩ : ∃ q, ni (cbits (nf p)) = q := ⟨_, rfl⟩
  rw [hq] at hM ⊢
  clear h0 h1 hq
  go_enter Try.func11, Try.ntmps11
  go_wp2_with fail
  refine (hM _).mono ?_
  rintro e w1 ⟨rfl, hb1⟩
  have hz : w.heap.size + 1 < w1.heap.size := by have := hb1.size; simp at this; omega
  have c0 : w1.cell? ⟨w.heap.size + 1, 0, none⟩ = some (.int .u64 0) := by rw [hb1.cell (p := ⟨w.heap.size + 1, 0, none⟩) (by simp)]; simp
  have c1 : w1.cell? ⟨w.heap.size + 1, 1, none⟩ = some (.int .i64 0) := by rw [hb1.cell (p := ⟨w.heap.size + 1, 1, none⟩) (by simp)]; simp
  have z0 : w1.frozen? ⟨w.heap.size + 1, 0, none⟩ = false := by rw [hb1.frozen (p := ⟨w.heap.size + 1, 0, none⟩) (by simp)]; simp
  have z1 : w1.frozen? ⟨w.heap.size + 1, 1, none⟩ = false := by rw [hb1.frozen (p := ⟨w.heap.size + 1, 1, none⟩) (by simp)]; simp
  go_wp2
  refine bodyPost_ret (v := .agg #[.int .u64 q, .int .i64 v]) (by simp [results, Try.results11, go_sem, c0, c1]) rfl ⟨rfl, ?_⟩
  exact ((((((Below.refl _ _).alloc (Nat.le_refl _) _).alloc (by simp) _).trans (hb1.mono (by simp; omega))).setCell (by simp) _).setCell (by simp) _)

/-- Is an item the document's? -/
def isV (m : Nat) (a q b : Int) : Int := if ni m = q ∧ a = b then 0 else -1
theorem is_any (m : Nat) (a q b : Int) (w : World) : Calls Try.prog 15 #[.agg #[.float .f64 m, .int .i64 a], .agg #[.int .u64 q, .int .i64 b]] w fun e w' => e = .returned (.int .i64 (isV m a q b)) ∧ Below w.heap.size w w' := by
  have h15 := run_bits
  by_cases h1 : ni m = q
  · by_cases h2 : a = b
    · have : isV m a q b = 0 := if_pos ⟨h1, h2⟩
      rw [this]
      subst h1; subst h2
      clear this
      go_enter Try.func15, Try.ntmps15
      go_wp2
      go_quiet (fail)
      go_wp2
      go_ret
      exact ⟨rfl, below_drewN (((Below.refl _ _).alloc (Nat.le_refl _) _).alloc (by simp) _) _⟩
    · have : isV m a q b = -1 := if_neg (fun e => h2 e.2)
      rw [this]
      subst h1
      clear this
      have hb : (a != b) = true := by simpa using h2
      go_enter Try.func15, Try.ntmps15
      go_wp2
      go_quiet (fail)
      go_wp2
      go_ret
      exact ⟨rfl, below_drewN (((Below.refl _ _).alloc (Nat.le_refl _) _).alloc (by simp) _) _⟩
  · have : isV m a q b = -1 := if_neg (fun e => h1 e.1)
    rw [this]
    clear this
    have hb : (ni m != q) = true := by simpa using h1
    go_enter Try.func15, Try.ntmps15
    go_wp2
    go_quiet (fail)
    go_wp2
    go_ret
    exact ⟨rfl, below_drewN (((Below.refl _ _).alloc (Nat.le_refl _) _).alloc (by simp) _) _⟩

theorem rcmp4_any (p a q b : Int) (w : World) (h0 : 0 ≤ p) (h1 : p < 18446744073709551616) (h2 : 0 ≤ q) (h3 : q < 18446744073709551616) :
    Calls Try.prog 44 #[.agg #[.int .u64 p, .int .i64 a], .agg #[.int .u64 q, .int .i64 b]] w fun e w' => e = .returned (.int .i64 (cmpN (nf p) a (nf q) b)) ∧ Below w.heap.size w w' := by
  have hC := fun w => rcmp_any p q w h0 h1 h2 h3
  obtain ⟨c, hc⟩ : ∃ c, cmpI (key (nf p)) (key (nf q)) = c := ⟨_, rfl⟩
  rw [hc] at hC
  clear h0 h1 h2 h3
  by_cases e : c = 0
  · rw [cmpN_same (by rw [hc]; exact e)]
    subst e
    clear hc
    rcases Int.lt_trichotomy a b with h | h | h
    · rw [cmpI_lt h]
      go_enter Try.func44, Try.ntmps44
      go_wp2_with (go_at_call 85; refine (hC _).mono ?_; rintro e w1 ⟨rfl, hw1⟩; replace hw1 := hw1.symm; subst hw1)
      go_ret
      exact ⟨rfl, ((Below.refl _ _).alloc (Nat.le_refl _) _).alloc (by simp) _⟩
    · rw [cmpI_eq h]
      subst h
      go_enter Try.func44, Try.ntmps44
      go_wp2_with (go_at_call 85; refine (hC _).mono ?_; rintro e w1 ⟨rfl, hw1⟩; replace hw1 := hw1.symm; subst hw1)
      go_ret
      exact ⟨rfl, ((Below.refl _ _).alloc (Nat.le_refl _) _).alloc (by simp) _⟩
    · rw [cmpI_gt h]
      have hd : decide (a < b) = false := decide_eq_false (by omega)
      go_enter Try.func44, Try.ntmps44
      go_wp2_with (go_at_call 85; refine (hC _).mono ?_; rintro e w1 ⟨rfl, hw1⟩; replace hw1 := hw1.symm; subst hw1)
      go_ret
      exact ⟨rfl, ((Below.refl _ _).alloc (Nat.le_refl _) _).alloc (by simp) _⟩
  · rw [cmpN_other (by rw [hc]; exact e), hc]
    have hb : (c == 0) = false := by simpa using e
    clear hc e
    go_enter Try.func44, Try.ntmps44
    go_wp2_with (go_at_call 85; refine (hC _).mono ?_; rintro e w1 ⟨rfl, hw1⟩; replace hw1 := hw1.symm; subst hw1)
    go_ret
    exact ⟨rfl, ((Below.refl _ _).alloc (Nat.le_refl _) _).alloc (by simp) _⟩
end Go.Proofs.Ytepigofpcjmddaa

namespace Go.Proofs.Ytepigofpcjmddaa
open Go.RowKit Go.Sort

theorem take_none (b g : Nat) (d : Array KI) (w : World) (h : HeapAt w b g d) (hd : d.size = 0) :
    Calls Try.prog 14 #[.pointer (some ⟨b, 0, none⟩)] w fun e w' => e = .returned (.tuple #[.agg #[.float .f64 0, .int .i64 0], .bool false]) ∧ Below w.heap.size w w' := by
  obtain ⟨cap, hP⟩ := h.pile
  have hc := hP.hd
  rw [hd] at hc
  have hb := hP.blt
  have hsf := run_store_float (P := Try.prog)
  clear h hP hd
  go_enter Try.func14, Try.ntmps14
  go_wp2
  exact bodyPost_ret (v := .tuple #[.agg #[.float .f64 0, .int .i64 0], .bool false]) (by simp [results, Try.results14, go_sem]) rfl ⟨rfl, (Below.refl _ _).alloc (Nat.le_refl _) _⟩
theorem take_some (b g : Nat) (d : Array KI) (w : World) (h : HeapAt w b g d) (hd : 0 < d.size) :
    Calls Try.prog 14 #[.pointer (some ⟨b, 0, none⟩)] w fun e w' => e = .returned (.tuple #[.agg #[.float .f64 d[0]!.b, .int .i64 d[0]!.v], .bool true]) ∧
      ∃ d', HeapAt w' b g d' ∧ d.toList.Perm (d[0]! :: d'.toList) ∧ But (fun k => k = b ∨ k = g) w w' := by
  obtain ⟨cap, hP⟩ := h.pile
  obtain ⟨n, hn⟩ : ∃ n, d.size = n + 1 := ⟨d.size - 1, by omega⟩
  have hb0 : But (fun _ => False) w (w.alloc (.cells #[.float .f64 0, .int .i64 0] 29)) := (But.refl _ w).alloc _
  have hpop := hpop_any b g cap n d _ (hP.but hb0 id id) hn h.heap
  have hc := hP.hd
  rw [hn] at hc
  have hb := hP.blt
  have hg := hP.row.lt
  have hsf := run_store_float (P := Try.prog)
  have hta := assert_item
  generalize d[0]! = x at *
  clear h hd hP hn
  have hne : ((n : Int) + 1 == 0) = false := by simp; omega
  go_enter Try.func14, Try.ntmps14
  go_wp2_with fail
  refine hpop.mono ?_
  rintro e w2 ⟨rfl, d', hP', hH', hperm, hbut⟩
  have hz : w.heap.size < w2.heap.size := by have := hbut.size; simp at this; omega
  have hbb : But (fun k => k = b ∨ k = g) w w2 := (hb0.mono (fun _ _ e => e.elim)).trans hbut
  have hnS : ¬ (w.heap.size = b ∨ w.heap.size = g) := by omega
  have c0 : w2.cell? ⟨w.heap.size, 0, none⟩ = some (.float .f64 0) := by rw [hbut.cell (p := ⟨w.heap.size, 0, none⟩) (by simp) hnS, World.cell?_alloc_new]; rfl
  have c1 : w2.cell? ⟨w.heap.size, 1, none⟩ = some (.int .i64 0) := by rw [hbut.cell (p := ⟨w.heap.size, 1, none⟩) (by simp) hnS, World.cell?_alloc_new]; rfl
  have z0 : w2.frozen? ⟨w.heap.size, 0, none⟩ = false := by rw [hbut.frozen (p := ⟨w.heap.size, 0, none⟩) (by simp) hnS, World.frozen?_alloc_new]
  have z1 : w2.frozen? ⟨w.heap.size, 1, none⟩ = false := by rw [hbut.frozen (p := ⟨w.heap.size, 1, none⟩) (by simp) hnS, World.frozen?_alloc_new]
  have hfin : ∃ d', HeapAt ((w2.setCell ⟨w.heap.size, 0, none⟩ (.float .f64 x.b)).setCell ⟨w.heap.size, 1, none⟩ (.int .i64 x.v)) b g d' ∧ d.toList.Perm (x :: d'.toList) ∧ But (fun k => k = b ∨ k = g) w ((w2.setCell ⟨w.heap.size, 0, none⟩ (.float .f64 x.b)).setCell ⟨w.heap.size, 1, none⟩ (.int .i64 x.v)) := by
    have hb2 : But (fun k => k = w.heap.size) w2 ((w2.setCell ⟨w.heap.size, 0, none⟩ (.float .f64 x.b)).setCell ⟨w.heap.size, 1, none⟩ (.int .i64 x.v)) := ((But.refl (fun k => k = w.heap.size) w2).set1 w.heap.size 0 rfl _).set1 w.heap.size 1 rfl _
    refine ⟨d', ⟨⟨cap, hP'.but hb2 (by omega) (by omega)⟩, hH'⟩, hperm, hbb.then hb2 (fun i hi e => by omega)⟩
  clear hpop hP' hH' hperm hbut hbb hb0
  go_wp2
  exact bodyPost_ret (v := .tuple #[.agg #[.float .f64 x.b, .int .i64 x.v], .bool true]) (by simp [results, Try.results14, go_sem, c0, c1]) rfl ⟨rfl, hfin⟩

/-- None is ahead of the first one. -/
theorem HeapAt.first {w : World} {b g : Nat} {d : Array KI} (h : HeapAt w b g d) : ∀ y ∈ d.toList, y.lt d[0]! = false := by
  intro y hy
  obtain ⟨i, hi, rfl⟩ := List.getElem_of_mem hy
  have hi' : i < d.size := by simpa using hi
  have := h.heap.first KI.swo i hi'
  rw [getElem!_pos d i hi'] at this
  simpa using this
theorem first_mem {d : Array KI} (h : 0 < d.size) : d[0]! ∈ d.toList := by
  rw [getElem!_pos d 0 h]; simp
end Go.Proofs.Ytepigofpcjmddaa

namespace Go.Proofs.Ytepigofpcjmddaa
open Go.RowKit Go.Sort

def aP (i : Nat) : Nat := if i = 0 then 4611686018427387904 else 18442240474082181120
def aV (i : Nat) : Int := if i = 0 then 1 else 7
theorem aArr : (canArr aP aV 2 2).toList = [mkKI 4611686018427387904 1, mkKI 18442240474082181120 7] := by
  simp [canArr, aP, aV, Array.range]
theorem a_lt : (mkKI 18442240474082181120 7).lt (mkKI 4611686018427387904 1) = true := by decide
theorem a_first {d : Array KI} (hp : d.toList.Perm (canArr aP aV 2 2).toList) (hf : ∀ y ∈ d.toList, y.lt d[0]! = false) : d[0]! = mkKI 18442240474082181120 7 ∧ d.size = 2 := by
  rw [aArr] at hp
  have hs : d.size = 2 := by have := hp.length_eq; simpa using this
  refine ⟨?_, hs⟩
  have hm := hp.mem_iff.1 (first_mem (d := d) (by omega))
  have hy : mkKI 18442240474082181120 7 ∈ d.toList := hp.mem_iff.2 (by simp)
  have h0 := hf _ hy
  simp only [List.mem_cons, List.not_mem_nil, or_false] at hm
  rcases hm with e | e
  · rw [e, a_lt] at h0; cases h0
  · exact e

set_option maxHeartbeats 1000000 in
theorem awake4_any (w : World) : Calls Try.prog 8 #[] w fun e w' => e = .returned (.bool true) ∧ Below w.heap.size w w' := by
  have hi2 := infN_neg
  have hI : Items (w.alloc (.cells #[.float .f64 4611686018427387904, .int .i64 1, .float .f64 18442240474082181120, .int .i64 7] 29)) (some ⟨w.heap.size, 0, none⟩) 2 aP aV := by
    intro i hi
    refine ⟨w.heap.size, rfl, by simp, ?_, ?_, ?_⟩
    · rw [World.cell?_alloc_new]; rcases i with _ | _ | i <;> first | rfl | omega
    · rw [World.cell?_alloc_new]; rcases i with _ | _ | i <;> first | rfl | omega
    · rcases i with _ | _ | i <;> first | decide | omega
  have hN := new_any (some ⟨w.heap.size, 0, none⟩) 2 2 aP aV _ hI (by decide)
  have hsf := run_store_float (P := Try.prog)
  clear hI
  go_enter Try.func8, Try.ntmps8
  go_wp2_with (first
    | (go_at_call 42; refine (inf_any _ _).mono ?_; rintro e w1 ⟨rfl, hw1⟩; replace hw1 := hw1.symm; subst hw1)
    | (go_at_call 12; refine hN.mono ?_; rintro e w1 ⟨b, g, d, rfl, hb, hg, hH, hp, hB⟩))
  obtain ⟨hd0, hsz⟩ := a_first hp hH.first
  have hF := first_some b g d w1 hH (by omega)
  rw [hd0, mkKI_b (by decide), mkKI_v (by decide), show cbits 18442240474082181120 = 18442240474082181120 by decide] at hF
  have hb1 : w.heap.size + 1 ≤ b := by simpa using hb
  have hBw : Below w.heap.size w w1 := ((Below.refl _ _).alloc (Nat.le_refl _) _).trans (hB.mono (by simp))
  clear hN hp hd0
  refine hF.mono ?_
  rintro e w2 ⟨rfl, hB2⟩
  have hCt : ∀ W, But (fun _ => False) w2 W → Calls Try.prog 17 #[.pointer (some ⟨b, 0, none⟩)] W fun e w' => e = .returned (.int .i64 2) ∧ w' = W := fun W hW => by
    have := count_any b g d W (hH.but ((But.of_below hB2).trans hW) id id)
    rw [hsz] at this; exact this
  have hBw2 : Below w.heap.size w w2 := hBw.trans (hB2.mono hBw.size)
  have ho : FloatKind.f64.format.order 18442240474082181120 18442240474082181120 = some Ordering.eq := by decide
  have hef := fun d a b w => run_equalIn_float (P := Try.prog) d 27 a b w Try.underlying27
  have hq : Op.floatEq .f64 18442240474082181120 18442240474082181120 = true := by decide
  clear hF hH hB hB2 hsz
  go_wp2
  go_quiet ((first
    | (go_at_call 42; exact Calls.quiet_of_same (inf_any _ _))
    | (go_at_call 17; exact Calls.quiet_of_same (hCt _ (((But.refl _ w2).alloc _).drewN _)))))
  go_wp2
  go_ret
  exact ⟨rfl, below_drewN (hBw2.trans ((Below.refl _ _).alloc hBw2.size _)) _⟩
end Go.Proofs.Ytepigofpcjmddaa

namespace Go.Proofs.Ytepigofpcjmddaa
open Go.RowKit Go.Sort


/-- A slice of n elements of k cells each, l one behind the other. -/
def SlAt (k : Nat) (w : World) (a : Option Addr) (cap n : Nat) (l : List Value) : Prop :=
  (a = none ∧ n = 0 ∧ cap = 0 ∧ l = []) ∨ ∃ g, a = some ⟨g, 0, none⟩ ∧ Flat k w g cap n l
/-- The block of a slice. -/
def inB (a : Option Addr) (k : Nat) : Prop := ∃ x, a = some x ∧ x.block = k

section
variable {k cap n : Nat} {a : Option Addr} {l : List Value} {w w' : World} {S : Nat → Prop}
theorem SlAt.nil (k : Nat) (w : World) : SlAt k w none 0 0 [] := .inl ⟨rfl, rfl, rfl, rfl⟩
theorem SlAt.len (h : SlAt k w a cap n l) : l.length = n * k := by
  rcases h with ⟨_, rfl, _, rfl⟩ | ⟨g, _, h⟩
  · simp
  · exact h.len
theorem SlAt.but (h : SlAt k w a cap n l) (hb : But S w w') (hS : ∀ j, inB a j → ¬ S j) : SlAt k w' a cap n l := by
  rcases h with h | ⟨g, rfl, h⟩
  · exact .inl h
  · exact .inr ⟨g, rfl, h.but hb (hS g ⟨_, rfl, rfl⟩)⟩
theorem SlAt.below (h : SlAt k w a cap n l) (hb : Below w.heap.size w w') : SlAt k w' a cap n l := h.but (S := fun _ => False) (But.of_below hb) (fun _ _ e => e)
theorem SlAt.lt (h : SlAt k w a cap n l) : ∀ j, inB a j → j < w.heap.size := by
  rintro j ⟨x, hx, rfl⟩
  rcases h with ⟨h, _⟩ | ⟨g, h, hf⟩
  · rw [h] at hx; cases hx
  · rw [h] at hx; cases hx; exact hf.lt
theorem SlAt.le (h : SlAt k w a cap n l) : n ≤ cap := by
  rcases h with ⟨_, rfl, rfl, rfl⟩ | ⟨g, _, h⟩
  · exact Nat.le_refl _
  · exact h.le
theorem SlAt.cell (h : SlAt k w a cap n l) {t : Nat} {u : Value} (hu : l[t]? = some u) : ∃ g, a = some ⟨g, 0, none⟩ ∧ g < w.heap.size ∧ w.cell? ⟨g, t, none⟩ = some u := by
  rcases h with ⟨_, _, _, rfl⟩ | ⟨g, h, hf⟩
  · simp at hu
  · exact ⟨g, h, hf.lt, hf.cell t u hu⟩
theorem SlAt.src {P : Program} {tx e : TypeId} (h : SlAt k w a cap n l) (hk : P.underlying tx = some (.slice e)) : Src P k tx (.slice a n cap) n l w := by
  rcases h with ⟨rfl, rfl, rfl, rfl⟩ | ⟨g, rfl, hf⟩
  · exact Src.ofNil w hk 0
  · exact hf.src hk
end

/-- Appending onto nil. -/
theorem nil_append {P : Program} (k : Nat) (T E ty : TypeId) (i : TypeInfo) (z : Value) (hT : P.underlying T = some (.slice E)) (hi : P.info? E = some i) (hz : i.zero = some z) (hsz : i.size = k) (hzc : z.cells.size = k)
    (w : World) (x : Value) (m : Nat) (ys : List Value) (hs : Src P k T x m ys w) (hm : 0 < m) (hmx : m ≤ maxLen) (hby : m * i.bytes ≤ 140737488355328) :
    ∃ g' cap' w', (Builtin.append_ #[T, T] ty #[.slice none 0 0, x]).run P w = .ok (.slice (some ⟨g', 0, none⟩) m cap') w' ∧
      Flat k w' g' cap' m ys ∧ Below w.heap.size w w' ∧ w.heap.size ≤ g' := by
  subst hsz
  have hyl := hs.newsLen
  have hold : (Builtin.firstCells i.size 0 (.slice none 0 0)).run P w.drew = .ok ([] : List Value).toArray w.drew := run_firstCells_none w.drew i.size 0 0 0
  have h63 : ((0 + m : Nat) : Int) ≤ 9223372036854775807 := by unfold maxLen at hmx; omega
  have hr := run_append_grow_src (P := P) w T T ty E i z hT hi hz none 0 0 [] hold x m ys hs (by omega) h63 (growslice_fits (by omega) (by rw [Nat.zero_add]; exact hby))
  rw [Nat.zero_add] at hr
  have hge := grownCap_ge w m 0 E
  have hcm := grownCap_le_maxLen w m 0 E hmx
  generalize grownCap w m 0 E = C at hr hge hcm
  rw [List.nil_append] at hr
  have hc : ∀ j, (w.drew.alloc (.cells (ys.toArray ++ Builtin.zeroCells z.cells (C - m)) E)).cell? ⟨w.heap.size, j, none⟩ = (ys.toArray ++ Builtin.zeroCells z.cells (C - m))[j]? := fun j => World.cell?_alloc_new w.drew _ _ j
  refine ⟨w.heap.size, C, _, hr, ?_, ⟨rfl, rfl, rfl, by simp, fun j hj => Below.heap_alloc w.drew _ j hj⟩, Nat.le_refl _⟩
  refine ⟨by simp, hyl, hge, hcm, ?_, hs.one, ?_⟩
  · intro t u hu
    have ht : t < ys.length := (List.getElem?_eq_some_iff.1 hu).1
    rw [hc, Array.getElem?_append_left (by simpa using ht), List.getElem?_toArray]
    exact hu
  · intro j hj
    refine ⟨?_, World.frozen?_alloc_new w.drew _ _ _⟩
    rw [hc]
    have : j < (ys.toArray ++ Builtin.zeroCells z.cells (C - m)).size := by
      rw [Array.size_append, size_zeroCells, List.size_toArray, hyl]
      have e2 : m * i.size + (C - m) * i.size = C * i.size := by rw [← Nat.add_mul]; congr 1; omega
      rw [hzc]
      first | omega | (rw [Nat.mul_comm] at e2; omega)
    rw [Array.getElem?_eq_getElem this]; rfl

/-- Appending onto any such slice. -/
theorem sl_append {P : Program} {k : Nat} {T E : TypeId} (hp : PlainK P k T E) (ty : TypeId) (w : World) (a : Option Addr) (cap n : Nat) (l : List Value) (h : SlAt k w a cap n l) (x : Value) (m : Nat) (ys : List Value)
    (hs : Src P k T x m ys w) (hm : 0 < m) (hb : n + m ≤ 1099511627776) :
    ∃ g' cap' w', (Builtin.append_ #[T, T] ty #[.slice a n cap, x]).run P w = .ok (.slice (some ⟨g', 0, none⟩) (n + m) cap') w' ∧
      Flat k w' g' cap' (n + m) (l ++ ys) ∧ But (inB a) w w' ∧ (inB a g' ∨ w.heap.size ≤ g') := by
  obtain ⟨i, z, hT, hi, hz, hsz, hzc, hby⟩ := hp
  have hm2 : n + m ≤ maxLen := by unfold maxLen; omega
  have hb2 : (n + m) * i.bytes ≤ 140737488355328 := Nat.le_trans (Nat.mul_le_mul hb hby) (by decide)
  rcases h with ⟨rfl, rfl, rfl, rfl⟩ | ⟨g, rfl, hf⟩
  · rw [Nat.zero_add] at hm2 hb2 ⊢
    obtain ⟨g', cap', w', h1, h2, h3, h4⟩ := nil_append k T E ty i z hT hi hz hsz hzc w x m ys hs hm hm2 hb2
    exact ⟨g', cap', w', h1, by rw [List.nil_append]; exact h2, But.of_below h3, .inr h4⟩
  · obtain ⟨g', cap', w', h1, h2, h3, h4⟩ := flat_append k T E ty i z hT hi hz hsz hzc w g cap n l hf x m ys hs hm2 hb2
    refine ⟨g', cap', w', h1, h2, h3.mono (fun j _ e => ⟨_, rfl, e.symm⟩), h4.imp (fun e => ⟨_, rfl, e.symm⟩) id⟩

theorem wpList_sl {P : Program} {k : Nat} {T E : TypeId} (hp : PlainK P k T E) (w : World) {ops : Array Oper} {rest : List Oper} {o : Oper} {a : Act} {Q : Exit → Act → World → Prop}
    (hg : o.guard = none) (s x : Operand) (hop : o.op = Op.call { callee := Callee.builtin Builtin.append, args := #[s, x], argTypes := #[T, T] })
    (b : Option Addr) (cap n : Nat) (l : List Value) (hs : a.eval s = .slice b n cap) (hF : SlAt k w b cap n l) (xv : Value) (hx : a.eval x = xv) (m : Nat) (ys : List Value)
    (hsrc : Src P k T xv m ys w) (hm : 0 < m) (hb : n + m ≤ 1099511627776)
    (hK : ∀ g' cap' w', Flat k w' g' cap' (n + m) (l ++ ys) → But (inB b) w w' → (inB b g' ∨ w.heap.size ≤ g') → wpList P ops Q rest (a.put o.dst (.slice (some ⟨g', 0, none⟩) (n + m) cap')) w') : wpList P ops Q (o :: rest) a w := by
  refine wpList_plain hg fun K hK' => ?_
  obtain ⟨g', cap', w', hrun, r1, r2, r3⟩ := sl_append hp o.type w b cap n l hF xv m ys hsrc hm hb
  unfold Oper.wp
  simp [execOp, hop, resolve, invoke, builtin, hs, hx, hrun, Result.andThen]
  exact hK' _ _ (hK g' cap' w' r1 r2 r3)

/-- One element, laid in a block of its own. -/
theorem src_new {P : Program} {T E : TypeId} (k : Nat) (w : World) (hk : P.underlying T = some (.slice E)) (b : Nat) (us : List Value) (hl : us.length = k) (hc : ∀ j u, us[j]? = some u → w.cell? ⟨b, j, none⟩ = some u) (h1 : ∀ u ∈ us, u.oneCell' = true) :
    Src P k T (.slice (some ⟨b, 0, none⟩) 1 1) 1 us w :=
  Src.ofSlice w hk _ 1 1 us (by rw [hl, Nat.one_mul]) (fun j u hu => by rw [Addr.add_lit, Nat.zero_add]; exact hc j u hu) h1

end Go.Proofs.Ytepigofpcjmddaa

namespace Go.Proofs.Ytepigofpcjmddaa
open Go.RowKit Go.Sort

/-! Items: their bits and values. -/
abbrev It := Nat × Int
def encI (x : It) : List Value := [.float .f64 x.1, .int .i64 x.2]
def flatI (L : List It) : List Value := L.flatMap encI
theorem flatI_length (L : List It) : (flatI L).length = L.length * 2 := by
  induction L with
  | nil => rfl
  | cons x L ih => simp only [flatI, List.flatMap_cons, List.length_append, List.length_cons] at *; rw [ih]; simp [encI]; omega
theorem flatI_append (L M : List It) : flatI (L ++ M) = flatI L ++ flatI M := by simp [flatI]
theorem flatI_get : ∀ (L : List It) (i : Nat) (h : i < L.length), (flatI L)[i * 2]? = some (.float .f64 L[i].1) ∧ (flatI L)[i * 2 + 1]? = some (.int .i64 L[i].2)
  | x :: L, 0, h => ⟨rfl, rfl⟩
  | x :: L, i + 1, h => by
    have := flatI_get L i (by simpa using h)
    simp only [List.getElem_cons_succ]
    have e : flatI (x :: L) = .float .f64 x.1 :: .int .i64 x.2 :: flatI L := rfl
    rw [e, show (i + 1) * 2 = i * 2 + 1 + 1 by omega]
    exact this
theorem flatI_one (L : List It) : ∀ u ∈ flatI L, u.oneCell' = true := by
  intro u hu
  simp only [flatI, List.mem_flatMap, encI] at hu
  obtain ⟨x, _, hx⟩ := hu
  simp at hx
  rcases hx with rfl | rfl <;> rfl
theorem plainI : PlainK Try.prog 2 25 29 := by
  have h : (Try.prog.info? 29).map (fun i => (i.zero, i.size, i.bytes)) = some (some (.agg #[.float .f64 0, .int .i64 0]), 2, 16) := by kernel_rfl
  obtain ⟨i, hi, he⟩ := Option.map_eq_some_iff.1 h
  simp only [Prod.mk.injEq] at he
  exact ⟨i, _, Try.underlying25, hi, he.1, he.2.1, rfl, by rw [he.2.2]; decide⟩

/-- slices.Clone of items. -/
theorem sclone_any (a : Option Addr) (cap n : Nat) (l : List Value) (w : World) (h : SlAt 2 w a cap n l) (hn : n ≤ 1000000) :
    Calls Try.prog 69 #[.slice a n cap] w fun e w' => ∃ a' cap', e = .returned (.slice a' n cap') ∧ SlAt 2 w' a' cap' n l ∧ (∀ j, inB a' j → w.heap.size ≤ j) ∧ Below w.heap.size w w' := by
  have hq := fun w a n c => Lib.run_eql_slice_nil (P := Try.prog) w 25 29 a n c 0 0 Try.underlying25
  rcases h with ⟨rfl, rfl, rfl, rfl⟩ | ⟨g, rfl, hf⟩
  · go_enter Try.func69, Try.ntmps69
    go_wp2
    go_ret
    exact ⟨none, 0, rfl, SlAt.nil _ _, (fun j e => by obtain ⟨x, hx, _⟩ := e; cases hx), Below.refl _ _⟩
  · have hF := hidq hf
    have hlt := hf.lt
    go_enter Try.func69, Try.ntmps69
    clear hf
    go_wp2_with (at_builtin; refine wpList_flat plainI _ rfl (.tmp 5) (.tmp 6) rfl w.heap.size 0 0 [] rfl (Flat.new w [] 29 2 0 rfl (Nat.zero_le _) (fun _ h => (by cases h))) _ rfl n l ((hF.out.but (S := fun _ => False) ((But.refl _ _).alloc _) id).src Try.underlying25) (by omega) ?_; intro g2 cap2 w2 hF2 hb2 hg2)
    go_ret
    first | rw [Nat.zero_add, List.nil_append] at hF2 | rw [List.nil_append] at hF2 | skip
    refine ⟨some ⟨g2, 0, none⟩, cap2, rfl, .inr ⟨g2, rfl, hF2⟩, ?_, ?_⟩
    · rintro j ⟨x, hx, rfl⟩
      cases hx
      simp at hg2
      show w.heap.size ≤ g2
      omega
    · exact (((But.refl (fun k => k = w.heap.size) w).alloc _).trans hb2).below (Nat.le_refl _) (fun k e => by omega)
end Go.Proofs.Ytepigofpcjmddaa

namespace Go.Proofs.Ytepigofpcjmddaa
open Go.RowKit Go.Sort

/-- Items, as a cell has them. -/
def kit (K : List KI) : List It := K.map fun x => (x.b, x.v)
theorem kit_length (K : List KI) : (kit K).length = K.length := by simp [kit]
theorem items_of {w : World} {a : Option Addr} {cap n : Nat} {K : List KI} (hn : n = K.length) (h : SlAt 2 w a cap n (flatI (kit K))) : Items w a n (fun i => K.toArray[i]!.b) (fun i => K.toArray[i]!.v) := by
  intro i hi
  have hk : i < (kit K).length := by rw [kit_length]; omega
  have hk2 : i < K.length := by omega
  obtain ⟨e1, e2⟩ := flatI_get (kit K) i hk
  obtain ⟨g, h1, h2, h3⟩ := h.cell e1
  obtain ⟨g', h1', _, h3'⟩ := h.cell e2
  rw [h1] at h1'
  cases h1'
  have hx : K.toArray[i]! = K[i] := by rw [getElem!_pos K.toArray i (by simpa using hk2)]; rfl
  refine ⟨g, h1, h2, ?_, ?_, ?_⟩
  · rw [h3]; simp only [hx]; simp [kit]
  · rw [h3']; simp only [hx]; simp [kit]
  · exact (K.toArray[i]!).ok.1
theorem canArr_self (d : Array KI) : (canArr (fun i => d[i]!.b) (fun i => d[i]!.v) d.size d.size).toList = d.toList := by
  refine List.ext_getElem (by simp [canArr]) ?_
  intro i h1 h2
  have hi : i < d.size := by simpa using h2
  simp [canArr, hi, mkKI_self]
theorem can_kit (K : List KI) (n : Nat) (hn : n = K.length) : (canArr (fun i => K.toArray[i]!.b) (fun i => K.toArray[i]!.v) n n).toList = K := by
  have := canArr_self K.toArray
  subst hn
  simpa using this
/-- Items as they are, as canonical ones. -/
def kis (L : List It) : List KI := L.map fun q => mkKI q.1 q.2
theorem kis_kit (K : List KI) : kis (kit K) = K := by
  unfold kis kit
  rw [List.map_map]
  conv => rhs; rw [← List.map_id K]
  exact List.map_congr_left (fun x _ => mkKI_self x)
end Go.Proofs.Ytepigofpcjmddaa

namespace Go.Proofs.Ytepigofpcjmddaa
open Go.RowKit Go.Sort

end Go.Proofs.Ytepigofpcjmddaa

namespace Go.Proofs.Ytepigofpcjmddaa
open Go.RowKit Go.Sort

theorem plainR : PlainK Try.prog 2 26 35 := by
  have h : (Try.prog.info? 35).map (fun i => (i.zero, i.size, i.bytes)) = some (some (.agg #[.int .u64 0, .int .i64 0]), 2, 16) := by kernel_rfl
  obtain ⟨i, hi, he⟩ := Option.map_eq_some_iff.1 h
  simp only [Prod.mk.injEq] at he
  exact ⟨i, _, Try.underlying26, hi, he.1, he.2.1, rfl, by rw [he.2.2]; decide⟩

def encR (x : KI) : List Value := [.int .u64 (ni x.b), .int .i64 x.v]
def flatR (L : List KI) : List Value := L.flatMap encR
theorem flatR_length (L : List KI) : (flatR L).length = L.length * 2 := by
  induction L with
  | nil => rfl
  | cons x L ih => simp only [flatR, List.flatMap_cons, List.length_append, List.length_cons] at *; rw [ih]; simp [encR]; omega
theorem flatR_append (L M : List KI) : flatR (L ++ M) = flatR L ++ flatR M := by simp [flatR]
theorem flatR_get : ∀ (L : List KI) (i : Nat) (h : i < L.length), (flatR L)[i * 2]? = some (.int .u64 (ni L[i].b)) ∧ (flatR L)[i * 2 + 1]? = some (.int .i64 L[i].v)
  | x :: L, 0, h => ⟨rfl, rfl⟩
  | x :: L, i + 1, h => by
    have := flatR_get L i (by simpa using h)
    simp only [List.getElem_cons_succ]
    have e : flatR (x :: L) = .int .u64 (ni x.b) :: .int .i64 x.v :: flatR L := rfl
    rw [e, show (i + 1) * 2 = i * 2 + 1 + 1 by omega]
    exact this
theorem flatR_one (L : List KI) : ∀ u ∈ flatR L, u.oneCell' = true := by
  intro u hu
  simp only [flatR, List.mem_flatMap, encR] at hu
  obtain ⟨x, _, hx⟩ := hu
  simp at hx
  rcases hx with rfl | rfl <;> rfl

/-- Items that are read one by one, wherever their slice begins. -/
def RdR (w : World) (a : Option Addr) (L : List KI) : Prop :=
  ∀ i (h : i < L.length), ∃ g off, a = some ⟨g, off, none⟩ ∧ g < w.heap.size ∧ w.cell? ⟨g, off + i * 2, none⟩ = some (.int .u64 (ni L[i].b)) ∧ w.cell? ⟨g, off + i * 2 + 1, none⟩ = some (.int .i64 L[i].v)
theorem RdR.of_flat {w : World} {g cap : Nat} {L : List KI} (h : Flat 2 w g cap L.length (flatR L)) : RdR w (some ⟨g, 0, none⟩) L := fun i hi => by
  refine ⟨g, 0, rfl, h.lt, ?_, ?_⟩
  · rw [Nat.zero_add]; exact h.cell _ _ (flatR_get L i hi).1
  · rw [Nat.zero_add]; exact h.cell _ _ (flatR_get L i hi).2
theorem RdR.but {S : Nat → Prop} {w w' : World} {a : Option Addr} {L : List KI} (h : RdR w a L) (hb : But S w w') (hS : ∀ j, inB a j → ¬ S j) : RdR w' a L := fun i hi => by
  obtain ⟨g, off, h1, h2, h3, h4⟩ := h i hi
  have hn : ¬ S g := hS g ⟨_, h1, rfl⟩
  exact ⟨g, off, h1, Nat.lt_of_lt_of_le h2 hb.size, (hb.cell (p := ⟨g, off + i * 2, none⟩) h2 hn).trans h3, (hb.cell (p := ⟨g, off + i * 2 + 1, none⟩) h2 hn).trans h4⟩
theorem RdR.below {w w' : World} {a : Option Addr} {L : List KI} (h : RdR w a L) (hb : Below w.heap.size w w') : RdR w' a L := h.but (S := fun _ => False) (But.of_below hb) (fun _ _ e => e)

theorem src_two {P : Program} {T E : TypeId} (w : World) (hk : P.underlying T = some (.slice E)) (b : Nat) (u v : Value) (h0 : w.cell? ⟨b, 0, none⟩ = some u) (h1 : w.cell? ⟨b, 1, none⟩ = some v) (o0 : u.oneCell' = true) (o1 : v.oneCell' = true) : Src P 2 T (.slice (some ⟨b, 0, none⟩) 1 1) 1 [u, v] w := by
  refine Src.ofSlice w hk _ 1 1 _ rfl (fun j z hz => ?_) (fun z hz => by simp at hz; rcases hz with rfl | rfl <;> assumption)
  rw [Addr.add_lit]
  rcases j with _ | _ | j
  · simp at hz; subst hz; exact h0
  · simp at hz; subst hz; exact h1
  · simp at hz

end Go.Proofs.Ytepigofpcjmddaa
