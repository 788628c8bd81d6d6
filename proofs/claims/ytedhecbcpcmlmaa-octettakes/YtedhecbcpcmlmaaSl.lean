/-
  Slices that the call itself has made, told by their cells; append onto them; the frame. Over any program.
-/
import Derived.Deep.AppendSrc
import Derived.Deep.Upon
import Derived.Laws.IdiomStrings
import Derived.Lib.BufferRead
import Derived.Test.YtedhecbcpcmlmaaRegion
namespace Go.Proofs.Ytedhecbcpcmlmaa.Sl
open Go Go.RowKit

/-- Block g holds a row with room for cap cells, the first of which are xs. -/
structure Has (w : World) (g cap : Nat) (xs : List Value) : Prop where
  lt : g < w.heap.size
  le : xs.length ≤ cap
  max : cap ≤ maxLen
  holds : ∀ j u, xs[j]? = some u → w.cell? ⟨g, j, none⟩ = some u
  there : ∀ j, j < cap → (w.cell? ⟨g, j, none⟩).isSome = true ∧ w.frozen? ⟨g, j, none⟩ = false

/-- v is a slice of xs: nil, or a row of its own. -/
def Own (w : World) (v : Value) (xs : List Value) : Prop :=
  (v = .slice none 0 0 ∧ xs = []) ∨ ∃ g cap, v = .slice (some ⟨g, 0, none⟩) xs.length cap ∧ Has w g cap xs

/-- From w to w' nothing that was there has turned but v's own row; v' lies there or in new memory. -/
structure Frame (w w' : World) (v v' : Value) : Prop where
  grown : w.grownBy w' v.ownBlock
  lies : ∀ k, v'.ownBlock = some k → v.ownBlock = some k ∨ w.heap.size ≤ k

theorem Frame.refl (w : World) (v : Value) : Frame w w v v := ⟨⟨rfl, rfl, rfl, Nat.le_refl _, fun _ _ _ => rfl⟩, fun _ h => .inl h⟩
theorem Frame.trans {w w1 w2 : World} {v v1 v2 : Value} (h : Frame w w1 v v1) (k : Frame w1 w2 v1 v2) : Frame w w2 v v2 where
  grown := ⟨k.grown.os.trans h.grown.os, k.grown.tape.trans h.grown.tape, k.grown.output.trans h.grown.output, Nat.le_trans h.grown.size k.grown.size, fun b hb hne => by
    have h1 : some b ≠ v1.ownBlock := fun e => by
      rcases h.lies b e.symm with h2 | h2
      · exact hne h2.symm
      · omega
    rw [k.grown.block b (Nat.lt_of_lt_of_le hb h.grown.size) h1]
    exact h.grown.block b hb hne⟩
  lies := fun b hb => by
    rcases k.lies b hb with h2 | h2
    · exact h.lies b h2
    · exact .inr (Nat.le_trans h.grown.size h2)
theorem Frame.alloc (w : World) (o : Obj) (v : Value) : Frame w (w.alloc o) v v := ⟨World.grownBy_alloc w o _, fun _ h => .inl h⟩
theorem Frame.drewN {w w' : World} {v v' : Value} (h : Frame w w' v v') (n : Nat) : Frame w (w'.drewN n) v v' :=
  ⟨⟨h.grown.os, h.grown.tape, h.grown.output, h.grown.size, h.grown.block⟩, h.lies⟩
theorem Frame.drew {w w' : World} {v v' : Value} (h : Frame w w' v v') : Frame w w'.drew v v' := h.drewN 1
theorem Frame.keeps {w w' : World} (h : Reg.Keeps w w') (v : Value) : Frame w w' v v := ⟨⟨h.os, h.tape, h.output, h.size, fun b hb _ => h.block b hb⟩, fun _ h => .inl h⟩
/-- Out of a frame: nothing below a bound has turned, where the row lies above it. -/
theorem Frame.below {w w' : World} {v v' : Value} (h : Frame w w' v v') {B : Nat} (hB : B ≤ w.heap.size) (hv : ∀ k, v.ownBlock = some k → B ≤ k) : Below B w w' :=
  ⟨h.grown.os, h.grown.tape, h.grown.output, h.grown.size, fun b hb => h.grown.block b (Nat.lt_of_lt_of_le hb hB) (fun e => by have := hv b e.symm; omega)⟩
theorem Frame.keepsNil {w w' : World} {v' : Value} (h : Frame w w' (.slice none 0 0) v') : Reg.Keeps w w' := h.below (Nat.le_refl _) (fun k hk => by simp [Value.ownBlock] at hk)

theorem Own.nil (w : World) : Own w (.slice none 0 0) [] := .inl ⟨rfl, rfl⟩
theorem Own.lt {w : World} {v : Value} {xs : List Value} (h : Own w v xs) : ∀ k, v.ownBlock = some k → k < w.heap.size := by
  intro k hk
  rcases h with ⟨rfl, _⟩ | ⟨g, cap, rfl, h⟩
  · simp [Value.ownBlock] at hk
  · simp [Value.ownBlock] at hk; subst hk; exact h.lt
theorem Has.block {w w' : World} {g cap : Nat} {xs : List Value} (h : Has w g cap xs) (hb : w'.heap[g]? = w.heap[g]?) (hs : w.heap.size ≤ w'.heap.size) : Has w' g cap xs :=
  ⟨Nat.lt_of_lt_of_le h.lt hs, h.le, h.max, fun j u hu => by rw [World.cell?_of_block (w := w) (a := ⟨g, j, none⟩) hb]; exact h.holds j u hu,
   fun j hj => by rw [World.cell?_of_block (w := w) (a := ⟨g, j, none⟩) hb, World.frozen?_of_block (w := w) (a := ⟨g, j, none⟩) hb]; exact h.there j hj⟩
theorem Own.keeps {w w' : World} {v : Value} {xs : List Value} (hk : Reg.Keeps w w') (h : Own w v xs) : Own w' v xs := by
  rcases h with h | ⟨g, cap, hv, h⟩
  · exact .inl h
  · exact .inr ⟨g, cap, hv, h.block (hk.block g h.lt) hk.size⟩
theorem Own.alloc {w : World} {v : Value} {xs : List Value} (h : Own w v xs) (o : Obj) : Own (w.alloc o) v xs := h.keeps ((Reg.Keeps.refl _).alloc o)
theorem Own.drewN {w : World} {v : Value} {xs : List Value} (h : Own w v xs) (n : Nat) : Own (w.drewN n) v xs := h.keeps ((Reg.Keeps.refl _).drewN n)

theorem World.heap_alloc_below (w : World) (o : Obj) (k : Nat) (h : k < w.heap.size) : (w.alloc o).heap[k]? = w.heap[k]? := Below.heap_alloc w o k h
theorem size_setCells (b : Nat) : ∀ (vs : List Value) (o : Nat) (w : World), (w.setCells b o vs).heap.size = w.heap.size
  | [], _, _ => rfl
  | v :: vs, o, w => by
    show ((w.setCell ⟨b, o, none⟩ v).setCells b (o + 1) vs).heap.size = _
    rw [size_setCells b vs (o + 1) _, World.size_setCell]
theorem tape_setCells (b : Nat) : ∀ (vs : List Value) (o : Nat) (w : World), (w.setCells b o vs).tape = w.tape
  | [], _, _ => rfl
  | v :: vs, o, w => by
    show ((w.setCell ⟨b, o, none⟩ v).setCells b (o + 1) vs).tape = _
    rw [tape_setCells b vs (o + 1) _]; rfl

section
variable {P : Program}

/-- A slice type whose elements take one cell. -/
structure Plain (P : Program) (t e : TypeId) (i : TypeInfo) (z : Value) : Prop where
  ut : P.underlying t = some (.slice e)
  info : P.info? e = some i
  zero : i.zero = some z
  one : i.size = 1
  bytes : i.bytes ≤ 64
  zsize : z.cells.size = 1

/-- append, whatever the arm. -/
theorem run_append {t e : TypeId} {i : TypeInfo} {z : Value} (hp : Plain P t e i z) (tx ty : TypeId) (w : World) (v : Value) (xs : List Value) (hown : Own w v xs) (x : Value) (n : Nat) (news : List Value)
    (hs : Src P 1 tx x n news w) (hpos : 0 < n ∨ v ≠ .slice none 0 0) (hb : xs.length + n ≤ 1099511627776) :
    ∃ v' w', (Builtin.append_ #[t, tx] ty #[v, x]).run P w = .ok v' w' ∧ Own w' v' (xs ++ news) ∧ Frame w w' v v' ∧ v' ≠ .slice none 0 0 := by
  have hnl : news.length = n := by have := hs.newsLen; omega
  have hs' : Src P i.size tx x n news w := by rw [hp.one]; exact hs
  have grow : ∀ (base : Option Addr) (sCap : Nat), v = .slice base xs.length sCap → ((Builtin.firstCells i.size xs.length (.slice base xs.length sCap)).run P w.drew = .ok xs.toArray w.drew) → sCap < xs.length + n →
      ∃ v' w', (Builtin.append_ #[t, tx] ty #[v, x]).run P w = .ok v' w' ∧ Own w' v' (xs ++ news) ∧ Frame w w' v v' ∧ v' ≠ .slice none 0 0 := by
    intro base sCap hv hold hg
    have hmx : xs.length + n ≤ maxLen := by unfold maxLen; omega
    have hby : (xs.length + n) * i.bytes ≤ 140737488355328 := by
      have := Nat.mul_le_mul hb hp.bytes
      omega
    have hr := run_append_grow_src (P := P) w t tx ty e i z hp.ut hp.info hp.zero base xs.length sCap xs hold x n news hs' hg (by omega) (growslice_fits hg hby)
    have hge := grownCap_ge w (xs.length + n) sCap e
    have hcm := grownCap_le_maxLen w (xs.length + n) sCap e hmx
    subst hv
    refine ⟨_, _, hr, .inr ⟨w.heap.size, grownCap w (xs.length + n) sCap e, by simp [hnl], ?_⟩, ⟨⟨rfl, rfl, rfl, by simp, fun k hk _ => World.heap_alloc_below w.drew _ k hk⟩, fun k hk => ?_⟩, by simp⟩
    · have hc : ∀ j, (w.drew.alloc (.cells ((xs ++ news).toArray ++ Builtin.zeroCells z.cells (grownCap w (xs.length + n) sCap e - (xs.length + n))) e)).cell? ⟨w.heap.size, j, none⟩ =
          ((xs ++ news).toArray ++ Builtin.zeroCells z.cells (grownCap w (xs.length + n) sCap e - (xs.length + n)))[j]? := fun j => World.cell?_alloc_new w.drew _ _ j
      refine ⟨by simp, by simp [hnl]; omega, hcm, fun j u hu => ?_, fun j hj => ⟨?_, World.frozen?_alloc_new w.drew _ _ _⟩⟩
      · rw [hc]
        have hj : j < (xs ++ news).length := (List.getElem?_eq_some_iff.1 hu).1
        rw [Array.getElem?_append_left (by simpa using hj)]
        simpa using hu
      · rw [hc]
        have : j < ((xs ++ news).toArray ++ Builtin.zeroCells z.cells (grownCap w (xs.length + n) sCap e - (xs.length + n))).size := by
          rw [Array.size_append, size_zeroCells, hp.zsize]
          simp [hnl]; omega
        rw [Array.getElem?_eq_getElem this]; rfl
    · simp [Value.ownBlock] at hk
      exact .inr (by omega)
  rcases hown with ⟨rfl, rfl⟩ | ⟨g, cap, rfl, h⟩
  · rcases hpos with hpos | hpos
    · exact grow none 0 rfl (run_firstCells_none w.drew i.size 0 0 0) (by simpa using hpos)
    · exact absurd rfl hpos
  · by_cases hroom : xs.length + n ≤ cap
    · have hj : ∀ j, j < news.length → 0 + xs.length * i.size + j < cap := fun j hj => by rw [hp.one]; omega
      have hr := run_append_room_src (P := P) w t tx ty e i hp.ut hp.info g 0 xs.length cap x n news hs' hroom (fun j hj' => (h.there _ (hj j hj')).1) (fun j hj' => (h.there _ (hj j hj')).2)
      have eo : 0 + xs.length * i.size = xs.length := by rw [hp.one]; omega
      rw [eo] at hr
      refine ⟨_, _, hr, .inr ⟨g, cap, by simp [hnl], ?_⟩, ⟨⟨?_, ?_, ?_, ?_, ?_⟩, fun k hk => .inl hk⟩, by simp⟩
      · refine ⟨by rw [size_setCells]; exact h.lt, by simp [hnl]; omega, h.max, fun j u hu => ?_, fun j hj' => ⟨?_, by rw [World.frozen?_setCells]; exact (h.there j hj').2⟩⟩
        · by_cases hjx : j < xs.length
          · rw [World.cell?_setCells_out _ _ _ _ _ (fun _ _ => .inl hjx)]
            rw [List.getElem?_append_left hjx] at hu
            exact h.holds j u hu
          · rw [List.getElem?_append_right (by omega)] at hu
            have hlt : j - xs.length < news.length := (List.getElem?_eq_some_iff.1 hu).1
            have := World.cell?_setCells_in g news xs.length w (fun i hi => (h.there (xs.length + i) (by omega)).1) (j - xs.length) hlt
            rw [show xs.length + (j - xs.length) = j by omega] at this
            rw [this]
            rw [List.getElem?_eq_getElem hlt] at hu
            exact hu
        · by_cases hjx : j < xs.length ∨ xs.length + news.length ≤ j
          · rw [World.cell?_setCells_out _ _ _ _ _ (fun _ _ => hjx)]
            exact (h.there j hj').1
          · have hlt : j - xs.length < news.length := by omega
            have := World.cell?_setCells_in g news xs.length w (fun i hi => (h.there (xs.length + i) (by omega)).1) (j - xs.length) hlt
            rw [show xs.length + (j - xs.length) = j by omega] at this
            rw [this]; rfl
      · exact World.os_setCells _ _ _ _
      · exact tape_setCells _ _ _ _
      · exact World.output_setCells _ _ _ _
      · rw [size_setCells]; exact Nat.le_refl _
      · intro k hk hne
        exact World.heap_setCells_other w g _ _ hk (fun e => hne (by simp [Value.ownBlock, e]))
    · refine grow (some ⟨g, 0, none⟩) cap rfl ?_ (by omega)
      refine run_firstCells_some w.drew i.size xs.length ⟨g, 0, none⟩ xs.length cap xs (by rw [hp.one]; omega) (fun j u hu => ?_)
      have := h.holds j u hu
      rw [Addr.add_lit]; simpa using this

def Plain1 (P : Program) (t e : TypeId) : Prop := ∃ i z, Plain P t e i z

theorem wpList_append {t e : TypeId} (hp1 : Plain1 P t e) (w : World) {ops : Array Oper} {rest : List Oper} {o : Oper} {a : Act} {Q : Exit → Act → World → Prop}
    (hg : o.guard = none) (s x : Operand) (tx : TypeId) (hop : o.op = Op.call { callee := Callee.builtin Builtin.append, args := #[s, x], argTypes := #[t, tx] })
    (v : Value) (xs : List Value) (hs : a.eval s = v) (hown : Own w v xs) (xv : Value) (hx : a.eval x = xv) (n : Nat) (news : List Value)
    (hsrc : Src P 1 tx xv n news w) (hpos : 0 < n ∨ v ≠ .slice none 0 0) (hb : xs.length + n ≤ 1099511627776)
    (hK : ∀ v' w', Own w' v' (xs ++ news) → Frame w w' v v' → v' ≠ .slice none 0 0 → wpList P ops Q rest (a.put o.dst v') w') : wpList P ops Q (o :: rest) a w := by
  refine wpList_plain hg fun K hK' => ?_
  obtain ⟨i, z, hp⟩ := hp1
  obtain ⟨v', w', hrun, r1, r2, r3⟩ := run_append hp tx o.type w v xs hown xv n news hsrc hpos hb
  unfold Oper.wp
  simp [execOp, hop, resolve, invoke, builtin, hs, hx, hrun, Result.andThen]
  exact hK' _ _ (hK v' w' r1 r2 r3)

/-- Bytes as cells. -/
def cells (l : List UInt8) : List Value := l.map fun b => Value.int .u8 (b.toNat : Int)
theorem cells_append (l m : List UInt8) : cells (l ++ m) = cells l ++ cells m := by simp [cells]
theorem cells_length (l : List UInt8) : (cells l).length = l.length := by simp [cells]

/-- One new cell as the source. -/
theorem src_one (w : World) (tx e' : TypeId) (hk : P.underlying tx = some (.slice e')) (u : Value) (h1 : u.oneCell' = true) (t : TypeId) : Src P 1 tx (.slice (some ⟨w.heap.size, 0, none⟩) 1 1) 1 [u] (w.alloc (.cells #[u] t)) :=
  Src.ofSlice _ hk _ 1 1 [u] rfl (fun j v hv => by
    have : j = 0 := by
      have := (List.getElem?_eq_some_iff.1 hv).1
      simp at this; omega
    subst this
    simp at hv; subst hv
    rw [Addr.add_lit]
    simp) (by simpa using h1)

/-- string(b). -/
theorem run_string {src dst e : TypeId} (w : World) (hs : P.underlying src = some (.slice e)) (he : P.underlying e = some (.int .u8)) (hd : P.underlying dst = some .string) (v : Value) (l : List UInt8) (h : Own w v (cells l)) :
    (convert src dst v).run P w = .ok (.string ⟨l.toArray⟩) w := by
  rcases h with ⟨rfl, hn⟩ | ⟨g, cap, rfl, h⟩
  · have hl : l = [] := by simpa [cells] using hn
    subst hl
    exact Lib.run_convert_nil_bytes w src dst e 0 hs he hd
  · rw [cells_length]
    exact run_convert_bytes_back w src dst e ⟨g, 0, none⟩ cap l hs he hd (fun j hj => by
      have := h.holds j (.int .u8 (l[j].toNat : Int)) (by simp [cells, hj])
      rw [Addr.add_lit]; simpa using this)
end
end Go.Proofs.Ytedhecbcpcmlmaa.Sl
