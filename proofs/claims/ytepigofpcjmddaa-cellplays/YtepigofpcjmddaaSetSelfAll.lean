/-
  Arguments of the laws of layers 4 and 5, opened: items and values in the making.
  Arguments of the laws of layer 5, opened: a value in the making.
  Calls on a memory, as an argument of the laws of layer 5, opened.
  A region that draws its order in which some operations turn memory that was there (an append, a store), one behind the other: their number is carried on as a ghost; all others only read, or make memory.
  A store of what the cell holds already.
-/
import Derived.Test.YtepigofpcjmddaaOwn5All
import Derived.Deep.SlicePairs
import Derived.Lib.SmallJoins
import Derived.Carry
import Derived.ProofKit
import Derived.OpenShut
import Derived.Test.YtepigofpcjmddaaFits5All
namespace Go.Proofs.Ytepigofpcjmddaa
open Go.ChangeShapes Go.WideShapes Go.ChangeAt Go.RowKit Go.Deep Go.Joins

theorem own45 : ownKnob Try.prog.godebug = none := by kernel_rfl
theorem laid45 : laidOutB Try.prog = true := by kernel_rfl
theorem cells45R : Try.prog.cellsOf 33 = 2 := by kernel_rfl
theorem cells45U : Try.prog.cellsOf 31 = 1 := by kernel_rfl
theorem cells45I : Try.prog.cellsOf 2 = 1 := by kernel_rfl
theorem wf45_u64 {x : Int} (h : (Lit.int .u64 x).wf = true) : 0 ≤ x ∧ x < 18446744073709551616 := by
  simp [Lit.wf, IntKind.min, IntKind.max, IntKind.signed, IntKind.bits] at h
  omega

theorem raws45_open {H : Type} {enc : TypeId × Value → H} {W : World} {fuel : Nat} {a : Option Addr} {len cap : Nat} {x : DataW H × List MemPlace}
    (h : DataW.trod enc Try.prog W 0 (fun _ => true) true fuel 22 [.slice a len cap] = some x) : ∃ K M, Raws W a len K M := by
  rcases open_slice_pairs Try.underlying22 Try.underlying33 cells45R rfl rfl cells45U cells45I h with ⟨hcs, _⟩ | ⟨a', len', cap', m, n, V0, V1, D0, D1, P0, P1, hcs, _, hl, hm, hmm, _, hcell⟩
  · simp at hcs
    obtain ⟨rfl, rfl, rfl⟩ := hcs
    exact ⟨fun _ => 0, fun _ => 0, fun i hi => absurd hi (Nat.not_lt_zero _)⟩
  · simp at hcs
    obtain ⟨rfl, rfl, rfl⟩ := hcs
    simp only [if_true] at hmm
    refine ⟨fun i => intOf (V0 i), fun i => intOf (V1 i), fun i hi => ?_⟩
    obtain ⟨h0, h1, t0, t1⟩ := hcell i (by omega)
    obtain ⟨z0, e0, _, wz0⟩ := DataW.trod_int Try.underlying31 t0
    obtain ⟨z1, e1, _, wz1⟩ := DataW.trod_int Try.underlying2 t1
    simp at e0 e1
    obtain ⟨b, off, spot⟩ := a'
    have hspot : spot = none := by simpa [Addr.add] using World.cell?_spot (hcell 0 (by omega)).1
    subst hspot
    rw [add_plain] at h0 h1
    rw [e0] at h0
    rw [e1] at h1
    have k0 : intOf (V0 i) = z0 := by rw [e0]; rfl
    have k1 : intOf (V1 i) = z1 := by rw [e1]; rfl
    refine ⟨b, off, rfl, World.block_lt_of_cell? _ _ h0, ?_, ?_, ?_⟩
    · show _ = some (Value.int .u64 (intOf (V0 i)))
      rw [k0]; exact h0
    · show _ = some (Value.int .i64 (intOf (V1 i)))
      rw [k1]; exact h1
    · show _ ≤ intOf (V0 i) ∧ intOf (V0 i) < _
      rw [k0]; exact wf45_u64 wz0

set_option maxRecDepth 100000 in
theorem raw45_open {H : Type} {enc : TypeId × Value → H} {W : World} {b0 : Nat} {v : Value} {d : DataW H} {p : List MemPlace}
    (hv : Value.okWide Try.prog W .any b0 33 v) (h : DataW.Trod enc Try.prog W 0 (fun _ => true) true 33 v d p) : ∃ x y : Int, v = .agg #[.int .u64 x, .int .i64 y] ∧ 0 ≤ x ∧ x < 18446744073709551616 := by
  obtain ⟨v0, v1, y0, y1, n, rfl, _, _, t0, t1⟩ := open_agg2 Try.underlying33 (by kernel_rfl) cells45R hv h
  obtain ⟨z0, e0, _, wz0⟩ := DataW.trod_int Try.underlying31 t0
  obtain ⟨z1, e1, _, wz1⟩ := DataW.trod_int Try.underlying2 t1
  simp at e0 e1
  subst e0; subst e1
  exact ⟨z0, z1, rfl, wf45_u64 wz0⟩
end Go.Proofs.Ytepigofpcjmddaa

namespace Go.Proofs.Ytepigofpcjmddaa
open Go.ChangeShapes Go.WideShapes Go.ChangeAt Go.RowKit Go.Deep Go.Joins

theorem cells5W : Try.prog.cellsOf 72 = 2 := by kernel_rfl
set_option maxRecDepth 100000 in
theorem val5_open {H : Type} {enc : TypeId × Value → H} {W : World} {b0 : Nat} {v : Value} {d : DataW H} {p : List MemPlace}
    (hv : Value.okWide Try.prog W .any b0 72 v) (h : DataW.Trod enc Try.prog W 0 (fun _ => true) true 72 v d p) : ∃ (x : Int) (a : Option Addr) (n cap : Nat) (K V : Nat → Int), v = .agg #[.int .i64 x, .slice a n cap] ∧ Raws W a n K V := by
  obtain ⟨v0, v1, y0, y1, n, rfl, _, _, t0, t1⟩ := open_agg2 Try.underlying72 (by kernel_rfl) cells5W hv h
  obtain ⟨z0, e0, _, wz0⟩ := DataW.trod_int Try.underlying2 t0
  obtain ⟨a, l, c, e1⟩ := slice_form Try.underlying22 t1
  simp at e0 e1
  subst e0; subst e1
  obtain ⟨K, M, hr⟩ := raws45_open t1
  exact ⟨z0, a, l, c, K, M, rfl, hr⟩
end Go.Proofs.Ytepigofpcjmddaa

namespace Go.Proofs.Ytepigofpcjmddaa
open Go.ChangeShapes Go.WideShapes Go.ChangeAt Go.RowKit Go.Deep Go.Joins

/-- One call: which, at which cell, more, and a value in the making. -/
def ActAt (w : World) (g o : Nat) : Prop :=
  ∃ (kd at' mo x : Int) (s : Option Addr) (ln cp : Nat) (K V : Nat → Int), (w.cell? ⟨g, o, none⟩ = some (.int .i64 kd) ∧ w.cell? ⟨g, o + 1, none⟩ = some (.int .i64 at') ∧ w.cell? ⟨g, o + 2, none⟩ = some (.int .i64 mo)) ∧
    (w.cell? ⟨g, o + 3, none⟩ = some (.int .i64 x) ∧ w.cell? ⟨g, o + 4, none⟩ = some (.slice s ln cp)) ∧ (-9223372036854775808 ≤ at' ∧ at' ≤ 9223372036854775807) ∧ Raws w s ln K V
/-- Calls, as an argument. -/
def Acts (w : World) (a : Option Addr) (n : Nat) : Prop := ∀ i, i < n → ∃ g off, a = some ⟨g, off, none⟩ ∧ g < w.heap.size ∧ ActAt w g (off + i * 5)
theorem Acts.below {w w' : World} {a : Option Addr} {n : Nat} (h : Acts w a n) (hb : Below w.heap.size w w') : Acts w' a n := fun i hi => by
  obtain ⟨g, off, h1, h2, kd, at', mo, x, s, ln, cp, K, V, ⟨c0, c1, c2⟩, ⟨c3, c4⟩, h4, h5⟩ := h i hi
  refine ⟨g, off, h1, Nat.lt_of_lt_of_le h2 hb.size, kd, at', mo, x, s, ln, cp, K, V, ⟨?_, ?_, ?_⟩, ⟨?_, ?_⟩, h4, h5.below hb⟩
  · exact (hb.cell (p := ⟨g, off + i * 5, none⟩) h2).trans c0
  · exact (hb.cell (p := ⟨g, off + i * 5 + 1, none⟩) h2).trans c1
  · exact (hb.cell (p := ⟨g, off + i * 5 + 2, none⟩) h2).trans c2
  · exact (hb.cell (p := ⟨g, off + i * 5 + 3, none⟩) h2).trans c3
  · exact (hb.cell (p := ⟨g, off + i * 5 + 4, none⟩) h2).trans c4

theorem cells5A : Try.prog.cellsOf 74 = 5 := by kernel_rfl
theorem cells5I : Try.prog.cellsOf 3 = 1 := by kernel_rfl
theorem cells5S : Try.prog.cellsOf 22 = 1 := by kernel_rfl
theorem wf5_i64 {x : Int} (h : (Lit.int .i64 x).wf = true) : -9223372036854775808 ≤ x ∧ x ≤ 9223372036854775807 := by
  simp [Lit.wf, IntKind.min, IntKind.max, IntKind.signed, IntKind.bits] at h
  omega

set_option maxRecDepth 100000 in
theorem acts5_open {H : Type} {enc : TypeId × Value → H} {W : World} {fuel : Nat} {a : Option Addr} {len cap : Nat} {x : DataW H × List MemPlace}
    (h : DataW.trod enc Try.prog W 0 (fun _ => true) true fuel 49 [.slice a len cap] = some x) : Acts W a len := by
  rcases open_slice Try.underlying49 h with ⟨hcs, _⟩ | ⟨a', len', cap', m, n, D, Pl, hcs, _, hl, hm, hmm, _, hcell⟩
  · simp at hcs
    obtain ⟨rfl, rfl, rfl⟩ := hcs
    exact fun i hi => absurd hi (Nat.not_lt_zero _)
  · simp at hcs
    obtain ⟨rfl, rfl, rfl⟩ := hcs
    simp only [if_true] at hmm
    intro i hi
    obtain ⟨cs, h1, h2⟩ := hcell i (by omega)
    rw [cells5A] at h1
    obtain ⟨_, hlen, hc⟩ := World.cells?_some h1
    obtain ⟨y0, y1, y2, y3, k, _, _, t0, t1, t2, t3⟩ := trod_struct4 Try.underlying74 h2
    match cs, hlen with
    | [v0, v1, v2, v3, v4], _ =>
      simp [cells5I, cells5W] at t0 t1 t2 t3
      obtain ⟨z0, e0, _, _⟩ := DataW.trod_int Try.underlying3 t0
      obtain ⟨z1, e1, _, wz1⟩ := DataW.trod_int Try.underlying3 t1
      obtain ⟨z2, e2, _, _⟩ := DataW.trod_int Try.underlying3 t2
      obtain ⟨y4, y5, k', _, _, t4, t5⟩ := trod_struct2 Try.underlying72 t3
      simp [cells45I, cells5S] at t4 t5
      obtain ⟨z3, e3, _, _⟩ := DataW.trod_int Try.underlying2 t4
      obtain ⟨s, ln, cp, e4⟩ := slice_form Try.underlying22 t5
      simp at e0 e1 e2 e3 e4
      subst e0; subst e1; subst e2; subst e3; subst e4
      obtain ⟨K, M, hr⟩ := raws45_open t5
      obtain ⟨b, off, spot⟩ := a'
      have c0 := hc 0 (by omega)
      have c1 := hc 1 (by omega)
      have c2 := hc 2 (by omega)
      have c3 := hc 3 (by omega)
      have c4 := hc 4 (by omega)
      have hspot : spot = none := by
        obtain ⟨cs0, q1, _⟩ := hcell 0 (by omega)
        rw [cells5A] at q1
        obtain ⟨_, hlen0, hc0⟩ := World.cells?_some q1
        have q2 := hc0 0 (by omega)
        rw [List.getElem?_eq_getElem (by omega)] at q2
        simpa [Addr.add] using World.cell?_spot q2
      subst hspot
      simp only [add_plain] at c0 c1 c2 c3 c4
      refine ⟨b, off, rfl, World.block_lt_of_cell? _ _ c0, z0, z1, z2, z3, s, ln, cp, K, M, ⟨?_, ?_, ?_⟩, ⟨?_, ?_⟩, wf5_i64 wz1, hr⟩
      · exact c0
      · exact c1
      · exact c2
      · exact c3
      · exact c4
end Go.Proofs.Ytepigofpcjmddaa

namespace Go.Proofs.Ytepigofpcjmddaa.Reg
open Go Go.RowKit

/-- How many of these have come up. -/
def cnt (hs : List Nat) (L : Array Bool) : Nat := hs.countP (fun j => L.getD j false)
theorem cnt_light {hs : List Nat} (L : Array Bool) (i : Nat) (h : hs.contains i = false) : cnt hs (L.setIfInBounds i true) = cnt hs L := by
  unfold cnt
  refine List.countP_congr (fun j hj => ?_)
  have hne : i ≠ j := fun e => by subst e; rw [List.contains_iff_mem.2 hj] at h; cases h
  rw [getD_set_ne false hne]
theorem cnt_none (hs : List Nat) (n : Nat) : cnt hs (Array.replicate n false) = 0 := by
  unfold cnt
  rw [List.countP_eq_zero]
  intro j _
  rw [Array.getD_eq_getD_getElem?]
  by_cases hj : j < n
  · simp [hj]
  · simp [hj]
theorem cnt_all {hs : List Nat} {L : Array Bool} (h : ∀ j ∈ hs, L.getD j false = true) : cnt hs L = hs.length := by
  unfold cnt
  rw [List.countP_eq_length]
  exact h
theorem getD_true {L : Array Bool} {i : Nat} (h : L.getD i true = false) : L.getD i false = false := by
  rw [Array.getD_eq_getD_getElem?] at h ⊢
  cases hx : L[i]? with
  | none => rw [hx] at h; cases h
  | some b => rw [hx] at h; simpa using h
theorem cnt_heavy {hs : List Nat} {L : Array Bool} {i : Nat} (hn : hs.Nodup) (hi : i ∈ hs) (h0 : L.getD i true = false) : cnt hs (L.setIfInBounds i true) = cnt hs L + 1 := by
  have hlt : i < L.size := by
    rcases Nat.lt_or_ge i L.size with h' | h'
    · exact h'
    · rw [Array.getD_eq_getD_getElem?, Array.getElem?_eq_none h'] at h0; cases h0
  have h1 : (L.setIfInBounds i true).getD i false = true := by simp [hlt]
  have h2 := getD_true h0
  unfold cnt
  induction hs with
  | nil => cases hi
  | cons a l ih =>
    rw [List.nodup_cons] at hn
    rw [List.countP_cons, List.countP_cons]
    by_cases e : a = i
    · subst e
      rw [if_pos h1, if_neg (by rw [h2]; decide)]
      have : l.countP (fun j => (L.setIfInBounds a true).getD j false) = l.countP (fun j => L.getD j false) := by
        refine List.countP_congr (fun j hj => ?_)
        have hne : a ≠ j := fun e => by subst e; exact hn.1 hj
        rw [getD_set_ne false hne]
      rw [this]
    · have hi' : i ∈ l := by
        rcases List.mem_cons.1 hi with h | h
        · exact absurd h.symm e
        · exact h
      rw [ih hn.2 hi', getD_set_ne false (Ne.symm e)]
      omega
theorem cnt_zero {hs : List Nat} {L : Array Bool} (h : ∀ j ∈ hs, L.getD j false = false) : cnt hs L = 0 := by
  unfold cnt
  rw [List.countP_eq_zero]
  intro j hj
  rw [h j hj]; decide

theorem cnt_zero1 {a : Nat} {L : Array Bool} (h : L.getD a false = false) : cnt [a] L = 0 := by simp only [cnt, List.countP_cons, List.countP_nil, h]; decide
theorem cnt_zero2 {a b : Nat} {L : Array Bool} (h : L.getD a false = false) (h2 : L.getD b false = false) : cnt [a, b] L = 0 := by simp only [cnt, List.countP_cons, List.countP_nil, h, h2]; decide
theorem cnt_one2 {a b : Nat} {L : Array Bool} (h : L.getD a false = true) (h2 : L.getD b false = false) : cnt [a, b] L = 1 := by simp only [cnt, List.countP_cons, List.countP_nil, h, h2]; decide
/-- What each step leaves. -/
def PPres (S : Nat → Prop) (x : Nat) (w : World) (x' : Nat) (w' : World) : Prop := x ≤ x' ∧ (x' = x → Below w.heap.size w w') ∧ But S w w'
theorem PPres.light {S : Nat → Prop} {x : Nat} {w w' : World} (h : Below w.heap.size w w') : PPres S x w x w' := ⟨Nat.le_refl _, fun _ => h, But.of_below h⟩
theorem PPres.refl (S : Nat → Prop) (x : Nat) (w : World) : PPres S x w x w := PPres.light (Below.refl _ _)
theorem PPres.heavy {S : Nat → Prop} {x : Nat} {w w' : World} (h : But S w w') : PPres S x w (x + 1) w' := ⟨Nat.le_succ _, fun e => by omega, h⟩
/-- A property that only what is turned next may break. -/
def At1 (p : Nat) (F : World → Prop) (x : Nat) (w : World) : Prop := p ≤ x ∧ (x = p → F w)
theorem At1.kept {S : Nat → Prop} {p : Nat} {F : World → Prop} (hF : ∀ w w', Below w.heap.size w w' → F w → F w') {x x' : Nat} {w w' : World} (hp : PPres S x w x' w') (h : At1 p F x w) : At1 p F x' w' :=
  ⟨Nat.le_trans h.1 hp.1, fun e => by
    have hx : x' = x := by have := h.1; have := hp.1; omega
    exact hF _ _ (hp.2.1 hx) (h.2 (by omega))⟩
/-- What holds from step to step. -/
def PInv (hs : List Nat) (S : Nat → Prop) (W0 : World) (F : Nat → World → Prop) (x : Nat) (L : Array Bool) (w : World) : Prop :=
  x = cnt hs L ∧ But S W0 w ∧ F x w
theorem PInv.light {hs : List Nat} {S : Nat → Prop} {W0 : World} {F : Nat → World → Prop} (hF : ∀ x w w', Below w.heap.size w w' → F x w → F x w') {x : Nat} {L : Array Bool} {w w' : World} (h : PInv hs S W0 F x L w) (i : Nat) (hi : hs.contains i = false) (hb : Below w.heap.size w w') :
    PInv hs S W0 F x (L.setIfInBounds i true) w' := ⟨by rw [cnt_light L i hi]; exact h.1, h.2.1.trans (But.of_below hb), hF _ _ _ hb h.2.2⟩
theorem PInv.heavy {hs : List Nat} {S : Nat → Prop} {W0 : World} {F : Nat → World → Prop} {x : Nat} {L : Array Bool} {w w' : World} (h : PInv hs S W0 F x L w) (i : Nat) (hn : hs.Nodup) (hi : i ∈ hs) (h0 : L.getD i true = false) (hb : But S w w') (hf : F (x + 1) w') :
    PInv hs S W0 F (x + 1) (L.setIfInBounds i true) w' := ⟨by rw [cnt_heavy hn hi h0, h.1], h.2.1.trans hb, hf⟩
theorem PInv.start {hs : List Nat} {S : Nat → Prop} {w : World} {F : Nat → World → Prop} (n : Nat) (hf : F 0 w.drew) : PInv hs S w F 0 (Array.replicate n false) w.drew :=
  ⟨(cnt_none hs n).symm, (But.refl S w).drew, hf⟩
theorem PInv.done {hs : List Nat} {S : Nat → Prop} {W0 : World} {F : Nat → World → Prop} {x : Nat} {L : Array Bool} {w : World} (h : PInv hs S W0 F x L w) (hl : ∀ j ∈ hs, L.getD j false = true) : x = hs.length ∧ But S W0 w ∧ F hs.length w := by
  have := cnt_all hl
  refine ⟨h.1.trans this, h.2.1, ?_⟩
  have h2 := h.2.2
  rw [h.1, this] at h2
  exact h2
theorem out_skipP {P : Program} {K : Value → World → Prop} {ev : Operand → Value} {o : Oper} {w w' : World} (hrun : (execOp ev o).run P w = .ok .skip w') (hk : K undef w') : Outcome P K ((execOp ev o).run P w) := by
  rw [hrun]; exact hk
/-- What is not listed keeps what waits for it from being listed. -/
theorem not_listed {ops : Array Oper} {a0 : Act} {R : Nat → Value → World → Prop} {L : Array Bool} {ev : Operand → Value} {w : World} (h : At ops a0 R L ev w) (i j : Nat) (oj : Oper) (hj : ops[j]? = some oj) (e : Edge) (he : e ∈ oj.after) (hb : Region.binds .any e = true) (hi : L.getD i true = false) (hei : e.on = i := by rfl) : L.getD j false = false := by
  cases hL : L.getD j false with
  | false => rfl
  | true =>
    have := h.closed j oj hj hL e he hb
    rw [hei, getD_true hi] at this
    cases this
/-- A guarded operation, whichever way its guard is. -/
theorem GStepAt.either {γ : Type} {P : Program} {ops : Array Oper} {a0 : Act} {R : Nat → Value → γ → World → Prop} {Pres : γ → World → γ → World → Prop} {Inv : γ → Array Bool → World → Prop} {i g : Nat} {want : Bool} {o : Oper} (hg : o.guard = some (g, want))
    (h : ∀ (x : γ) (L : Array Bool) (ev : Operand → Value) (w : World), Inv x L w → L.getD i true = false → (∀ e ∈ o.after, Region.binds .any e = true → L.getD e.on false = true) → At ops a0 (fun j v w => R j v x w) L ev w →
      ∃ og t b, ops[g]? = some og ∧ og.dst = some t ∧ ev (.tmp t) = .bool b ∧
        if b = want then Outcome P (fun v w' => ∃ x', R i v x' w' ∧ Pres x w x' w' ∧ Inv x' (L.setIfInBounds i true) w') ((execOp ev o).run P w)
        else R i undef x w ∧ Inv x (L.setIfInBounds i true) w) : GStepAt P ops a0 R Pres Inv i o := by
  intro x L ev w hI hk hp hA
  rw [hg]; exact h x L ev w hI hk hp hA
theorem getD_setb {L : Array Bool} {i c0 : Nat} (hi : i ≠ c0) : (L.setIfInBounds i true).getD c0 false = L.getD c0 false := by
  rw [Array.getD_eq_getD_getElem?, Array.getD_eq_getD_getElem?, Array.getElem?_setIfInBounds_ne hi]
theorem getD_sets {L : Array Bool} {i : Nat} (h : L.getD i true = false) : (L.setIfInBounds i true).getD i false = true := by
  have hi : i < L.size := by
    rcases Nat.lt_or_ge i L.size with h' | h'
    · exact h'
    · rw [Array.getD_eq_getD_getElem?, Array.getElem?_eq_none h'] at h; cases h
  rw [Array.getD_eq_getD_getElem?, Array.getElem?_setIfInBounds_self_of_lt hi]; rfl
end Go.Proofs.Ytepigofpcjmddaa.Reg

namespace Go.Proofs.Ytepigofpcjmddaa
open Go.RowKit Go.Sort

theorem setCell_self (w : World) (a : Addr) (v : Value) (h : w.cell? a = some v) : w.setCell a v = w := by
  obtain ⟨b, off, spot⟩ := a
  have hh : w.heap.modify b (fun | .cells c elem frozen => .cells (if spot.isSome then c else c.setIfInBounds off v) elem frozen | o => o) = w.heap := by
    refine Array.ext (by simp) ?_
    intro i h1 h2
    rw [Array.getElem_modify]
    split
    · rename_i e
      subst e
      have hg : w.heap[b]? = some w.heap[b] := Array.getElem?_eq_getElem h2
      unfold World.cell? at h
      simp only [hg] at h
      generalize w.heap[b] = o at *
      cases o with
      | cells c e f =>
        simp only at h ⊢
        by_cases hs : spot.isSome = true
        · rw [if_pos hs]
        · rw [if_neg hs] at h ⊢
          congr 1
          refine Array.ext (by simp) ?_
          intro j q1 q2
          rw [Array.getElem_setIfInBounds (by simpa using q1)]
          split
          · rename_i ej
            subst ej
            rw [Array.getElem?_eq_getElem q2] at h
            injection h with h
            exact h.symm
          · rfl
      | _ => simp at h
    · rfl
  exact congrArg (fun h => ({ w with heap := h } : World)) hh
end Go.Proofs.Ytepigofpcjmddaa
