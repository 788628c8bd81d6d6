/-
  Slices of integers that came in.
  Layer 10: numbers in slices; every second one of a list: contract.
  A region that draws its order, by a property of each operation's value: whatever order is drawn, each operation runs where those that it waits for have left values with their properties; at the end all properties hold.
  A region that draws its order, by a property of each operation's value AND A GHOST that the operations carry on: for values that an operation of the region makes and another of the region turns (a fresh slice that is appended to).
  The slots behind a region that draws its order, written out: those that it wrote by what was said of them, the others as they were.
  A region that draws its order in which some operations turn memory that was there (an append, a store), one behind the other: their number is carried on as a ghost; all others only read, or make memory.
  Layer 10: a plan in the making; a row of gates: contract.
  Layer 10: two lists of wires merged, a list counted: contracts.
  Layer 10: a list counted: contract.
-/
import Derived.Test.YtdghgmaoamjnlaaAloneG6All
import Derived.OpenShut
import Derived.Laws.Bits128
import Derived.Test.YtdghgmaoamjnlaaTokMathAll
import Derived.Orders
import Derived.WalkKit
import Derived.Deep.QuietTactic
namespace Go.Proofs.Ytdghgmaoamjnlaa
open Go.RowKit Go.Sort

/-- A slice's elements, as they lie. -/
def IntsIn (w : World) (a : Option Addr) (n : Nat) (Z : Nat → Int) : Prop := ∀ i, i < n → ∃ b off, a = some ⟨b, off, none⟩ ∧ b < w.heap.size ∧ w.cell? ⟨b, off + i, none⟩ = some (.int .i64 (Z i))
theorem IntsIn.below {w w' : World} {a : Option Addr} {n : Nat} {Z : Nat → Int} (h : IntsIn w a n Z) (hb : Below w.heap.size w w') : IntsIn w' a n Z := fun i hi => by
  obtain ⟨b, off, h1, h2, h3⟩ := h i hi
  exact ⟨b, off, h1, Nat.lt_of_lt_of_le h2 hb.size, by rw [hb.cell (p := ⟨b, off + i, none⟩) h2]; exact h3⟩
theorem intsIn_of {w : World} {x : Addr} {n : Nat} {zs : List Int} (hl : n ≤ zs.length) (h : ∀ i, i < zs.length → w.cell? (x.add i) = some (.int .i64 (zs.getD i 0))) : IntsIn w (some x) n (fun i => zs.getD i 0) := fun i hi => by
  obtain ⟨b, off, rfl, hc⟩ := ints_at h (by omega)
  have h0 := hc i (by omega)
  refine ⟨b, off, rfl, ?_, h0⟩
  rcases Nat.lt_or_ge b w.heap.size with h' | h'
  · exact h'
  · rw [World.cell?, Array.getElem?_eq_none h'] at h0
    cases h0
theorem i64_and32 (n : Int) : bits .and .i64 n 4294967295 = n % 4294967296 := by
  have h63 : (BitVec.ofInt 64 4294967295).toNat = 2 ^ 32 - 1 := by decide
  have key : (BitVec.ofInt 64 n &&& BitVec.ofInt 64 4294967295).toNat = (n % ((2 ^ 64 : Nat) : Int)).toNat % 2 ^ 32 := by
    rw [BitVec.toNat_and, BitVec.toNat_ofInt, h63, Nat.and_two_pow_sub_one_eq_mod]
  show IntKind.i64.wrap ((BitVec.ofInt 64 n &&& BitVec.ofInt 64 4294967295).toNat : Nat) = n % 4294967296
  rw [key, IntKind.wrap_i64]
  omega
end Go.Proofs.Ytdghgmaoamjnlaa

namespace Go.Proofs.Ytdghgmaoamjnlaa
open Go.RowKit Go.Sort

/-- Numbers in a row, in a block that is none of some. -/
def NsAt (w : World) (a : Option Addr) (S : Nat → Prop) (l : List Nat) : Prop :=
  ∀ (i v : Nat), l[i]? = some v → ∃ (b off : Nat), a = some ⟨b, off, none⟩ ∧ b < w.heap.size ∧ ¬ S b ∧ w.cell? ⟨b, off + i, none⟩ = some (.int .i64 (v : Int))
theorem NsAt.but {w w' : World} {a : Option Addr} {S T : Nat → Prop} {l : List Nat} (h : NsAt w a S l) (hb : But S w w') (hT : ∀ j, T j → S j ∨ w.heap.size ≤ j) : NsAt w' a T l := fun i v hv => by
  obtain ⟨b, off, h1, h2, h3, h4⟩ := h i v hv
  refine ⟨b, off, h1, Nat.lt_of_lt_of_le h2 hb.size, fun e => ?_, by rw [hb.cell (p := ⟨b, off + i, none⟩) h2 h3]; exact h4⟩
  rcases hT b e with h | h
  · exact h3 h
  · omega
theorem NsAt.below {w w' : World} {a : Option Addr} {S : Nat → Prop} {l : List Nat} (h : NsAt w a S l) (hb : Below w.heap.size w w') : NsAt w' a S l := h.but (But.of_below hb) (fun _ e => .inl e)
theorem NsAt.mono {w : World} {a : Option Addr} {S T : Nat → Prop} {l : List Nat} (h : NsAt w a S l) (hT : ∀ j, j < w.heap.size → T j → S j) : NsAt w a T l := fun i v hv => by
  obtain ⟨b, off, h1, h2, h3, h4⟩ := h i v hv
  exact ⟨b, off, h1, h2, fun e => h3 (hT b h2 e), h4⟩
def vals (l : List Nat) : List Value := l.map (fun (n : Nat) => Value.int .i64 (n : Int))
theorem vals_length (l : List Nat) : (vals l).length = l.length := by simp [vals]
theorem vals_one (l : List Nat) : ∀ u ∈ vals l, u.oneCell' = true := by
  intro u hu
  simp only [vals, List.mem_map] at hu
  obtain ⟨n, _, rfl⟩ := hu
  rfl
theorem nsAt_of {w : World} {a : Option Addr} {cap n : Nat} {S : Nat → Prop} {l : List Nat} (h : SlAt 1 w a cap n (vals l)) (hS : ∀ j, inB a j → ¬ S j) : NsAt w a S l := fun i v hv => by
  obtain ⟨g, h1, h2, h3⟩ := h.cell (t := i) (u := .int .i64 (v : Int)) (by simp [vals, hv])
  exact ⟨g, 0, h1, h2, hS g ⟨_, h1, rfl⟩, by rw [Nat.zero_add]; exact h3⟩
theorem plainN : PlainK Try.prog 1 46 3 := by
  have h : (Try.prog.info? 3).map (fun i => (i.zero, i.size, i.bytes)) = some (some (.int .i64 0), 1, 8) := by kernel_rfl
  obtain ⟨i, hi, he⟩ := Option.map_eq_some_iff.1 h
  simp only [Prod.mk.injEq] at he
  exact ⟨i, _, Try.underlying46, hi, he.1, he.2.1, rfl, by rw [he.2.2]; decide⟩

open Wr in
theorem ev_len : ∀ (n : Nat) (l : List Nat), l.length ≤ n → (ev l).length = (l.length + 1) / 2
  | _, [], _ => rfl
  | _, [a], _ => by simp [ev]
  | 0, a :: b :: l, h => by simp at h
  | n + 1, a :: b :: l, h => by
    simp only [ev, List.length_cons] at h ⊢
    rw [ev_len n l (by omega)]
    omega

/-- What holds between two rounds. -/
def EvR (w : World) (L : List Nat) (oa : Option Addr) (oc k : Nat) (wr : World) : Prop :=
  SlAt 1 wr oa oc k (vals (L.take k)) ∧ (∀ j, inB oa j → w.heap.size ≤ j) ∧ Below w.heap.size w wr
theorem EvR.next {w wr w1 w2 : World} {L : List Nat} {oa : Option Addr} {oc k v : Nat} {g2 c2 : Nat} (h : EvR w L oa oc k wr) (hv : L[k]? = some v) (hb1 : Below wr.heap.size wr w1)
    (hF : Flat 1 w2 g2 c2 (k + 1) (vals (L.take k) ++ [.int .i64 (v : Int)])) (hb : But (inB oa) w1 w2) (hg : inB oa g2 ∨ w1.heap.size ≤ g2) : EvR w L (some ⟨g2, 0, none⟩) c2 (k + 1) w2 := by
  obtain ⟨h1, h2, h3⟩ := h
  have hs := h3.size
  have hs1 := hb1.size
  refine ⟨.inr ⟨g2, rfl, ?_⟩, ?_, ?_⟩
  · have e : vals (L.take (k + 1)) = vals (L.take k) ++ [.int .i64 (v : Int)] := by
      rw [List.take_add_one, hv]; simp [vals]
    rw [e]; exact hF
  · rintro j ⟨x, hx, rfl⟩
    cases hx
    rcases hg with h | h
    · exact h2 _ h
    · show w.heap.size ≤ g2; omega
  · exact (h3.trans (hb1.mono hs)).trans (hb.below (by omega) (fun j hj => h2 j hj))

set_option maxRecDepth 20000 in
set_option maxHeartbeats 1000000 in
theorem every_any (w : World) (a : Option Addr) (c f n : Nat) (S : Nat → Prop) (l : List Nat) (hf : f ≤ 1) (hn : l.length = n) (h : NsAt w a S l) (hl : n ≤ 64) :
    Calls Try.prog 145 #[.slice a n c, .int .i64 (f : Int)] w fun e w' => ∃ oa oc m, e = .returned (.slice oa m oc) ∧ (Wr.ev (l.drop f)).length = m ∧ NsAt w' oa (fun j => j < w.heap.size) (Wr.ev (l.drop f)) ∧ Below w.heap.size w w' := by
  obtain ⟨L, hL⟩ : ∃ L, Wr.ev (l.drop f) = L := ⟨_, rfl⟩
  have hlen : L.length = (n - f + 1) / 2 := by rw [← hL, ev_len _ _ (Nat.le_refl _), List.length_drop, hn]
  have hget : ∀ k, f + 2 * k < n → ∃ v, L[k]? = some v ∧ l[f + 2 * k]? = some v := fun k hk => by
    have : l[f + 2 * k]? = some (l[f + 2 * k]'(by omega)) := List.getElem?_eq_getElem (by omega)
    refine ⟨_, ?_, this⟩
    rw [← hL, Wr.ev_get, List.getElem?_drop]
    exact this
  rw [hL]
  have H := hidq h
  have HG := hidq hget
  have HL := hidq hlen
  clear h hget hlen hL hn
  go_enter Try.func145, Try.ntmps145
  go_wp2_with fail
  go_loopw [5, 6] (fun s5 s6 wr => ∃ (k : Nat) (oa : Option Addr) (oc : Nat), s6 = .int .i64 ((f + 2 * k : Nat) : Int) ∧ f + 2 * k ≤ n + 1 ∧ k ≤ L.length ∧ s5 = .slice oa k oc ∧ Hid (EvR w L oa oc k wr)) (fun _ s6 _ => n + 1 - (intOf s6).toNat)
  case atStart => exact ⟨0, none, 0, rfl, by have := HL.out; omega, Nat.zero_le _, rfl, ⟨SlAt.nil _ _, (fun j e => by obtain ⟨x, hx, _⟩ := e; cases hx), Below.refl _ _⟩⟩
  case round =>
    obtain ⟨k, oa, oc, rfl, hk1, hk2, rfl, hR⟩ := hrel
    by_cases hlt : f + 2 * k < n
    · obtain ⟨v, hv1, hv2⟩ := HG.out k hlt
      obtain ⟨b, off, ha, hbl, _, hc⟩ := (H.out.below (S := S) hR.out.2.2) _ _ hv2
      subst ha
      have hltI : ((f + 2 * k : Nat) : Int) < (n : Int) := by omega
      have hlt2 : k + 1 ≤ L.length := by have := (List.getElem?_eq_some_iff.1 hv1).1; omega
      have HV := hidq hv1
      have hkb : k ≤ 64 := by omega
      generalize hi : f + 2 * k = i at *
      have HI := hidq hi
      clear hv1 hv2 hi
      have hib : i ≤ 64 := by omega
      go_wp2_with (at_builtin; refine wpList_sl plainN _ rfl (.tmp 14) (.tmp 19) rfl oa oc k _ rfl (hR.out.1.below ((Below.refl _ _).alloc (Nat.le_refl _) _)) _ rfl 1 [.int .i64 (v : Int)] (src_new 1 _ Try.underlying46 wr.heap.size [.int .i64 (v : Int)] rfl (fun j u hu => by rw [World.cell?_alloc_new]; simpa using hu) (by intro u hu; simp at hu; subst hu; rfl)) (by omega) (by omega) ?_; intro g2 c2 w2 hF2 hb2 hg2)
      go_roundw
      case rel => exact ⟨k + 1, some ⟨g2, 0, none⟩, c2, by rw [show f + 2 * (k + 1) = i + 2 by have := HI.out; omega]; go_num, by have := HI.out; omega, by omega, rfl, hR.out.next HV.out ((Below.refl _ _).alloc (Nat.le_refl _) _) hF2 hb2 hg2⟩
      case measure => simp [intOf]; omega
    · have hd : decide (((f + 2 * k : Nat) : Int) < (n : Int)) = false := decide_eq_false (by omega)
      have hd2 : decide (f + 2 * k < n) = false := decide_eq_false (by omega)
      have hkl : L.length = k := by have := HL.out; omega
      go_wp2
      go_ret
      obtain ⟨h01, h02, h03⟩ := hR.out
      rw [List.take_of_length_le (by omega)] at h01
      exact ⟨oa, oc, k, rfl, hkl, nsAt_of h01 (fun j hj e => by have := h02 j hj; omega), h03⟩
end Go.Proofs.Ytdghgmaoamjnlaa

namespace Go.Proofs.Ytdghgmaoamjnlaa.Reg
open Go

/-- What an operation comes to: a value, or a call that returns. -/
def Outcome (P : Program) (K : Value → World → Prop) : Result Next → Prop
  | .ok (.value v) w' => K v w'
  | .ok .skip w' => K undef w'
  | .ok (.enter f args) w' => Calls P f args w' fun e w'' => ∃ v, e = .returned v ∧ K v w''
  | _ => False

theorem outcome_value {P : Program} {K : Value → World → Prop} {v : Value} {w : World} (h : K v w) : Outcome P K (.ok (.value v) w) := h

theorem outcome_wp {P : Program} {o : Oper} {a : Act} {w : World} {K : Value → World → Prop} {N : Act → World → Prop} {Q : Exit → Act → World → Prop}
    (h : Outcome P K ((execOp a.eval o).run P w)) (hn : ∀ v w', K v w' → N (a.put o.dst v) w') : o.wp P a w N Q := by
  unfold Oper.wp
  generalize (execOp a.eval o).run P w = r at *
  cases r with
  | ok n w' =>
    cases n <;> simp only [Outcome, Oper.upon] at h ⊢
    case value v => exact hn _ _ h
    case skip => exact hn _ _ h
    case enter f args =>
      refine Calls.mono h ?_
      rintro e w'' ⟨v, rfl, hk⟩
      exact hn _ _ hk
  | halt x w' => simp [Outcome] at h

/-- The edges lead back, and no two operations write one slot; every slot is there. -/
def fineB (ops : Array Oper) (n : Nat) : Bool :=
  (List.range ops.size).all fun i => match ops[i]? with
    | none => true
    | some o => o.after.all (fun e => decide (e.on < i) || !Region.binds .any e) &&
      (match o.dst with
       | none => true
       | some t => decide (t < n) && (List.range ops.size).all fun j => decide (j = i) || ((ops[j]?).bind (·.dst)) != some t)

theorem fine_back {ops : Array Oper} {n i : Nat} {o : Oper} (h : fineB ops n = true) (ho : ops[i]? = some o) : ∀ e ∈ o.after, Region.binds .any e = true → e.on < i := by
  have hi : i < ops.size := by
    rcases Nat.lt_or_ge i ops.size with h' | h'
    · exact h'
    · rw [Array.getElem?_eq_none h'] at ho; cases ho
  have := List.all_eq_true.1 h i (List.mem_range.2 hi)
  simp only [ho, Bool.and_eq_true] at this
  intro e he hb
  have h2 := this.1
  rw [Array.all_eq_true_iff_forall_mem] at h2
  have h3 := h2 e he
  rw [hb] at h3
  simpa using h3

theorem fine_dst {ops : Array Oper} {n i j t : Nat} {o o' : Oper} (h : fineB ops n = true) (ho : ops[i]? = some o) (ho' : ops[j]? = some o') (hd : o.dst = some t) (hd' : o'.dst = some t) : j = i := by
  have hi : i < ops.size := by
    rcases Nat.lt_or_ge i ops.size with h' | h'
    · exact h'
    · rw [Array.getElem?_eq_none h'] at ho; cases ho
  have hj : j < ops.size := by
    rcases Nat.lt_or_ge j ops.size with h' | h'
    · exact h'
    · rw [Array.getElem?_eq_none h'] at ho'; cases ho'
  have := List.all_eq_true.1 h i (List.mem_range.2 hi)
  simp only [ho, hd, Bool.and_eq_true] at this
  have h2 := List.all_eq_true.1 this.2.2 j (List.mem_range.2 hj)
  simp only [ho', Option.bind_some, hd'] at h2
  simpa using h2

theorem fine_lt {ops : Array Oper} {n i t : Nat} {o : Oper} (h : fineB ops n = true) (ho : ops[i]? = some o) (hd : o.dst = some t) : t < n := by
  have hi : i < ops.size := by
    rcases Nat.lt_or_ge i ops.size with h' | h'
    · exact h'
    · rw [Array.getElem?_eq_none h'] at ho; cases ho
  have := List.all_eq_true.1 h i (List.mem_range.2 hi)
  simp only [ho, hd, Bool.and_eq_true] at this
  simpa using this.2.1

section
variable (P : Program) (ops : Array Oper) (a0 : Act) (R : Nat → Value → World → Prop) (Pres : World → World → Prop) (Inv : Array Bool → World → Prop)

/-- Where the operations that are listed have come up: their slots have their properties, the others are as at the start. -/
structure Fits (L : Array Bool) (a : Act) (w : World) : Prop where
  defers : a.defers = a0.defers
  size : a.tmps.size = a0.tmps.size
  lsize : L.size = ops.size
  val : ∀ j o t, ops[j]? = some o → L.getD j false = true → o.dst = some t → R j (a.eval (.tmp t)) w
  old : ∀ t, (∀ j o, ops[j]? = some o → L.getD j false = true → o.dst ≠ some t) → a.eval (.tmp t) = a0.eval (.tmp t)
  closed : ∀ j o, ops[j]? = some o → L.getD j false = true → ∀ e ∈ o.after, Region.binds .any e = true → L.getD e.on false = true

/-- The slots as a plain function. -/
structure At (L : Array Bool) (ev : Operand → Value) (w : World) : Prop where
  val : ∀ j o t, ops[j]? = some o → L.getD j false = true → o.dst = some t → R j (ev (.tmp t)) w
  old : ∀ t, (∀ j o, ops[j]? = some o → L.getD j false = true → o.dst ≠ some t) → ev (.tmp t) = a0.eval (.tmp t)
  closed : ∀ j o, ops[j]? = some o → L.getD j false = true → ∀ e ∈ o.after, Region.binds .any e = true → L.getD e.on false = true
  const : ∀ v, ev (.const v) = v
  func : ∀ f, ev (.func f) = .func (.func f) #[] #[]
  global : ∀ g, ev (.global g) = .pointer (some ⟨g, 0, none⟩)

/-- What is asked of one operation. -/
def StepAt (i : Nat) (o : Oper) : Prop :=
  ∀ (L : Array Bool) (ev : Operand → Value) (w : World), Inv L w → L.getD i true = false → (∀ e ∈ o.after, Region.binds .any e = true → L.getD e.on false = true) → At ops a0 R L ev w →
    match o.guard with
    | none => Outcome P (fun v w' => R i v w' ∧ Pres w w' ∧ Inv (L.setIfInBounds i true) w') ((execOp ev o).run P w)
    | some (g, want) => (∃ og t b, ops[g]? = some og ∧ og.dst = some t ∧ ev (.tmp t) = .bool b ∧
        if b = want then Outcome P (fun v w' => R i v w' ∧ Pres w w' ∧ Inv (L.setIfInBounds i true) w') ((execOp ev o).run P w)
        else R i undef w ∧ Inv (L.setIfInBounds i true) w) ∨
      ∃ og t, ops[g]? = some og ∧ og.dst = some t ∧ ev (.tmp t) = undef ∧ R i undef w ∧ Inv (L.setIfInBounds i true) w

def AllSteps : Nat → List Oper → Prop
  | _, [] => True
  | k, o :: l => StepAt P ops a0 R Pres Inv k o ∧ AllSteps (k + 1) l
end

section
variable {P : Program} {ops : Array Oper} {a0 : Act} {R : Nat → Value → World → Prop} {Pres : World → World → Prop} {Inv : Array Bool → World → Prop}

theorem StepAt.plain {i : Nat} {o : Oper} (hg : o.guard = none)
    (h : ∀ (L : Array Bool) (ev : Operand → Value) (w : World), Inv L w → L.getD i true = false → (∀ e ∈ o.after, Region.binds .any e = true → L.getD e.on false = true) → At ops a0 R L ev w →
      Outcome P (fun v w' => R i v w' ∧ Pres w w' ∧ Inv (L.setIfInBounds i true) w') ((execOp ev o).run P w)) : StepAt P ops a0 R Pres Inv i o := by
  intro L ev w hI hk hp hA
  rw [hg]; exact h L ev w hI hk hp hA
theorem StepAt.guarded {i g : Nat} {want : Bool} {o : Oper} (hg : o.guard = some (g, want))
    (h : ∀ (L : Array Bool) (ev : Operand → Value) (w : World), Inv L w → L.getD i true = false → (∀ e ∈ o.after, Region.binds .any e = true → L.getD e.on false = true) → At ops a0 R L ev w →
      ∃ og t b, ops[g]? = some og ∧ og.dst = some t ∧ ev (.tmp t) = .bool b ∧
        if b = want then Outcome P (fun v w' => R i v w' ∧ Pres w w' ∧ Inv (L.setIfInBounds i true) w') ((execOp ev o).run P w)
        else R i undef w ∧ Inv (L.setIfInBounds i true) w) : StepAt P ops a0 R Pres Inv i o := by
  intro L ev w hI hk hp hA
  rw [hg]; exact .inl (h L ev w hI hk hp hA)
/-- A guard that is not reached itself. -/
theorem StepAt.unreached {i g : Nat} {want : Bool} {o : Oper} (hg : o.guard = some (g, want))
    (h : ∀ (L : Array Bool) (ev : Operand → Value) (w : World), Inv L w → L.getD i true = false → (∀ e ∈ o.after, Region.binds .any e = true → L.getD e.on false = true) → At ops a0 R L ev w →
      ∃ og t, ops[g]? = some og ∧ og.dst = some t ∧ ev (.tmp t) = undef ∧ R i undef w ∧ Inv (L.setIfInBounds i true) w) : StepAt P ops a0 R Pres Inv i o := by
  intro L ev w hI hk hp hA
  rw [hg]; exact .inr (h L ev w hI hk hp hA)
/-- What is not there says neither yes nor no. -/
theorem yielded_undef {ops : Array Oper} {tmps : Array Value} {g t : Nat} {og : Oper} (hog : ops[g]? = some og) (hd : og.dst = some t) (h : tmps.getD t undef = undef) : yielded ops tmps g = none := by
  unfold yielded
  rw [hog]
  simp only [Option.bind_some, hd]
  rw [Array.getD_eq_getD_getElem?] at h
  cases hx : tmps[t]? with
  | none => rfl
  | some x => rw [hx] at h; simp only [Option.getD_some] at h; subst h; rfl

theorem AllSteps.at : ∀ (l : List Oper) (k : Nat), AllSteps P ops a0 R Pres Inv k l → ∀ (i : Nat) (o : Oper), l[i]? = some o → StepAt P ops a0 R Pres Inv (k + i) o
  | [], _, _, i, o, h => by simp at h
  | x :: l, k, hs, 0, o, h => by simp at h; subst h; exact hs.1
  | x :: l, k, hs, i + 1, o, h => by
    have := AllSteps.at l (k + 1) hs.2 i o (by simpa using h)
    rw [show k + (i + 1) = k + 1 + i by omega]; exact this

theorem Fits.at {L : Array Bool} {a : Act} {w : World} (h : Fits ops a0 R L a w) : At ops a0 R L a.eval w :=
  ⟨h.val, h.old, h.closed, fun _ => rfl, fun _ => rfl, fun _ => rfl⟩

theorem eval_put_same {a : Act} {t : Nat} {v : Value} (h : t < a.tmps.size) : (a.put (some t) v).eval (.tmp t) = v := by
  simp [Act.put, Act.eval, h]
theorem eval_put_other {a : Act} {t u : Nat} {v : Value} (h : t ≠ u) : (a.put (some t) v).eval (.tmp u) = a.eval (.tmp u) := by
  simp [Act.put, Act.eval, Array.getElem?_setIfInBounds_ne h]
theorem size_put {a : Act} {d : Option Tmp} {v : Value} : (a.put d v).tmps.size = a.tmps.size := by
  cases d <;> simp [Act.put]
theorem defers_put {a : Act} {d : Option Tmp} {v : Value} : (a.put d v).defers = a.defers := by
  cases d <;> simp [Act.put]

theorem getD_set_of {L : Array Bool} {i j : Nat} (h : (L.setIfInBounds i true).getD j false = true) : j = i ∨ L.getD j false = true := by
  by_cases e : i = j
  · exact .inl e.symm
  · rw [getD_set_ne false e] at h; exact .inr h

theorem Fits.put {L : Array Bool} {a : Act} {w w' : World} {i : Nat} {o : Oper} {v : Value} (hf : fineB ops a0.tmps.size = true) (ho : ops[i]? = some o)
    (hall : ∀ e ∈ o.after, Region.binds .any e = true → L.getD e.on false = true)
    (hR : ∀ j v, R j v w → R j v w') (h : Fits ops a0 R L a w) (hv : o.dst.isSome → R i v w') : Fits ops a0 R (L.setIfInBounds i true) (a.put o.dst v) w' where
  defers := by rw [defers_put]; exact h.defers
  size := by rw [size_put]; exact h.size
  lsize := by rw [Array.size_setIfInBounds]; exact h.lsize
  val := by
    intro j oj t hj hL hd
    rcases getD_set_of hL with rfl | hL'
    · rw [ho] at hj; injection hj with hj; subst hj
      rw [hd, eval_put_same (by rw [h.size]; exact fine_lt hf ho hd)]
      exact hv (by rw [hd]; rfl)
    · by_cases e : j = i
      · subst e; rw [ho] at hj; injection hj with hj; subst hj
        rw [hd, eval_put_same (by rw [h.size]; exact fine_lt hf ho hd)]
        exact hv (by rw [hd]; rfl)
      · cases hd' : o.dst with
        | none => exact hR _ _ (h.val j oj t hj hL' hd)
        | some u =>
          have hne : u ≠ t := fun e2 => e (fine_dst hf ho hj (e2 ▸ hd') hd)
          rw [eval_put_other hne]; exact hR _ _ (h.val j oj t hj hL' hd)
  old := by
    intro t hno
    have h1 : a.eval (.tmp t) = a0.eval (.tmp t) := h.old t (fun j oj hj hL => hno j oj hj (getD_set_true hL))
    cases hd' : o.dst with
    | none => exact h1
    | some u =>
      have hlt : i < L.size := by
        rcases Nat.lt_or_ge i ops.size with h' | h'
        · rw [h.lsize]; exact h'
        · rw [Array.getElem?_eq_none h'] at ho; cases ho
      have hne : u ≠ t := fun e2 => hno i o ho (by simp [hlt]) (e2 ▸ hd')
      rw [eval_put_other hne]; exact h1
  closed := by
    intro j oj hj hL e he hb
    rcases getD_set_of hL with rfl | hL'
    · rw [ho] at hj; injection hj with hj; subst hj
      exact getD_set_true (hall e he hb)
    · exact getD_set_true (h.closed j oj hj hL' e he hb)

/-- Nothing may come up: all have. -/
theorem all_listed {n : Nat} {L : Array Bool} (hf : fineB ops n = true) (hl : L.size = ops.size) (hr : Region.ready .any ops L = []) : ∀ i, i < ops.size → L.getD i false = true := by
  intro i
  induction i using Nat.strongRecOn with
  | ind i ih =>
    intro hi
    have ho : ops[i]? = some ops[i] := Array.getElem?_eq_getElem hi
    cases hL : L.getD i false with
    | true => rfl
    | false =>
      have hm : i ∈ Region.ready .any ops L := by
        rw [mem_ready]
        refine ⟨?_, ops[i], ho, fun e he hb => ih e.on (fine_back hf ho e he hb) (Nat.lt_trans (fine_back hf ho e he hb) hi)⟩
        have hlt : i < L.size := by omega
        simp [hlt] at hL ⊢; exact hL
      rw [hr] at hm; cases hm

theorem count_set {L : Array Bool} {i : Nat} (h : L.getD i true = false) : (L.setIfInBounds i true).toList.countP (! ·) + 1 = L.toList.countP (! ·) := by
  have hlt : i < L.size := by
    rcases Nat.lt_or_ge i L.size with h' | h'
    · exact h'
    · simp [Array.getElem?_eq_none h'] at h
  have hv : L[i] = false := by simpa [hlt] using h
  have hp : 0 < L.toList.countP (! ·) := List.countP_pos_iff.2 ⟨L[i], by simp, by simp [hv]⟩
  rw [Array.toList_setIfInBounds, List.countP_set (by simpa using hlt)]
  have e : (L.toList)[i]'(by simpa using hlt) = false := by simpa using hv
  rw [e]
  show L.toList.countP (! ·) - 1 + 0 + 1 = _
  omega

/-- The rule, from any stage on. -/
theorem wpAny_of_steps {Q : Exit → Act → World → Prop} (hf : fineB ops a0.tmps.size = true) (hR : ∀ j v w w', Pres w w' → R j v w → R j v w')
    (hs : ∀ i o, ops[i]? = some o → StepAt P ops a0 R Pres Inv i o) (hrefl : ∀ w, Pres w w)
    (hend : ∀ L a w, (∀ i, i < ops.size → L.getD i false = true) → Inv L w → Fits ops a0 R L a w → Q .normal a w) :
    ∀ (fuel : Nat) (L : Array Bool) (a : Act) (w : World), L.toList.countP (! ·) = fuel → Inv L w → Fits ops a0 R L a w → wpAny P .any ops Q fuel L a w := by
  intro fuel
  induction fuel with
  | zero =>
    intro L a w hc hI hF
    have hr : Region.ready .any ops L = [] := by
      cases h : Region.ready .any ops L with
      | nil => rfl
      | cons x xs =>
        have hx : x ∈ Region.ready .any ops L := by rw [h]; simp
        have := count_set (mem_ready.1 hx).1
        omega
    exact ⟨hr, hend L a w (all_listed hf hF.lsize hr) hI hF⟩
  | succ fuel ih =>
    intro L a w hc hI hF
    refine ⟨fun hr => hend L a w (all_listed hf hF.lsize hr) hI hF, fun i hi => ?_⟩
    obtain ⟨h0, o, ho, hall⟩ := mem_ready.1 hi
    have hst := hs i o ho L a.eval w hI h0 hall hF.at
    have hcs := count_set h0
    unfold wpOp
    simp only [ho]
    have go : Outcome P (fun v w' => R i v w' ∧ Pres w w' ∧ Inv (L.setIfInBounds i true) w') ((execOp a.eval o).run P w) →
        o.wp P a w (wpAny P .any ops Q fuel (L.setIfInBounds i true)) Q := fun h =>
      outcome_wp h fun v w' ⟨h1, h2, h3⟩ => ih _ _ _ (by omega) h3 (hF.put hf ho hall (fun j v => hR j v w w' h2) (fun _ => h1))
    cases hg : o.guard with
    | none =>
      rw [hg] at hst
      rw [if_pos (by simp [Region.wanted, hg])]
      exact .inl (go hst)
    | some gw =>
      obtain ⟨g, want⟩ := gw
      rw [hg] at hst
      rcases hst with ⟨og, t, b, hog, hd, hev, hcase⟩ | ⟨og, t, hog, hd, hev, hcase⟩
      case inr =>
        have hy : yielded ops a.tmps g = none := yielded_undef hog hd hev
        rw [if_neg (by simp [Region.wanted, hg, hy])]
        exact ih _ _ _ (by omega) hcase.2 (hF.put hf ho hall (fun j v => hR j v w w (hrefl w)) (fun _ => hcase.1))
      have hy : yielded ops a.tmps g = some b := by
        have hb : a.tmps[t]? = some (.bool b) := by
          have : a.tmps.getD t undef = .bool b := hev
          rw [Array.getD_eq_getD_getElem?] at this
          cases h : a.tmps[t]? with
          | none => rw [h] at this; cases this
          | some x => rw [h] at this; simpa using this
        simp [yielded, hog, hd, hb]
      by_cases hbw : b = want
      · rw [if_pos hbw] at hcase
        rw [if_pos (by simp [Region.wanted, hg, hy, hbw])]
        exact .inl (go hcase)
      · rw [if_neg hbw] at hcase
        rw [if_neg (by simp [Region.wanted, hg, hy, hbw])]
        exact ih _ _ _ (by omega) hcase.2 (hF.put hf ho hall (fun j v => hR j v w w (hrefl w)) (fun _ => hcase.1))

/-- No operation writes slot t. -/
def noneWrites (ops : Array Oper) (t : Nat) : Bool := ops.all fun o => o.dst != some t
/-- None but number j writes slot t. -/
def onlyWrites (ops : Array Oper) (t j : Nat) : Bool := (List.range ops.size).all fun i => decide (i = j) || ((ops[i]?).bind (·.dst)) != some t

theorem At.oldNone {L : Array Bool} {ev : Operand → Value} {w : World} (h : At ops a0 R L ev w) (t : Nat) (hb : noneWrites ops t = true) : ev (.tmp t) = a0.eval (.tmp t) := by
  refine h.old t fun j o ho _ hd => ?_
  have := (Array.all_eq_true_iff_forall_mem.1 hb) o (Array.mem_of_getElem? ho)
  simp [hd] at this

theorem At.oldBut {L : Array Bool} {ev : Operand → Value} {w : World} {i : Nat} (h : At ops a0 R L ev w) (j : Nat) (oj : Oper) (t : Nat) (hb : onlyWrites ops t j = true) (hj : ops[j]? = some oj)
    (e : Edge) (he : e ∈ oj.after) (hbi : Region.binds .any e = true) (hi : L.getD i true = false) (hei : e.on = i := by rfl) : ev (.tmp t) = a0.eval (.tmp t) := by
  refine h.old t fun k o ho hL hd => ?_
  have hk : k < ops.size := by
    rcases Nat.lt_or_ge k ops.size with h' | h'
    · exact h'
    · rw [Array.getElem?_eq_none h'] at ho; cases ho
  have h1 := List.all_eq_true.1 hb k (List.mem_range.2 hk)
  simp only [ho, Option.bind_some, hd] at h1
  have hkj : k = j := by simpa using h1
  subst hkj
  have h2 := h.closed k oj hj hL e he hbi
  rw [hei] at h2
  rcases Nat.lt_or_ge i L.size with h' | h'
  · simp [h'] at h2 hi; rw [hi] at h2; cases h2
  · simp [Array.getElem?_eq_none h'] at h2

/-- Properties by a list. -/
def ofList (l : List (Value → World → Prop)) : Nat → Value → World → Prop := fun j => l.getD j (fun _ _ => True)

/-- Each of them is kept. -/
def AllKept (Pres : World → World → Prop) : List (Value → World → Prop) → Prop
  | [] => True
  | p :: l => (∀ v w w', Pres w w' → p v w → p v w') ∧ AllKept Pres l

theorem AllKept.at {Pres : World → World → Prop} : ∀ (l : List (Value → World → Prop)), AllKept Pres l → ∀ j v w w', Pres w w' → ofList l j v w → ofList l j v w'
  | [], _, _, _, _, _, _, _ => trivial
  | _ :: _, h, 0, v, w, w', hp, hv => h.1 v w w' hp hv
  | _ :: l, h, j + 1, v, w, w', hp, hv => AllKept.at l h.2 j v w w' hp hv

theorem out_new {K : Value → World → Prop} {ev : Operand → Value} {o : Oper} {w w' : World} {v : Value} (hrun : (execOp ev o).run P w = .ok (.value v) w') (hk : K v w') :
    Outcome P K ((execOp ev o).run P w) := by
  rw [hrun]; exact hk
theorem out_value {K : Value → World → Prop} {ev : Operand → Value} {o : Oper} {w : World} {v : Value} (hrun : (execOp ev o).run P w = .ok (.value v) w) (hk : K v w) :
    Outcome P K ((execOp ev o).run P w) := by
  rw [hrun]; exact hk
theorem out_call {f : Nat} {K : Value → World → Prop} {ev : Operand → Value} {o : Oper} {w w0 : World} {args : Array Value} (hrun : (execOp ev o).run P w = .ok (.enter f args) w0)
    (hc : Calls P f args w0 fun e w'' => ∃ v, e = .returned v ∧ K v w'') : Outcome P K ((execOp ev o).run P w) := by
  rw [hrun]; exact hc

/-- THE RULE. -/
theorem wp_region_props {id : Nat} {l : List Oper} {Q : Exit → Act → World → Prop} {w : World} (R : Nat → Value → World → Prop) (Pres : World → World → Prop) (Inv : Array Bool → World → Prop)
    (hm : P.follows .mixedOrders = true) (hf : fineB l.toArray a0.tmps.size = true) (hR : ∀ j v w w', Pres w w' → R j v w → R j v w') (hrefl : ∀ w, Pres w w)
    (hI : Inv (Array.replicate l.length false) w.drew)
    (hs : AllSteps P l.toArray a0 R Pres Inv 0 l)
    (hend : ∀ L a w, (∀ i, i < l.length → L.getD i false = true) → Inv L w → Fits l.toArray a0 R L a w → Q .normal a w) : (Code.region id l.toArray true).wp P Q a0 w := by
  refine wp_region_any hm ?_
  refine wpAny_of_steps (Pres := Pres) (Inv := Inv) (R := R) (a0 := a0) hf hR ?_ hrefl (by simpa using hend) _ _ _ _ ?_ (by simpa using hI) ?_
  · intro i o ho
    have := hs.at l 0 i o (by simpa using ho)
    simpa using this
  · simp [List.countP_replicate]
  · refine ⟨rfl, rfl, by simp, ?_, fun _ _ => rfl, ?_⟩
    · intro j o t ho hL
      exfalso
      rw [Array.getD_eq_getD_getElem?] at hL
      by_cases hj : j < l.toArray.size
      · simp at hj; simp [hj] at hL
      · simp at hj; simp [hj] at hL
    · intro j o ho hL
      exfalso
      rw [Array.getD_eq_getD_getElem?] at hL
      by_cases hj : j < l.toArray.size
      · simp at hj; simp [hj] at hL
      · simp at hj; simp [hj] at hL
end

/-- A slice of just these values, in a block of its own. -/
def OwnSl (l : List Value) (v : Value) (w : World) : Prop :=
  ∃ sb, v = .slice (some ⟨sb, 0, none⟩) l.length l.length ∧ sb < w.heap.size ∧ ∀ i (h : i < l.length), w.cell? ⟨sb, i, none⟩ = some l[i]
/-- Nothing that was there is another one. -/
def Keeps (w w' : World) : Prop := RowKit.Below w.heap.size w w'
theorem Keeps.refl (w : World) : Keeps w w := RowKit.Below.refl _ _
theorem Keeps.drewN {w w' : World} (h : Keeps w w') (n : Nat) : Keeps w (w'.drewN n) := ⟨h.os, h.tape, h.output, h.size, h.block⟩
theorem Keeps.alloc {w w' : World} (h : Keeps w w') (o : Obj) : Keeps w (w'.alloc o) := RowKit.Below.alloc h h.size o
theorem Keeps.trans {w w' w'' : World} (h : Keeps w w') (k : Keeps w' w'') : Keeps w w'' := RowKit.Below.trans h (RowKit.Below.mono k h.size)
theorem OwnSl.keeps {l : List Value} {v : Value} {w w' : World} (hk : Keeps w w') (h : OwnSl l v w) : OwnSl l v w' := by
  obtain ⟨sb, hv, hs, hc⟩ := h
  refine ⟨sb, hv, Nat.lt_of_lt_of_le hs hk.size, fun i hi => ?_⟩
  rw [hk.cell (p := ⟨sb, i, none⟩) hs]; exact hc i hi
theorem OwnSl.new (l : List Value) (w : World) (t : TypeId) (n : Nat) (hn : n = l.length) : OwnSl l (.slice (some ⟨w.heap.size, 0, none⟩) n n) (w.alloc (.cells l.toArray t)) := by
  subst hn
  refine ⟨w.heap.size, rfl, by simp, fun i hi => ?_⟩
  rw [World.cell?_alloc_new]; simp [hi]
end Go.Proofs.Ytdghgmaoamjnlaa.Reg

namespace Go.Proofs.Ytdghgmaoamjnlaa.Reg
open Go

section
variable {γ : Type} (P : Program) (ops : Array Oper) (a0 : Act) (R : Nat → Value → γ → World → Prop) (Pres : γ → World → γ → World → Prop) (Inv : γ → Array Bool → World → Prop)

/-- What is asked of one operation. -/
def GStepAt (i : Nat) (o : Oper) : Prop :=
  ∀ (x : γ) (L : Array Bool) (ev : Operand → Value) (w : World), Inv x L w → L.getD i true = false → (∀ e ∈ o.after, Region.binds .any e = true → L.getD e.on false = true) → At ops a0 (fun j v w => R j v x w) L ev w →
    match o.guard with
    | none => Outcome P (fun v w' => ∃ x', R i v x' w' ∧ Pres x w x' w' ∧ Inv x' (L.setIfInBounds i true) w') ((execOp ev o).run P w)
    | some (g, want) => ∃ og t b, ops[g]? = some og ∧ og.dst = some t ∧ ev (.tmp t) = .bool b ∧
        if b = want then Outcome P (fun v w' => ∃ x', R i v x' w' ∧ Pres x w x' w' ∧ Inv x' (L.setIfInBounds i true) w') ((execOp ev o).run P w)
        else R i undef x w ∧ Inv x (L.setIfInBounds i true) w

def GAllSteps : Nat → List Oper → Prop
  | _, [] => True
  | k, o :: l => GStepAt P ops a0 R Pres Inv k o ∧ GAllSteps (k + 1) l
end

section
variable {γ : Type} {P : Program} {ops : Array Oper} {a0 : Act} {R : Nat → Value → γ → World → Prop} {Pres : γ → World → γ → World → Prop} {Inv : γ → Array Bool → World → Prop}

theorem GStepAt.plain {i : Nat} {o : Oper} (hg : o.guard = none)
    (h : ∀ (x : γ) (L : Array Bool) (ev : Operand → Value) (w : World), Inv x L w → L.getD i true = false → (∀ e ∈ o.after, Region.binds .any e = true → L.getD e.on false = true) → At ops a0 (fun j v w => R j v x w) L ev w →
      Outcome P (fun v w' => ∃ x', R i v x' w' ∧ Pres x w x' w' ∧ Inv x' (L.setIfInBounds i true) w') ((execOp ev o).run P w)) : GStepAt P ops a0 R Pres Inv i o := by
  intro x L ev w hI hk hp hA
  rw [hg]; exact h x L ev w hI hk hp hA
theorem GStepAt.guarded {i g : Nat} {want : Bool} {o : Oper} (hg : o.guard = some (g, want))
    (h : ∀ (x : γ) (L : Array Bool) (ev : Operand → Value) (w : World), Inv x L w → L.getD i true = false → (∀ e ∈ o.after, Region.binds .any e = true → L.getD e.on false = true) → At ops a0 (fun j v w => R j v x w) L ev w →
      ∃ og t, ops[g]? = some og ∧ og.dst = some t ∧ ev (.tmp t) = .bool want ∧
        Outcome P (fun v w' => ∃ x', R i v x' w' ∧ Pres x w x' w' ∧ Inv x' (L.setIfInBounds i true) w') ((execOp ev o).run P w)) : GStepAt P ops a0 R Pres Inv i o := by
  intro x L ev w hI hk hp hA
  rw [hg]
  obtain ⟨og, t, h1, h2, h3, h4⟩ := h x L ev w hI hk hp hA
  exact ⟨og, t, want, h1, h2, h3, by rw [if_pos rfl]; exact h4⟩

theorem GAllSteps.at : ∀ (l : List Oper) (k : Nat), GAllSteps P ops a0 R Pres Inv k l → ∀ (i : Nat) (o : Oper), l[i]? = some o → GStepAt P ops a0 R Pres Inv (k + i) o
  | [], _, _, i, o, h => by simp at h
  | x :: l, k, hs, 0, o, h => by simp at h; subst h; exact hs.1
  | x :: l, k, hs, i + 1, o, h => by
    have := GAllSteps.at l (k + 1) hs.2 i o (by simpa using h)
    rw [show k + (i + 1) = k + 1 + i by omega]; exact this

/-- The properties turned, all at once. -/
theorem Fits.turn {R R' : Nat → Value → World → Prop} {L : Array Bool} {a : Act} {w w' : World} (h : Fits ops a0 R L a w) (hR : ∀ j v, R j v w → R' j v w') : Fits ops a0 R' L a w' :=
  ⟨h.defers, h.size, h.lsize, fun j o t h1 h2 h3 => hR _ _ (h.val j o t h1 h2 h3), h.old, h.closed⟩

theorem gwpAny_of_steps {Q : Exit → Act → World → Prop} (hf : fineB ops a0.tmps.size = true) (hR : ∀ j v x w x' w', Pres x w x' w' → R j v x w → R j v x' w')
    (hs : ∀ i o, ops[i]? = some o → GStepAt P ops a0 R Pres Inv i o)
    (hend : ∀ x L a w, (∀ i, i < ops.size → L.getD i false = true) → Inv x L w → Fits ops a0 (fun j v w => R j v x w) L a w → Q .normal a w) :
    ∀ (fuel : Nat) (x : γ) (L : Array Bool) (a : Act) (w : World), L.toList.countP (! ·) = fuel → Inv x L w → Fits ops a0 (fun j v w => R j v x w) L a w → wpAny P .any ops Q fuel L a w := by
  intro fuel
  induction fuel with
  | zero =>
    intro x L a w hc hI hF
    have hr : Region.ready .any ops L = [] := by
      cases h : Region.ready .any ops L with
      | nil => rfl
      | cons y ys =>
        have hx : y ∈ Region.ready .any ops L := by rw [h]; simp
        have := count_set (mem_ready.1 hx).1
        omega
    exact ⟨hr, hend x L a w (all_listed hf hF.lsize hr) hI hF⟩
  | succ fuel ih =>
    intro x L a w hc hI hF
    refine ⟨fun hr => hend x L a w (all_listed hf hF.lsize hr) hI hF, fun i hi => ?_⟩
    obtain ⟨h0, o, ho, hall⟩ := mem_ready.1 hi
    have hst := hs i o ho x L a.eval w hI h0 hall hF.at
    have hcs := count_set h0
    unfold wpOp
    simp only [ho]
    have go : Outcome P (fun v w' => ∃ x', R i v x' w' ∧ Pres x w x' w' ∧ Inv x' (L.setIfInBounds i true) w') ((execOp a.eval o).run P w) →
        o.wp P a w (wpAny P .any ops Q fuel (L.setIfInBounds i true)) Q := fun h =>
      outcome_wp h fun v w' ⟨x', h1, h2, h3⟩ => ih x' _ _ _ (by omega) h3 ((hF.turn (R' := fun j v w => R j v x' w) (w' := w') (fun j v => hR j v x w x' w' h2)).put hf ho hall (fun _ _ h => h) (fun _ => h1))
    cases hg : o.guard with
    | none =>
      rw [hg] at hst
      rw [if_pos (by simp [Region.wanted, hg])]
      exact .inl (go hst)
    | some gw =>
      obtain ⟨g, want⟩ := gw
      rw [hg] at hst
      obtain ⟨og, t, b, hog, hd, hev, hcase⟩ := hst
      have hy : yielded ops a.tmps g = some b := by
        have hb : a.tmps[t]? = some (.bool b) := by
          have : a.tmps.getD t undef = .bool b := hev
          rw [Array.getD_eq_getD_getElem?] at this
          cases h : a.tmps[t]? with
          | none => rw [h] at this; cases this
          | some y => rw [h] at this; simpa using this
        simp [yielded, hog, hd, hb]
      by_cases hbw : b = want
      · rw [if_pos hbw] at hcase
        rw [if_pos (by simp [Region.wanted, hg, hy, hbw])]
        exact .inl (go hcase)
      · rw [if_neg hbw] at hcase
        rw [if_neg (by simp [Region.wanted, hg, hy, hbw])]
        exact ih x _ _ _ (by omega) hcase.2 (hF.put hf ho hall (fun _ _ h => h) (fun _ => hcase.1))

/-- THE RULE, with a ghost. -/
theorem wp_region_ghost {id : Nat} {l : List Oper} {Q : Exit → Act → World → Prop} {w : World} (R : Nat → Value → γ → World → Prop) (Pres : γ → World → γ → World → Prop) (Inv : γ → Array Bool → World → Prop) (x0 : γ)
    (hm : P.follows .mixedOrders = true) (hf : fineB l.toArray a0.tmps.size = true) (hR : ∀ j v x w x' w', Pres x w x' w' → R j v x w → R j v x' w')
    (hI : Inv x0 (Array.replicate l.length false) w.drew)
    (hs : GAllSteps P l.toArray a0 R Pres Inv 0 l)
    (hend : ∀ x L a w, (∀ i, i < l.length → L.getD i false = true) → Inv x L w → Fits l.toArray a0 (fun j v w => R j v x w) L a w → Q .normal a w) : (Code.region id l.toArray true).wp P Q a0 w := by
  refine wp_region_any hm ?_
  refine gwpAny_of_steps (Pres := Pres) (Inv := Inv) (R := R) (a0 := a0) hf hR ?_ (by simpa using hend) _ x0 _ _ _ ?_ (by simpa using hI) ?_
  · intro i o ho
    have := hs.at l 0 i o (by simpa using ho)
    simpa using this
  · simp [List.countP_replicate]
  · refine ⟨rfl, rfl, by simp, ?_, fun _ _ => rfl, ?_⟩
    · intro j o t ho hL
      exfalso
      rw [Array.getD_eq_getD_getElem?] at hL
      by_cases hj : j < l.toArray.size
      · simp at hj; simp [hj] at hL
      · simp at hj; simp [hj] at hL
    · intro j o ho hL
      exfalso
      rw [Array.getD_eq_getD_getElem?] at hL
      by_cases hj : j < l.toArray.size
      · simp at hj; simp [hj] at hL
      · simp at hj; simp [hj] at hL

/-- Properties by a list. -/
def gofList (l : List (Value → γ → World → Prop)) : Nat → Value → γ → World → Prop := fun j => l.getD j (fun _ _ _ => True)
def GAllKept (Pres : γ → World → γ → World → Prop) : List (Value → γ → World → Prop) → Prop
  | [] => True
  | p :: l => (∀ v x w x' w', Pres x w x' w' → p v x w → p v x' w') ∧ GAllKept Pres l
theorem GAllKept.at {Pres : γ → World → γ → World → Prop} : ∀ (l : List (Value → γ → World → Prop)), GAllKept Pres l → ∀ j v x w x' w', Pres x w x' w' → gofList l j v x w → gofList l j v x' w'
  | [], _, _, _, _, _, _, _, _, _ => trivial
  | _ :: _, h, 0, v, x, w, x', w', hp, hv => h.1 v x w x' w' hp hv
  | _ :: l, h, j + 1, v, x, w, x', w', hp, hv => GAllKept.at l h.2 j v x w x' w' hp hv
end
end Go.Proofs.Ytdghgmaoamjnlaa.Reg

namespace Go.Proofs.Ytdghgmaoamjnlaa
open Go.RowKit
namespace Reg

theorem fold_size (f : Nat → Value) : ∀ (ds : List Nat) (T : Array Value), (ds.foldl (fun T t => T.setIfInBounds t (f t)) T).size = T.size
  | [], _ => rfl
  | d :: ds, T => by rw [List.foldl_cons, fold_size f ds]; simp
theorem fold_get (f : Nat → Value) : ∀ (ds : List Nat) (T : Array Value) (i : Nat), i < T.size → (ds.foldl (fun T t => T.setIfInBounds t (f t)) T)[i]? = if ds.contains i = true then some (f i) else T[i]?
  | [], T, i, _ => by simp
  | d :: ds, T, i, h => by
    rw [List.foldl_cons, fold_get f ds _ i (by simpa using h), Array.getElem?_setIfInBounds]
    by_cases e : ds.contains i = true
    · rw [if_pos e, if_pos (by simp at e ⊢; exact .inr e)]
    · rw [if_neg e]
      by_cases e2 : d = i
      · subst e2; rw [if_pos rfl, if_pos h, if_pos (by simp)]
      · rw [if_neg e2, if_neg (by simp at e ⊢; exact ⟨fun q => e2 q.symm, e⟩)]

def coversB (ops : Array Oper) (ds : List Nat) : Bool := (List.range ops.size).all fun j => match (ops[j]?).bind (·.dst) with | none => true | some t => ds.contains t
theorem covers_at {ops : Array Oper} {ds : List Nat} (h : coversB ops ds = true) {j t : Nat} {o : Oper} (ho : ops[j]? = some o) (hd : o.dst = some t) : ds.contains t = true := by
  have hj : j < ops.size := by
    rcases Nat.lt_or_ge j ops.size with h' | h'
    · exact h'
    · rw [Array.getElem?_eq_none h'] at ho; cases ho
  have := List.all_eq_true.1 h j (List.mem_range.2 hj)
  simp only [ho, Option.bind_some, hd] at this
  exact this

theorem Fits.act {ops : Array Oper} {a0 : Act} {R : Nat → Value → World → Prop} {L : Array Bool} {a : Act} {w : World} (hF : Fits ops a0 R L a w) (ds : List Nat) (hc : coversB ops ds = true) :
    a = ⟨ds.foldl (fun T t => T.setIfInBounds t (a.eval (.tmp t))) a0.tmps, a0.defers⟩ := by
  have hsz := hF.size
  have hdf := hF.defers
  have hold : ∀ t, ds.contains t = false → a.eval (.tmp t) = a0.eval (.tmp t) := fun t ht => hF.old t (fun j o ho _ hd => by rw [covers_at hc ho hd] at ht; cases ht)
  have hev : ∀ t, a.eval (.tmp t) = a.tmps.getD t undef := fun _ => rfl
  have hev0 : ∀ t, a0.eval (.tmp t) = a0.tmps.getD t undef := fun _ => rfl
  have ht : a.tmps = ds.foldl (fun T t => T.setIfInBounds t (a.eval (.tmp t))) a0.tmps := by
    apply Array.ext_getElem?
    intro i
    by_cases hi : i < a0.tmps.size
    · rw [fold_get (fun t => a.eval (.tmp t)) ds a0.tmps i hi]
      have hia : i < a.tmps.size := by rw [hsz]; exact hi
      cases e : ds.contains i
      · rw [if_neg (by decide)]
        have := hold i e
        rw [hev, hev0, Array.getD_eq_getD_getElem?, Array.getD_eq_getD_getElem?, Array.getElem?_eq_getElem hia, Array.getElem?_eq_getElem hi] at this
        rw [Array.getElem?_eq_getElem hia, Array.getElem?_eq_getElem hi]
        exact congrArg some this
      · rw [if_pos rfl, hev, Array.getD_eq_getD_getElem?, Array.getElem?_eq_getElem hia]
        rfl
    · rw [Array.getElem?_eq_none (by rw [hsz]; omega), Array.getElem?_eq_none (by rw [fold_size]; omega)]
  obtain ⟨t, d⟩ := a
  simp only at hdf
  subst hdf
  exact congrArg (fun q => (⟨q, a0.defers⟩ : Act)) ht
end Reg
end Go.Proofs.Ytdghgmaoamjnlaa

namespace Go.Proofs.Ytdghgmaoamjnlaa.Reg
open Go Go.RowKit

/-- How many of these have come up. -/
def cnt (hs : List Nat) (L : Array Bool) : Nat := hs.countP (fun j => L.getD j false)
theorem cnt_light {hs : List Nat} (L : Array Bool) (i : Nat) (h : hs.contains i = false) : cnt hs (L.setIfInBounds i true) = cnt hs L := by
  unfold cnt
  refine List.countP_congr (fun j hj => ?_)
  have hne : i ≠ j := fun e => by subst e; rw [List.contains_iff_mem.2 hj] at h; cases h
  rw [getD_set_ne false hne]
theorem cnt_none (hs : List Nat) (n : Nat) : cnt hs (Array.replicate n false) = 0 := by
  unfold cnt
  rw [List.countP_eq_zero]
  intro j _
  rw [Array.getD_eq_getD_getElem?]
  by_cases hj : j < n
  · simp [hj]
  · simp [hj]
theorem cnt_all {hs : List Nat} {L : Array Bool} (h : ∀ j ∈ hs, L.getD j false = true) : cnt hs L = hs.length := by
  unfold cnt
  rw [List.countP_eq_length]
  exact h
theorem getD_true {L : Array Bool} {i : Nat} (h : L.getD i true = false) : L.getD i false = false := by
  rw [Array.getD_eq_getD_getElem?] at h ⊢
  cases hx : L[i]? with
  | none => rw [hx] at h; cases h
  | some b => rw [hx] at h; simpa using h
theorem cnt_heavy {hs : List Nat} {L : Array Bool} {i : Nat} (hn : hs.Nodup) (hi : i ∈ hs) (h0 : L.getD i true = false) : cnt hs (L.setIfInBounds i true) = cnt hs L + 1 := by
  have hlt : i < L.size := by
    rcases Nat.lt_or_ge i L.size with h' | h'
    · exact h'
    · rw [Array.getD_eq_getD_getElem?, Array.getElem?_eq_none h'] at h0; cases h0
  have h1 : (L.setIfInBounds i true).getD i false = true := by simp [hlt]
  have h2 := getD_true h0
  unfold cnt
  induction hs with
  | nil => cases hi
  | cons a l ih =>
    rw [List.nodup_cons] at hn
    rw [List.countP_cons, List.countP_cons]
    by_cases e : a = i
    · subst e
      rw [if_pos h1, if_neg (by rw [h2]; decide)]
      have : l.countP (fun j => (L.setIfInBounds a true).getD j false) = l.countP (fun j => L.getD j false) := by
        refine List.countP_congr (fun j hj => ?_)
        have hne : a ≠ j := fun e => by subst e; exact hn.1 hj
        rw [getD_set_ne false hne]
      rw [this]
    · have hi' : i ∈ l := by
        rcases List.mem_cons.1 hi with h | h
        · exact absurd h.symm e
        · exact h
      rw [ih hn.2 hi', getD_set_ne false (Ne.symm e)]
      omega
theorem cnt_zero {hs : List Nat} {L : Array Bool} (h : ∀ j ∈ hs, L.getD j false = false) : cnt hs L = 0 := by
  unfold cnt
  rw [List.countP_eq_zero]
  intro j hj
  rw [h j hj]; decide

theorem cnt_zero1 {a : Nat} {L : Array Bool} (h : L.getD a false = false) : cnt [a] L = 0 := by simp only [cnt, List.countP_cons, List.countP_nil, h]; decide
theorem cnt_zero2 {a b : Nat} {L : Array Bool} (h : L.getD a false = false) (h2 : L.getD b false = false) : cnt [a, b] L = 0 := by simp only [cnt, List.countP_cons, List.countP_nil, h, h2]; decide
theorem cnt_one2 {a b : Nat} {L : Array Bool} (h : L.getD a false = true) (h2 : L.getD b false = false) : cnt [a, b] L = 1 := by simp only [cnt, List.countP_cons, List.countP_nil, h, h2]; decide
/-- What each step leaves. -/
def PPres (S : Nat → Prop) (x : Nat) (w : World) (x' : Nat) (w' : World) : Prop := x ≤ x' ∧ (x' = x → Below w.heap.size w w') ∧ But S w w'
theorem PPres.light {S : Nat → Prop} {x : Nat} {w w' : World} (h : Below w.heap.size w w') : PPres S x w x w' := ⟨Nat.le_refl _, fun _ => h, But.of_below h⟩
theorem PPres.refl (S : Nat → Prop) (x : Nat) (w : World) : PPres S x w x w := PPres.light (Below.refl _ _)
theorem PPres.heavy {S : Nat → Prop} {x : Nat} {w w' : World} (h : But S w w') : PPres S x w (x + 1) w' := ⟨Nat.le_succ _, fun e => by omega, h⟩
/-- A property that only what is turned next may break. -/
def At1 (p : Nat) (F : World → Prop) (x : Nat) (w : World) : Prop := p ≤ x ∧ (x = p → F w)
theorem At1.kept {S : Nat → Prop} {p : Nat} {F : World → Prop} (hF : ∀ w w', Below w.heap.size w w' → F w → F w') {x x' : Nat} {w w' : World} (hp : PPres S x w x' w') (h : At1 p F x w) : At1 p F x' w' :=
  ⟨Nat.le_trans h.1 hp.1, fun e => by
    have hx : x' = x := by have := h.1; have := hp.1; omega
    exact hF _ _ (hp.2.1 hx) (h.2 (by omega))⟩
/-- What holds from step to step. -/
def PInv (hs : List Nat) (S : Nat → Prop) (W0 : World) (F : Nat → World → Prop) (x : Nat) (L : Array Bool) (w : World) : Prop :=
  x = cnt hs L ∧ But S W0 w ∧ F x w
theorem PInv.light {hs : List Nat} {S : Nat → Prop} {W0 : World} {F : Nat → World → Prop} (hF : ∀ x w w', Below w.heap.size w w' → F x w → F x w') {x : Nat} {L : Array Bool} {w w' : World} (h : PInv hs S W0 F x L w) (i : Nat) (hi : hs.contains i = false) (hb : Below w.heap.size w w') :
    PInv hs S W0 F x (L.setIfInBounds i true) w' := ⟨by rw [cnt_light L i hi]; exact h.1, h.2.1.trans (But.of_below hb), hF _ _ _ hb h.2.2⟩
theorem PInv.heavy {hs : List Nat} {S : Nat → Prop} {W0 : World} {F : Nat → World → Prop} {x : Nat} {L : Array Bool} {w w' : World} (h : PInv hs S W0 F x L w) (i : Nat) (hn : hs.Nodup) (hi : i ∈ hs) (h0 : L.getD i true = false) (hb : But S w w') (hf : F (x + 1) w') :
    PInv hs S W0 F (x + 1) (L.setIfInBounds i true) w' := ⟨by rw [cnt_heavy hn hi h0, h.1], h.2.1.trans hb, hf⟩
theorem PInv.start {hs : List Nat} {S : Nat → Prop} {w : World} {F : Nat → World → Prop} (n : Nat) (hf : F 0 w.drew) : PInv hs S w F 0 (Array.replicate n false) w.drew :=
  ⟨(cnt_none hs n).symm, (But.refl S w).drew, hf⟩
theorem PInv.done {hs : List Nat} {S : Nat → Prop} {W0 : World} {F : Nat → World → Prop} {x : Nat} {L : Array Bool} {w : World} (h : PInv hs S W0 F x L w) (hl : ∀ j ∈ hs, L.getD j false = true) : x = hs.length ∧ But S W0 w ∧ F hs.length w := by
  have := cnt_all hl
  refine ⟨h.1.trans this, h.2.1, ?_⟩
  have h2 := h.2.2
  rw [h.1, this] at h2
  exact h2
theorem out_skipP {P : Program} {K : Value → World → Prop} {ev : Operand → Value} {o : Oper} {w w' : World} (hrun : (execOp ev o).run P w = .ok .skip w') (hk : K undef w') : Outcome P K ((execOp ev o).run P w) := by
  rw [hrun]; exact hk
/-- What is not listed keeps what waits for it from being listed. -/
theorem not_listed {ops : Array Oper} {a0 : Act} {R : Nat → Value → World → Prop} {L : Array Bool} {ev : Operand → Value} {w : World} (h : At ops a0 R L ev w) (i j : Nat) (oj : Oper) (hj : ops[j]? = some oj) (e : Edge) (he : e ∈ oj.after) (hb : Region.binds .any e = true) (hi : L.getD i true = false) (hei : e.on = i := by rfl) : L.getD j false = false := by
  cases hL : L.getD j false with
  | false => rfl
  | true =>
    have := h.closed j oj hj hL e he hb
    rw [hei, getD_true hi] at this
    cases this
/-- A guarded operation, whichever way its guard is. -/
theorem GStepAt.either {γ : Type} {P : Program} {ops : Array Oper} {a0 : Act} {R : Nat → Value → γ → World → Prop} {Pres : γ → World → γ → World → Prop} {Inv : γ → Array Bool → World → Prop} {i g : Nat} {want : Bool} {o : Oper} (hg : o.guard = some (g, want))
    (h : ∀ (x : γ) (L : Array Bool) (ev : Operand → Value) (w : World), Inv x L w → L.getD i true = false → (∀ e ∈ o.after, Region.binds .any e = true → L.getD e.on false = true) → At ops a0 (fun j v w => R j v x w) L ev w →
      ∃ og t b, ops[g]? = some og ∧ og.dst = some t ∧ ev (.tmp t) = .bool b ∧
        if b = want then Outcome P (fun v w' => ∃ x', R i v x' w' ∧ Pres x w x' w' ∧ Inv x' (L.setIfInBounds i true) w') ((execOp ev o).run P w)
        else R i undef x w ∧ Inv x (L.setIfInBounds i true) w) : GStepAt P ops a0 R Pres Inv i o := by
  intro x L ev w hI hk hp hA
  rw [hg]; exact h x L ev w hI hk hp hA
theorem getD_setb {L : Array Bool} {i c0 : Nat} (hi : i ≠ c0) : (L.setIfInBounds i true).getD c0 false = L.getD c0 false := by
  rw [Array.getD_eq_getD_getElem?, Array.getD_eq_getD_getElem?, Array.getElem?_setIfInBounds_ne hi]
theorem getD_sets {L : Array Bool} {i : Nat} (h : L.getD i true = false) : (L.setIfInBounds i true).getD i false = true := by
  have hi : i < L.size := by
    rcases Nat.lt_or_ge i L.size with h' | h'
    · exact h'
    · rw [Array.getD_eq_getD_getElem?, Array.getElem?_eq_none h'] at h; cases h
  rw [Array.getD_eq_getD_getElem?, Array.getElem?_setIfInBounds_self_of_lt hi]; rfl
end Go.Proofs.Ytdghgmaoamjnlaa.Reg

namespace Go.Proofs.Ytdghgmaoamjnlaa
open Go.RowKit Go.Sort

def flatG (G : List (Nat × Nat)) : List Value := G.flatMap (fun g => [.int .i64 (g.1 : Int), .int .i64 (g.2 : Int)])
theorem flatG_snoc (G : List (Nat × Nat)) (a b : Nat) : flatG (G ++ [(a, b)]) = flatG G ++ [.int .i64 (a : Int), .int .i64 (b : Int)] := by simp [flatG]
theorem plainG : PlainK Try.prog 2 48 139 := by
  have h : (Try.prog.info? 139).map (fun i => (i.zero, i.size, i.bytes)) = some (some (.agg #[.int .i64 0, .int .i64 0]), 2, 16) := by kernel_rfl
  obtain ⟨i, hi, he⟩ := Option.map_eq_some_iff.1 h
  simp only [Prod.mk.injEq] at he
  exact ⟨i, _, Try.underlying48, hi, he.1, he.2.1, rfl, by rw [he.2.2]; decide⟩
/-- The blocks of a plan. -/
def pset (pb : Nat) (ga : Option Addr) (j : Nat) : Prop := j = pb ∨ inB ga j
/-- A plan at a block: its gates. -/
structure PlanAt (w : World) (pb : Nat) (ga : Option Addr) (gc : Nat) (wd : Int) (m : Nat) (oa : Option Addr) (on oc : Nat) (G : List (Nat × Nat)) : Prop where
  box : BoxAt w pb [.int .i64 wd, .slice ga m gc, .slice oa on oc]
  sl : SlAt 2 w ga gc m (flatG G)
  len : G.length = m
  ne : ¬ inB ga pb
theorem PlanAt.below {w w' : World} {pb : Nat} {ga : Option Addr} {gc : Nat} {wd : Int} {m : Nat} {oa : Option Addr} {on oc : Nat} {G : List (Nat × Nat)} (h : PlanAt w pb ga gc wd m oa on oc G) (hb : Below w.heap.size w w') : PlanAt w' pb ga gc wd m oa on oc G :=
  ⟨h.box.below hb, h.sl.below hb, h.len, h.ne⟩
theorem PlanAt.but {S : Nat → Prop} {w w' : World} {pb : Nat} {ga : Option Addr} {gc : Nat} {wd : Int} {m : Nat} {oa : Option Addr} {on oc : Nat} {G : List (Nat × Nat)} (h : PlanAt w pb ga gc wd m oa on oc G) (hb : But S w w') (hS : ∀ j, pset pb ga j → ¬ S j) : PlanAt w' pb ga gc wd m oa on oc G :=
  ⟨h.box.but hb (hS pb (.inl rfl)), h.sl.but hb (fun j hj => hS j (.inr hj)), h.len, h.ne⟩
theorem PlanAt.lt {w : World} {pb : Nat} {ga : Option Addr} {gc : Nat} {wd : Int} {m : Nat} {oa : Option Addr} {on oc : Nat} {G : List (Nat × Nat)} (h : PlanAt w pb ga gc wd m oa on oc G) : ∀ j, pset pb ga j → j < w.heap.size := by
  rintro j (rfl | hj)
  · exact h.box.lt
  · exact h.sl.lt j hj
/-- One gate more. -/
def JEnd (W0 : World) (pb : Nat) (ga : Option Addr) (wd : Int) (m : Nat) (oa : Option Addr) (on oc : Nat) (G : List (Nat × Nat)) (w : World) : Prop :=
  ∃ ga' gc', PlanAt w pb ga' gc' wd (m + 1) oa on oc G ∧ (∀ j, inB ga' j → inB ga j ∨ W0.heap.size ≤ j)
/-- What a call leaves. -/
def PEnd (pb : Nat) (ga : Option Addr) (w : World) (ga' : Option Addr) (w' : World) : Prop :=
  But (pset pb ga) w w' ∧ ∀ j, pset pb ga' j → pset pb ga j ∨ w.heap.size ≤ j
theorem PEnd.refl (pb : Nat) (ga : Option Addr) (w : World) : PEnd pb ga w ga w := ⟨But.refl _ _, fun _ h => .inl h⟩
theorem PEnd.below {pb : Nat} {ga : Option Addr} {w w' : World} (h : Below w.heap.size w w') : PEnd pb ga w ga w' := ⟨But.of_below h, fun _ h => .inl h⟩
theorem PEnd.trans {pb : Nat} {ga ga1 ga2 : Option Addr} {w w1 w2 : World} (h : PEnd pb ga w ga1 w1) (k : PEnd pb ga1 w1 ga2 w2) : PEnd pb ga w ga2 w2 :=
  ⟨h.1.then k.1 (fun i hi hj => (h.2 i hj).elim id (fun e => by omega)), fun j hj => (k.2 j hj).elim (fun e => h.2 j e) (fun e => .inr (Nat.le_trans h.1.size e))⟩

def join5R (pb m gc on oc n xc yc xb xo yb yo k lo a b : Nat) (ga oa : Option Addr) (wd : Int) (G : List (Nat × Nat)) : List (Value → Nat → World → Prop) :=
  [fun v _ _ => v = .pointer (some ⟨pb, 0, none⟩),
   fun v _ _ => v = .pointer (some ⟨pb, 0, none⟩),
   fun v _ _ => v = .pointer (some ⟨pb, 0, none⟩),
   fun v _ _ => v = .pointer (some ⟨pb, 1, none⟩),
   fun v _ _ => v = .slice ga m gc,
   fun v _ _ => v = .slice (some ⟨xb, xo, none⟩) n xc,
   fun v _ _ => v = .int .i64 (k : Int),
   fun v _ _ => v = .pointer (some ⟨xb, xo + k, none⟩),
   fun v _ _ => v = .int .i64 (a : Int),
   fun v _ _ => v = .slice (some ⟨yb, yo, none⟩) n yc,
   fun v _ _ => v = .int .i64 (k : Int),
   fun v _ _ => v = .pointer (some ⟨yb, yo + k, none⟩),
   fun v _ _ => v = .int .i64 (b : Int),
   fun v _ _ => v = .agg #[.int .i64 (a : Int), .int .i64 (b : Int)],
   fun v _ w => ∃ g, v = .slice (some ⟨g, 0, none⟩) 1 1 ∧ BoxAt w g [.int .i64 (a : Int), .int .i64 (b : Int)] ∧ lo ≤ g ∧ ¬ pset pb ga g,
   fun v x w => 1 ≤ x ∧ ∃ g c, v = .slice (some ⟨g, 0, none⟩) (m + 1) c ∧ (x = 1 → Flat 2 w g c (m + 1) (flatG (G ++ [(a, b)])) ∧ BoxAt w pb [.int .i64 wd, .slice ga m gc, .slice oa on oc] ∧ g ≠ pb ∧ (inB ga g ∨ lo ≤ g)),
   fun v _ _ => v = .pointer (some ⟨pb, 0, none⟩),
   fun v _ _ => v = .pointer (some ⟨pb, 1, none⟩),
   fun _ _ _ => True]
theorem join5R_kept (pb m gc on oc n xc yc xb xo yb yo k lo a b : Nat) (ga oa : Option Addr) (wd : Int) (G : List (Nat × Nat)) : Reg.GAllKept (Reg.PPres (pset pb ga)) (join5R pb m gc on oc n xc yc xb xo yb yo k lo a b ga oa wd G) :=
  ⟨(fun _ _ _ _ _ _ h => h), (fun _ _ _ _ _ _ h => h), (fun _ _ _ _ _ _ h => h), (fun _ _ _ _ _ _ h => h), (fun _ _ _ _ _ _ h => h), (fun _ _ _ _ _ _ h => h), (fun _ _ _ _ _ _ h => h), (fun _ _ _ _ _ _ h => h), (fun _ _ _ _ _ _ h => h), (fun _ _ _ _ _ _ h => h), (fun _ _ _ _ _ _ h => h), (fun _ _ _ _ _ _ h => h), (fun _ _ _ _ _ _ h => h), (fun _ _ _ _ _ _ h => h), (fun v x w x' w' hp h => by obtain ⟨g, h1, h2, h3, h4⟩ := h; exact ⟨g, h1, h2.but hp.2.2 h4, h3, h4⟩), (fun v x w x' w' hp h => by obtain ⟨h0, g, c, h1, h2⟩ := h; refine ⟨Nat.le_trans h0 hp.1, g, c, h1, fun e => ?_⟩; have hx := hp.1; have hxe : x' = x := (by omega); have hB := hp.2.1 hxe; obtain ⟨q1, q2, q3, q4⟩ := h2 (by omega); exact ⟨q1.but (S := fun _ => False) (But.of_below hB) id, q2.below hB, q3, q4⟩), (fun _ _ _ _ _ _ h => h), (fun _ _ _ _ _ _ h => h), (fun _ _ _ _ _ _ _ => trivial), trivial⟩
def join6R (n xc yc xb xo yb yo k l2 a b rn rc : Nat) (ra : Option Addr) (RL : List Value) : List (Value → Nat → World → Prop) :=
  [fun v _ _ => v = .slice ra rn rc,
   fun v _ _ => v = .slice (some ⟨xb, xo, none⟩) n xc,
   fun v _ _ => v = .int .i64 (k : Int),
   fun v _ _ => v = .pointer (some ⟨xb, xo + k, none⟩),
   fun v _ _ => v = .int .i64 (a : Int),
   fun v _ _ => v = .slice (some ⟨yb, yo, none⟩) n yc,
   fun v _ _ => v = .int .i64 (k : Int),
   fun v _ _ => v = .pointer (some ⟨yb, yo + k, none⟩),
   fun v _ _ => v = .int .i64 (b : Int),
   fun v _ w => ∃ g, v = .slice (some ⟨g, 0, none⟩) 2 2 ∧ BoxAt w g [.int .i64 (a : Int), .int .i64 (b : Int)] ∧ l2 ≤ g ∧ ¬ inB ra g,
   fun v x w => 1 ≤ x ∧ ∃ g c, v = .slice (some ⟨g, 0, none⟩) (rn + 2) c ∧ (x = 1 → Flat 1 w g c (rn + 2) (RL ++ [.int .i64 (a : Int), .int .i64 (b : Int)]) ∧ (inB ra g ∨ l2 ≤ g)),
   fun v x w => 1 ≤ x ∧ ∃ g c, v = .slice (some ⟨g, 0, none⟩) (rn + 2) c ∧ (x = 1 → Flat 1 w g c (rn + 2) (RL ++ [.int .i64 (a : Int), .int .i64 (b : Int)]) ∧ (inB ra g ∨ l2 ≤ g))]
theorem join6R_kept (n xc yc xb xo yb yo k l2 a b rn rc : Nat) (ra : Option Addr) (RL : List Value) : Reg.GAllKept (Reg.PPres (inB ra)) (join6R n xc yc xb xo yb yo k l2 a b rn rc ra RL) :=
  ⟨(fun _ _ _ _ _ _ h => h), (fun _ _ _ _ _ _ h => h), (fun _ _ _ _ _ _ h => h), (fun _ _ _ _ _ _ h => h), (fun _ _ _ _ _ _ h => h), (fun _ _ _ _ _ _ h => h), (fun _ _ _ _ _ _ h => h), (fun _ _ _ _ _ _ h => h), (fun _ _ _ _ _ _ h => h), (fun v x w x' w' hp h => by obtain ⟨g, h1, h2, h3, h4⟩ := h; exact ⟨g, h1, h2.but hp.2.2 h4, h3, h4⟩), (fun v x w x' w' hp h => by obtain ⟨h0, g, c, h1, h2⟩ := h; refine ⟨Nat.le_trans h0 hp.1, g, c, h1, fun e => ?_⟩; have hx := hp.1; have hxe : x' = x := (by omega); have hB := hp.2.1 hxe; obtain ⟨q1, q2⟩ := h2 (by omega); exact ⟨q1.but (S := fun _ => False) (But.of_below hB) id, q2⟩), (fun v x w x' w' hp h => by obtain ⟨h0, g, c, h1, h2⟩ := h; refine ⟨Nat.le_trans h0 hp.1, g, c, h1, fun e => ?_⟩; have hx := hp.1; have hxe : x' = x := (by omega); have hB := hp.2.1 hxe; obtain ⟨q1, q2⟩ := h2 (by omega); exact ⟨q1.but (S := fun _ => False) (But.of_below hB) id, q2⟩), trivial⟩

/-- What holds between two rounds. -/
def JR (w : World) (pb : Nat) (ga : Option Addr) (wd : Int) (m : Nat) (oa : Option Addr) (on oc : Nat) (G : List (Nat × Nat)) (x y : List Nat) (k : Nat) (ra : Option Addr) (rc : Nat) (wr : World) : Prop :=
  ∃ ga' gc', PlanAt wr pb ga' gc' wd (m + k) oa on oc (G ++ (x.take k).zip (y.take k)) ∧ PEnd pb ga w ga' wr ∧ SlAt 1 wr ra rc (2 * k) (vals (Wr.inter (x.take k) (y.take k))) ∧ (∀ j, inB ra j → w.heap.size ≤ j ∧ ¬ pset pb ga' j)
theorem zip_snoc {x y : List Nat} {k a b : Nat} (hx : x[k]? = some a) (hy : y[k]? = some b) : (x.take (k + 1)).zip (y.take (k + 1)) = (x.take k).zip (y.take k) ++ [(a, b)] := by
  have h1 := (List.getElem?_eq_some_iff.1 hx).1
  have h2 := (List.getElem?_eq_some_iff.1 hy).1
  rw [List.take_add_one, List.take_add_one, hx, hy]
  exact List.zip_append (by rw [List.length_take, List.length_take]; omega)
theorem inter_snoc : ∀ (x y : List Nat) (a b : Nat), x.length = y.length → Wr.inter (x ++ [a]) (y ++ [b]) = Wr.inter x y ++ [a, b]
  | [], [], a, b, _ => rfl
  | [], _ :: _, a, b, h => by simp at h
  | _ :: _, [], a, b, h => by simp at h
  | p :: x, q :: y, a, b, h => by
    show p :: q :: Wr.inter (x ++ [a]) (y ++ [b]) = p :: q :: (Wr.inter x y ++ [a, b])
    rw [inter_snoc x y a b (by simpa using h)]
theorem inter_take {x y : List Nat} {k a b : Nat} (hx : x[k]? = some a) (hy : y[k]? = some b) : Wr.inter (x.take (k + 1)) (y.take (k + 1)) = Wr.inter (x.take k) (y.take k) ++ [a, b] := by
  have h1 := (List.getElem?_eq_some_iff.1 hx).1
  have h2 := (List.getElem?_eq_some_iff.1 hy).1
  rw [List.take_add_one, List.take_add_one, hx, hy]
  exact inter_snoc _ _ a b (by rw [List.length_take, List.length_take]; omega)
/-- How a row of gates, or more, ends. -/
def JoinEnd (qa : Option Addr) (w : World) (pb : Nat) (ga : Option Addr) (wd : Int) (m : Nat) (oa : Option Addr) (on oc : Nat) (G G2 : List (Nat × Nat)) (out : List Nat) (e : Ending) (w' : World) : Prop :=
  ∃ ga' gc' ra rc n', e = .returned (.slice ra n' rc) ∧ out.length = n' ∧ PlanAt w' pb ga' gc' wd (m + G2.length) oa on oc (G ++ G2) ∧ PEnd pb ga w ga' w' ∧ NsAt w' ra (pset pb ga') out ∧ (∀ j, inB ra j → inB qa j ∨ w.heap.size ≤ j)

theorem JR.next {w W0 wz wz2 : World} {pb : Nat} {ga0 ga : Option Addr} {wd : Int} {m0 m : Nat} {oa : Option Addr} {on oc : Nat} {G0 G : List (Nat × Nat)} {x y : List Nat} {k a b : Nat} {ra : Option Addr} {rc g c : Nat}
    (hE1 : PEnd pb ga0 w ga W0) (hJ : JEnd W0 pb ga wd m oa on oc (G ++ [(a, b)]) wz) (hBz : But (pset pb ga) W0 wz) (hS1 : SlAt 1 W0 ra rc (2 * k) (vals (Wr.inter (x.take k) (y.take k)))) (hN1 : ∀ j, inB ra j → w.heap.size ≤ j ∧ ¬ pset pb ga j)
    (hxa : x[k]? = some a) (hyb : y[k]? = some b) (hm : m0 + k = m) (hG : G0 ++ (x.take k).zip (y.take k) = G)
    (hF : Flat 1 wz2 g c (2 * k + 2) (vals (Wr.inter (x.take k) (y.take k)) ++ [.int .i64 (a : Int), .int .i64 (b : Int)])) (hB2 : But (inB ra) wz wz2) (hg : inB ra g ∨ wz.heap.size ≤ g) :
    JR w pb ga0 wd m0 oa on oc G0 x y (k + 1) (some ⟨g, 0, none⟩) c wz2 := by
  obtain ⟨ga', gc', hP, hga⟩ := hJ
  have s1 := hE1.1.size
  have s2 := hBz.size
  have hps : ∀ j, pset pb ga' j → ¬ inB ra j := by
    rintro j (rfl | hj) hr
    · exact (hN1 _ hr).2 (.inl rfl)
    · rcases hga j hj with h | h
      · exact (hN1 _ hr).2 (.inr h)
      · have := hS1.lt j hr; omega
  refine ⟨ga', gc', ?_, ?_, .inr ⟨g, rfl, ?_⟩, ?_⟩
  · have e : G0 ++ (x.take (k + 1)).zip (y.take (k + 1)) = G ++ [(a, b)] := by rw [zip_snoc hxa hyb, ← List.append_assoc, hG]
    rw [e, ← Nat.add_assoc, hm]
    exact hP.but hB2 hps
  · have h1 : PEnd pb ga0 w ga' wz := hE1.trans ⟨hBz, fun j hj => by
      rcases hj with rfl | hj
      · exact .inl (.inl rfl)
      · exact (hga j hj).imp .inr id⟩
    exact ⟨h1.1.then hB2 (fun i hi hj => by have := (hN1 i hj).1; omega), h1.2⟩
  · rw [inter_take hxa hyb]
    have e : vals (Wr.inter (x.take k) (y.take k) ++ [a, b]) = vals (Wr.inter (x.take k) (y.take k)) ++ [.int .i64 (a : Int), .int .i64 (b : Int)] := by simp [vals]
    rw [e]; exact hF
  · rintro j ⟨z, hz, rfl⟩
    cases hz
    rcases hg with h | h
    · exact ⟨(hN1 _ h).1, fun e => hps _ e h⟩
    · exact ⟨by show w.heap.size ≤ g; omega, fun e => by have h1 : g < wz.heap.size := hP.lt _ e; omega⟩

set_option maxRecDepth 20000 in
set_option maxHeartbeats 8000000 in
theorem join_any (w : World) (pb : Nat) (ga0 : Option Addr) (gc0 : Nat) (wd : Int) (m0 : Nat) (oa : Option Addr) (on oc : Nat) (G0 : List (Nat × Nat)) (xa ya : Option Addr) (xc yc n : Nat) (x y : List Nat)
    (hP : PlanAt w pb ga0 gc0 wd m0 oa on oc G0) (hx : NsAt w xa (pset pb ga0) x) (hy : NsAt w ya (pset pb ga0) y) (hlx : x.length = n) (hly : y.length = n) (hn : n ≤ 64) (hm : m0 ≤ 1000) :
    Calls Try.prog 144 #[.pointer (some ⟨pb, 0, none⟩), .slice xa n xc, .slice ya n yc] w (JoinEnd none w pb ga0 wd m0 oa on oc G0 (x.zip y) (Wr.inter x y)) := by
  have HX := hidq hx
  have HY := hidq hy
  have HLX := hidq hlx
  have HLY := hidq hly
  have H0 := hidq (show JR w pb ga0 wd m0 oa on oc G0 x y 0 none 0 w from ⟨ga0, gc0, by simpa using hP, PEnd.refl _ _ _, by simpa [vals, Wr.inter] using SlAt.nil 1 w, fun j e => by obtain ⟨z, hz, _⟩ := e; cases hz⟩)
  clear hP hx hy hlx hly
  go_enter Try.func144, Try.ntmps144
  go_wp2_with fail
  go_loopw [7, 11] (fun s7 s11 wr => ∃ (k : Nat) (ra : Option Addr) (rc : Nat), s11 = .int .i64 (k : Int) ∧ k ≤ n ∧ s7 = .slice ra (2 * k) rc ∧ Hid (JR w pb ga0 wd m0 oa on oc G0 x y k ra rc wr)) (fun _ s11 _ => n - (intOf s11).toNat)
  case atStart => exact ⟨0, none, 0, rfl, Nat.zero_le _, rfl, H0⟩
  case round =>
    obtain ⟨k, ra, rc, rfl, hk, rfl, hR⟩ := hrel
    clear H0
    obtain ⟨W0, hW0⟩ : ∃ W0, W0 = wr := ⟨_, rfl⟩
    subst hW0
    by_cases hlt : k < n
    · have hltI : (k : Int) < (n : Int) := by omega
      go_wp2_with fail
      obtain ⟨a, hxa⟩ : ∃ a, x[k]? = some a := ⟨_, List.getElem?_eq_getElem (by rw [HLX.out]; exact hlt)⟩
      obtain ⟨b, hyb⟩ : ∃ b, y[k]? = some b := ⟨_, List.getElem?_eq_getElem (by rw [HLY.out]; exact hlt)⟩
      obtain ⟨ga, gc, hP1, hE1, hS1, hN1⟩ := hR.out
      obtain ⟨xb, xo, rfl, hxl, hxs, hxc⟩ := HX.out k a hxa
      obtain ⟨yb, yo, rfl, hyl, hys, hyc⟩ := HY.out k b hyb
      obtain ⟨lo, hlo⟩ : ∃ lo, W0.heap.size = lo := ⟨_, rfl⟩
      obtain ⟨m, hmk⟩ : ∃ m, m0 + k = m := ⟨_, rfl⟩
      rw [hmk] at hP1
      obtain ⟨G, hGk⟩ : ∃ G, G0 ++ (x.take k).zip (y.take k) = G := ⟨_, rfl⟩
      rw [hGk] at hP1
      have hs01 := hE1.1.size
      have HP := hidq (fun W (hW : Below W0.heap.size W0 W) => (show BoxAt W pb [.int .i64 wd, .slice ga m gc, .slice oa on oc] ∧ SlAt 2 W ga gc m (flatG G) ∧ G.length = m ∧ ¬ inB ga pb from ⟨(hP1.below hW).box, (hP1.below hW).sl, hP1.len, hP1.ne⟩))
      have HLT := hidq (fun j (h : pset pb ga j) => (show j < lo from by have := hP1.lt j h; omega))
      have HGL := hidq hP1.len
      have FC := hidq (fun W (hW : Below W0.heap.size W0 W) => (show True ∧ W.cell? ⟨pb, 1, none⟩ = some (.slice ga m gc) ∧ True from ⟨trivial, ((hP1.below hW).box.get 1 _ rfl).1, trivial⟩))
      have hxp : ¬ pset pb ga xb := fun e => (hE1.2 _ e).elim hxs (fun h => by omega)
      have hyp : ¬ pset pb ga yb := fun e => (hE1.2 _ e).elim hys (fun h => by omega)
      have FX := hidq (fun W (hW : But (pset pb ga) W0 W) => (show W.cell? ⟨xb, xo + k, none⟩ = some (.int .i64 (a : Int)) ∧ W.cell? ⟨yb, yo + k, none⟩ = some (.int .i64 (b : Int)) from
        ⟨by rw [hW.cell (p := ⟨xb, xo + k, none⟩) (Nat.lt_of_lt_of_le hxl hs01) hxp, hE1.1.cell (p := ⟨xb, xo + k, none⟩) hxl hxs]; exact hxc, by rw [hW.cell (p := ⟨yb, yo + k, none⟩) (Nat.lt_of_lt_of_le hyl hs01) hyp, hE1.1.cell (p := ⟨yb, yo + k, none⟩) hyl hys]; exact hyc⟩))
      have HF : ∀ (x : Nat) (w w' : World), Below w.heap.size w w' → ((x = 0 → Below W0.heap.size W0 w) ∧ (x = 2 → JEnd W0 pb ga wd m oa on oc (G ++ [(a, b)]) w)) → ((x = 0 → Below W0.heap.size W0 w') ∧ (x = 2 → JEnd W0 pb ga wd m oa on oc (G ++ [(a, b)]) w')) :=
        fun _ _ _ hB h => ⟨fun e => (h.1 e).trans (hB.mono (h.1 e).size), fun e => by obtain ⟨g1, c1, h1, h2⟩ := h.2 e; exact ⟨g1, c1, h1.below hB, h2⟩⟩
      have HR1 := hidq (And.intro hE1 (And.intro hS1 (And.intro hN1 (And.intro hxa (And.intro hyb (And.intro hmk hGk))))))
      have HC := hidq (And.intro hxl (And.intro hyl hs01))
      have hmb : m ≤ 1064 := by omega
      clear hP1 hE1 hS1 hN1 hxa hyb hmk hGk hxl hxs hxc hyl hys hyc hR HX HY hxp hyp hs01
      refine Reg.wp_region_ghost (Reg.gofList (join5R pb m gc on oc n xc yc xb xo yb yo k lo a b ga oa wd G)) (Reg.PPres (pset pb ga)) (Reg.PInv [15, 18] (pset pb ga) W0 (fun x w => (x = 0 → Below W0.heap.size W0 w) ∧ (x = 2 → JEnd W0 pb ga wd m oa on oc (G ++ [(a, b)]) w))) 0 (by kernel_rfl) (by kernel_rfl) (Reg.GAllKept.at _ (join5R_kept pb m gc on oc n xc yc xb xo yb yo k lo a b ga oa wd G)) (Reg.PInv.start 19 ⟨fun _ => below_drewN (Below.refl _ _) 1, fun e => by cases e⟩) ⟨?_, ?_, ?_, ?_, ?_, ?_, ?_, ?_, ?_, ?_, ?_, ?_, ?_, ?_, ?_, ?_, ?_, ?_, ?_, trivial⟩ ?_
      · refine Reg.GStepAt.plain (i := 0) rfl ?_
        intro x L ev w hI hk hp hA
        have e0 : ev (.tmp 0) = .pointer (some ⟨pb, 0, none⟩) := hA.oldNone 0 (by kernel_rfl)
        have hcc := hA.const
        clear hA hp
        refine Reg.out_value (v := .pointer (some ⟨pb, 0, none⟩)) ?_ ⟨x, rfl, Reg.PPres.refl _ _ _, Reg.PInv.light HF hI 0 (by decide) (Below.refl _ _)⟩
        go_simp
      · refine Reg.GStepAt.plain (i := 1) rfl ?_
        intro x L ev w hI hk hp hA
        have e0 : ev (.tmp 0) = .pointer (some ⟨pb, 0, none⟩) := hA.oldNone 0 (by kernel_rfl)
        have hcc := hA.const
        clear hA hp
        refine Reg.out_value (v := .pointer (some ⟨pb, 0, none⟩)) ?_ ⟨x, rfl, Reg.PPres.refl _ _ _, Reg.PInv.light HF hI 1 (by decide) (Below.refl _ _)⟩
        go_simp
      · refine Reg.GStepAt.plain (i := 2) rfl ?_
        intro x L ev w hI hk hp hA
        have e15 : ev (.tmp 15) = .pointer (some ⟨pb, 0, none⟩) := hA.val 1 _ 15 rfl (hp ⟨1, .data⟩ (by simp) rfl) rfl
        have hcc := hA.const
        clear hA hp
        refine Reg.out_value (v := .pointer (some ⟨pb, 0, none⟩)) ?_ ⟨x, rfl, Reg.PPres.refl _ _ _, Reg.PInv.light HF hI 2 (by decide) (Below.refl _ _)⟩
        go_simp
      · refine Reg.GStepAt.plain (i := 3) rfl ?_
        intro x L ev w hI hk hp hA
        have e16 : ev (.tmp 16) = .pointer (some ⟨pb, 0, none⟩) := hA.val 2 _ 16 rfl (hp ⟨2, .data⟩ (by simp) rfl) rfl
        have hcc := hA.const
        clear hA hp
        refine Reg.out_value (v := .pointer (some ⟨pb, 1, none⟩)) ?_ ⟨x, rfl, Reg.PPres.refl _ _ _, Reg.PInv.light HF hI 3 (by decide) (Below.refl _ _)⟩
        go_simp
      · refine Reg.GStepAt.plain (i := 4) rfl ?_
        intro x L ev w hI hk hp hA
        have e17 : ev (.tmp 17) = .pointer (some ⟨pb, 1, none⟩) := hA.val 3 _ 17 rfl (hp ⟨3, .data⟩ (by simp) rfl) rfl
        have hcc := hA.const
        have NL := Reg.not_listed hA 4 18 _ rfl ⟨4, .phase⟩ (by simp) rfl hk
        have NL2 := Reg.not_listed hA 4 15 _ rfl ⟨4, .data⟩ (by simp) rfl hk
        clear hA hp
        have n18 : L.getD 18 false = false := NL
        have n15 : L.getD 15 false = false := NL2
        have hx0 : x = 0 := hI.1.trans (Reg.cnt_zero2 n15 n18)
        have hBw := hI.2.2.1 hx0
        obtain ⟨f0, f1, f2⟩ := FC.out w hBw
        refine Reg.out_value (v := .slice ga m gc) ?_ ⟨x, rfl, Reg.PPres.refl _ _ _, Reg.PInv.light HF hI 4 (by decide) (Below.refl _ _)⟩
        clear hI hBw n18 n15 hx0
        go_simp
      · refine Reg.GStepAt.plain (i := 5) rfl ?_
        intro x L ev w hI hk hp hA
        have e1 : ev (.tmp 1) = .slice (some ⟨xb, xo, none⟩) n xc := hA.oldNone 1 (by kernel_rfl)
        have hcc := hA.const
        clear hA hp
        refine Reg.out_value (v := .slice (some ⟨xb, xo, none⟩) n xc) ?_ ⟨x, rfl, Reg.PPres.refl _ _ _, Reg.PInv.light HF hI 5 (by decide) (Below.refl _ _)⟩
        go_simp
      · refine Reg.GStepAt.plain (i := 6) rfl ?_
        intro x L ev w hI hk hp hA
        have e8 : ev (.tmp 8) = .int .i64 (k : Int) := hA.oldNone 8 (by kernel_rfl)
        have hcc := hA.const
        clear hA hp
        refine Reg.out_value (v := .int .i64 (k : Int)) ?_ ⟨x, rfl, Reg.PPres.refl _ _ _, Reg.PInv.light HF hI 6 (by decide) (Below.refl _ _)⟩
        go_simp
      · refine Reg.GStepAt.plain (i := 7) rfl ?_
        intro x L ev w hI hk hp hA
        have e19 : ev (.tmp 19) = .slice (some ⟨xb, xo, none⟩) n xc := hA.val 5 _ 19 rfl (hp ⟨5, .data⟩ (by simp) rfl) rfl
        have e20 : ev (.tmp 20) = .int .i64 (k : Int) := hA.val 6 _ 20 rfl (hp ⟨6, .data⟩ (by simp) rfl) rfl
        have hcc := hA.const
        clear hA hp
        refine Reg.out_value (v := .pointer (some ⟨xb, xo + k, none⟩)) ?_ ⟨x, rfl, Reg.PPres.refl _ _ _, Reg.PInv.light HF hI 7 (by decide) (Below.refl _ _)⟩
        go_simp
      · refine Reg.GStepAt.plain (i := 8) rfl ?_
        intro x L ev w hI hk hp hA
        have e21 : ev (.tmp 21) = .pointer (some ⟨xb, xo + k, none⟩) := hA.val 7 _ 21 rfl (hp ⟨7, .data⟩ (by simp) rfl) rfl
        have hcc := hA.const
        clear hA hp
        obtain ⟨f1, f2⟩ := FX.out w hI.2.1
        refine Reg.out_value (v := .int .i64 (a : Int)) ?_ ⟨x, rfl, Reg.PPres.refl _ _ _, Reg.PInv.light HF hI 8 (by decide) (Below.refl _ _)⟩
        go_simp
      · refine Reg.GStepAt.plain (i := 9) rfl ?_
        intro x L ev w hI hk hp hA
        have e2 : ev (.tmp 2) = .slice (some ⟨yb, yo, none⟩) n yc := hA.oldNone 2 (by kernel_rfl)
        have hcc := hA.const
        clear hA hp
        refine Reg.out_value (v := .slice (some ⟨yb, yo, none⟩) n yc) ?_ ⟨x, rfl, Reg.PPres.refl _ _ _, Reg.PInv.light HF hI 9 (by decide) (Below.refl _ _)⟩
        go_simp
      · refine Reg.GStepAt.plain (i := 10) rfl ?_
        intro x L ev w hI hk hp hA
        have e8 : ev (.tmp 8) = .int .i64 (k : Int) := hA.oldNone 8 (by kernel_rfl)
        have hcc := hA.const
        clear hA hp
        refine Reg.out_value (v := .int .i64 (k : Int)) ?_ ⟨x, rfl, Reg.PPres.refl _ _ _, Reg.PInv.light HF hI 10 (by decide) (Below.refl _ _)⟩
        go_simp
      · refine Reg.GStepAt.plain (i := 11) rfl ?_
        intro x L ev w hI hk hp hA
        have e23 : ev (.tmp 23) = .slice (some ⟨yb, yo, none⟩) n yc := hA.val 9 _ 23 rfl (hp ⟨9, .data⟩ (by simp) rfl) rfl
        have e24 : ev (.tmp 24) = .int .i64 (k : Int) := hA.val 10 _ 24 rfl (hp ⟨10, .data⟩ (by simp) rfl) rfl
        have hcc := hA.const
        clear hA hp
        refine Reg.out_value (v := .pointer (some ⟨yb, yo + k, none⟩)) ?_ ⟨x, rfl, Reg.PPres.refl _ _ _, Reg.PInv.light HF hI 11 (by decide) (Below.refl _ _)⟩
        go_simp
      · refine Reg.GStepAt.plain (i := 12) rfl ?_
        intro x L ev w hI hk hp hA
        have e25 : ev (.tmp 25) = .pointer (some ⟨yb, yo + k, none⟩) := hA.val 11 _ 25 rfl (hp ⟨11, .data⟩ (by simp) rfl) rfl
        have hcc := hA.const
        clear hA hp
        obtain ⟨f1, f2⟩ := FX.out w hI.2.1
        refine Reg.out_value (v := .int .i64 (b : Int)) ?_ ⟨x, rfl, Reg.PPres.refl _ _ _, Reg.PInv.light HF hI 12 (by decide) (Below.refl _ _)⟩
        go_simp
      · refine Reg.GStepAt.plain (i := 13) rfl ?_
        intro x L ev w hI hk hp hA
        have e22 : ev (.tmp 22) = .int .i64 (a : Int) := hA.val 8 _ 22 rfl (hp ⟨8, .data⟩ (by simp) rfl) rfl
        have e26 : ev (.tmp 26) = .int .i64 (b : Int) := hA.val 12 _ 26 rfl (hp ⟨12, .data⟩ (by simp) rfl) rfl
        have hcc := hA.const
        clear hA hp
        refine Reg.out_value (v := .agg #[.int .i64 (a : Int), .int .i64 (b : Int)]) ?_ ⟨x, rfl, Reg.PPres.refl _ _ _, Reg.PInv.light HF hI 13 (by decide) (Below.refl _ _)⟩
        go_simp
      · refine Reg.GStepAt.plain (i := 14) rfl ?_
        intro x L ev w hI hk hp hA
        have e27 : ev (.tmp 27) = .agg #[.int .i64 (a : Int), .int .i64 (b : Int)] := hA.val 13 _ 27 rfl (hp ⟨13, .data⟩ (by simp) rfl) rfl
        have hcc := hA.const
        clear hA hp
        refine Reg.out_new (v := .slice (some ⟨w.heap.size, 0, none⟩) 1 1) (w' := w.alloc (.cells #[.int .i64 (a : Int), .int .i64 (b : Int)] 139)) ?_ ⟨x, ⟨w.heap.size, rfl, BoxAt.new w [.int .i64 (a : Int), .int .i64 (b : Int)] 139, by have h1 := hI.2.1.size; omega, fun e => by have h1 := hI.2.1.size; have h2 := HLT.out _ e; omega⟩, Reg.PPres.light ((Below.refl _ _).alloc (Nat.le_refl _) _), Reg.PInv.light HF hI 14 (by decide) ((Below.refl _ _).alloc (Nat.le_refl _) _)⟩
        clear hI hk
        go_simp
      · refine Reg.GStepAt.plain (i := 15) rfl ?_
        intro x L ev w hI hk hp hA
        have e18 : ev (.tmp 18) = .slice ga m gc := hA.val 4 _ 18 rfl (hp ⟨4, .data⟩ (by simp) rfl) rfl
        have e28 : (fun v _ w => ∃ g, v = .slice (some ⟨g, 0, none⟩) 1 1 ∧ BoxAt w g [.int .i64 (a : Int), .int .i64 (b : Int)] ∧ lo ≤ g ∧ ¬ pset pb ga g) (ev (.tmp 28)) x w := hA.val 14 _ 28 rfl (hp ⟨14, .data⟩ (by simp) rfl) rfl
        have hcc := hA.const
        have NL := Reg.not_listed hA 15 18 _ rfl ⟨15, .data⟩ (by simp) rfl hk
        clear hA hp
        have n18 : L.getD 18 false = false := NL
        have hx0 : x = 0 := hI.1.trans (Reg.cnt_zero2 (Reg.getD_true hk) n18)
        have hBw := hI.2.2.1 hx0
        obtain ⟨g, e28, hG, hlg, hSg⟩ := e28
        obtain ⟨pB, pS, pL, pN⟩ := HP.out w hBw
        obtain ⟨g', c', w', hrun, hF', hb', hg'⟩ := sl_append plainG 48 w ga gc m _ pS _ 1 [.int .i64 (a : Int), .int .i64 (b : Int)] (src_new 2 w Try.underlying48 g [.int .i64 (a : Int), .int .i64 (b : Int)] rfl (fun j u hu => hG.cell j u hu) (by intro u hu; simp at hu; rcases hu with rfl | rfl <;> rfl)) (by omega) (by omega)
        have hbS := hb'.mono (T := pset pb ga) (fun j _ e => .inr e)
        have hne : g' ≠ pb := hg'.elim (fun h e => pN (e ▸ h)) (fun h e => by have := pB.lt; omega)
        refine Reg.out_new (v := .slice (some ⟨g', 0, none⟩) (m + 1) c') (w' := w') ?_ ⟨x + 1, ⟨by omega, g', c', rfl, fun _ => ⟨by rw [flatG_snoc]; exact hF', pB.but hb' pN, hne, hg'.imp id (fun h => by have := hBw.size; omega)⟩⟩, Reg.PPres.heavy hbS, Reg.PInv.heavy hI 15 (by decide) (by simp) hk hbS ⟨fun e => by omega, fun e => by omega⟩⟩
        simp [execOp, resolve, invoke, builtin, e18, e28, hrun, Result.andThen]
      · refine Reg.GStepAt.plain (i := 16) rfl ?_
        intro x L ev w hI hk hp hA
        have e14 : ev (.tmp 14) = .pointer (some ⟨pb, 0, none⟩) := hA.val 0 _ 14 rfl (hp ⟨0, .data⟩ (by simp) rfl) rfl
        have hcc := hA.const
        clear hA hp
        refine Reg.out_value (v := .pointer (some ⟨pb, 0, none⟩)) ?_ ⟨x, rfl, Reg.PPres.refl _ _ _, Reg.PInv.light HF hI 16 (by decide) (Below.refl _ _)⟩
        go_simp
      · refine Reg.GStepAt.plain (i := 17) rfl ?_
        intro x L ev w hI hk hp hA
        have e30 : ev (.tmp 30) = .pointer (some ⟨pb, 0, none⟩) := hA.val 16 _ 30 rfl (hp ⟨16, .data⟩ (by simp) rfl) rfl
        have hcc := hA.const
        clear hA hp
        refine Reg.out_value (v := .pointer (some ⟨pb, 1, none⟩)) ?_ ⟨x, rfl, Reg.PPres.refl _ _ _, Reg.PInv.light HF hI 17 (by decide) (Below.refl _ _)⟩
        go_simp
      · refine Reg.GStepAt.plain (i := 18) rfl ?_
        intro x L ev w hI hk hp hA
        have e31 : ev (.tmp 31) = .pointer (some ⟨pb, 1, none⟩) := hA.val 17 _ 31 rfl (hp ⟨17, .data⟩ (by simp) rfl) rfl
        have e29 : (fun v x w => 1 ≤ x ∧ ∃ g c, v = .slice (some ⟨g, 0, none⟩) (m + 1) c ∧ (x = 1 → Flat 2 w g c (m + 1) (flatG (G ++ [(a, b)])) ∧ BoxAt w pb [.int .i64 wd, .slice ga m gc, .slice oa on oc] ∧ g ≠ pb ∧ (inB ga g ∨ lo ≤ g))) (ev (.tmp 29)) x w := hA.val 15 _ 29 rfl (hp ⟨15, .data⟩ (by simp) rfl) rfl
        have hcc := hA.const
        have L15 : L.getD 15 false = true := hp ⟨15, .data⟩ (by simp) rfl
        clear hA hp
        have hx1 : x = 1 := hI.1.trans (Reg.cnt_one2 L15 (Reg.getD_true hk))
        obtain ⟨_, g, c, e29, h29⟩ := e29
        obtain ⟨q1, q2, q3, q4⟩ := h29 hx1
        obtain ⟨c1, y1⟩ := q2.get 1 _ rfl
        have hbS : But (pset pb ga) w (w.setCell ⟨pb, 1, none⟩ (.slice (some ⟨g, 0, none⟩) (m + 1) c)) := (But.refl _ w).set1 pb 1 (.inl rfl) _
        have hb1 : But (fun j => j = pb) w (w.setCell ⟨pb, 1, none⟩ (.slice (some ⟨g, 0, none⟩) (m + 1) c)) := (But.refl (fun j => j = pb) w).set1 pb 1 rfl _
        refine Reg.out_skipP (w' := w.setCell ⟨pb, 1, none⟩ (.slice (some ⟨g, 0, none⟩) (m + 1) c)) ?_ ⟨x + 1, trivial, Reg.PPres.heavy hbS, Reg.PInv.heavy hI 18 (by decide) (by simp) hk hbS ⟨fun e => by omega, fun _ => ⟨some ⟨g, 0, none⟩, c, ⟨q2.set 1 _, .inr ⟨g, rfl, q1.but hb1 (by omega)⟩, by rw [List.length_append, HGL.out]; rfl, fun e => by obtain ⟨z, hz, hz2⟩ := e; cases hz; exact q3 hz2⟩, ?_⟩⟩⟩
        · clear hI q1 q2 hbS hb1
          go_simp
        · rintro j ⟨z, hz, rfl⟩
          cases hz
          exact q4.imp id (fun h => by show W0.heap.size ≤ g; omega)
      intro gx L act wz hall hI hF
      have g14 : act.eval (.tmp 14) = .pointer (some ⟨pb, 0, none⟩) := hF.val 0 _ 14 rfl (hall 0 (by simp)) rfl
      have g15 : act.eval (.tmp 15) = .pointer (some ⟨pb, 0, none⟩) := hF.val 1 _ 15 rfl (hall 1 (by simp)) rfl
      have g16 : act.eval (.tmp 16) = .pointer (some ⟨pb, 0, none⟩) := hF.val 2 _ 16 rfl (hall 2 (by simp)) rfl
      have g17 : act.eval (.tmp 17) = .pointer (some ⟨pb, 1, none⟩) := hF.val 3 _ 17 rfl (hall 3 (by simp)) rfl
      have g18 : act.eval (.tmp 18) = .slice ga m gc := hF.val 4 _ 18 rfl (hall 4 (by simp)) rfl
      have g19 : act.eval (.tmp 19) = .slice (some ⟨xb, xo, none⟩) n xc := hF.val 5 _ 19 rfl (hall 5 (by simp)) rfl
      have g20 : act.eval (.tmp 20) = .int .i64 (k : Int) := hF.val 6 _ 20 rfl (hall 6 (by simp)) rfl
      have g21 : act.eval (.tmp 21) = .pointer (some ⟨xb, xo + k, none⟩) := hF.val 7 _ 21 rfl (hall 7 (by simp)) rfl
      have g22 : act.eval (.tmp 22) = .int .i64 (a : Int) := hF.val 8 _ 22 rfl (hall 8 (by simp)) rfl
      have g23 : act.eval (.tmp 23) = .slice (some ⟨yb, yo, none⟩) n yc := hF.val 9 _ 23 rfl (hall 9 (by simp)) rfl
      have g24 : act.eval (.tmp 24) = .int .i64 (k : Int) := hF.val 10 _ 24 rfl (hall 10 (by simp)) rfl
      have g25 : act.eval (.tmp 25) = .pointer (some ⟨yb, yo + k, none⟩) := hF.val 11 _ 25 rfl (hall 11 (by simp)) rfl
      have g26 : act.eval (.tmp 26) = .int .i64 (b : Int) := hF.val 12 _ 26 rfl (hall 12 (by simp)) rfl
      have g27 : act.eval (.tmp 27) = .agg #[.int .i64 (a : Int), .int .i64 (b : Int)] := hF.val 13 _ 27 rfl (hall 13 (by simp)) rfl
      have g28 : (fun v _ w => ∃ g, v = .slice (some ⟨g, 0, none⟩) 1 1 ∧ BoxAt w g [.int .i64 (a : Int), .int .i64 (b : Int)] ∧ lo ≤ g ∧ ¬ pset pb ga g) (act.eval (.tmp 28)) gx wz := hF.val 14 _ 28 rfl (hall 14 (by simp)) rfl
      have g29 : (fun v x w => 1 ≤ x ∧ ∃ g c, v = .slice (some ⟨g, 0, none⟩) (m + 1) c ∧ (x = 1 → Flat 2 w g c (m + 1) (flatG (G ++ [(a, b)])) ∧ BoxAt w pb [.int .i64 wd, .slice ga m gc, .slice oa on oc] ∧ g ≠ pb ∧ (inB ga g ∨ lo ≤ g))) (act.eval (.tmp 29)) gx wz := hF.val 15 _ 29 rfl (hall 15 (by simp)) rfl
      have g30 : act.eval (.tmp 30) = .pointer (some ⟨pb, 0, none⟩) := hF.val 16 _ 30 rfl (hall 16 (by simp)) rfl
      have g31 : act.eval (.tmp 31) = .pointer (some ⟨pb, 1, none⟩) := hF.val 17 _ 31 rfl (hall 17 (by simp)) rfl
      have hact := hF.act [14, 15, 16, 17, 18, 19, 20, 21, 22, 23, 24, 25, 26, 27, 28, 29, 30, 31] (by kernel_rfl)
      obtain ⟨hxz, hBz, hFz⟩ := Reg.PInv.done hI (fun j hj => hall j (by simp at hj ⊢; omega))
      clear hF hall
      simp only [List.foldl_cons, List.foldl_nil] at hact
      rw [g14, g15, g16, g17, g18, g19, g20, g21, g22, g23, g24, g25, g26, g27, g30, g31] at hact
      clear g14 g15 g16 g17 g18 g19 g20 g21 g22 g23 g24 g25 g26 g27 g30 g31
      generalize act.eval (.tmp 28) = u28 at hact g28
      generalize act.eval (.tmp 29) = u29 at hact g29
      simp only [List.setIfInBounds_toArray, List.set_cons_succ, List.set_cons_zero] at hact
      subst hact
      have HJ := hidq (hFz.2 rfl)
      have HBZ := hidq hBz
      clear hFz hBz hI g28 g29 HF HP FC HGL HLT hxz
      go_wp2_with fail
      obtain ⟨V, hV⟩ : ∃ V, V = wz := ⟨_, rfl⟩
      subst hV
      obtain ⟨hE1, hS1, hN1, hxa, hyb, hmk, hGk⟩ := HR1.out
      obtain ⟨hxl, hyl, hs01⟩ := HC.out
      have hsV := HBZ.out.size
      obtain ⟨l2, hl2⟩ : ∃ l2, V.heap.size = l2 := ⟨_, rfl⟩
      obtain ⟨RL, hRL⟩ : ∃ RL, vals (Wr.inter (x.take k) (y.take k)) = RL := ⟨_, rfl⟩
      obtain ⟨rn, hrn⟩ : ∃ rn, 2 * k = rn := ⟨_, rfl⟩
      have hSV : SlAt 1 V ra rc rn RL := by rw [← hrn, ← hRL]; exact hS1.but HBZ.out (fun j hj => (hN1 j hj).2)
      have HRS := hidq hSV
      have FX2 := hidq (fun W (hW : But (inB ra) V W) => (show W.cell? ⟨xb, xo + k, none⟩ = some (.int .i64 (a : Int)) ∧ W.cell? ⟨yb, yo + k, none⟩ = some (.int .i64 (b : Int)) from by
        obtain ⟨h1, h2⟩ := FX.out V HBZ.out
        exact ⟨by rw [hW.cell (p := ⟨xb, xo + k, none⟩) (by show xb < _; omega) (fun e => by have := (hN1 _ e).1; simp at this; omega)]; exact h1, by rw [hW.cell (p := ⟨yb, yo + k, none⟩) (by show yb < _; omega) (fun e => by have := (hN1 _ e).1; simp at this; omega)]; exact h2⟩))
      have HF : ∀ (x : Nat) (w w' : World), Below w.heap.size w w' → (x = 0 → Below V.heap.size V w) → (x = 0 → Below V.heap.size V w') := fun _ _ _ hB h e => (h e).trans (hB.mono (h e).size)
      have HK := hidq (And.intro hRL hrn)
      have hrb : rn ≤ 128 := by omega
      clear hE1 hS1 hN1 hxa hyb hmk hGk hxl hyl hs01 hsV hSV hRL FX
      rw [hrn]
      clear hrn
      refine Reg.wp_region_ghost (Reg.gofList (join6R n xc yc xb xo yb yo k l2 a b rn rc ra RL)) (Reg.PPres (inB ra)) (Reg.PInv [10] (inB ra) V (fun x w => x = 0 → Below V.heap.size V w)) 0 (by kernel_rfl) (by kernel_rfl) (Reg.GAllKept.at _ (join6R_kept n xc yc xb xo yb yo k l2 a b rn rc ra RL)) (Reg.PInv.start 12 (fun _ => below_drewN (Below.refl _ _) 1)) ⟨?_, ?_, ?_, ?_, ?_, ?_, ?_, ?_, ?_, ?_, ?_, ?_, trivial⟩ ?_
      · refine Reg.GStepAt.plain (i := 0) rfl ?_
        intro x L ev w hI hk hp hA
        have e7 : ev (.tmp 7) = .slice ra rn rc := hA.oldBut 11 _ 7 (by kernel_rfl) rfl ⟨0, .phase⟩ (by simp) rfl hk
        have hcc := hA.const
        clear hA hp
        refine Reg.out_value (v := .slice ra rn rc) ?_ ⟨x, rfl, Reg.PPres.refl _ _ _, Reg.PInv.light HF hI 0 (by decide) (Below.refl _ _)⟩
        go_simp
      · refine Reg.GStepAt.plain (i := 1) rfl ?_
        intro x L ev w hI hk hp hA
        have e1 : ev (.tmp 1) = .slice (some ⟨xb, xo, none⟩) n xc := hA.oldNone 1 (by kernel_rfl)
        have hcc := hA.const
        clear hA hp
        refine Reg.out_value (v := .slice (some ⟨xb, xo, none⟩) n xc) ?_ ⟨x, rfl, Reg.PPres.refl _ _ _, Reg.PInv.light HF hI 1 (by decide) (Below.refl _ _)⟩
        go_simp
      · refine Reg.GStepAt.plain (i := 2) rfl ?_
        intro x L ev w hI hk hp hA
        have e8 : ev (.tmp 8) = .int .i64 (k : Int) := hA.oldNone 8 (by kernel_rfl)
        have hcc := hA.const
        clear hA hp
        refine Reg.out_value (v := .int .i64 (k : Int)) ?_ ⟨x, rfl, Reg.PPres.refl _ _ _, Reg.PInv.light HF hI 2 (by decide) (Below.refl _ _)⟩
        go_simp
      · refine Reg.GStepAt.plain (i := 3) rfl ?_
        intro x L ev w hI hk hp hA
        have e33 : ev (.tmp 33) = .slice (some ⟨xb, xo, none⟩) n xc := hA.val 1 _ 33 rfl (hp ⟨1, .data⟩ (by simp) rfl) rfl
        have e34 : ev (.tmp 34) = .int .i64 (k : Int) := hA.val 2 _ 34 rfl (hp ⟨2, .data⟩ (by simp) rfl) rfl
        have hcc := hA.const
        clear hA hp
        refine Reg.out_value (v := .pointer (some ⟨xb, xo + k, none⟩)) ?_ ⟨x, rfl, Reg.PPres.refl _ _ _, Reg.PInv.light HF hI 3 (by decide) (Below.refl _ _)⟩
        go_simp
      · refine Reg.GStepAt.plain (i := 4) rfl ?_
        intro x L ev w hI hk hp hA
        have e35 : ev (.tmp 35) = .pointer (some ⟨xb, xo + k, none⟩) := hA.val 3 _ 35 rfl (hp ⟨3, .data⟩ (by simp) rfl) rfl
        have hcc := hA.const
        clear hA hp
        obtain ⟨f1, f2⟩ := FX2.out w hI.2.1
        refine Reg.out_value (v := .int .i64 (a : Int)) ?_ ⟨x, rfl, Reg.PPres.refl _ _ _, Reg.PInv.light HF hI 4 (by decide) (Below.refl _ _)⟩
        go_simp
      · refine Reg.GStepAt.plain (i := 5) rfl ?_
        intro x L ev w hI hk hp hA
        have e2 : ev (.tmp 2) = .slice (some ⟨yb, yo, none⟩) n yc := hA.oldNone 2 (by kernel_rfl)
        have hcc := hA.const
        clear hA hp
        refine Reg.out_value (v := .slice (some ⟨yb, yo, none⟩) n yc) ?_ ⟨x, rfl, Reg.PPres.refl _ _ _, Reg.PInv.light HF hI 5 (by decide) (Below.refl _ _)⟩
        go_simp
      · refine Reg.GStepAt.plain (i := 6) rfl ?_
        intro x L ev w hI hk hp hA
        have e8 : ev (.tmp 8) = .int .i64 (k : Int) := hA.oldNone 8 (by kernel_rfl)
        have hcc := hA.const
        clear hA hp
        refine Reg.out_value (v := .int .i64 (k : Int)) ?_ ⟨x, rfl, Reg.PPres.refl _ _ _, Reg.PInv.light HF hI 6 (by decide) (Below.refl _ _)⟩
        go_simp
      · refine Reg.GStepAt.plain (i := 7) rfl ?_
        intro x L ev w hI hk hp hA
        have e37 : ev (.tmp 37) = .slice (some ⟨yb, yo, none⟩) n yc := hA.val 5 _ 37 rfl (hp ⟨5, .data⟩ (by simp) rfl) rfl
        have e38 : ev (.tmp 38) = .int .i64 (k : Int) := hA.val 6 _ 38 rfl (hp ⟨6, .data⟩ (by simp) rfl) rfl
        have hcc := hA.const
        clear hA hp
        refine Reg.out_value (v := .pointer (some ⟨yb, yo + k, none⟩)) ?_ ⟨x, rfl, Reg.PPres.refl _ _ _, Reg.PInv.light HF hI 7 (by decide) (Below.refl _ _)⟩
        go_simp
      · refine Reg.GStepAt.plain (i := 8) rfl ?_
        intro x L ev w hI hk hp hA
        have e39 : ev (.tmp 39) = .pointer (some ⟨yb, yo + k, none⟩) := hA.val 7 _ 39 rfl (hp ⟨7, .data⟩ (by simp) rfl) rfl
        have hcc := hA.const
        clear hA hp
        obtain ⟨f1, f2⟩ := FX2.out w hI.2.1
        refine Reg.out_value (v := .int .i64 (b : Int)) ?_ ⟨x, rfl, Reg.PPres.refl _ _ _, Reg.PInv.light HF hI 8 (by decide) (Below.refl _ _)⟩
        go_simp
      · refine Reg.GStepAt.plain (i := 9) rfl ?_
        intro x L ev w hI hk hp hA
        have e36 : ev (.tmp 36) = .int .i64 (a : Int) := hA.val 4 _ 36 rfl (hp ⟨4, .data⟩ (by simp) rfl) rfl
        have e40 : ev (.tmp 40) = .int .i64 (b : Int) := hA.val 8 _ 40 rfl (hp ⟨8, .data⟩ (by simp) rfl) rfl
        have hcc := hA.const
        clear hA hp
        refine Reg.out_new (v := .slice (some ⟨w.heap.size, 0, none⟩) 2 2) (w' := w.alloc (.cells #[.int .i64 (a : Int), .int .i64 (b : Int)] 3)) ?_ ⟨x, ⟨w.heap.size, rfl, BoxAt.new w [.int .i64 (a : Int), .int .i64 (b : Int)] 3, by have h1 := hI.2.1.size; omega, fun e => by have h1 := hI.2.1.size; have h2 := HRS.out.lt _ e; omega⟩, Reg.PPres.light ((Below.refl _ _).alloc (Nat.le_refl _) _), Reg.PInv.light HF hI 9 (by decide) ((Below.refl _ _).alloc (Nat.le_refl _) _)⟩
        clear hI hk
        go_simp
      · refine Reg.GStepAt.plain (i := 10) rfl ?_
        intro x L ev w hI hk hp hA
        have e32 : ev (.tmp 32) = .slice ra rn rc := hA.val 0 _ 32 rfl (hp ⟨0, .data⟩ (by simp) rfl) rfl
        have e41 : (fun v _ w => ∃ g, v = .slice (some ⟨g, 0, none⟩) 2 2 ∧ BoxAt w g [.int .i64 (a : Int), .int .i64 (b : Int)] ∧ l2 ≤ g ∧ ¬ inB ra g) (ev (.tmp 41)) x w := hA.val 9 _ 41 rfl (hp ⟨9, .data⟩ (by simp) rfl) rfl
        have hcc := hA.const
        clear hA hp
        have hx0 : x = 0 := hI.1.trans (Reg.cnt_zero1 (Reg.getD_true hk))
        have hBw := hI.2.2 hx0
        obtain ⟨g, e41, hG, hlg, hSg⟩ := e41
        obtain ⟨g', c', w', hrun, hF', hb', hg'⟩ := sl_append plainN 46 w ra rc rn _ (HRS.out.below hBw) _ 2 [.int .i64 (a : Int), .int .i64 (b : Int)] (Src.ofSlice w Try.underlying46 ⟨g, 0, none⟩ 2 2 [.int .i64 (a : Int), .int .i64 (b : Int)] rfl (fun j u hu => by rw [Addr.add_lit, Nat.zero_add]; exact hG.cell j u hu) (by intro u hu; simp at hu; rcases hu with rfl | rfl <;> rfl)) (by omega) (by omega)
        refine Reg.out_new (v := .slice (some ⟨g', 0, none⟩) (rn + 2) c') (w' := w') ?_ ⟨x + 1, ⟨by omega, g', c', rfl, fun _ => ⟨hF', hg'.imp id (fun h => by have := hBw.size; omega)⟩⟩, Reg.PPres.heavy hb', Reg.PInv.heavy hI 10 (by decide) (by simp) hk hb' (fun e => by omega)⟩
        simp [execOp, resolve, invoke, builtin, e32, e41, hrun, Result.andThen]
      · refine Reg.GStepAt.plain (i := 11) rfl ?_
        intro x L ev w hI hk hp hA
        have e42 : (fun v x w => 1 ≤ x ∧ ∃ g c, v = .slice (some ⟨g, 0, none⟩) (rn + 2) c ∧ (x = 1 → Flat 1 w g c (rn + 2) (RL ++ [.int .i64 (a : Int), .int .i64 (b : Int)]) ∧ (inB ra g ∨ l2 ≤ g))) (ev (.tmp 42)) x w := hA.val 10 _ 42 rfl (hp ⟨10, .data⟩ (by simp) rfl) rfl
        have hcc := hA.const
        clear hA hp
        exact Reg.out_value rfl ⟨x, e42, Reg.PPres.refl _ _ _, Reg.PInv.light HF hI 11 (by decide) (Below.refl _ _)⟩
      intro gx L act wz hall hI hF
      have g32 : act.eval (.tmp 32) = .slice ra rn rc := hF.val 0 _ 32 rfl (hall 0 (by simp)) rfl
      have g33 : act.eval (.tmp 33) = .slice (some ⟨xb, xo, none⟩) n xc := hF.val 1 _ 33 rfl (hall 1 (by simp)) rfl
      have g34 : act.eval (.tmp 34) = .int .i64 (k : Int) := hF.val 2 _ 34 rfl (hall 2 (by simp)) rfl
      have g35 : act.eval (.tmp 35) = .pointer (some ⟨xb, xo + k, none⟩) := hF.val 3 _ 35 rfl (hall 3 (by simp)) rfl
      have g36 : act.eval (.tmp 36) = .int .i64 (a : Int) := hF.val 4 _ 36 rfl (hall 4 (by simp)) rfl
      have g37 : act.eval (.tmp 37) = .slice (some ⟨yb, yo, none⟩) n yc := hF.val 5 _ 37 rfl (hall 5 (by simp)) rfl
      have g38 : act.eval (.tmp 38) = .int .i64 (k : Int) := hF.val 6 _ 38 rfl (hall 6 (by simp)) rfl
      have g39 : act.eval (.tmp 39) = .pointer (some ⟨yb, yo + k, none⟩) := hF.val 7 _ 39 rfl (hall 7 (by simp)) rfl
      have g40 : act.eval (.tmp 40) = .int .i64 (b : Int) := hF.val 8 _ 40 rfl (hall 8 (by simp)) rfl
      have g41 : (fun v _ w => ∃ g, v = .slice (some ⟨g, 0, none⟩) 2 2 ∧ BoxAt w g [.int .i64 (a : Int), .int .i64 (b : Int)] ∧ l2 ≤ g ∧ ¬ inB ra g) (act.eval (.tmp 41)) gx wz := hF.val 9 _ 41 rfl (hall 9 (by simp)) rfl
      have g42 : (fun v x w => 1 ≤ x ∧ ∃ g c, v = .slice (some ⟨g, 0, none⟩) (rn + 2) c ∧ (x = 1 → Flat 1 w g c (rn + 2) (RL ++ [.int .i64 (a : Int), .int .i64 (b : Int)]) ∧ (inB ra g ∨ l2 ≤ g))) (act.eval (.tmp 42)) gx wz := hF.val 10 _ 42 rfl (hall 10 (by simp)) rfl
      have g7 : (fun v x w => 1 ≤ x ∧ ∃ g c, v = .slice (some ⟨g, 0, none⟩) (rn + 2) c ∧ (x = 1 → Flat 1 w g c (rn + 2) (RL ++ [.int .i64 (a : Int), .int .i64 (b : Int)]) ∧ (inB ra g ∨ l2 ≤ g))) (act.eval (.tmp 7)) gx wz := hF.val 11 _ 7 rfl (hall 11 (by simp)) rfl
      have hact := hF.act [32, 33, 34, 35, 36, 37, 38, 39, 40, 41, 42, 7] (by kernel_rfl)
      obtain ⟨hxz, hBz, hFz⟩ := Reg.PInv.done hI (fun j hj => hall j (by simp at hj ⊢; omega))
      clear hF hall
      simp only [List.foldl_cons, List.foldl_nil] at hact
      rw [g32, g33, g34, g35, g36, g37, g38, g39, g40] at hact
      clear g32 g33 g34 g35 g36 g37 g38 g39 g40
      generalize act.eval (.tmp 41) = u41 at hact g41
      generalize act.eval (.tmp 42) = u42 at hact g42
      generalize act.eval (.tmp 7) = u7 at hact g7
      simp only [List.setIfInBounds_toArray, List.set_cons_succ, List.set_cons_zero] at hact
      subst hact
      obtain ⟨_, g, c, rfl, h7⟩ := g7
      obtain ⟨hF7, hg7⟩ := h7 hxz
      obtain ⟨hRL, hrn⟩ := HK.out
      have HN := hidq (show JR w pb ga0 wd m0 oa on oc G0 x y (k + 1) (some ⟨g, 0, none⟩) c wz from by
        obtain ⟨hE1, hS1, hN1, hxa, hyb, hmk, hGk⟩ := HR1.out
        rw [← hrn, ← hRL] at hF7
        exact JR.next hE1 HJ.out HBZ.out hS1 hN1 hxa hyb hmk hGk hF7 hBz (hg7.imp id (fun h => by omega)))
      have hr2 : rn + 2 = 2 * (k + 1) := by omega
      clear hF7 hg7 h7 hRL hrn HK HR1 HJ HBZ HRS FX2 HC hI hFz hBz HF hxz
      rw [hr2]
      clear hr2
      go_wp2
      go_roundw
      case rel => exact ⟨k + 1, _, c, by go_num, by omega, rfl, HN⟩
      case measure => simp [intOf]; omega
    · have hd : decide ((k : Int) < (n : Int)) = false := decide_eq_false (by omega)
      have hd2 : decide (k < n) = false := decide_eq_false (by omega)
      have hkn : k = n := by omega
      obtain ⟨ga', gc', hP, hE, hS, hN⟩ := hR.out
      rw [List.take_of_length_le (by rw [HLX.out]; omega), List.take_of_length_le (by rw [HLY.out]; omega)] at hP hS
      have HN := hidq (show JoinEnd none w pb ga0 wd m0 oa on oc G0 (x.zip y) (Wr.inter x y) (.returned (.slice ra (2 * k) rc)) W0 from
        ⟨ga', gc', ra, rc, 2 * k, rfl, by rw [Wr.inter_length n x y HLX.out HLY.out, hkn], by rw [List.length_zip, HLX.out, HLY.out, Nat.min_self, ← hkn]; exact hP, hE, nsAt_of hS (fun j hj => (hN j hj).2), fun j hj => .inr (hN j hj).1⟩)
      clear hP hE hS hN hR hkn
      go_wp2
      go_ret
      exact HN
end Go.Proofs.Ytdghgmaoamjnlaa

namespace Go.Proofs.Ytdghgmaoamjnlaa
open Go.RowKit Go.Sort

theorem every0_any (w : World) (a : Option Addr) (c n : Nat) (S : Nat → Prop) (l : List Nat) (hn : l.length = n) (h : NsAt w a S l) (hl : n ≤ 64) :
    Calls Try.prog 145 #[.slice a n c, .int .i64 0] w fun e w' => ∃ oa oc m, e = .returned (.slice oa m oc) ∧ (Wr.ev l).length = m ∧ NsAt w' oa (fun j => j < w.heap.size) (Wr.ev l) ∧ Below w.heap.size w w' :=
  every_any w a c 0 n S l (by omega) hn h hl
theorem every1_any (w : World) (a : Option Addr) (c n : Nat) (S : Nat → Prop) (l : List Nat) (hn : l.length = n) (h : NsAt w a S l) (hl : n ≤ 64) :
    Calls Try.prog 145 #[.slice a n c, .int .i64 1] w fun e w' => ∃ oa oc m, e = .returned (.slice oa m oc) ∧ (Wr.od l).length = m ∧ NsAt w' oa (fun j => j < w.heap.size) (Wr.od l) ∧ Below w.heap.size w w' := by
  have := every_any w a c 1 n S l (by omega) hn h hl
  rw [List.drop_one] at this
  exact this

/-- How many gates. -/
def mg : Nat → Nat
  | 0 => 1
  | d + 1 => 2 * mg d + 2 ^ (d + 1)
def cg : Nat → Nat
  | 0 => 0
  | d + 1 => 2 * cg d + mg d
theorem merge_gates : ∀ (d : Nat) (x y : List Nat), x.length = 2 ^ d → y.length = 2 ^ d → (Wr.merge d x y).1.length = mg d
  | 0, x, y, hx, hy => by simp [Wr.merge, hx, hy, mg]
  | d + 1, x, y, hx, hy => by
    rw [Wr.pow_succ2] at hx hy
    have h1 := merge_gates d (Wr.ev x) (Wr.od y) (Wr.ev_length _ _ hx) (Wr.od_length _ _ hy)
    have h2 := merge_gates d (Wr.od x) (Wr.ev y) (Wr.od_length _ _ hx) (Wr.ev_length _ _ hy)
    have l1 := Wr.merge_length d (Wr.ev x) (Wr.od y) (Wr.ev_length _ _ hx) (Wr.od_length _ _ hy)
    have l2 := Wr.merge_length d (Wr.od x) (Wr.ev y) (Wr.od_length _ _ hx) (Wr.ev_length _ _ hy)
    simp only [Wr.merge, List.length_append, List.length_zip, h1, h2, l1, l2, mg, Wr.pow_succ2]
    omega
theorem count_gates : ∀ (d : Nat) (l : List Nat), l.length = 2 ^ d → (Wr.count d l).1.length = cg d
  | 0, l, _ => rfl
  | d + 1, l, h => by
    rw [Wr.pow_succ2] at h
    have l1 : (l.take (2 ^ d)).length = 2 ^ d := by rw [List.length_take]; omega
    have l2 : (l.drop (2 ^ d)).length = 2 ^ d := by rw [List.length_drop]; omega
    have h1 := count_gates d _ l1
    have h2 := count_gates d _ l2
    have h3 := merge_gates d _ _ (Wr.count_length d _ l1) (Wr.count_length d _ l2)
    simp only [Wr.count, List.length_append, h1, h2, h3, cg]
    omega

set_option maxRecDepth 20000 in
set_option maxHeartbeats 4000000 in
theorem merge_any : ∀ (d : Nat) (w : World) (pb : Nat) (ga : Option Addr) (gc : Nat) (wd : Int) (m : Nat) (oa : Option Addr) (on oc : Nat) (G : List (Nat × Nat)) (xa ya : Option Addr) (xc yc n : Nat) (x y : List Nat),
    PlanAt w pb ga gc wd m oa on oc G → NsAt w xa (pset pb ga) x → NsAt w ya (pset pb ga) y → x.length = n → y.length = n → n = 2 ^ d → n ≤ 32 → m + mg d ≤ 900 →
    Calls Try.prog 132 #[.pointer (some ⟨pb, 0, none⟩), .slice xa n xc, .slice ya n yc] w (JoinEnd none w pb ga wd m oa on oc G (Wr.merge d x y).1 (Wr.merge d x y).2) := by
  intro d
  induction d with
  | zero =>
    intro w pb ga gc wd m oa on oc G xa ya xc yc n x y hP hx hy hlx hly hn _ hm
    have hn1 : n = 1 := hn
    subst hn1
    have hJ := join_any w pb ga gc wd m oa on oc G xa ya xc yc 1 x y hP hx hy hlx hly (by decide) (by omega)
    clear hP hx hy hlx hly hn hm
    go_enter Try.func132, Try.ntmps132
    go_wp2_with fail
    refine hJ.mono ?_
    rintro e w1 hE
    obtain ⟨ga', gc', ra, rc, n', rfl, hE⟩ := hE
    go_wp2_with fail
    go_ret
    exact ⟨ga', gc', ra, rc, n', rfl, hE⟩
  | succ d ih =>
    intro w pb ga gc wd m oa on oc G xa ya xc yc n x y hP hx hy hlx hly hn hn32 hm
    obtain ⟨h, hh⟩ : ∃ h, h = 2 ^ d := ⟨_, rfl⟩
    have hn2 : n = 2 * h := by rw [hn, Wr.pow_succ2, hh]
    have hpos : 1 ≤ h := by have := Nat.two_pow_pos d; omega
    have hne : ((n : Int) == 1) = false := by simp; omega
    have hmg : mg (d + 1) = 2 * mg d + 2 * h := by rw [mg, Wr.pow_succ2, hh]
    have lx : x.length = 2 * h := by omega
    have ly : y.length = 2 * h := by omega
    have ex := Wr.ev_length _ _ lx
    have ox := Wr.od_length _ _ lx
    have ey := Wr.ev_length _ _ ly
    have oy := Wr.od_length _ _ ly
    have g1 := merge_gates d (Wr.ev x) (Wr.od y) (by omega) (by omega)
    have g2 := merge_gates d (Wr.od x) (Wr.ev y) (by omega) (by omega)
    have l1 := Wr.merge_length d (Wr.ev x) (Wr.od y) (by omega) (by omega)
    have l2 := Wr.merge_length d (Wr.od x) (Wr.ev y) (by omega) (by omega)
    have e1 : (Wr.merge (d + 1) x y).1 = (Wr.merge d (Wr.ev x) (Wr.od y)).1 ++ (Wr.merge d (Wr.od x) (Wr.ev y)).1 ++ (Wr.merge d (Wr.ev x) (Wr.od y)).2.zip (Wr.merge d (Wr.od x) (Wr.ev y)).2 := rfl
    have e2 : (Wr.merge (d + 1) x y).2 = Wr.inter (Wr.merge d (Wr.ev x) (Wr.od y)).2 (Wr.merge d (Wr.od x) (Wr.ev y)).2 := rfl
    rw [e1, e2]
    clear e1 e2
    have IH := hidq ih
    have HN := hidq (And.intro hn2 (And.intro hpos (And.intro hh (And.intro hmg (And.intro g1 (And.intro g2 (And.intro l1 l2)))))))
    have HE := hidq (And.intro ex (And.intro ox (And.intro ey oy)))
    have HX := hidq (And.intro hx (And.intro hy (And.intro hlx hly)))
    have HP := hidq hP
    have HM := hidq (And.intro hm hn32)
    have k1 := every0_any w xa xc n _ x hlx hx (by omega)
    clear ih hn2 hpos hh hmg g1 g2 l1 l2 ex ox ey oy hx hy hlx hly hP hm hn32 hn lx ly
    generalize hA : Wr.merge d (Wr.ev x) (Wr.od y) = A at HN ⊢
    generalize hB : Wr.merge d (Wr.od x) (Wr.ev y) = B at HN ⊢
    have HAB := hidq (And.intro hA hB)
    clear hA hB
    go_enter Try.func132, Try.ntmps132
    go_wp2_with fail
    refine k1.mono ?_
    rintro e w1 ⟨a1, c1, m1, rfl, hm1, hN1, hb1⟩
    clear k1
    have k2 := every1_any w1 ya yc n _ y HX.out.2.2.2 (HX.out.2.1.below hb1) (by have := HM.out.2; omega)
    go_wp2_with fail
    refine k2.mono ?_
    rintro e w2 ⟨a2, c2, m2, rfl, hm2, hN2, hb2⟩
    clear k2
    have hb02 : Below w.heap.size w w2 := hb1.trans (hb2.mono hb1.size)
    obtain rfl : m1 = h := by rw [← hm1]; exact HE.out.1
    obtain rfl : m2 = m1 := by rw [← hm2]; exact HE.out.2.2.2
    have hlt := HP.out.lt
    have hs1 := hb1.size
    have k3 := IH.out w2 pb ga gc wd m oa on oc G a1 a2 c1 c2 m2 (Wr.ev x) (Wr.od y) (HP.out.below hb02) ((hN1.below hb2).mono (fun j _ hj => hlt j hj)) (hN2.mono (fun j _ hj => Nat.lt_of_lt_of_le (hlt j hj) hs1)) hm1 hm2 HN.out.2.2.1 (by have := HM.out.2; have := HN.out.1; omega) (by have := HM.out.1; have := HN.out.2.2.2.1; omega)
    rw [HAB.out.1] at k3
    clear hN1 hN2 hm1 hm2 hs1
    have HB2 := hidq hb02
    clear hb1 hb2 hb02 hlt
    go_wp2_with fail
    refine k3.mono ?_
    rintro e w3 ⟨ga1, gc1, ra1, rc1, n1, rfl, hn1, hP3, hE3, hR3, _⟩
    clear k3
    have hE03 : PEnd pb ga w ga1 w3 := (PEnd.below HB2.out).trans hE3
    have H3 := hidq (And.intro hn1 (And.intro hP3 (And.intro hE03 hR3)))
    have k4 := every1_any w3 xa xc n _ x HX.out.2.2.1 (HX.out.1.but hE03.1 hE03.2) (by have := HM.out.2; omega)
    clear hn1 hP3 hE3 hR3 hE03
    go_wp2_with fail
    refine k4.mono ?_
    rintro e w4 ⟨a4, c4, m4, rfl, hm4, hN4, hb4⟩
    clear k4
    have k5 := every0_any w4 ya yc n _ y HX.out.2.2.2 ((HX.out.2.1.but H3.out.2.2.1.1 H3.out.2.2.1.2).below hb4) (by have := HM.out.2; omega)
    go_wp2_with fail
    refine k5.mono ?_
    rintro e w5 ⟨a5, c5, m5, rfl, hm5, hN5, hb5⟩
    clear k5
    obtain rfl : m4 = m2 := by rw [← hm4]; exact HE.out.2.1
    obtain rfl : m5 = m4 := by rw [← hm5]; exact HE.out.2.2.1
    have hb35 : Below w3.heap.size w3 w5 := hb4.trans (hb5.mono hb4.size)
    have hlt := H3.out.2.1.lt
    have hs4 := hb4.size
    have k6 := IH.out w5 pb ga1 gc1 wd _ oa on oc _ a4 a5 c4 c5 m5 (Wr.od x) (Wr.ev y) (H3.out.2.1.below hb35) ((hN4.below hb5).mono (fun j _ hj => hlt j hj)) (hN5.mono (fun j _ hj => Nat.lt_of_lt_of_le (hlt j hj) hs4)) hm4 hm5 HN.out.2.2.1 (by have := HM.out.2; have := HN.out.1; omega) (by have := HM.out.1; have := HN.out.2.2.2.1; have := HN.out.2.2.2.2.1; omega)
    rw [HAB.out.2] at k6
    have HB5 := hidq hb35
    clear hN4 hN5 hm4 hm5 hs4 hb4 hb5 hb35 hlt
    go_wp2_with fail
    refine k6.mono ?_
    rintro e w6 ⟨ga2, gc2, ra2, rc2, n2, rfl, hn2, hP6, hE6, hR6, _⟩
    clear k6
    have hE36 : PEnd pb ga1 w3 ga2 w6 := (PEnd.below HB5.out).trans hE6
    obtain rfl : n1 = n2 := by rw [← H3.out.1, ← hn2, HN.out.2.2.2.2.2.2.1, HN.out.2.2.2.2.2.2.2]
    have k7 := join_any w6 pb ga2 gc2 wd _ oa on oc _ ra1 ra2 rc1 rc2 n1 _ _ hP6 (H3.out.2.2.2.but hE36.1 hE36.2) hR6 H3.out.1 hn2 (by have := HM.out.2; have := HN.out.1; have := HN.out.2.2.2.2.2.2.1; have := HN.out.2.2.1; have := H3.out.1; omega) (by have := HM.out.1; have := HN.out.2.2.2.1; have := HN.out.2.2.2.2.1; have := HN.out.2.2.2.2.2.1; omega)
    have HE6 := hidq (H3.out.2.2.1.trans hE36)
    clear hE36 hn2 hP6 hE6 hR6
    go_wp2_with fail
    refine k7.mono ?_
    rintro e w7 ⟨ga3, gc3, ra3, rc3, n3, rfl, hn3, hP7, hE7, hR7, hQ7⟩
    clear k7
    have HF := hidq (show JoinEnd none w pb ga wd m oa on oc G (A.1 ++ B.1 ++ A.2.zip B.2) (Wr.inter A.2 B.2) (.returned (.slice ra3 n3 rc3)) w7 from
      ⟨ga3, gc3, ra3, rc3, n3, rfl, hn3, by
        have e1 : m + (A.1 ++ B.1 ++ A.2.zip B.2).length = m + A.1.length + B.1.length + (A.2.zip B.2).length := by rw [List.length_append, List.length_append]; omega
        have e2 : G ++ (A.1 ++ B.1 ++ A.2.zip B.2) = G ++ A.1 ++ B.1 ++ A.2.zip B.2 := by simp
        rw [e1, e2]; exact hP7, HE6.out.trans hE7, hR7, fun j hj => (hQ7 j hj).imp id (fun h => Nat.le_trans HE6.out.1.size h)⟩)
    clear hn3 hP7 hE7 hR7 hQ7
    go_wp2_with fail
    go_ret
    exact HF
end Go.Proofs.Ytdghgmaoamjnlaa

namespace Go.Proofs.Ytdghgmaoamjnlaa
open Go.RowKit Go.Sort

theorem NsAt.take {w : World} {a : Option Addr} {S : Nat → Prop} {l : List Nat} (h : NsAt w a S l) (k : Nat) : NsAt w a S (l.take k) := fun i v hv => by
  refine h i v ?_
  rw [List.getElem?_take] at hv
  split at hv
  · exact hv
  · cases hv
theorem NsAt.drop {w : World} {b off : Nat} {S : Nat → Prop} {l : List Nat} (h : NsAt w (some ⟨b, off, none⟩) S l) (k : Nat) : NsAt w (some ⟨b, off + k, none⟩) S (l.drop k) := fun i v hv => by
  rw [List.getElem?_drop] at hv
  obtain ⟨b', off', h1, h2, h3, h4⟩ := h _ v hv
  cases h1
  exact ⟨b, off + k, rfl, h2, h3, by rw [Nat.add_assoc]; exact h4⟩

set_option maxRecDepth 20000 in
set_option maxHeartbeats 4000000 in
theorem count_any : ∀ (d : Nat) (w : World) (pb : Nat) (ga : Option Addr) (gc : Nat) (wd : Int) (m : Nat) (oa : Option Addr) (on oc : Nat) (G : List (Nat × Nat)) (lb lo lc n : Nat) (l : List Nat),
    PlanAt w pb ga gc wd m oa on oc G → NsAt w (some ⟨lb, lo, none⟩) (pset pb ga) l → l.length = n → n = 2 ^ d → n ≤ 32 → n ≤ lc → lc ≤ 100 → m + cg d ≤ 900 →
    Calls Try.prog 103 #[.pointer (some ⟨pb, 0, none⟩), .slice (some ⟨lb, lo, none⟩) n lc] w (JoinEnd (some ⟨lb, lo, none⟩) w pb ga wd m oa on oc G (Wr.count d l).1 (Wr.count d l).2) := by
  intro d
  induction d with
  | zero =>
    intro w pb ga gc wd m oa on oc G lb lo lc n l hP hl hll hn _ _ _ _
    have hn1 : n = 1 := hn
    subst hn1
    have HF := hidq (show JoinEnd (some ⟨lb, lo, none⟩) w pb ga wd m oa on oc G (Wr.count 0 l).1 (Wr.count 0 l).2 (.returned (.slice (some ⟨lb, lo, none⟩) 1 lc)) w from
      ⟨ga, gc, _, lc, 1, rfl, hll, by simpa [Wr.count] using hP, PEnd.refl _ _ _, hl, fun j hj => .inl hj⟩)
    clear hP hl hll hn
    go_enter Try.func103, Try.ntmps103
    go_wp2_with fail
    go_ret
    exact HF
  | succ d ih =>
    intro w pb ga gc wd m oa on oc G lb lo lc n l hP hl hll hn hn32 hlc hlc2 hm
    obtain ⟨h, hh⟩ : ∃ h, h = 2 ^ d := ⟨_, rfl⟩
    have hn2 : n = 2 * h := by rw [hn, Wr.pow_succ2, hh]
    have hpos : 1 ≤ h := by have := Nat.two_pow_pos d; omega
    have hne : ((n : Int) == 1) = false := by simp; omega
    have hdiv : (n : Int) / 2 = (h : Int) := by omega
    have l1 : (l.take (2 ^ d)).length = h := by rw [List.length_take]; omega
    have l2 : (l.drop (2 ^ d)).length = h := by rw [List.length_drop]; omega
    have c1 := count_gates d _ (l1.trans hh)
    have c2 := count_gates d _ (l2.trans hh)
    have q1 := Wr.count_length d _ (l1.trans hh)
    have q2 := Wr.count_length d _ (l2.trans hh)
    have g3 := merge_gates d _ _ q1 q2
    have e1 : (Wr.count (d + 1) l).1 = (Wr.count d (l.take (2 ^ d))).1 ++ (Wr.count d (l.drop (2 ^ d))).1 ++ (Wr.merge d (Wr.count d (l.take (2 ^ d))).2 (Wr.count d (l.drop (2 ^ d))).2).1 := rfl
    have e2 : (Wr.count (d + 1) l).2 = (Wr.merge d (Wr.count d (l.take (2 ^ d))).2 (Wr.count d (l.drop (2 ^ d))).2).2 := rfl
    have hcg : cg (d + 1) = 2 * cg d + mg d := rfl
    rw [e1, e2]
    clear e1 e2
    have k1 := ih w pb ga gc wd m oa on oc G lb lo lc h (l.take (2 ^ d)) hP (hl.take _) l1 hh (by omega) (by omega) hlc2 (by omega)
    have hl2 := hl.drop (2 ^ d)
    rw [← hh] at hl2 l2
    rw [← hh] at k1 c1 c2 q1 q2 g3 ⊢
    have IH := hidq ih
    generalize hA : Wr.count d (l.take h) = A at *
    generalize hB : Wr.count d (l.drop h) = B at *
    have HN := hidq (And.intro hn2 (And.intro hpos (And.intro hcg (And.intro c1 (And.intro c2 (And.intro q1 (And.intro q2 g3)))))))
    have HM := hidq (And.intro hm (And.intro hn32 (And.intro hlc hlc2)))
    have HL := hidq (And.intro hl2 (And.intro l2 hB))
    have HH := hidq hh
    have hhn : (h : Int) ≤ (n : Int) := by omega
    have hhl : (h : Int) ≤ (lc : Int) := by omega
    have hnl : (n : Int) ≤ (lc : Int) := by omega
    have hh0 : (0 : Int) ≤ (h : Int) := by omega
    have hltc : h < lc := by omega
    have hh32 : (h : Int) ≤ 32 := by omega
    have hnh : n - h = h := by omega
    have hsz : lo + h * 1 = lo + h := by omega
    clear ih hn2 hpos hcg c1 c2 q1 q2 g3 hm hn32 hlc hlc2 hl2 l2 hB hl hll hn hh l1 hA hP
    go_enter Try.func103, Try.ntmps103
    go_wp2_with fail
    refine k1.mono ?_
    rintro e w3 ⟨ga1, gc1, ra1, rc1, n1, rfl, hn1, hP3, hE3, hR3, _⟩
    clear k1
    have k2 := IH.out w3 pb ga1 gc1 wd _ oa on oc _ lb (lo + h) (lc - h) h (l.drop h) hP3 (HL.out.1.but hE3.1 hE3.2) HL.out.2.1 HH.out (by have := HM.out; have := HN.out.1; omega) (by have := HM.out; have := HN.out.1; omega) (by have := HM.out; omega) (by have := HM.out; have := HN.out; omega)
    rw [HL.out.2.2] at k2
    have H3 := hidq (And.intro hn1 (And.intro hP3 (And.intro hE3 hR3)))
    clear hn1 hP3 hE3 hR3
    go_wp2_with fail
    refine k2.mono ?_
    rintro e w4 ⟨ga2, gc2, ra2, rc2, n2, rfl, hn2, hP4, hE4, hR4, _⟩
    clear k2
    obtain rfl : n1 = h := by rw [← H3.out.1]; exact HN.out.2.2.2.2.2.1
    obtain rfl : n2 = n1 := by rw [← hn2]; exact HN.out.2.2.2.2.2.2.1
    have k3 := merge_any d w4 pb ga2 gc2 wd _ oa on oc _ ra1 ra2 rc1 rc2 n2 A.2 B.2 hP4 (H3.out.2.2.2.but hE4.1 hE4.2) hR4 H3.out.1 hn2 HH.out (by have := HM.out; have := HN.out.1; omega) (by have := HM.out; have := HN.out; omega)
    have HE4 := hidq (H3.out.2.2.1.trans hE4)
    clear hn2 hP4 hE4 hR4
    go_wp2_with fail
    refine k3.mono ?_
    rintro e w5 ⟨ga3, gc3, ra3, rc3, n3, rfl, hn3, hP5, hE5, hR5, hQ5⟩
    clear k3
    have HF := hidq (show JoinEnd (some ⟨lb, lo, none⟩) w pb ga wd m oa on oc G (A.1 ++ B.1 ++ (Wr.merge d A.2 B.2).1) (Wr.merge d A.2 B.2).2 (.returned (.slice ra3 n3 rc3)) w5 from
      ⟨ga3, gc3, ra3, rc3, n3, rfl, hn3, by
        have e1 : m + (A.1 ++ B.1 ++ (Wr.merge d A.2 B.2).1).length = m + A.1.length + B.1.length + (Wr.merge d A.2 B.2).1.length := by rw [List.length_append, List.length_append]; omega
        have e2 : G ++ (A.1 ++ B.1 ++ (Wr.merge d A.2 B.2).1) = G ++ A.1 ++ B.1 ++ (Wr.merge d A.2 B.2).1 := by simp
        rw [e1, e2]; exact hP5, HE4.out.trans hE5, hR5, fun j hj => (hQ5 j hj).elim (fun ⟨_, h, _⟩ => by cases h) (fun h => .inr (Nat.le_trans HE4.out.1.size h))⟩)
    clear hn3 hP5 hE5 hR5 hQ5
    go_wp2_with fail
    go_ret
    exact HF
end Go.Proofs.Ytdghgmaoamjnlaa
