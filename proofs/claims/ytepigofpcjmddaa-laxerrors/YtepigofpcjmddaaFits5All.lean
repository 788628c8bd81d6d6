/-
  Slices of integers that came in.
  Counting networks as lists of pairs: the plain mathematics. Two lists of wires merged, a list counted, what passes, and that what goes out is even.
  Layer 10: numbers in slices; every second one of a list: contract.
  A region that draws its order, by a property of each operation's value: whatever order is drawn, each operation runs where those that it waits for have left values with their properties; at the end all properties hold.
  A region that draws its order, by a property of each operation's value AND A GHOST that the operations carry on: for values that an operation of the region makes and another of the region turns (a fresh slice that is appended to).
  The slots behind a region that draws its order, written out: those that it wrote by what was said of them, the others as they were.
-/
import Derived.Test.YtepigofpcjmddaaFrame6All
import Derived.OpenShut
import Derived.Laws.Bits128
import Derived.Orders
import Derived.WalkKit
import Derived.Deep.QuietTactic
namespace Go.Proofs.Ytepigofpcjmddaa
open Go.RowKit Go.Sort

/-- A slice's elements, as they lie. -/
def IntsIn (w : World) (a : Option Addr) (n : Nat) (Z : Nat → Int) : Prop := ∀ i, i < n → ∃ b off, a = some ⟨b, off, none⟩ ∧ b < w.heap.size ∧ w.cell? ⟨b, off + i, none⟩ = some (.int .i64 (Z i))
theorem IntsIn.below {w w' : World} {a : Option Addr} {n : Nat} {Z : Nat → Int} (h : IntsIn w a n Z) (hb : Below w.heap.size w w') : IntsIn w' a n Z := fun i hi => by
  obtain ⟨b, off, h1, h2, h3⟩ := h i hi
  exact ⟨b, off, h1, Nat.lt_of_lt_of_le h2 hb.size, by rw [hb.cell (p := ⟨b, off + i, none⟩) h2]; exact h3⟩
theorem intsIn_of {w : World} {x : Addr} {n : Nat} {zs : List Int} (hl : n ≤ zs.length) (h : ∀ i, i < zs.length → w.cell? (x.add i) = some (.int .i64 (zs.getD i 0))) : IntsIn w (some x) n (fun i => zs.getD i 0) := fun i hi => by
  obtain ⟨b, off, rfl, hc⟩ := ints_at h (by omega)
  have h0 := hc i (by omega)
  refine ⟨b, off, rfl, ?_, h0⟩
  rcases Nat.lt_or_ge b w.heap.size with h' | h'
  · exact h'
  · rw [World.cell?, Array.getElem?_eq_none h'] at h0
    cases h0
theorem i64_and32 (n : Int) : bits .and .i64 n 4294967295 = n % 4294967296 := by
  have h63 : (BitVec.ofInt 64 4294967295).toNat = 2 ^ 32 - 1 := by decide
  have key : (BitVec.ofInt 64 n &&& BitVec.ofInt 64 4294967295).toNat = (n % ((2 ^ 64 : Nat) : Int)).toNat % 2 ^ 32 := by
    rw [BitVec.toNat_and, BitVec.toNat_ofInt, h63, Nat.and_two_pow_sub_one_eq_mod]
  show IntKind.i64.wrap ((BitVec.ofInt 64 n &&& BitVec.ofInt 64 4294967295).toNat : Nat) = n % 4294967296
  rw [key, IntKind.wrap_i64]
  omega
end Go.Proofs.Ytepigofpcjmddaa

namespace Go.Proofs.Ytepigofpcjmddaa
namespace Wr

/-- Every second one from the first on. -/
def ev : List Nat → List Nat
  | [] => []
  | [a] => [a]
  | a :: _ :: l => a :: ev l
def od (l : List Nat) : List Nat := ev l.tail
/-- Pair by pair. -/
def inter : List Nat → List Nat → List Nat
  | a :: x, b :: y => a :: b :: inter x y
  | _, _ => []
def merge : Nat → List Nat → List Nat → List (Nat × Nat) × List Nat
  | 0, x, y => (x.zip y, inter x y)
  | d + 1, x, y =>
    ((merge d (ev x) (od y)).1 ++ (merge d (od x) (ev y)).1 ++ (merge d (ev x) (od y)).2.zip (merge d (od x) (ev y)).2,
     inter (merge d (ev x) (od y)).2 (merge d (od x) (ev y)).2)
def count : Nat → List Nat → List (Nat × Nat) × List Nat
  | 0, l => ([], l)
  | d + 1, l =>
    ((count d (l.take (2 ^ d))).1 ++ (count d (l.drop (2 ^ d))).1 ++ (merge d (count d (l.take (2 ^ d))).2 (count d (l.drop (2 ^ d))).2).1,
     (merge d (count d (l.take (2 ^ d))).2 (count d (l.drop (2 ^ d))).2).2)

theorem ev_length : ∀ (n : Nat) (l : List Nat), l.length = 2 * n → (ev l).length = n
  | 0, l, h => by cases l with | nil => rfl | cons a l => simp at h
  | n + 1, l, h => by
    match l, h with
    | a :: b :: l, h => simp only [ev, List.length_cons] at h ⊢; rw [ev_length n l (by omega)]
theorem od_length (n : Nat) (l : List Nat) (h : l.length = 2 * n) : (od l).length = n := by
  match n, l, h with
  | 0, [], h => rfl
  | n + 1, a :: b :: l, h =>
    simp only [od, List.tail_cons]
    match l, h with
    | [], h => have h0 : n = 0 := by simp at h; omega
               subst h0; rfl
    | c :: l, h =>
      show (b :: ev l).length = n + 1
      simp only [List.length_cons] at h ⊢
      have h2 : l.length = 2 * (n - 1) + 1 := by omega
      suffices hh : ∀ (k : Nat) (m : List Nat), m.length = 2 * k + 1 → (ev m).length = k + 1 by rw [hh _ l h2]; omega
      intro k
      induction k with
      | zero => intro m hm; match m, hm with | [x], _ => rfl
      | succ k ih => intro m hm; match m, hm with | x :: y :: m, hm => simp only [ev, List.length_cons] at hm ⊢; rw [ih m (by omega)]
theorem inter_length : ∀ (n : Nat) (x y : List Nat), x.length = n → y.length = n → (inter x y).length = 2 * n
  | 0, x, y, hx, hy => by cases x with | nil => cases y <;> rfl | cons a l => simp at hx
  | n + 1, a :: x, b :: y, hx, hy => by
    simp only [inter, List.length_cons] at *
    rw [inter_length n x y (by omega) (by omega)]
    omega
theorem ev_get : ∀ (l : List Nat) (i : Nat), (ev l)[i]? = l[2 * i]?
  | [], i => by simp [ev]
  | [a], 0 => rfl
  | [a], i + 1 => by simp [ev]
  | a :: b :: l, 0 => rfl
  | a :: b :: l, i + 1 => by
    show (ev l)[i]? = (a :: b :: l)[2 * i + 2]?
    rw [ev_get l i]; rfl
theorem od_get (l : List Nat) (i : Nat) : (od l)[i]? = l[2 * i + 1]? := by
  rw [od, ev_get]; cases l <;> simp
theorem inter_get0 : ∀ (x y : List Nat) (i : Nat), x.length = y.length → (inter x y)[2 * i]? = x[i]?
  | [], y, i, h => by cases y <;> simp [inter]
  | a :: x, [], i, h => by simp at h
  | a :: x, b :: y, 0, h => rfl
  | a :: x, b :: y, i + 1, h => by
    show (inter x y)[2 * i]? = x[i]?
    exact inter_get0 x y i (by simpa using h)
theorem inter_get1 : ∀ (x y : List Nat) (i : Nat), x.length = y.length → (inter x y)[2 * i + 1]? = y[i]?
  | [], y, i, h => by cases y with | nil => simp [inter] | cons b y => simp at h
  | a :: x, [], i, h => by simp at h
  | a :: x, b :: y, 0, h => rfl
  | a :: x, b :: y, i + 1, h => by
    show (inter x y)[2 * i + 1]? = y[i]?
    exact inter_get1 x y i (by simpa using h)
theorem pow_succ2 (d : Nat) : 2 ^ (d + 1) = 2 * 2 ^ d := by rw [Nat.pow_succ, Nat.mul_comm]
theorem merge_length : ∀ (d : Nat) (x y : List Nat), x.length = 2 ^ d → y.length = 2 ^ d → (merge d x y).2.length = 2 * 2 ^ d
  | 0, x, y, hx, hy => inter_length 1 x y hx hy
  | d + 1, x, y, hx, hy => by
    rw [pow_succ2] at hx hy
    rw [pow_succ2]
    exact inter_length _ _ _ (merge_length d _ _ (ev_length _ _ hx) (od_length _ _ hy)) (merge_length d _ _ (od_length _ _ hx) (ev_length _ _ hy))
theorem count_length : ∀ (d : Nat) (l : List Nat), l.length = 2 ^ d → (count d l).2.length = 2 ^ d
  | 0, l, h => h
  | d + 1, l, h => by
    rw [pow_succ2] at h ⊢
    exact merge_length d _ _ (count_length d _ (by rw [List.length_take]; omega)) (count_length d _ (by rw [List.length_drop]; omega))
theorem mem_ev : ∀ (l : List Nat) (a : Nat), a ∈ ev l → a ∈ l
  | [], a, h => h
  | [b], a, h => h
  | b :: c :: l, a, h => by
    rcases List.mem_cons.1 (show a ∈ b :: ev l from h) with rfl | h
    · exact List.mem_cons_self
    · exact List.mem_cons_of_mem _ (List.mem_cons_of_mem _ (mem_ev l a h))
theorem mem_od (l : List Nat) (a : Nat) (h : a ∈ od l) : a ∈ l := List.mem_of_mem_tail (mem_ev _ a h)
theorem ev_od_perm : ∀ (l : List Nat), (ev l ++ od l).Perm l
  | [] => .refl _
  | [a] => .refl _
  | a :: b :: l => by
    have ih := ev_od_perm l
    have hod : od (a :: b :: l) = b :: od l := by
      cases l with
      | nil => rfl
      | cons c l => rfl
    rw [hod]
    show (a :: ev l ++ b :: od l).Perm (a :: b :: l)
    exact (List.Perm.cons a (List.perm_middle)).trans (.cons a (.cons b ih))
theorem inter_perm : ∀ (x y : List Nat), x.length = y.length → (inter x y).Perm (x ++ y)
  | [], [], _ => .refl _
  | [], b :: y, h => by simp at h
  | a :: x, [], h => by simp at h
  | a :: x, b :: y, h => by
    have ih := inter_perm x y (by simpa using h)
    show (a :: b :: inter x y).Perm (a :: x ++ b :: y)
    exact (List.Perm.cons a ((List.Perm.cons b ih).trans (List.perm_middle.symm)))
theorem swap_mid (a b c d : List Nat) : ((a ++ b) ++ (c ++ d)).Perm ((a ++ c) ++ (b ++ d)) := by
  rw [List.append_assoc, List.append_assoc]
  refine List.Perm.append_left a ?_
  rw [← List.append_assoc, ← List.append_assoc]
  exact List.Perm.append_right d List.perm_append_comm
theorem parts_perm (x y : List Nat) : ((ev x ++ od y) ++ (od x ++ ev y)).Perm (x ++ y) :=
  (swap_mid _ _ _ _).trans (List.Perm.append (ev_od_perm x) (List.perm_append_comm.trans (ev_od_perm y)))
theorem merge_perm : ∀ (d : Nat) (x y : List Nat), x.length = 2 ^ d → y.length = 2 ^ d → (merge d x y).2.Perm (x ++ y)
  | 0, x, y, hx, hy => inter_perm x y (by rw [hx, hy])
  | d + 1, x, y, hx, hy => by
    rw [pow_succ2] at hx hy
    have h1 := merge_perm d (ev x) (od y) (ev_length _ _ hx) (od_length _ _ hy)
    have h2 := merge_perm d (od x) (ev y) (od_length _ _ hx) (ev_length _ _ hy)
    have hl := (merge_length d (ev x) (od y) (ev_length _ _ hx) (od_length _ _ hy)).trans (merge_length d (od x) (ev y) (od_length _ _ hx) (ev_length _ _ hy)).symm
    exact (inter_perm _ _ hl).trans ((List.Perm.append h1 h2).trans (parts_perm x y))
theorem count_perm : ∀ (d : Nat) (l : List Nat), l.length = 2 ^ d → (count d l).2.Perm l
  | 0, l, h => .refl _
  | d + 1, l, h => by
    rw [pow_succ2] at h
    have l1 : (l.take (2 ^ d)).length = 2 ^ d := by rw [List.length_take]; omega
    have l2 : (l.drop (2 ^ d)).length = 2 ^ d := by rw [List.length_drop]; omega
    have h1 := count_perm d _ l1
    have h2 := count_perm d _ l2
    refine (merge_perm d _ _ (count_length d _ l1) (count_length d _ l2)).trans ((List.Perm.append h1 h2).trans ?_)
    rw [List.take_append_drop]

/-- What passes: how many came by each gate, and how many are upon each wire then. -/
def upd (s : Nat → Nat) (g : Nat × Nat) : Nat → Nat := fun w => if w = g.2 then (s g.1 + s g.2) / 2 else if w = g.1 then (s g.1 + s g.2) - (s g.1 + s g.2) / 2 else s w
def run : List (Nat × Nat) → (Nat → Nat) → (Nat → Nat)
  | [], s => s
  | g :: gs, s => run gs (upd s g)
def cnts : List (Nat × Nat) → (Nat → Nat) → List Nat
  | [], _ => []
  | g :: gs, s => (s g.1 + s g.2) :: cnts gs (upd s g)
theorem run_append : ∀ (a b : List (Nat × Nat)) (s : Nat → Nat), run (a ++ b) s = run b (run a s)
  | [], _, _ => rfl
  | g :: a, b, s => run_append a b (upd s g)
theorem cnts_length : ∀ (gs : List (Nat × Nat)) (s : Nat → Nat), (cnts gs s).length = gs.length
  | [], _ => rfl
  | g :: gs, s => by simp [cnts, cnts_length gs]
/-- The gates join no other wires. -/
def Only (gs : List (Nat × Nat)) (l : List Nat) : Prop := ∀ g ∈ gs, g.1 ∈ l ∧ g.2 ∈ l
theorem run_out : ∀ (gs : List (Nat × Nat)) (l : List Nat) (s : Nat → Nat) (w : Nat), Only gs l → w ∉ l → run gs s w = s w
  | [], _, _, _, _, _ => rfl
  | g :: gs, l, s, w, h, hw => by
    have hg := h g List.mem_cons_self
    rw [run, run_out gs l _ w (fun g hg => h g (List.mem_cons_of_mem _ hg)) hw]
    unfold upd
    rw [if_neg (fun e : w = g.2 => hw (e ▸ hg.2)), if_neg (fun e : w = g.1 => hw (e ▸ hg.1))]
theorem only_zip (x y l : List Nat) (hx : ∀ a ∈ x, a ∈ l) (hy : ∀ a ∈ y, a ∈ l) : Only (x.zip y) l := fun g hg => by
  obtain ⟨h1, h2⟩ := List.of_mem_zip (a := g.1) (b := g.2) hg
  exact ⟨hx _ h1, hy _ h2⟩
theorem merge_only : ∀ (d : Nat) (x y : List Nat), x.length = 2 ^ d → y.length = 2 ^ d → Only (merge d x y).1 (x ++ y)
  | 0, x, y, _, _ => only_zip x y _ (fun a h => List.mem_append_left _ h) (fun a h => List.mem_append_right _ h)
  | d + 1, x, y, hx, hy => by
    rw [pow_succ2] at hx hy
    have h1 := merge_only d (ev x) (od y) (ev_length _ _ hx) (od_length _ _ hy)
    have h2 := merge_only d (od x) (ev y) (od_length _ _ hx) (ev_length _ _ hy)
    have p1 := merge_perm d (ev x) (od y) (ev_length _ _ hx) (od_length _ _ hy)
    have p2 := merge_perm d (od x) (ev y) (od_length _ _ hx) (ev_length _ _ hy)
    have s1 : ∀ a, a ∈ ev x ++ od y → a ∈ x ++ y := fun a h => by
      rcases List.mem_append.1 h with h | h
      · exact List.mem_append_left _ (mem_ev _ _ h)
      · exact List.mem_append_right _ (mem_od _ _ h)
    have s2 : ∀ a, a ∈ od x ++ ev y → a ∈ x ++ y := fun a h => by
      rcases List.mem_append.1 h with h | h
      · exact List.mem_append_left _ (mem_od _ _ h)
      · exact List.mem_append_right _ (mem_ev _ _ h)
    intro g hg
    rcases List.mem_append.1 hg with hg | hg
    · rcases List.mem_append.1 hg with hg | hg
      · exact ⟨s1 _ (h1 g hg).1, s1 _ (h1 g hg).2⟩
      · exact ⟨s2 _ (h2 g hg).1, s2 _ (h2 g hg).2⟩
    · exact only_zip _ _ _ (fun a h => s1 a (p1.mem_iff.1 h)) (fun a h => s2 a (p2.mem_iff.1 h)) g hg
theorem count_only : ∀ (d : Nat) (l : List Nat), l.length = 2 ^ d → Only (count d l).1 l
  | 0, l, _ => fun g hg => by cases hg
  | d + 1, l, h => by
    rw [pow_succ2] at h
    have l1 : (l.take (2 ^ d)).length = 2 ^ d := by rw [List.length_take]; omega
    have l2 : (l.drop (2 ^ d)).length = 2 ^ d := by rw [List.length_drop]; omega
    have h1 := count_only d _ l1
    have h2 := count_only d _ l2
    have h3 := merge_only d _ _ (count_length d _ l1) (count_length d _ l2)
    intro g hg
    rcases List.mem_append.1 hg with hg | hg
    · rcases List.mem_append.1 hg with hg | hg
      · exact ⟨List.mem_of_mem_take (h1 g hg).1, List.mem_of_mem_take (h1 g hg).2⟩
      · exact ⟨List.mem_of_mem_drop (h2 g hg).1, List.mem_of_mem_drop (h2 g hg).2⟩
    · have hh : ∀ a, a ∈ (count d (l.take (2 ^ d))).2 ++ (count d (l.drop (2 ^ d))).2 → a ∈ l := fun a ha => by
        rcases List.mem_append.1 ha with ha | ha
        · exact List.mem_of_mem_take ((count_perm d _ l1).mem_iff.1 ha)
        · exact List.mem_of_mem_drop ((count_perm d _ l2).mem_iff.1 ha)
      exact ⟨hh _ (h3 g hg).1, hh _ (h3 g hg).2⟩

/-- Even: place i of k, of S in all. -/
def E (k S i : Nat) : Nat := (S + (k - 1 - i)) / k
/-- Upon the wires of a list there are S in all, evenly. -/
def Ev (s : Nat → Nat) (k : Nat) (l : List Nat) (S : Nat) : Prop := l.length = k ∧ ∀ i a, l[i]? = some a → s a = E k S i
theorem E_even (m S i : Nat) (hi : i < m) : E (2 * m) S (2 * i) = E m ((S + 1) / 2) i := by
  unfold E
  rw [← Nat.div_div_eq_div_mul]
  congr 1
  omega
theorem E_odd (m S i : Nat) (hi : i < m) : E (2 * m) S (2 * i + 1) = E m (S / 2) i := by
  unfold E
  rw [← Nat.div_div_eq_div_mul]
  congr 1
  omega
theorem E_succ (k S i : Nat) (hk : 0 < k) : E k S i ≤ E k (S + 1) i ∧ E k (S + 1) i ≤ E k S i + 1 := by
  unfold E
  refine ⟨Nat.div_le_div_right (by omega), ?_⟩
  have : (S + 1 + (k - 1 - i)) / k ≤ ((S + (k - 1 - i)) + k) / k := Nat.div_le_div_right (by omega)
  rw [Nat.add_div_right _ hk] at this
  omega
theorem get_lt {l : List Nat} {i a : Nat} (h : l[i]? = some a) : i < l.length := (List.getElem?_eq_some_iff.1 h).1
theorem Ev.even {s : Nat → Nat} {m : Nat} {l : List Nat} {S : Nat} (h : Ev s (2 * m) l S) : Ev s m (ev l) ((S + 1) / 2) :=
  ⟨ev_length _ _ h.1, fun i a ha => by
    have hi := get_lt ha
    rw [ev_length _ _ h.1] at hi
    rw [ev_get] at ha
    rw [h.2 _ _ ha, E_even _ _ _ hi]⟩
theorem Ev.odd {s : Nat → Nat} {m : Nat} {l : List Nat} {S : Nat} (h : Ev s (2 * m) l S) : Ev s m (od l) (S / 2) :=
  ⟨od_length _ _ h.1, fun i a ha => by
    have hi := get_lt ha
    rw [od_length _ _ h.1] at hi
    rw [od_get] at ha
    rw [h.2 _ _ ha, E_odd _ _ _ hi]⟩
theorem Ev.same {s t : Nat → Nat} {k : Nat} {l : List Nat} {S : Nat} (h : Ev s k l S) (he : ∀ a ∈ l, t a = s a) : Ev t k l S :=
  ⟨h.1, fun i a ha => by rw [he a (List.mem_of_getElem? ha), h.2 i a ha]⟩

/-- A row of gates, place by place. -/
theorem run_zip : ∀ (x y : List Nat) (s : Nat → Nat), x.length = y.length → (x ++ y).Nodup → ∀ (i a b : Nat), x[i]? = some a → y[i]? = some b →
    run (x.zip y) s a = (s a + s b) - (s a + s b) / 2 ∧ run (x.zip y) s b = (s a + s b) / 2
  | [], _, _, _, _, _, _, _, h, _ => by simp at h
  | c :: x, [], _, h, _, _, _, _, _, _ => by simp at h
  | c :: x, e :: y, s, hl, hn, i, a, b, ha, hb => by
    have hn' := hn
    rw [List.cons_append, List.nodup_cons] at hn'
    obtain ⟨hc, hn2⟩ := hn'
    have hp : (x ++ e :: y).Perm (e :: (x ++ y)) := List.perm_middle
    have hn3 := hp.nodup_iff.1 hn2
    rw [List.nodup_cons] at hn3
    have hce : c ≠ e := fun h => hc (by rw [h]; exact hp.mem_iff.2 List.mem_cons_self)
    have hcm : c ∉ x ++ y := fun h => hc (hp.mem_iff.2 (List.mem_cons_of_mem _ h))
    have ho : Only (x.zip y) (x ++ y) := only_zip x y _ (fun a h => List.mem_append_left _ h) (fun a h => List.mem_append_right _ h)
    show run (x.zip y) (upd s (c, e)) a = _ ∧ run (x.zip y) (upd s (c, e)) b = _
    cases i with
    | zero =>
      simp at ha hb
      subst ha hb
      rw [run_out _ _ _ _ ho hcm, run_out _ _ _ _ ho hn3.1]
      refine ⟨?_, ?_⟩
      · show (if c = e then _ else if c = c then _ else _) = _
        rw [if_neg hce, if_pos rfl]
      · show (if e = e then _ else _) = _
        rw [if_pos rfl]
    | succ i =>
      simp only [List.getElem?_cons_succ] at ha hb
      have := run_zip x y (upd s (c, e)) (by simpa using hl) hn3.2 i a b ha hb
      have ma : a ∈ x ++ y := List.mem_append_left _ (List.mem_of_getElem? ha)
      have mb : b ∈ x ++ y := List.mem_append_right _ (List.mem_of_getElem? hb)
      have ea : upd s (c, e) a = s a := by
        show (if a = e then _ else if a = c then _ else _) = _
        rw [if_neg (fun h : a = e => hn3.1 (h ▸ ma)), if_neg (fun h : a = c => hcm (h ▸ ma))]
      have eb : upd s (c, e) b = s b := by
        show (if b = e then _ else if b = c then _ else _) = _
        rw [if_neg (fun h : b = e => hn3.1 (h ▸ mb)), if_neg (fun h : b = c => hcm (h ▸ mb))]
      rw [ea, eb] at this
      exact this
/-- The last row: two even lists that are off by at most one. -/
theorem zip_even {s : Nat → Nat} {k A B : Nat} {x y : List Nat} (hk : 0 < k) (hn : (x ++ y).Nodup) (hx : Ev s k x A) (hy : Ev s k y B) (hAB : A = B ∨ A = B + 1 ∨ B = A + 1) :
    Ev (run (x.zip y) s) (2 * k) (inter x y) (A + B) := by
  have hl : x.length = y.length := by rw [hx.1, hy.1]
  refine ⟨inter_length k x y hx.1 hy.1, fun i w hw => ?_⟩
  have hi := get_lt hw
  rw [inter_length k x y hx.1 hy.1] at hi
  obtain ⟨j, hj⟩ : ∃ j, i = 2 * j ∨ i = 2 * j + 1 := ⟨i / 2, by omega⟩
  have hjk : j < k := by omega
  obtain ⟨a, ha⟩ : ∃ a, x[j]? = some a := ⟨_, List.getElem?_eq_getElem (by rw [hx.1]; exact hjk)⟩
  obtain ⟨b, hb⟩ : ∃ b, y[j]? = some b := ⟨_, List.getElem?_eq_getElem (by rw [hy.1]; exact hjk)⟩
  have hz := run_zip x y s hl hn j a b ha hb
  have ea := hx.2 j a ha
  have eb := hy.2 j b hb
  have e1 := E_succ k A j hk
  have e2 := E_succ k B j hk
  rcases hj with rfl | rfl
  · rw [inter_get0 x y j hl, ha] at hw
    cases hw
    rw [hz.1, ea, eb, E_even k _ _ hjk]
    rcases hAB with h | h | h
    · subst h; rw [show (A + A + 1) / 2 = A by omega]; omega
    · subst h; rw [show (B + 1 + B + 1) / 2 = B + 1 by omega]; omega
    · subst h; rw [show (A + (A + 1) + 1) / 2 = A + 1 by omega]; omega
  · rw [inter_get1 x y j hl, hb] at hw
    cases hw
    rw [hz.2, ea, eb, E_odd k _ _ hjk]
    rcases hAB with h | h | h
    · subst h; rw [show (A + A) / 2 = A by omega]; omega
    · subst h; rw [show (B + 1 + B) / 2 = B by omega]; omega
    · subst h; rw [show (A + (A + 1)) / 2 = A by omega]; omega
theorem merge_even : ∀ (d : Nat) (x y : List Nat) (s : Nat → Nat) (X Y : Nat), (x ++ y).Nodup → Ev s (2 ^ d) x X → Ev s (2 ^ d) y Y →
    Ev (run (merge d x y).1 s) (2 * 2 ^ d) (merge d x y).2 (X + Y)
  | 0, x, y, s, X, Y, hn, hx, hy => by
    have hl : x.length = y.length := by rw [hx.1, hy.1]
    obtain ⟨a, rfl⟩ := List.length_eq_one_iff.1 hx.1
    obtain ⟨b, rfl⟩ := List.length_eq_one_iff.1 hy.1
    have ha : s a = X := by have := hx.2 0 a rfl; simpa [E] using this
    have hb : s b = Y := by have := hy.2 0 b rfl; simpa [E] using this
    have hz := run_zip [a] [b] s rfl hn 0 a b rfl rfl
    refine ⟨rfl, fun i w hw => ?_⟩
    show run ([a].zip [b]) s w = _
    match i, hw with
    | 0, hw =>
      have : a = w := by simpa [merge, inter] using hw
      subst this
      rw [hz.1, ha, hb]
      show _ = (X + Y + 1) / 2
      omega
    | 1, hw =>
      have : b = w := by simpa [merge, inter] using hw
      subst this
      rw [hz.2, ha, hb]
      show _ = (X + Y + 0) / 2
      omega
    | i + 2, hw => simp [merge, inter] at hw
  | d + 1, x, y, s, X, Y, hn, hx, hy => by
    rw [pow_succ2] at hx hy
    have hp := parts_perm x y
    have hn2 := hp.nodup_iff.2 hn
    have n1 := (List.nodup_append.1 hn2).1
    have n2 := (List.nodup_append.1 hn2).2.1
    have hd : ∀ a, a ∈ ev x ++ od y → a ∉ od x ++ ev y := fun a h1 h2 => (List.nodup_append.1 hn2).2.2 a h1 a h2 rfl
    have h1 := merge_even d (ev x) (od y) s _ _ n1 hx.even hy.odd
    have o1 := merge_only d (ev x) (od y) hx.even.1 hy.odd.1
    have o2 := merge_only d (od x) (ev y) hx.odd.1 hy.even.1
    have p1 := merge_perm d (ev x) (od y) hx.even.1 hy.odd.1
    have p2 := merge_perm d (od x) (ev y) hx.odd.1 hy.even.1
    have hx2 : Ev (run (merge d (ev x) (od y)).1 s) (2 ^ d) (od x) (X / 2) := hx.odd.same (fun a ha => run_out _ _ _ _ o1 (fun h => hd a h (List.mem_append_left _ ha)))
    have hy2 : Ev (run (merge d (ev x) (od y)).1 s) (2 ^ d) (ev y) ((Y + 1) / 2) := hy.even.same (fun a ha => run_out _ _ _ _ o1 (fun h => hd a h (List.mem_append_right _ ha)))
    have h2 := merge_even d (od x) (ev y) _ _ _ n2 hx2 hy2
    have h1' : Ev (run (merge d (od x) (ev y)).1 (run (merge d (ev x) (od y)).1 s)) (2 * 2 ^ d) (merge d (ev x) (od y)).2 ((X + 1) / 2 + Y / 2) :=
      h1.same (fun a ha => run_out _ _ _ _ o2 (hd a (p1.mem_iff.1 ha)))
    have hnn : ((merge d (ev x) (od y)).2 ++ (merge d (od x) (ev y)).2).Nodup := (List.Perm.append p1 p2).nodup_iff.2 hn2
    have hpos : 0 < 2 * 2 ^ d := by have := Nat.two_pow_pos d; omega
    have h3 := zip_even hpos hnn h1' h2 (by omega)
    rw [pow_succ2]
    show Ev (run (_ ++ _ ++ _) s) _ _ _
    rw [run_append, run_append]
    rw [show X + Y = (X + 1) / 2 + Y / 2 + (X / 2 + (Y + 1) / 2) by omega]
    exact h3
def sum (s : Nat → Nat) : List Nat → Nat
  | [] => 0
  | a :: l => s a + sum s l
theorem sum_append (s : Nat → Nat) : ∀ (a b : List Nat), sum s (a ++ b) = sum s a + sum s b
  | [], b => by simp [sum]
  | x :: a, b => by simp [sum, sum_append s a b]; omega
theorem sum_congr {s t : Nat → Nat} : ∀ (l : List Nat), (∀ a ∈ l, t a = s a) → sum t l = sum s l
  | [], _ => rfl
  | a :: l, h => by simp only [sum]; rw [h a List.mem_cons_self, sum_congr l (fun b hb => h b (List.mem_cons_of_mem _ hb))]
/-- STEP. -/
theorem count_even : ∀ (d : Nat) (l : List Nat) (s : Nat → Nat), l.Nodup → l.length = 2 ^ d → Ev (run (count d l).1 s) (2 ^ d) (count d l).2 (sum s l)
  | 0, l, s, hn, h => by
    obtain ⟨a, rfl⟩ := List.length_eq_one_iff.1 h
    refine ⟨rfl, fun i w hw => ?_⟩
    match i, hw with
    | 0, hw => have : a = w := by simpa [count] using hw
               subst this; simp [count, run, E, sum]
    | i + 1, hw => simp [count] at hw
  | d + 1, l, s, hn, h => by
    rw [pow_succ2] at h
    have l1 : (l.take (2 ^ d)).length = 2 ^ d := by rw [List.length_take]; omega
    have l2 : (l.drop (2 ^ d)).length = 2 ^ d := by rw [List.length_drop]; omega
    have hs : l.take (2 ^ d) ++ l.drop (2 ^ d) = l := List.take_append_drop _ _
    have hn2 : (l.take (2 ^ d) ++ l.drop (2 ^ d)).Nodup := by rw [hs]; exact hn
    obtain ⟨n1, n2, n3⟩ := List.nodup_append.1 hn2
    have hd : ∀ a, a ∈ l.take (2 ^ d) → a ∉ l.drop (2 ^ d) := fun a h1 h2 => n3 a h1 a h2 rfl
    have h1 := count_even d _ s n1 l1
    have h2 := count_even d _ (run (count d (l.take (2 ^ d))).1 s) n2 l2
    have o1 := count_only d _ l1
    have o2 := count_only d _ l2
    have p1 := count_perm d _ l1
    have p2 := count_perm d _ l2
    rw [sum_congr (s := s) _ (fun a ha => run_out _ _ _ _ o1 (fun h => hd a h ha))] at h2
    have h1' := h1.same (t := run (count d (l.drop (2 ^ d))).1 (run (count d (l.take (2 ^ d))).1 s)) (fun a ha => run_out _ _ _ _ o2 (hd a (p1.mem_iff.1 ha)))
    have h3 := merge_even d _ _ _ _ _ ((List.Perm.append p1 p2).nodup_iff.2 hn2) h1' h2
    rw [pow_succ2]
    show Ev (run (_ ++ _ ++ _) s) _ _ _
    rw [run_append, run_append]
    rw [← hs, sum_append]
    rw [hs]
    exact h3

/-- One more upon a wire. -/
def inc (s : Nat → Nat) (w : Nat) : Nat → Nat := fun v => if v = w then s v + 1 else s v
/-- A token on its way: by how many passed each gate. -/
def tok : List (Nat × Nat) → List Nat → Nat → List Nat × Nat
  | g :: gs, c :: cs, w => if g.1 = w ∨ g.2 = w then ((c + 1) :: (tok gs cs (if c % 2 = 0 then g.1 else g.2)).1, (tok gs cs (if c % 2 = 0 then g.1 else g.2)).2) else (c :: (tok gs cs w).1, (tok gs cs w).2)
  | _, cs, w => (cs, w)
theorem upd_b (s : Nat → Nat) (g : Nat × Nat) : upd s g g.2 = (s g.1 + s g.2) / 2 := by unfold upd; rw [if_pos rfl]
theorem upd_a (s : Nat → Nat) (g : Nat × Nat) (h : g.1 ≠ g.2) : upd s g g.1 = (s g.1 + s g.2) - (s g.1 + s g.2) / 2 := by unfold upd; rw [if_neg h, if_pos rfl]
theorem upd_o (s : Nat → Nat) (g : Nat × Nat) (v : Nat) (h1 : v ≠ g.1) (h2 : v ≠ g.2) : upd s g v = s v := by unfold upd; rw [if_neg h2, if_neg h1]
theorem inc_at (s : Nat → Nat) (w : Nat) : inc s w w = s w + 1 := if_pos rfl
theorem inc_o (s : Nat → Nat) (w v : Nat) (h : v ≠ w) : inc s w v = s v := if_neg h
theorem tok_run : ∀ (gs : List (Nat × Nat)) (s : Nat → Nat) (w : Nat), (∀ g ∈ gs, g.1 ≠ g.2) →
    (tok gs (cnts gs s) w).1 = cnts gs (inc s w) ∧ run gs (inc s w) = inc (run gs s) (tok gs (cnts gs s) w).2
  | [], s, w, _ => ⟨rfl, rfl⟩
  | g :: gs, s, w, h => by
    have hg := h g List.mem_cons_self
    have ih := fun s w => tok_run gs s w (fun g hg => h g (List.mem_cons_of_mem _ hg))
    by_cases hw : g.1 = w ∨ g.2 = w
    · have hsum : inc s w g.1 + inc s w g.2 = s g.1 + s g.2 + 1 := by
        unfold inc
        rcases hw with hw | hw
        · subst hw; rw [if_pos rfl, if_neg (Ne.symm hg)]; omega
        · subst hw; rw [if_neg hg, if_pos rfl]; omega
      have hupd : upd (inc s w) g = inc (upd s g) (if (s g.1 + s g.2) % 2 = 0 then g.1 else g.2) := by
        funext v
        by_cases h2 : v = g.2
        · subst h2
          rw [upd_b, hsum]
          by_cases h3 : (s g.1 + s g.2) % 2 = 0
          · rw [if_pos h3, inc_o _ _ _ (Ne.symm hg), upd_b]; omega
          · rw [if_neg h3, inc_at, upd_b]; omega
        · by_cases h1 : v = g.1
          · subst h1
            rw [upd_a _ _ hg, hsum]
            by_cases h3 : (s g.1 + s g.2) % 2 = 0
            · rw [if_pos h3, inc_at, upd_a _ _ hg]; omega
            · rw [if_neg h3, inc_o _ _ _ hg, upd_a _ _ hg]; omega
          · have h0 : v ≠ w := fun e => by
              rcases hw with hw | hw
              · exact h1 (e.trans hw.symm)
              · exact h2 (e.trans hw.symm)
            rw [upd_o _ _ _ h1 h2, inc_o _ _ _ h0]
            by_cases h3 : (s g.1 + s g.2) % 2 = 0
            · rw [if_pos h3, inc_o _ _ _ h1, upd_o _ _ _ h1 h2]
            · rw [if_neg h3, inc_o _ _ _ h2, upd_o _ _ _ h1 h2]
      simp only [cnts, tok, run, if_pos hw, hsum, hupd]
      have := ih (upd s g) (if (s g.1 + s g.2) % 2 = 0 then g.1 else g.2)
      exact ⟨by rw [this.1], this.2⟩
    · have h1 : g.1 ≠ w := fun e => hw (.inl e)
      have h2 : g.2 ≠ w := fun e => hw (.inr e)
      have hupd : upd (inc s w) g = inc (upd s g) w := by
        funext v
        have s1 : inc s w g.1 = s g.1 := inc_o _ _ _ h1
        have s2 : inc s w g.2 = s g.2 := inc_o _ _ _ h2
        by_cases e2 : v = g.2
        · subst e2; rw [upd_b, s1, s2, inc_o _ _ _ h2, upd_b]
        · by_cases e1 : v = g.1
          · subst e1; rw [upd_a _ _ e2, s1, s2, inc_o _ _ _ h1, upd_a _ _ e2]
          · rw [upd_o _ _ _ e1 e2]
            by_cases e0 : v = w
            · subst e0; rw [inc_at, inc_at, upd_o _ _ _ e1 e2]
            · rw [inc_o _ _ _ e0, inc_o _ _ _ e0, upd_o _ _ _ e1 e2]
      have hsum : inc s w g.1 + inc s w g.2 = s g.1 + s g.2 := by unfold inc; rw [if_neg h1, if_neg h2]
      simp only [cnts, tok, run, if_neg hw, hsum, hupd]
      have := ih (upd s g) w
      exact ⟨by rw [this.1], this.2⟩
/-- Where two even lists part that are off by one. -/
theorem E_next (k n j : Nat) (hj : j < k) : E k (n + 1) j = if j = n % k then E k n j + 1 else E k n j := by
  have hk : 0 < k := by omega
  have hr : n % k < k := Nat.mod_lt _ hk
  have hn : n = k * (n / k) + n % k := (Nat.div_add_mod n k).symm
  generalize hq : n / k = q at hn
  generalize hm : n % k = r at hn hr ⊢
  unfold E
  subst hn
  have a1 : ∀ t, (k * q + t) / k = q + t / k := fun t => by rw [Nat.mul_add_div hk]
  rw [show k * q + r + 1 + (k - 1 - j) = k * q + (r + 1 + (k - 1 - j)) by omega, show k * q + r + (k - 1 - j) = k * q + (r + (k - 1 - j)) by omega, a1, a1]
  by_cases h : j = r
  · rw [if_pos h]
    subst h
    rw [show j + 1 + (k - 1 - j) = k by omega, show j + (k - 1 - j) = k - 1 by omega, Nat.div_self hk, Nat.div_eq_of_lt (by omega)]
  · rw [if_neg h]
    by_cases h2 : j < r
    · have e1 : (r + 1 + (k - 1 - j)) / k = 1 := by rw [Nat.div_eq_iff (by omega)]; omega
      have e2 : (r + (k - 1 - j)) / k = 1 := by rw [Nat.div_eq_iff (by omega)]; omega
      rw [e1, e2]
    · rw [Nat.div_eq_of_lt (by omega), Nat.div_eq_of_lt (by omega)]
/-- As many at each wire as at most there were at one. -/
theorem run_le : ∀ (gs : List (Nat × Nat)) (s : Nat → Nat) (M : Nat), (∀ v, s v ≤ M) → ∀ v, run gs s v ≤ M
  | [], _, _, h, v => h v
  | g :: gs, s, M, h, v => run_le gs (upd s g) M (fun u => by
      unfold upd
      have := h g.1; have := h g.2; have := h u
      split
      · omega
      · split <;> omega) v
end Wr
end Go.Proofs.Ytepigofpcjmddaa

namespace Go.Proofs.Ytepigofpcjmddaa
open Go.RowKit Go.Sort

/-- Numbers in a row, in a block that is none of some. -/
def NsAt (w : World) (a : Option Addr) (S : Nat → Prop) (l : List Nat) : Prop :=
  ∀ (i v : Nat), l[i]? = some v → ∃ (b off : Nat), a = some ⟨b, off, none⟩ ∧ b < w.heap.size ∧ ¬ S b ∧ w.cell? ⟨b, off + i, none⟩ = some (.int .i64 (v : Int))
theorem NsAt.but {w w' : World} {a : Option Addr} {S T : Nat → Prop} {l : List Nat} (h : NsAt w a S l) (hb : But S w w') (hT : ∀ j, T j → S j ∨ w.heap.size ≤ j) : NsAt w' a T l := fun i v hv => by
  obtain ⟨b, off, h1, h2, h3, h4⟩ := h i v hv
  refine ⟨b, off, h1, Nat.lt_of_lt_of_le h2 hb.size, fun e => ?_, by rw [hb.cell (p := ⟨b, off + i, none⟩) h2 h3]; exact h4⟩
  rcases hT b e with h | h
  · exact h3 h
  · omega
theorem NsAt.below {w w' : World} {a : Option Addr} {S : Nat → Prop} {l : List Nat} (h : NsAt w a S l) (hb : Below w.heap.size w w') : NsAt w' a S l := h.but (But.of_below hb) (fun _ e => .inl e)
theorem NsAt.mono {w : World} {a : Option Addr} {S T : Nat → Prop} {l : List Nat} (h : NsAt w a S l) (hT : ∀ j, j < w.heap.size → T j → S j) : NsAt w a T l := fun i v hv => by
  obtain ⟨b, off, h1, h2, h3, h4⟩ := h i v hv
  exact ⟨b, off, h1, h2, fun e => h3 (hT b h2 e), h4⟩
def vals (l : List Nat) : List Value := l.map (fun (n : Nat) => Value.int .i64 (n : Int))
theorem vals_length (l : List Nat) : (vals l).length = l.length := by simp [vals]
theorem vals_one (l : List Nat) : ∀ u ∈ vals l, u.oneCell' = true := by
  intro u hu
  simp only [vals, List.mem_map] at hu
  obtain ⟨n, _, rfl⟩ := hu
  rfl
theorem nsAt_of {w : World} {a : Option Addr} {cap n : Nat} {S : Nat → Prop} {l : List Nat} (h : SlAt 1 w a cap n (vals l)) (hS : ∀ j, inB a j → ¬ S j) : NsAt w a S l := fun i v hv => by
  obtain ⟨g, h1, h2, h3⟩ := h.cell (t := i) (u := .int .i64 (v : Int)) (by simp [vals, hv])
  exact ⟨g, 0, h1, h2, hS g ⟨_, h1, rfl⟩, by rw [Nat.zero_add]; exact h3⟩
theorem plainN : PlainK Try.prog 1 56 3 := by
  have h : (Try.prog.info? 3).map (fun i => (i.zero, i.size, i.bytes)) = some (some (.int .i64 0), 1, 8) := by kernel_rfl
  obtain ⟨i, hi, he⟩ := Option.map_eq_some_iff.1 h
  simp only [Prod.mk.injEq] at he
  exact ⟨i, _, Try.underlying56, hi, he.1, he.2.1, rfl, by rw [he.2.2]; decide⟩

open Wr in
theorem ev_len : ∀ (n : Nat) (l : List Nat), l.length ≤ n → (ev l).length = (l.length + 1) / 2
  | _, [], _ => rfl
  | _, [a], _ => by simp [ev]
  | 0, a :: b :: l, h => by simp at h
  | n + 1, a :: b :: l, h => by
    simp only [ev, List.length_cons] at h ⊢
    rw [ev_len n l (by omega)]
    omega

/-- What holds between two rounds. -/
def EvR (w : World) (L : List Nat) (oa : Option Addr) (oc k : Nat) (wr : World) : Prop :=
  SlAt 1 wr oa oc k (vals (L.take k)) ∧ (∀ j, inB oa j → w.heap.size ≤ j) ∧ Below w.heap.size w wr
theorem EvR.next {w wr w1 w2 : World} {L : List Nat} {oa : Option Addr} {oc k v : Nat} {g2 c2 : Nat} (h : EvR w L oa oc k wr) (hv : L[k]? = some v) (hb1 : Below wr.heap.size wr w1)
    (hF : Flat 1 w2 g2 c2 (k + 1) (vals (L.take k) ++ [.int .i64 (v : Int)])) (hb : But (inB oa) w1 w2) (hg : inB oa g2 ∨ w1.heap.size ≤ g2) : EvR w L (some ⟨g2, 0, none⟩) c2 (k + 1) w2 := by
  obtain ⟨h1, h2, h3⟩ := h
  have hs := h3.size
  have hs1 := hb1.size
  refine ⟨.inr ⟨g2, rfl, ?_⟩, ?_, ?_⟩
  · have e : vals (L.take (k + 1)) = vals (L.take k) ++ [.int .i64 (v : Int)] := by
      rw [List.take_add_one, hv]; simp [vals]
    rw [e]; exact hF
  · rintro j ⟨x, hx, rfl⟩
    cases hx
    rcases hg with h | h
    · exact h2 _ h
    · show w.heap.size ≤ g2; omega
  · exact (h3.trans (hb1.mono hs)).trans (hb.below (by omega) (fun j hj => h2 j hj))

set_option maxRecDepth 20000 in
set_option maxHeartbeats 1000000 in
theorem every_any (w : World) (a : Option Addr) (c f n : Nat) (S : Nat → Prop) (l : List Nat) (hf : f ≤ 1) (hn : l.length = n) (h : NsAt w a S l) (hl : n ≤ 64) :
    Calls Try.prog 166 #[.slice a n c, .int .i64 (f : Int)] w fun e w' => ∃ oa oc m, e = .returned (.slice oa m oc) ∧ (Wr.ev (l.drop f)).length = m ∧ NsAt w' oa (fun j => j < w.heap.size) (Wr.ev (l.drop f)) ∧ Below w.heap.size w w' := by
  obtain ⟨L, hL⟩ : ∃ L, Wr.ev (l.drop f) = L := ⟨_, rfl⟩
  have hlen : L.length = (n - f + 1) / 2 := by rw [← hL, ev_len _ _ (Nat.le_refl _), List.length_drop, hn]
  have hget : ∀ k, f + 2 * k < n → ∃ v, L[k]? = some v ∧ l[f + 2 * k]? = some v := fun k hk => by
    have : l[f + 2 * k]? = some (l[f + 2 * k]'(by omega)) := List.getElem?_eq_getElem (by omega)
    refine ⟨_, ?_, this⟩
    rw [← hL, Wr.ev_get, List.getElem?_drop]
    exact this
  rw [hL]
  have H := hidq h
  have HG := hidq hget
  have HL := hidq hlen
  clear h hget hlen hL hn
  go_enter Try.func166, Try.ntmps166
  go_wp2_with fail
  go_loopw [5, 6] (fun s5 s6 wr => ∃ (k : Nat) (oa : Option Addr) (oc : Nat), s6 = .int .i64 ((f + 2 * k : Nat) : Int) ∧ f + 2 * k ≤ n + 1 ∧ k ≤ L.length ∧ s5 = .slice oa k oc ∧ Hid (EvR w L oa oc k wr)) (fun _ s6 _ => n + 1 - (intOf s6).toNat)
  case atStart => exact ⟨0, none, 0, rfl, by have := HL.out; omega, Nat.zero_le _, rfl, ⟨SlAt.nil _ _, (fun j e => by obtain ⟨x, hx, _⟩ := e; cases hx), Below.refl _ _⟩⟩
  case round =>
    obtain ⟨k, oa, oc, rfl, hk1, hk2, rfl, hR⟩ := hrel
    by_cases hlt : f + 2 * k < n
    · obtain ⟨v, hv1, hv2⟩ := HG.out k hlt
      obtain ⟨b, off, ha, hbl, _, hc⟩ := (H.out.below (S := S) hR.out.2.2) _ _ hv2
      subst ha
      have hltI : ((f + 2 * k : Nat) : Int) < (n : Int) := by omega
      have hlt2 : k + 1 ≤ L.length := by have := (List.getElem?_eq_some_iff.1 hv1).1; omega
      have HV := hidq hv1
      have hkb : k ≤ 64 := by omega
      generalize hi : f + 2 * k = i at *
      have HI := hidq hi
      clear hv1 hv2 hi
      have hib : i ≤ 64 := by omega
      go_wp2_with (at_builtin; refine wpList_sl plainN _ rfl (.tmp 14) (.tmp 19) rfl oa oc k _ rfl (hR.out.1.below ((Below.refl _ _).alloc (Nat.le_refl _) _)) _ rfl 1 [.int .i64 (v : Int)] (src_new 1 _ Try.underlying56 wr.heap.size [.int .i64 (v : Int)] rfl (fun j u hu => by rw [World.cell?_alloc_new]; simpa using hu) (by intro u hu; simp at hu; subst hu; rfl)) (by omega) (by omega) ?_; intro g2 c2 w2 hF2 hb2 hg2)
      go_roundw
      case rel => exact ⟨k + 1, some ⟨g2, 0, none⟩, c2, by rw [show f + 2 * (k + 1) = i + 2 by have := HI.out; omega]; go_num, by have := HI.out; omega, by omega, rfl, hR.out.next HV.out ((Below.refl _ _).alloc (Nat.le_refl _) _) hF2 hb2 hg2⟩
      case measure => simp [intOf]; omega
    · have hd : decide (((f + 2 * k : Nat) : Int) < (n : Int)) = false := decide_eq_false (by omega)
      have hd2 : decide (f + 2 * k < n) = false := decide_eq_false (by omega)
      have hkl : L.length = k := by have := HL.out; omega
      go_wp2
      go_ret
      obtain ⟨h01, h02, h03⟩ := hR.out
      rw [List.take_of_length_le (by omega)] at h01
      exact ⟨oa, oc, k, rfl, hkl, nsAt_of h01 (fun j hj e => by have := h02 j hj; omega), h03⟩
end Go.Proofs.Ytepigofpcjmddaa

namespace Go.Proofs.Ytepigofpcjmddaa.Reg
open Go

/-- What an operation comes to: a value, or a call that returns. -/
def Outcome (P : Program) (K : Value → World → Prop) : Result Next → Prop
  | .ok (.value v) w' => K v w'
  | .ok .skip w' => K undef w'
  | .ok (.enter f args) w' => Calls P f args w' fun e w'' => ∃ v, e = .returned v ∧ K v w''
  | _ => False

theorem outcome_value {P : Program} {K : Value → World → Prop} {v : Value} {w : World} (h : K v w) : Outcome P K (.ok (.value v) w) := h

theorem outcome_wp {P : Program} {o : Oper} {a : Act} {w : World} {K : Value → World → Prop} {N : Act → World → Prop} {Q : Exit → Act → World → Prop}
    (h : Outcome P K ((execOp a.eval o).run P w)) (hn : ∀ v w', K v w' → N (a.put o.dst v) w') : o.wp P a w N Q := by
  unfold Oper.wp
  generalize (execOp a.eval o).run P w = r at *
  cases r with
  | ok n w' =>
    cases n <;> simp only [Outcome, Oper.upon] at h ⊢
    case value v => exact hn _ _ h
    case skip => exact hn _ _ h
    case enter f args =>
      refine Calls.mono h ?_
      rintro e w'' ⟨v, rfl, hk⟩
      exact hn _ _ hk
  | halt x w' => simp [Outcome] at h

/-- The edges lead back, and no two operations write one slot; every slot is there. -/
def fineB (ops : Array Oper) (n : Nat) : Bool :=
  (List.range ops.size).all fun i => match ops[i]? with
    | none => true
    | some o => o.after.all (fun e => decide (e.on < i) || !Region.binds .any e) &&
      (match o.dst with
       | none => true
       | some t => decide (t < n) && (List.range ops.size).all fun j => decide (j = i) || ((ops[j]?).bind (·.dst)) != some t)

theorem fine_back {ops : Array Oper} {n i : Nat} {o : Oper} (h : fineB ops n = true) (ho : ops[i]? = some o) : ∀ e ∈ o.after, Region.binds .any e = true → e.on < i := by
  have hi : i < ops.size := by
    rcases Nat.lt_or_ge i ops.size with h' | h'
    · exact h'
    · rw [Array.getElem?_eq_none h'] at ho; cases ho
  have := List.all_eq_true.1 h i (List.mem_range.2 hi)
  simp only [ho, Bool.and_eq_true] at this
  intro e he hb
  have h2 := this.1
  rw [Array.all_eq_true_iff_forall_mem] at h2
  have h3 := h2 e he
  rw [hb] at h3
  simpa using h3

theorem fine_dst {ops : Array Oper} {n i j t : Nat} {o o' : Oper} (h : fineB ops n = true) (ho : ops[i]? = some o) (ho' : ops[j]? = some o') (hd : o.dst = some t) (hd' : o'.dst = some t) : j = i := by
  have hi : i < ops.size := by
    rcases Nat.lt_or_ge i ops.size with h' | h'
    · exact h'
    · rw [Array.getElem?_eq_none h'] at ho; cases ho
  have hj : j < ops.size := by
    rcases Nat.lt_or_ge j ops.size with h' | h'
    · exact h'
    · rw [Array.getElem?_eq_none h'] at ho'; cases ho'
  have := List.all_eq_true.1 h i (List.mem_range.2 hi)
  simp only [ho, hd, Bool.and_eq_true] at this
  have h2 := List.all_eq_true.1 this.2.2 j (List.mem_range.2 hj)
  simp only [ho', Option.bind_some, hd'] at h2
  simpa using h2

theorem fine_lt {ops : Array Oper} {n i t : Nat} {o : Oper} (h : fineB ops n = true) (ho : ops[i]? = some o) (hd : o.dst = some t) : t < n := by
  have hi : i < ops.size := by
    rcases Nat.lt_or_ge i ops.size with h' | h'
    · exact h'
    · rw [Array.getElem?_eq_none h'] at ho; cases ho
  have := List.all_eq_true.1 h i (List.mem_range.2 hi)
  simp only [ho, hd, Bool.and_eq_true] at this
  simpa using this.2.1

section
variable (P : Program) (ops : Array Oper) (a0 : Act) (R : Nat → Value → World → Prop) (Pres : World → World → Prop) (Inv : Array Bool → World → Prop)

/-- Where the operations that are listed have come up: their slots have their properties, the others are as at the start. -/
structure Fits (L : Array Bool) (a : Act) (w : World) : Prop where
  defers : a.defers = a0.defers
  size : a.tmps.size = a0.tmps.size
  lsize : L.size = ops.size
  val : ∀ j o t, ops[j]? = some o → L.getD j false = true → o.dst = some t → R j (a.eval (.tmp t)) w
  old : ∀ t, (∀ j o, ops[j]? = some o → L.getD j false = true → o.dst ≠ some t) → a.eval (.tmp t) = a0.eval (.tmp t)
  closed : ∀ j o, ops[j]? = some o → L.getD j false = true → ∀ e ∈ o.after, Region.binds .any e = true → L.getD e.on false = true

/-- The slots as a plain function. -/
structure At (L : Array Bool) (ev : Operand → Value) (w : World) : Prop where
  val : ∀ j o t, ops[j]? = some o → L.getD j false = true → o.dst = some t → R j (ev (.tmp t)) w
  old : ∀ t, (∀ j o, ops[j]? = some o → L.getD j false = true → o.dst ≠ some t) → ev (.tmp t) = a0.eval (.tmp t)
  closed : ∀ j o, ops[j]? = some o → L.getD j false = true → ∀ e ∈ o.after, Region.binds .any e = true → L.getD e.on false = true
  const : ∀ v, ev (.const v) = v
  func : ∀ f, ev (.func f) = .func (.func f) #[] #[]
  global : ∀ g, ev (.global g) = .pointer (some ⟨g, 0, none⟩)

/-- What is asked of one operation. -/
def StepAt (i : Nat) (o : Oper) : Prop :=
  ∀ (L : Array Bool) (ev : Operand → Value) (w : World), Inv L w → L.getD i true = false → (∀ e ∈ o.after, Region.binds .any e = true → L.getD e.on false = true) → At ops a0 R L ev w →
    match o.guard with
    | none => Outcome P (fun v w' => R i v w' ∧ Pres w w' ∧ Inv (L.setIfInBounds i true) w') ((execOp ev o).run P w)
    | some (g, want) => (∃ og t b, ops[g]? = some og ∧ og.dst = some t ∧ ev (.tmp t) = .bool b ∧
        if b = want then Outcome P (fun v w' => R i v w' ∧ Pres w w' ∧ Inv (L.setIfInBounds i true) w') ((execOp ev o).run P w)
        else R i undef w ∧ Inv (L.setIfInBounds i true) w) ∨
      ∃ og t, ops[g]? = some og ∧ og.dst = some t ∧ ev (.tmp t) = undef ∧ R i undef w ∧ Inv (L.setIfInBounds i true) w

def AllSteps : Nat → List Oper → Prop
  | _, [] => True
  | k, o :: l => StepAt P ops a0 R Pres Inv k o ∧ AllSteps (k + 1) l
end

section
variable {P : Program} {ops : Array Oper} {a0 : Act} {R : Nat → Value → World → Prop} {Pres : World → World → Prop} {Inv : Array Bool → World → Prop}

theorem StepAt.plain {i : Nat} {o : Oper} (hg : o.guard = none)
    (h : ∀ (L : Array Bool) (ev : Operand → Value) (w : World), Inv L w → L.getD i true = false → (∀ e ∈ o.after, Region.binds .any e = true → L.getD e.on false = true) → At ops a0 R L ev w →
      Outcome P (fun v w' => R i v w' ∧ Pres w w' ∧ Inv (L.setIfInBounds i true) w') ((execOp ev o).run P w)) : StepAt P ops a0 R Pres Inv i o := by
  intro L ev w hI hk hp hA
  rw [hg]; exact h L ev w hI hk hp hA
theorem StepAt.guarded {i g : Nat} {want : Bool} {o : Oper} (hg : o.guard = some (g, want))
    (h : ∀ (L : Array Bool) (ev : Operand → Value) (w : World), Inv L w → L.getD i true = false → (∀ e ∈ o.after, Region.binds .any e = true → L.getD e.on false = true) → At ops a0 R L ev w →
      ∃ og t b, ops[g]? = some og ∧ og.dst = some t ∧ ev (.tmp t) = .bool b ∧
        if b = want then Outcome P (fun v w' => R i v w' ∧ Pres w w' ∧ Inv (L.setIfInBounds i true) w') ((execOp ev o).run P w)
        else R i undef w ∧ Inv (L.setIfInBounds i true) w) : StepAt P ops a0 R Pres Inv i o := by
  intro L ev w hI hk hp hA
  rw [hg]; exact .inl (h L ev w hI hk hp hA)
/-- A guard that is not reached itself. -/
theorem StepAt.unreached {i g : Nat} {want : Bool} {o : Oper} (hg : o.guard = some (g, want))
    (h : ∀ (L : Array Bool) (ev : Operand → Value) (w : World), Inv L w → L.getD i true = false → (∀ e ∈ o.after, Region.binds .any e = true → L.getD e.on false = true) → At ops a0 R L ev w →
      ∃ og t, ops[g]? = some og ∧ og.dst = some t ∧ ev (.tmp t) = undef ∧ R i undef w ∧ Inv (L.setIfInBounds i true) w) : StepAt P ops a0 R Pres Inv i o := by
  intro L ev w hI hk hp hA
  rw [hg]; exact .inr (h L ev w hI hk hp hA)
/-- What is not there says neither yes nor no. -/
theorem yielded_undef {ops : Array Oper} {tmps : Array Value} {g t : Nat} {og : Oper} (hog : ops[g]? = some og) (hd : og.dst = some t) (h : tmps.getD t undef = undef) : yielded ops tmps g = none := by
  unfold yielded
  rw [hog]
  simp only [Option.bind_some, hd]
  rw [Array.getD_eq_getD_getElem?] at h
  cases hx : tmps[t]? with
  | none => rfl
  | some x => rw [hx] at h; simp only [Option.getD_some] at h; subst h; rfl

theorem AllSteps.at : ∀ (l : List Oper) (k : Nat), AllSteps P ops a0 R Pres Inv k l → ∀ (i : Nat) (o : Oper), l[i]? = some o → StepAt P ops a0 R Pres Inv (k + i) o
  | [], _, _, i, o, h => by simp at h
  | x :: l, k, hs, 0, o, h => by simp at h; subst h; exact hs.1
  | x :: l, k, hs, i + 1, o, h => by
    have := AllSteps.at l (k + 1) hs.2 i o (by simpa using h)
    rw [show k + (i + 1) = k + 1 + i by omega]; exact this

theorem Fits.at {L : Array Bool} {a : Act} {w : World} (h : Fits ops a0 R L a w) : At ops a0 R L a.eval w :=
  ⟨h.val, h.old, h.closed, fun _ => rfl, fun _ => rfl, fun _ => rfl⟩

theorem eval_put_same {a : Act} {t : Nat} {v : Value} (h : t < a.tmps.size) : (a.put (some t) v).eval (.tmp t) = v := by
  simp [Act.put, Act.eval, h]
theorem eval_put_other {a : Act} {t u : Nat} {v : Value} (h : t ≠ u) : (a.put (some t) v).eval (.tmp u) = a.eval (.tmp u) := by
  simp [Act.put, Act.eval, Array.getElem?_setIfInBounds_ne h]
theorem size_put {a : Act} {d : Option Tmp} {v : Value} : (a.put d v).tmps.size = a.tmps.size := by
  cases d <;> simp [Act.put]
theorem defers_put {a : Act} {d : Option Tmp} {v : Value} : (a.put d v).defers = a.defers := by
  cases d <;> simp [Act.put]

theorem getD_set_of {L : Array Bool} {i j : Nat} (h : (L.setIfInBounds i true).getD j false = true) : j = i ∨ L.getD j false = true := by
  by_cases e : i = j
  · exact .inl e.symm
  · rw [getD_set_ne false e] at h; exact .inr h

theorem Fits.put {L : Array Bool} {a : Act} {w w' : World} {i : Nat} {o : Oper} {v : Value} (hf : fineB ops a0.tmps.size = true) (ho : ops[i]? = some o)
    (hall : ∀ e ∈ o.after, Region.binds .any e = true → L.getD e.on false = true)
    (hR : ∀ j v, R j v w → R j v w') (h : Fits ops a0 R L a w) (hv : o.dst.isSome → R i v w') : Fits ops a0 R (L.setIfInBounds i true) (a.put o.dst v) w' where
  defers := by rw [defers_put]; exact h.defers
  size := by rw [size_put]; exact h.size
  lsize := by rw [Array.size_setIfInBounds]; exact h.lsize
  val := by
    intro j oj t hj hL hd
    rcases getD_set_of hL with rfl | hL'
    · rw [ho] at hj; injection hj with hj; subst hj
      rw [hd, eval_put_same (by rw [h.size]; exact fine_lt hf ho hd)]
      exact hv (by rw [hd]; rfl)
    · by_cases e : j = i
      · subst e; rw [ho] at hj; injection hj with hj; subst hj
        rw [hd, eval_put_same (by rw [h.size]; exact fine_lt hf ho hd)]
        exact hv (by rw [hd]; rfl)
      · cases hd' : o.dst with
        | none => exact hR _ _ (h.val j oj t hj hL' hd)
        | some u =>
          have hne : u ≠ t := fun e2 => e (fine_dst hf ho hj (e2 ▸ hd') hd)
          rw [eval_put_other hne]; exact hR _ _ (h.val j oj t hj hL' hd)
  old := by
    intro t hno
    have h1 : a.eval (.tmp t) = a0.eval (.tmp t) := h.old t (fun j oj hj hL => hno j oj hj (getD_set_true hL))
    cases hd' : o.dst with
    | none => exact h1
    | some u =>
      have hlt : i < L.size := by
        rcases Nat.lt_or_ge i ops.size with h' | h'
        · rw [h.lsize]; exact h'
        · rw [Array.getElem?_eq_none h'] at ho; cases ho
      have hne : u ≠ t := fun e2 => hno i o ho (by simp [hlt]) (e2 ▸ hd')
      rw [eval_put_other hne]; exact h1
  closed := by
    intro j oj hj hL e he hb
    rcases getD_set_of hL with rfl | hL'
    · rw [ho] at hj; injection hj with hj; subst hj
      exact getD_set_true (hall e he hb)
    · exact getD_set_true (h.closed j oj hj hL' e he hb)

/-- Nothing may come up: all have. -/
theorem all_listed {n : Nat} {L : Array Bool} (hf : fineB ops n = true) (hl : L.size = ops.size) (hr : Region.ready .any ops L = []) : ∀ i, i < ops.size → L.getD i false = true := by
  intro i
  induction i using Nat.strongRecOn with
  | ind i ih =>
    intro hi
    have ho : ops[i]? = some ops[i] := Array.getElem?_eq_getElem hi
    cases hL : L.getD i false with
    | true => rfl
    | false =>
      have hm : i ∈ Region.ready .any ops L := by
        rw [mem_ready]
        refine ⟨?_, ops[i], ho, fun e he hb => ih e.on (fine_back hf ho e he hb) (Nat.lt_trans (fine_back hf ho e he hb) hi)⟩
        have hlt : i < L.size := by omega
        simp [hlt] at hL ⊢; exact hL
      rw [hr] at hm; cases hm

theorem count_set {L : Array Bool} {i : Nat} (h : L.getD i true = false) : (L.setIfInBounds i true).toList.countP (! ·) + 1 = L.toList.countP (! ·) := by
  have hlt : i < L.size := by
    rcases Nat.lt_or_ge i L.size with h' | h'
    · exact h'
    · simp [Array.getElem?_eq_none h'] at h
  have hv : L[i] = false := by simpa [hlt] using h
  have hp : 0 < L.toList.countP (! ·) := List.countP_pos_iff.2 ⟨L[i], by simp, by simp [hv]⟩
  rw [Array.toList_setIfInBounds, List.countP_set (by simpa using hlt)]
  have e : (L.toList)[i]'(by simpa using hlt) = false := by simpa using hv
  rw [e]
  show L.toList.countP (! ·) - 1 + 0 + 1 = _
  omega

/-- The rule, from any stage on. -/
theorem wpAny_of_steps {Q : Exit → Act → World → Prop} (hf : fineB ops a0.tmps.size = true) (hR : ∀ j v w w', Pres w w' → R j v w → R j v w')
    (hs : ∀ i o, ops[i]? = some o → StepAt P ops a0 R Pres Inv i o) (hrefl : ∀ w, Pres w w)
    (hend : ∀ L a w, (∀ i, i < ops.size → L.getD i false = true) → Inv L w → Fits ops a0 R L a w → Q .normal a w) :
    ∀ (fuel : Nat) (L : Array Bool) (a : Act) (w : World), L.toList.countP (! ·) = fuel → Inv L w → Fits ops a0 R L a w → wpAny P .any ops Q fuel L a w := by
  intro fuel
  induction fuel with
  | zero =>
    intro L a w hc hI hF
    have hr : Region.ready .any ops L = [] := by
      cases h : Region.ready .any ops L with
      | nil => rfl
      | cons x xs =>
        have hx : x ∈ Region.ready .any ops L := by rw [h]; simp
        have := count_set (mem_ready.1 hx).1
        omega
    exact ⟨hr, hend L a w (all_listed hf hF.lsize hr) hI hF⟩
  | succ fuel ih =>
    intro L a w hc hI hF
    refine ⟨fun hr => hend L a w (all_listed hf hF.lsize hr) hI hF, fun i hi => ?_⟩
    obtain ⟨h0, o, ho, hall⟩ := mem_ready.1 hi
    have hst := hs i o ho L a.eval w hI h0 hall hF.at
    have hcs := count_set h0
    unfold wpOp
    simp only [ho]
    have go : Outcome P (fun v w' => R i v w' ∧ Pres w w' ∧ Inv (L.setIfInBounds i true) w') ((execOp a.eval o).run P w) →
        o.wp P a w (wpAny P .any ops Q fuel (L.setIfInBounds i true)) Q := fun h =>
      outcome_wp h fun v w' ⟨h1, h2, h3⟩ => ih _ _ _ (by omega) h3 (hF.put hf ho hall (fun j v => hR j v w w' h2) (fun _ => h1))
    cases hg : o.guard with
    | none =>
      rw [hg] at hst
      rw [if_pos (by simp [Region.wanted, hg])]
      exact .inl (go hst)
    | some gw =>
      obtain ⟨g, want⟩ := gw
      rw [hg] at hst
      rcases hst with ⟨og, t, b, hog, hd, hev, hcase⟩ | ⟨og, t, hog, hd, hev, hcase⟩
      case inr =>
        have hy : yielded ops a.tmps g = none := yielded_undef hog hd hev
        rw [if_neg (by simp [Region.wanted, hg, hy])]
        exact ih _ _ _ (by omega) hcase.2 (hF.put hf ho hall (fun j v => hR j v w w (hrefl w)) (fun _ => hcase.1))
      have hy : yielded ops a.tmps g = some b := by
        have hb : a.tmps[t]? = some (.bool b) := by
          have : a.tmps.getD t undef = .bool b := hev
          rw [Array.getD_eq_getD_getElem?] at this
          cases h : a.tmps[t]? with
          | none => rw [h] at this; cases this
          | some x => rw [h] at this; simpa using this
        simp [yielded, hog, hd, hb]
      by_cases hbw : b = want
      · rw [if_pos hbw] at hcase
        rw [if_pos (by simp [Region.wanted, hg, hy, hbw])]
        exact .inl (go hcase)
      · rw [if_neg hbw] at hcase
        rw [if_neg (by simp [Region.wanted, hg, hy, hbw])]
        exact ih _ _ _ (by omega) hcase.2 (hF.put hf ho hall (fun j v => hR j v w w (hrefl w)) (fun _ => hcase.1))

/-- No operation writes slot t. -/
def noneWrites (ops : Array Oper) (t : Nat) : Bool := ops.all fun o => o.dst != some t
/-- None but number j writes slot t. -/
def onlyWrites (ops : Array Oper) (t j : Nat) : Bool := (List.range ops.size).all fun i => decide (i = j) || ((ops[i]?).bind (·.dst)) != some t

theorem At.oldNone {L : Array Bool} {ev : Operand → Value} {w : World} (h : At ops a0 R L ev w) (t : Nat) (hb : noneWrites ops t = true) : ev (.tmp t) = a0.eval (.tmp t) := by
  refine h.old t fun j o ho _ hd => ?_
  have := (Array.all_eq_true_iff_forall_mem.1 hb) o (Array.mem_of_getElem? ho)
  simp [hd] at this

theorem At.oldBut {L : Array Bool} {ev : Operand → Value} {w : World} {i : Nat} (h : At ops a0 R L ev w) (j : Nat) (oj : Oper) (t : Nat) (hb : onlyWrites ops t j = true) (hj : ops[j]? = some oj)
    (e : Edge) (he : e ∈ oj.after) (hbi : Region.binds .any e = true) (hi : L.getD i true = false) (hei : e.on = i := by rfl) : ev (.tmp t) = a0.eval (.tmp t) := by
  refine h.old t fun k o ho hL hd => ?_
  have hk : k < ops.size := by
    rcases Nat.lt_or_ge k ops.size with h' | h'
    · exact h'
    · rw [Array.getElem?_eq_none h'] at ho; cases ho
  have h1 := List.all_eq_true.1 hb k (List.mem_range.2 hk)
  simp only [ho, Option.bind_some, hd] at h1
  have hkj : k = j := by simpa using h1
  subst hkj
  have h2 := h.closed k oj hj hL e he hbi
  rw [hei] at h2
  rcases Nat.lt_or_ge i L.size with h' | h'
  · simp [h'] at h2 hi; rw [hi] at h2; cases h2
  · simp [Array.getElem?_eq_none h'] at h2

/-- Properties by a list. -/
def ofList (l : List (Value → World → Prop)) : Nat → Value → World → Prop := fun j => l.getD j (fun _ _ => True)

/-- Each of them is kept. -/
def AllKept (Pres : World → World → Prop) : List (Value → World → Prop) → Prop
  | [] => True
  | p :: l => (∀ v w w', Pres w w' → p v w → p v w') ∧ AllKept Pres l

theorem AllKept.at {Pres : World → World → Prop} : ∀ (l : List (Value → World → Prop)), AllKept Pres l → ∀ j v w w', Pres w w' → ofList l j v w → ofList l j v w'
  | [], _, _, _, _, _, _, _ => trivial
  | _ :: _, h, 0, v, w, w', hp, hv => h.1 v w w' hp hv
  | _ :: l, h, j + 1, v, w, w', hp, hv => AllKept.at l h.2 j v w w' hp hv

theorem out_new {K : Value → World → Prop} {ev : Operand → Value} {o : Oper} {w w' : World} {v : Value} (hrun : (execOp ev o).run P w = .ok (.value v) w') (hk : K v w') :
    Outcome P K ((execOp ev o).run P w) := by
  rw [hrun]; exact hk
theorem out_value {K : Value → World → Prop} {ev : Operand → Value} {o : Oper} {w : World} {v : Value} (hrun : (execOp ev o).run P w = .ok (.value v) w) (hk : K v w) :
    Outcome P K ((execOp ev o).run P w) := by
  rw [hrun]; exact hk
theorem out_call {f : Nat} {K : Value → World → Prop} {ev : Operand → Value} {o : Oper} {w w0 : World} {args : Array Value} (hrun : (execOp ev o).run P w = .ok (.enter f args) w0)
    (hc : Calls P f args w0 fun e w'' => ∃ v, e = .returned v ∧ K v w'') : Outcome P K ((execOp ev o).run P w) := by
  rw [hrun]; exact hc

/-- THE RULE. -/
theorem wp_region_props {id : Nat} {l : List Oper} {Q : Exit → Act → World → Prop} {w : World} (R : Nat → Value → World → Prop) (Pres : World → World → Prop) (Inv : Array Bool → World → Prop)
    (hm : P.follows .mixedOrders = true) (hf : fineB l.toArray a0.tmps.size = true) (hR : ∀ j v w w', Pres w w' → R j v w → R j v w') (hrefl : ∀ w, Pres w w)
    (hI : Inv (Array.replicate l.length false) w.drew)
    (hs : AllSteps P l.toArray a0 R Pres Inv 0 l)
    (hend : ∀ L a w, (∀ i, i < l.length → L.getD i false = true) → Inv L w → Fits l.toArray a0 R L a w → Q .normal a w) : (Code.region id l.toArray true).wp P Q a0 w := by
  refine wp_region_any hm ?_
  refine wpAny_of_steps (Pres := Pres) (Inv := Inv) (R := R) (a0 := a0) hf hR ?_ hrefl (by simpa using hend) _ _ _ _ ?_ (by simpa using hI) ?_
  · intro i o ho
    have := hs.at l 0 i o (by simpa using ho)
    simpa using this
  · simp [List.countP_replicate]
  · refine ⟨rfl, rfl, by simp, ?_, fun _ _ => rfl, ?_⟩
    · intro j o t ho hL
      exfalso
      rw [Array.getD_eq_getD_getElem?] at hL
      by_cases hj : j < l.toArray.size
      · simp at hj; simp [hj] at hL
      · simp at hj; simp [hj] at hL
    · intro j o ho hL
      exfalso
      rw [Array.getD_eq_getD_getElem?] at hL
      by_cases hj : j < l.toArray.size
      · simp at hj; simp [hj] at hL
      · simp at hj; simp [hj] at hL
end

/-- A slice of just these values, in a block of its own. -/
def OwnSl (l : List Value) (v : Value) (w : World) : Prop :=
  ∃ sb, v = .slice (some ⟨sb, 0, none⟩) l.length l.length ∧ sb < w.heap.size ∧ ∀ i (h : i < l.length), w.cell? ⟨sb, i, none⟩ = some l[i]
/-- Nothing that was there is another one. -/
def Keeps (w w' : World) : Prop := RowKit.Below w.heap.size w w'
theorem Keeps.refl (w : World) : Keeps w w := RowKit.Below.refl _ _
theorem Keeps.drewN {w w' : World} (h : Keeps w w') (n : Nat) : Keeps w (w'.drewN n) := ⟨h.os, h.tape, h.output, h.size, h.block⟩
theorem Keeps.alloc {w w' : World} (h : Keeps w w') (o : Obj) : Keeps w (w'.alloc o) := RowKit.Below.alloc h h.size o
theorem Keeps.trans {w w' w'' : World} (h : Keeps w w') (k : Keeps w' w'') : Keeps w w'' := RowKit.Below.trans h (RowKit.Below.mono k h.size)
theorem OwnSl.keeps {l : List Value} {v : Value} {w w' : World} (hk : Keeps w w') (h : OwnSl l v w) : OwnSl l v w' := by
  obtain ⟨sb, hv, hs, hc⟩ := h
  refine ⟨sb, hv, Nat.lt_of_lt_of_le hs hk.size, fun i hi => ?_⟩
  rw [hk.cell (p := ⟨sb, i, none⟩) hs]; exact hc i hi
theorem OwnSl.new (l : List Value) (w : World) (t : TypeId) (n : Nat) (hn : n = l.length) : OwnSl l (.slice (some ⟨w.heap.size, 0, none⟩) n n) (w.alloc (.cells l.toArray t)) := by
  subst hn
  refine ⟨w.heap.size, rfl, by simp, fun i hi => ?_⟩
  rw [World.cell?_alloc_new]; simp [hi]
end Go.Proofs.Ytepigofpcjmddaa.Reg

namespace Go.Proofs.Ytepigofpcjmddaa.Reg
open Go

section
variable {γ : Type} (P : Program) (ops : Array Oper) (a0 : Act) (R : Nat → Value → γ → World → Prop) (Pres : γ → World → γ → World → Prop) (Inv : γ → Array Bool → World → Prop)

/-- What is asked of one operation. -/
def GStepAt (i : Nat) (o : Oper) : Prop :=
  ∀ (x : γ) (L : Array Bool) (ev : Operand → Value) (w : World), Inv x L w → L.getD i true = false → (∀ e ∈ o.after, Region.binds .any e = true → L.getD e.on false = true) → At ops a0 (fun j v w => R j v x w) L ev w →
    match o.guard with
    | none => Outcome P (fun v w' => ∃ x', R i v x' w' ∧ Pres x w x' w' ∧ Inv x' (L.setIfInBounds i true) w') ((execOp ev o).run P w)
    | some (g, want) => ∃ og t b, ops[g]? = some og ∧ og.dst = some t ∧ ev (.tmp t) = .bool b ∧
        if b = want then Outcome P (fun v w' => ∃ x', R i v x' w' ∧ Pres x w x' w' ∧ Inv x' (L.setIfInBounds i true) w') ((execOp ev o).run P w)
        else R i undef x w ∧ Inv x (L.setIfInBounds i true) w

def GAllSteps : Nat → List Oper → Prop
  | _, [] => True
  | k, o :: l => GStepAt P ops a0 R Pres Inv k o ∧ GAllSteps (k + 1) l
end

section
variable {γ : Type} {P : Program} {ops : Array Oper} {a0 : Act} {R : Nat → Value → γ → World → Prop} {Pres : γ → World → γ → World → Prop} {Inv : γ → Array Bool → World → Prop}

theorem GStepAt.plain {i : Nat} {o : Oper} (hg : o.guard = none)
    (h : ∀ (x : γ) (L : Array Bool) (ev : Operand → Value) (w : World), Inv x L w → L.getD i true = false → (∀ e ∈ o.after, Region.binds .any e = true → L.getD e.on false = true) → At ops a0 (fun j v w => R j v x w) L ev w →
      Outcome P (fun v w' => ∃ x', R i v x' w' ∧ Pres x w x' w' ∧ Inv x' (L.setIfInBounds i true) w') ((execOp ev o).run P w)) : GStepAt P ops a0 R Pres Inv i o := by
  intro x L ev w hI hk hp hA
  rw [hg]; exact h x L ev w hI hk hp hA
theorem GStepAt.guarded {i g : Nat} {want : Bool} {o : Oper} (hg : o.guard = some (g, want))
    (h : ∀ (x : γ) (L : Array Bool) (ev : Operand → Value) (w : World), Inv x L w → L.getD i true = false → (∀ e ∈ o.after, Region.binds .any e = true → L.getD e.on false = true) → At ops a0 (fun j v w => R j v x w) L ev w →
      ∃ og t, ops[g]? = some og ∧ og.dst = some t ∧ ev (.tmp t) = .bool want ∧
        Outcome P (fun v w' => ∃ x', R i v x' w' ∧ Pres x w x' w' ∧ Inv x' (L.setIfInBounds i true) w') ((execOp ev o).run P w)) : GStepAt P ops a0 R Pres Inv i o := by
  intro x L ev w hI hk hp hA
  rw [hg]
  obtain ⟨og, t, h1, h2, h3, h4⟩ := h x L ev w hI hk hp hA
  exact ⟨og, t, want, h1, h2, h3, by rw [if_pos rfl]; exact h4⟩

theorem GAllSteps.at : ∀ (l : List Oper) (k : Nat), GAllSteps P ops a0 R Pres Inv k l → ∀ (i : Nat) (o : Oper), l[i]? = some o → GStepAt P ops a0 R Pres Inv (k + i) o
  | [], _, _, i, o, h => by simp at h
  | x :: l, k, hs, 0, o, h => by simp at h; subst h; exact hs.1
  | x :: l, k, hs, i + 1, o, h => by
    have := GAllSteps.at l (k + 1) hs.2 i o (by simpa using h)
    rw [show k + (i + 1) = k + 1 + i by omega]; exact this

/-- The properties turned, all at once. -/
theorem Fits.turn {R R' : Nat → Value → World → Prop} {L : Array Bool} {a : Act} {w w' : World} (h : Fits ops a0 R L a w) (hR : ∀ j v, R j v w → R' j v w') : Fits ops a0 R' L a w' :=
  ⟨h.defers, h.size, h.lsize, fun j o t h1 h2 h3 => hR _ _ (h.val j o t h1 h2 h3), h.old, h.closed⟩

theorem gwpAny_of_steps {Q : Exit → Act → World → Prop} (hf : fineB ops a0.tmps.size = true) (hR : ∀ j v x w x' w', Pres x w x' w' → R j v x w → R j v x' w')
    (hs : ∀ i o, ops[i]? = some o → GStepAt P ops a0 R Pres Inv i o)
    (hend : ∀ x L a w, (∀ i, i < ops.size → L.getD i false = true) → Inv x L w → Fits ops a0 (fun j v w => R j v x w) L a w → Q .normal a w) :
    ∀ (fuel : Nat) (x : γ) (L : Array Bool) (a : Act) (w : World), L.toList.countP (! ·) = fuel → Inv x L w → Fits ops a0 (fun j v w => R j v x w) L a w → wpAny P .any ops Q fuel L a w := by
  intro fuel
  induction fuel with
  | zero =>
    intro x L a w hc hI hF
    have hr : Region.ready .any ops L = [] := by
      cases h : Region.ready .any ops L with
      | nil => rfl
      | cons y ys =>
        have hx : y ∈ Region.ready .any ops L := by rw [h]; simp
        have := count_set (mem_ready.1 hx).1
        omega
    exact ⟨hr, hend x L a w (all_listed hf hF.lsize hr) hI hF⟩
  | succ fuel ih =>
    intro x L a w hc hI hF
    refine ⟨fun hr => hend x L a w (all_listed hf hF.lsize hr) hI hF, fun i hi => ?_⟩
    obtain ⟨h0, o, ho, hall⟩ := mem_ready.1 hi
    have hst := hs i o ho x L a.eval w hI h0 hall hF.at
    have hcs := count_set h0
    unfold wpOp
    simp only [ho]
    have go : Outcome P (fun v w' => ∃ x', R i v x' w' ∧ Pres x w x' w' ∧ Inv x' (L.setIfInBounds i true) w') ((execOp a.eval o).run P w) →
        o.wp P a w (wpAny P .any ops Q fuel (L.setIfInBounds i true)) Q := fun h =>
      outcome_wp h fun v w' ⟨x', h1, h2, h3⟩ => ih x' _ _ _ (by omega) h3 ((hF.turn (R' := fun j v w => R j v x' w) (w' := w') (fun j v => hR j v x w x' w' h2)).put hf ho hall (fun _ _ h => h) (fun _ => h1))
    cases hg : o.guard with
    | none =>
      rw [hg] at hst
      rw [if_pos (by simp [Region.wanted, hg])]
      exact .inl (go hst)
    | some gw =>
      obtain ⟨g, want⟩ := gw
      rw [hg] at hst
      obtain ⟨og, t, b, hog, hd, hev, hcase⟩ := hst
      have hy : yielded ops a.tmps g = some b := by
        have hb : a.tmps[t]? = some (.bool b) := by
          have : a.tmps.getD t undef = .bool b := hev
          rw [Array.getD_eq_getD_getElem?] at this
          cases h : a.tmps[t]? with
          | none => rw [h] at this; cases this
          | some y => rw [h] at this; simpa using this
        simp [yielded, hog, hd, hb]
      by_cases hbw : b = want
      · rw [if_pos hbw] at hcase
        rw [if_pos (by simp [Region.wanted, hg, hy, hbw])]
        exact .inl (go hcase)
      · rw [if_neg hbw] at hcase
        rw [if_neg (by simp [Region.wanted, hg, hy, hbw])]
        exact ih x _ _ _ (by omega) hcase.2 (hF.put hf ho hall (fun _ _ h => h) (fun _ => hcase.1))

/-- THE RULE, with a ghost. -/
theorem wp_region_ghost {id : Nat} {l : List Oper} {Q : Exit → Act → World → Prop} {w : World} (R : Nat → Value → γ → World → Prop) (Pres : γ → World → γ → World → Prop) (Inv : γ → Array Bool → World → Prop) (x0 : γ)
    (hm : P.follows .mixedOrders = true) (hf : fineB l.toArray a0.tmps.size = true) (hR : ∀ j v x w x' w', Pres x w x' w' → R j v x w → R j v x' w')
    (hI : Inv x0 (Array.replicate l.length false) w.drew)
    (hs : GAllSteps P l.toArray a0 R Pres Inv 0 l)
    (hend : ∀ x L a w, (∀ i, i < l.length → L.getD i false = true) → Inv x L w → Fits l.toArray a0 (fun j v w => R j v x w) L a w → Q .normal a w) : (Code.region id l.toArray true).wp P Q a0 w := by
  refine wp_region_any hm ?_
  refine gwpAny_of_steps (Pres := Pres) (Inv := Inv) (R := R) (a0 := a0) hf hR ?_ (by simpa using hend) _ x0 _ _ _ ?_ (by simpa using hI) ?_
  · intro i o ho
    have := hs.at l 0 i o (by simpa using ho)
    simpa using this
  · simp [List.countP_replicate]
  · refine ⟨rfl, rfl, by simp, ?_, fun _ _ => rfl, ?_⟩
    · intro j o t ho hL
      exfalso
      rw [Array.getD_eq_getD_getElem?] at hL
      by_cases hj : j < l.toArray.size
      · simp at hj; simp [hj] at hL
      · simp at hj; simp [hj] at hL
    · intro j o ho hL
      exfalso
      rw [Array.getD_eq_getD_getElem?] at hL
      by_cases hj : j < l.toArray.size
      · simp at hj; simp [hj] at hL
      · simp at hj; simp [hj] at hL

/-- Properties by a list. -/
def gofList (l : List (Value → γ → World → Prop)) : Nat → Value → γ → World → Prop := fun j => l.getD j (fun _ _ _ => True)
def GAllKept (Pres : γ → World → γ → World → Prop) : List (Value → γ → World → Prop) → Prop
  | [] => True
  | p :: l => (∀ v x w x' w', Pres x w x' w' → p v x w → p v x' w') ∧ GAllKept Pres l
theorem GAllKept.at {Pres : γ → World → γ → World → Prop} : ∀ (l : List (Value → γ → World → Prop)), GAllKept Pres l → ∀ j v x w x' w', Pres x w x' w' → gofList l j v x w → gofList l j v x' w'
  | [], _, _, _, _, _, _, _, _, _ => trivial
  | _ :: _, h, 0, v, x, w, x', w', hp, hv => h.1 v x w x' w' hp hv
  | _ :: l, h, j + 1, v, x, w, x', w', hp, hv => GAllKept.at l h.2 j v x w x' w' hp hv
end
end Go.Proofs.Ytepigofpcjmddaa.Reg

namespace Go.Proofs.Ytepigofpcjmddaa
open Go.RowKit
namespace Reg

theorem fold_size (f : Nat → Value) : ∀ (ds : List Nat) (T : Array Value), (ds.foldl (fun T t => T.setIfInBounds t (f t)) T).size = T.size
  | [], _ => rfl
  | d :: ds, T => by rw [List.foldl_cons, fold_size f ds]; simp
theorem fold_get (f : Nat → Value) : ∀ (ds : List Nat) (T : Array Value) (i : Nat), i < T.size → (ds.foldl (fun T t => T.setIfInBounds t (f t)) T)[i]? = if ds.contains i = true then some (f i) else T[i]?
  | [], T, i, _ => by simp
  | d :: ds, T, i, h => by
    rw [List.foldl_cons, fold_get f ds _ i (by simpa using h), Array.getElem?_setIfInBounds]
    by_cases e : ds.contains i = true
    · rw [if_pos e, if_pos (by simp at e ⊢; exact .inr e)]
    · rw [if_neg e]
      by_cases e2 : d = i
      · subst e2; rw [if_pos rfl, if_pos h, if_pos (by simp)]
      · rw [if_neg e2, if_neg (by simp at e ⊢; exact ⟨fun q => e2 q.symm, e⟩)]

def coversB (ops : Array Oper) (ds : List Nat) : Bool := (List.range ops.size).all fun j => match (ops[j]?).bind (·.dst) with | none => true | some t => ds.contains t
theorem covers_at {ops : Array Oper} {ds : List Nat} (h : coversB ops ds = true) {j t : Nat} {o : Oper} (ho : ops[j]? = some o) (hd : o.dst = some t) : ds.contains t = true := by
  have hj : j < ops.size := by
    rcases Nat.lt_or_ge j ops.size with h' | h'
    · exact h'
    · rw [Array.getElem?_eq_none h'] at ho; cases ho
  have := List.all_eq_true.1 h j (List.mem_range.2 hj)
  simp only [ho, Option.bind_some, hd] at this
  exact this

theorem Fits.act {ops : Array Oper} {a0 : Act} {R : Nat → Value → World → Prop} {L : Array Bool} {a : Act} {w : World} (hF : Fits ops a0 R L a w) (ds : List Nat) (hc : coversB ops ds = true) :
    a = ⟨ds.foldl (fun T t => T.setIfInBounds t (a.eval (.tmp t))) a0.tmps, a0.defers⟩ := by
  have hsz := hF.size
  have hdf := hF.defers
  have hold : ∀ t, ds.contains t = false → a.eval (.tmp t) = a0.eval (.tmp t) := fun t ht => hF.old t (fun j o ho _ hd => by rw [covers_at hc ho hd] at ht; cases ht)
  have hev : ∀ t, a.eval (.tmp t) = a.tmps.getD t undef := fun _ => rfl
  have hev0 : ∀ t, a0.eval (.tmp t) = a0.tmps.getD t undef := fun _ => rfl
  have ht : a.tmps = ds.foldl (fun T t => T.setIfInBounds t (a.eval (.tmp t))) a0.tmps := by
    apply Array.ext_getElem?
    intro i
    by_cases hi : i < a0.tmps.size
    · rw [fold_get (fun t => a.eval (.tmp t)) ds a0.tmps i hi]
      have hia : i < a.tmps.size := by rw [hsz]; exact hi
      cases e : ds.contains i
      · rw [if_neg (by decide)]
        have := hold i e
        rw [hev, hev0, Array.getD_eq_getD_getElem?, Array.getD_eq_getD_getElem?, Array.getElem?_eq_getElem hia, Array.getElem?_eq_getElem hi] at this
        rw [Array.getElem?_eq_getElem hia, Array.getElem?_eq_getElem hi]
        exact congrArg some this
      · rw [if_pos rfl, hev, Array.getD_eq_getD_getElem?, Array.getElem?_eq_getElem hia]
        rfl
    · rw [Array.getElem?_eq_none (by rw [hsz]; omega), Array.getElem?_eq_none (by rw [fold_size]; omega)]
  obtain ⟨t, d⟩ := a
  simp only at hdf
  subst hdf
  exact congrArg (fun q => (⟨q, a0.defers⟩ : Act)) ht
end Reg
end Go.Proofs.Ytepigofpcjmddaa
