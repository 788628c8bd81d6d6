/-
  Slices of integers that came in.
  Counting networks as lists of pairs: the plain mathematics. Two lists of wires merged, a list counted, what passes, and that what goes out is even.
  Layer 10: numbers in slices; every second one of a list: contract.
  Layer 10: a plan in the making; a row of gates: contract.
  Layer 10: two lists of wires merged, a list counted: contracts.
  Layer 11: a Net's gates, its places, by its width.
  Layer 6: the widths that may be.
  Layer 10: a list counted: contract.
  Layer 10: the plan of a width: contract.
  Layer 10: which widths there are; none of another width.
  Layer 10: what holds of the five plans.
-/
import Derived.Test.YtbcmilfajeanbaaBoxGAll
import Derived.OpenShut
import Derived.Laws.Bits128
import Derived.Test.YtbcmilfajeanbaaPhaseAll
import Derived.Test.YtbcmilfajeanbaaKit8All
namespace Go.Proofs.Ytbcmilfajeanbaa
open Go.RowKit Go.Sort

/-- A slice's elements, as they lie. -/
def IntsIn (w : World) (a : Option Addr) (n : Nat) (Z : Nat → Int) : Prop := ∀ i, i < n → ∃ b off, a = some ⟨b, off, none⟩ ∧ b < w.heap.size ∧ w.cell? ⟨b, off + i, none⟩ = some (.int .i64 (Z i))
theorem IntsIn.below {w w' : World} {a : Option Addr} {n : Nat} {Z : Nat → Int} (h : IntsIn w a n Z) (hb : Below w.heap.size w w') : IntsIn w' a n Z := fun i hi => by
  obtain ⟨b, off, h1, h2, h3⟩ := h i hi
  exact ⟨b, off, h1, Nat.lt_of_lt_of_le h2 hb.size, by rw [hb.cell (p := ⟨b, off + i, none⟩) h2]; exact h3⟩
theorem intsIn_of {w : World} {x : Addr} {n : Nat} {zs : List Int} (hl : n ≤ zs.length) (h : ∀ i, i < zs.length → w.cell? (x.add i) = some (.int .i64 (zs.getD i 0))) : IntsIn w (some x) n (fun i => zs.getD i 0) := fun i hi => by
  obtain ⟨b, off, rfl, hc⟩ := ints_at h (by omega)
  have h0 := hc i (by omega)
  refine ⟨b, off, rfl, ?_, h0⟩
  rcases Nat.lt_or_ge b w.heap.size with h' | h'
  · exact h'
  · rw [World.cell?, Array.getElem?_eq_none h'] at h0
    cases h0
theorem i64_and32 (n : Int) : bits .and .i64 n 4294967295 = n % 4294967296 := by
  have h63 : (BitVec.ofInt 64 4294967295).toNat = 2 ^ 32 - 1 := by decide
  have key : (BitVec.ofInt 64 n &&& BitVec.ofInt 64 4294967295).toNat = (n % ((2 ^ 64 : Nat) : Int)).toNat % 2 ^ 32 := by
    rw [BitVec.toNat_and, BitVec.toNat_ofInt, h63, Nat.and_two_pow_sub_one_eq_mod]
  show IntKind.i64.wrap ((BitVec.ofInt 64 n &&& BitVec.ofInt 64 4294967295).toNat : Nat) = n % 4294967296
  rw [key, IntKind.wrap_i64]
  omega
end Go.Proofs.Ytbcmilfajeanbaa

namespace Go.Proofs.Ytbcmilfajeanbaa
namespace Wr

/-- Every second one from the first on. -/
def ev : List Nat → List Nat
  | [] => []
  | [a] => [a]
  | a :: _ :: l => a :: ev l
def od (l : List Nat) : List Nat := ev l.tail
/-- Pair by pair. -/
def inter : List Nat → List Nat → List Nat
  | a :: x, b :: y => a :: b :: inter x y
  | _, _ => []
def merge : Nat → List Nat → List Nat → List (Nat × Nat) × List Nat
  | 0, x, y => (x.zip y, inter x y)
  | d + 1, x, y =>
    ((merge d (ev x) (od y)).1 ++ (merge d (od x) (ev y)).1 ++ (merge d (ev x) (od y)).2.zip (merge d (od x) (ev y)).2,
     inter (merge d (ev x) (od y)).2 (merge d (od x) (ev y)).2)
def count : Nat → List Nat → List (Nat × Nat) × List Nat
  | 0, l => ([], l)
  | d + 1, l =>
    ((count d (l.take (2 ^ d))).1 ++ (count d (l.drop (2 ^ d))).1 ++ (merge d (count d (l.take (2 ^ d))).2 (count d (l.drop (2 ^ d))).2).1,
     (merge d (count d (l.take (2 ^ d))).2 (count d (l.drop (2 ^ d))).2).2)

theorem ev_length : ∀ (n : Nat) (l : List Nat), l.length = 2 * n → (ev l).length = n
  | 0, l, h => by cases l with | nil => rfl | cons a l => simp at h
  | n + 1, l, h => by
    match l, h with
    | a :: b :: l, h => simp only [ev, List.length_cons] at h ⊢; rw [ev_length n l (by omega)]
theorem od_length (n : Nat) (l : List Nat) (h : l.length = 2 * n) : (od l).length = n := by
  match n, l, h with
  | 0, [], h => rfl
  | n + 1, a :: b :: l, h =>
    simp only [od, List.tail_cons]
    match l, h with
    | [], h => have h0 : n = 0 := by simp at h; omega
               subst h0; rfl
    | c :: l, h =>
      show (b :: ev l).length = n + 1
      simp only [List.length_cons] at h ⊢
      have h2 : l.length = 2 * (n - 1) + 1 := by omega
      suffices hh : ∀ (k : Nat) (m : List Nat), m.length = 2 * k + 1 → (ev m).length = k + 1 by rw [hh _ l h2]; omega
      intro k
      induction k with
      | zero => intro m hm; match m, hm with | [x], _ => rfl
      | succ k ih => intro m hm; match m, hm with | x :: y :: m, hm => simp only [ev, List.length_cons] at hm ⊢; rw [ih m (by omega)]
theorem inter_length : ∀ (n : Nat) (x y : List Nat), x.length = n → y.length = n → (inter x y).length = 2 * n
  | 0, x, y, hx, hy => by cases x with | nil => cases y <;> rfl | cons a l => simp at hx
  | n + 1, a :: x, b :: y, hx, hy => by
    simp only [inter, List.length_cons] at *
    rw [inter_length n x y (by omega) (by omega)]
    omega
theorem ev_get : ∀ (l : List Nat) (i : Nat), (ev l)[i]? = l[2 * i]?
  | [], i => by simp [ev]
  | [a], 0 => rfl
  | [a], i + 1 => by simp [ev]
  | a :: b :: l, 0 => rfl
  | a :: b :: l, i + 1 => by
    show (ev l)[i]? = (a :: b :: l)[2 * i + 2]?
    rw [ev_get l i]; rfl
theorem od_get (l : List Nat) (i : Nat) : (od l)[i]? = l[2 * i + 1]? := by
  rw [od, ev_get]; cases l <;> simp
theorem inter_get0 : ∀ (x y : List Nat) (i : Nat), x.length = y.length → (inter x y)[2 * i]? = x[i]?
  | [], y, i, h => by cases y <;> simp [inter]
  | a :: x, [], i, h => by simp at h
  | a :: x, b :: y, 0, h => rfl
  | a :: x, b :: y, i + 1, h => by
    show (inter x y)[2 * i]? = x[i]?
    exact inter_get0 x y i (by simpa using h)
theorem inter_get1 : ∀ (x y : List Nat) (i : Nat), x.length = y.length → (inter x y)[2 * i + 1]? = y[i]?
  | [], y, i, h => by cases y with | nil => simp [inter] | cons b y => simp at h
  | a :: x, [], i, h => by simp at h
  | a :: x, b :: y, 0, h => rfl
  | a :: x, b :: y, i + 1, h => by
    show (inter x y)[2 * i + 1]? = y[i]?
    exact inter_get1 x y i (by simpa using h)
theorem pow_succ2 (d : Nat) : 2 ^ (d + 1) = 2 * 2 ^ d := by rw [Nat.pow_succ, Nat.mul_comm]
theorem merge_length : ∀ (d : Nat) (x y : List Nat), x.length = 2 ^ d → y.length = 2 ^ d → (merge d x y).2.length = 2 * 2 ^ d
  | 0, x, y, hx, hy => inter_length 1 x y hx hy
  | d + 1, x, y, hx, hy => by
    rw [pow_succ2] at hx hy
    rw [pow_succ2]
    exact inter_length _ _ _ (merge_length d _ _ (ev_length _ _ hx) (od_length _ _ hy)) (merge_length d _ _ (od_length _ _ hx) (ev_length _ _ hy))
theorem count_length : ∀ (d : Nat) (l : List Nat), l.length = 2 ^ d → (count d l).2.length = 2 ^ d
  | 0, l, h => h
  | d + 1, l, h => by
    rw [pow_succ2] at h ⊢
    exact merge_length d _ _ (count_length d _ (by rw [List.length_take]; omega)) (count_length d _ (by rw [List.length_drop]; omega))
theorem mem_ev : ∀ (l : List Nat) (a : Nat), a ∈ ev l → a ∈ l
  | [], a, h => h
  | [b], a, h => h
  | b :: c :: l, a, h => by
    rcases List.mem_cons.1 (show a ∈ b :: ev l from h) with rfl | h
    · exact List.mem_cons_self
    · exact List.mem_cons_of_mem _ (List.mem_cons_of_mem _ (mem_ev l a h))
theorem mem_od (l : List Nat) (a : Nat) (h : a ∈ od l) : a ∈ l := List.mem_of_mem_tail (mem_ev _ a h)
theorem ev_od_perm : ∀ (l : List Nat), (ev l ++ od l).Perm l
  | [] => .refl _
  | [a] => .refl _
  | a :: b :: l => by
    have ih := ev_od_perm l
    have hod : od (a :: b :: l) = b :: od l := by
      cases l with
      | nil => rfl
      | cons c l => rfl
    rw [hod]
    show (a :: ev l ++ b :: od l).Perm (a :: b :: l)
    exact (List.Perm.cons a (List.perm_middle)).trans (.cons a (.cons b ih))
theorem inter_perm : ∀ (x y : List Nat), x.length = y.length → (inter x y).Perm (x ++ y)
  | [], [], _ => .refl _
  | [], b :: y, h => by simp at h
  | a :: x, [], h => by simp at h
  | a :: x, b :: y, h => by
    have ih := inter_perm x y (by simpa using h)
    show (a :: b :: inter x y).Perm (a :: x ++ b :: y)
    exact (List.Perm.cons a ((List.Perm.cons b ih).trans (List.perm_middle.symm)))
theorem swap_mid (a b c d : List Nat) : ((a ++ b) ++ (c ++ d)).Perm ((a ++ c) ++ (b ++ d)) := by
  rw [List.append_assoc, List.append_assoc]
  refine List.Perm.append_left a ?_
  rw [← List.append_assoc, ← List.append_assoc]
  exact List.Perm.append_right d List.perm_append_comm
theorem parts_perm (x y : List Nat) : ((ev x ++ od y) ++ (od x ++ ev y)).Perm (x ++ y) :=
  (swap_mid _ _ _ _).trans (List.Perm.append (ev_od_perm x) (List.perm_append_comm.trans (ev_od_perm y)))
theorem merge_perm : ∀ (d : Nat) (x y : List Nat), x.length = 2 ^ d → y.length = 2 ^ d → (merge d x y).2.Perm (x ++ y)
  | 0, x, y, hx, hy => inter_perm x y (by rw [hx, hy])
  | d + 1, x, y, hx, hy => by
    rw [pow_succ2] at hx hy
    have h1 := merge_perm d (ev x) (od y) (ev_length _ _ hx) (od_length _ _ hy)
    have h2 := merge_perm d (od x) (ev y) (od_length _ _ hx) (ev_length _ _ hy)
    have hl := (merge_length d (ev x) (od y) (ev_length _ _ hx) (od_length _ _ hy)).trans (merge_length d (od x) (ev y) (od_length _ _ hx) (ev_length _ _ hy)).symm
    exact (inter_perm _ _ hl).trans ((List.Perm.append h1 h2).trans (parts_perm x y))
theorem count_perm : ∀ (d : Nat) (l : List Nat), l.length = 2 ^ d → (count d l).2.Perm l
  | 0, l, h => .refl _
  | d + 1, l, h => by
    rw [pow_succ2] at h
    have l1 : (l.take (2 ^ d)).length = 2 ^ d := by rw [List.length_take]; omega
    have l2 : (l.drop (2 ^ d)).length = 2 ^ d := by rw [List.length_drop]; omega
    have h1 := count_perm d _ l1
    have h2 := count_perm d _ l2
    refine (merge_perm d _ _ (count_length d _ l1) (count_length d _ l2)).trans ((List.Perm.append h1 h2).trans ?_)
    rw [List.take_append_drop]

/-- What passes: how many came by each gate, and how many are upon each wire then. -/
def upd (s : Nat → Nat) (g : Nat × Nat) : Nat → Nat := fun w => if w = g.2 then (s g.1 + s g.2) / 2 else if w = g.1 then (s g.1 + s g.2) - (s g.1 + s g.2) / 2 else s w
def run : List (Nat × Nat) → (Nat → Nat) → (Nat → Nat)
  | [], s => s
  | g :: gs, s => run gs (upd s g)
def cnts : List (Nat × Nat) → (Nat → Nat) → List Nat
  | [], _ => []
  | g :: gs, s => (s g.1 + s g.2) :: cnts gs (upd s g)
theorem run_append : ∀ (a b : List (Nat × Nat)) (s : Nat → Nat), run (a ++ b) s = run b (run a s)
  | [], _, _ => rfl
  | g :: a, b, s => run_append a b (upd s g)
theorem cnts_length : ∀ (gs : List (Nat × Nat)) (s : Nat → Nat), (cnts gs s).length = gs.length
  | [], _ => rfl
  | g :: gs, s => by simp [cnts, cnts_length gs]
/-- The gates join no other wires. -/
def Only (gs : List (Nat × Nat)) (l : List Nat) : Prop := ∀ g ∈ gs, g.1 ∈ l ∧ g.2 ∈ l
theorem run_out : ∀ (gs : List (Nat × Nat)) (l : List Nat) (s : Nat → Nat) (w : Nat), Only gs l → w ∉ l → run gs s w = s w
  | [], _, _, _, _, _ => rfl
  | g :: gs, l, s, w, h, hw => by
    have hg := h g List.mem_cons_self
    rw [run, run_out gs l _ w (fun g hg => h g (List.mem_cons_of_mem _ hg)) hw]
    unfold upd
    rw [if_neg (fun e : w = g.2 => hw (e ▸ hg.2)), if_neg (fun e : w = g.1 => hw (e ▸ hg.1))]
theorem only_zip (x y l : List Nat) (hx : ∀ a ∈ x, a ∈ l) (hy : ∀ a ∈ y, a ∈ l) : Only (x.zip y) l := fun g hg => by
  obtain ⟨h1, h2⟩ := List.of_mem_zip (a := g.1) (b := g.2) hg
  exact ⟨hx _ h1, hy _ h2⟩
theorem merge_only : ∀ (d : Nat) (x y : List Nat), x.length = 2 ^ d → y.length = 2 ^ d → Only (merge d x y).1 (x ++ y)
  | 0, x, y, _, _ => only_zip x y _ (fun a h => List.mem_append_left _ h) (fun a h => List.mem_append_right _ h)
  | d + 1, x, y, hx, hy => by
    rw [pow_succ2] at hx hy
    have h1 := merge_only d (ev x) (od y) (ev_length _ _ hx) (od_length _ _ hy)
    have h2 := merge_only d (od x) (ev y) (od_length _ _ hx) (ev_length _ _ hy)
    have p1 := merge_perm d (ev x) (od y) (ev_length _ _ hx) (od_length _ _ hy)
    have p2 := merge_perm d (od x) (ev y) (od_length _ _ hx) (ev_length _ _ hy)
    have s1 : ∀ a, a ∈ ev x ++ od y → a ∈ x ++ y := fun a h => by
      rcases List.mem_append.1 h with h | h
      · exact List.mem_append_left _ (mem_ev _ _ h)
      · exact List.mem_append_right _ (mem_od _ _ h)
    have s2 : ∀ a, a ∈ od x ++ ev y → a ∈ x ++ y := fun a h => by
      rcases List.mem_append.1 h with h | h
      · exact List.mem_append_left _ (mem_od _ _ h)
      · exact List.mem_append_right _ (mem_ev _ _ h)
    intro g hg
    rcases List.mem_append.1 hg with hg | hg
    · rcases List.mem_append.1 hg with hg | hg
      · exact ⟨s1 _ (h1 g hg).1, s1 _ (h1 g hg).2⟩
      · exact ⟨s2 _ (h2 g hg).1, s2 _ (h2 g hg).2⟩
    · exact only_zip _ _ _ (fun a h => s1 a (p1.mem_iff.1 h)) (fun a h => s2 a (p2.mem_iff.1 h)) g hg
theorem count_only : ∀ (d : Nat) (l : List Nat), l.length = 2 ^ d → Only (count d l).1 l
  | 0, l, _ => fun g hg => by cases hg
  | d + 1, l, h => by
    rw [pow_succ2] at h
    have l1 : (l.take (2 ^ d)).length = 2 ^ d := by rw [List.length_take]; omega
    have l2 : (l.drop (2 ^ d)).length = 2 ^ d := by rw [List.length_drop]; omega
    have h1 := count_only d _ l1
    have h2 := count_only d _ l2
    have h3 := merge_only d _ _ (count_length d _ l1) (count_length d _ l2)
    intro g hg
    rcases List.mem_append.1 hg with hg | hg
    · rcases List.mem_append.1 hg with hg | hg
      · exact ⟨List.mem_of_mem_take (h1 g hg).1, List.mem_of_mem_take (h1 g hg).2⟩
      · exact ⟨List.mem_of_mem_drop (h2 g hg).1, List.mem_of_mem_drop (h2 g hg).2⟩
    · have hh : ∀ a, a ∈ (count d (l.take (2 ^ d))).2 ++ (count d (l.drop (2 ^ d))).2 → a ∈ l := fun a ha => by
        rcases List.mem_append.1 ha with ha | ha
        · exact List.mem_of_mem_take ((count_perm d _ l1).mem_iff.1 ha)
        · exact List.mem_of_mem_drop ((count_perm d _ l2).mem_iff.1 ha)
      exact ⟨hh _ (h3 g hg).1, hh _ (h3 g hg).2⟩

/-- Even: place i of k, of S in all. -/
def E (k S i : Nat) : Nat := (S + (k - 1 - i)) / k
/-- Upon the wires of a list there are S in all, evenly. -/
def Ev (s : Nat → Nat) (k : Nat) (l : List Nat) (S : Nat) : Prop := l.length = k ∧ ∀ i a, l[i]? = some a → s a = E k S i
theorem E_even (m S i : Nat) (hi : i < m) : E (2 * m) S (2 * i) = E m ((S + 1) / 2) i := by
  unfold E
  rw [← Nat.div_div_eq_div_mul]
  congr 1
  omega
theorem E_odd (m S i : Nat) (hi : i < m) : E (2 * m) S (2 * i + 1) = E m (S / 2) i := by
  unfold E
  rw [← Nat.div_div_eq_div_mul]
  congr 1
  omega
theorem E_succ (k S i : Nat) (hk : 0 < k) : E k S i ≤ E k (S + 1) i ∧ E k (S + 1) i ≤ E k S i + 1 := by
  unfold E
  refine ⟨Nat.div_le_div_right (by omega), ?_⟩
  have : (S + 1 + (k - 1 - i)) / k ≤ ((S + (k - 1 - i)) + k) / k := Nat.div_le_div_right (by omega)
  rw [Nat.add_div_right _ hk] at this
  omega
theorem get_lt {l : List Nat} {i a : Nat} (h : l[i]? = some a) : i < l.length := (List.getElem?_eq_some_iff.1 h).1
theorem Ev.even {s : Nat → Nat} {m : Nat} {l : List Nat} {S : Nat} (h : Ev s (2 * m) l S) : Ev s m (ev l) ((S + 1) / 2) :=
  ⟨ev_length _ _ h.1, fun i a ha => by
    have hi := get_lt ha
    rw [ev_length _ _ h.1] at hi
    rw [ev_get] at ha
    rw [h.2 _ _ ha, E_even _ _ _ hi]⟩
theorem Ev.odd {s : Nat → Nat} {m : Nat} {l : List Nat} {S : Nat} (h : Ev s (2 * m) l S) : Ev s m (od l) (S / 2) :=
  ⟨od_length _ _ h.1, fun i a ha => by
    have hi := get_lt ha
    rw [od_length _ _ h.1] at hi
    rw [od_get] at ha
    rw [h.2 _ _ ha, E_odd _ _ _ hi]⟩
theorem Ev.same {s t : Nat → Nat} {k : Nat} {l : List Nat} {S : Nat} (h : Ev s k l S) (he : ∀ a ∈ l, t a = s a) : Ev t k l S :=
  ⟨h.1, fun i a ha => by rw [he a (List.mem_of_getElem? ha), h.2 i a ha]⟩

/-- A row of gates, place by place. -/
theorem run_zip : ∀ (x y : List Nat) (s : Nat → Nat), x.length = y.length → (x ++ y).Nodup → ∀ (i a b : Nat), x[i]? = some a → y[i]? = some b →
    run (x.zip y) s a = (s a + s b) - (s a + s b) / 2 ∧ run (x.zip y) s b = (s a + s b) / 2
  | [], _, _, _, _, _, _, _, h, _ => by simp at h
  | c :: x, [], _, h, _, _, _, _, _, _ => by simp at h
  | c :: x, e :: y, s, hl, hn, i, a, b, ha, hb => by
    have hn' := hn
    rw [List.cons_append, List.nodup_cons] at hn'
    obtain ⟨hc, hn2⟩ := hn'
    have hp : (x ++ e :: y).Perm (e :: (x ++ y)) := List.perm_middle
    have hn3 := hp.nodup_iff.1 hn2
    rw [List.nodup_cons] at hn3
    have hce : c ≠ e := fun h => hc (by rw [h]; exact hp.mem_iff.2 List.mem_cons_self)
    have hcm : c ∉ x ++ y := fun h => hc (hp.mem_iff.2 (List.mem_cons_of_mem _ h))
    have ho : Only (x.zip y) (x ++ y) := only_zip x y _ (fun a h => List.mem_append_left _ h) (fun a h => List.mem_append_right _ h)
    show run (x.zip y) (upd s (c, e)) a = _ ∧ run (x.zip y) (upd s (c, e)) b = _
    cases i with
    | zero =>
      simp at ha hb
      subst ha hb
      rw [run_out _ _ _ _ ho hcm, run_out _ _ _ _ ho hn3.1]
      refine ⟨?_, ?_⟩
      · show (if c = e then _ else if c = c then _ else _) = _
        rw [if_neg hce, if_pos rfl]
      · show (if e = e then _ else _) = _
        rw [if_pos rfl]
    | succ i =>
      simp only [List.getElem?_cons_succ] at ha hb
      have := run_zip x y (upd s (c, e)) (by simpa using hl) hn3.2 i a b ha hb
      have ma : a ∈ x ++ y := List.mem_append_left _ (List.mem_of_getElem? ha)
      have mb : b ∈ x ++ y := List.mem_append_right _ (List.mem_of_getElem? hb)
      have ea : upd s (c, e) a = s a := by
        show (if a = e then _ else if a = c then _ else _) = _
        rw [if_neg (fun h : a = e => hn3.1 (h ▸ ma)), if_neg (fun h : a = c => hcm (h ▸ ma))]
      have eb : upd s (c, e) b = s b := by
        show (if b = e then _ else if b = c then _ else _) = _
        rw [if_neg (fun h : b = e => hn3.1 (h ▸ mb)), if_neg (fun h : b = c => hcm (h ▸ mb))]
      rw [ea, eb] at this
      exact this
/-- The last row: two even lists that are off by at most one. -/
theorem zip_even {s : Nat → Nat} {k A B : Nat} {x y : List Nat} (hk : 0 < k) (hn : (x ++ y).Nodup) (hx : Ev s k x A) (hy : Ev s k y B) (hAB : A = B ∨ A = B + 1 ∨ B = A + 1) :
    Ev (run (x.zip y) s) (2 * k) (inter x y) (A + B) := by
  have hl : x.length = y.length := by rw [hx.1, hy.1]
  refine ⟨inter_length k x y hx.1 hy.1, fun i w hw => ?_⟩
  have hi := get_lt hw
  rw [inter_length k x y hx.1 hy.1] at hi
  obtain ⟨j, hj⟩ : ∃ j, i = 2 * j ∨ i = 2 * j + 1 := ⟨i / 2, by omega⟩
  have hjk : j < k := by omega
  obtain ⟨a, ha⟩ : ∃ a, x[j]? = some a := ⟨_, List.getElem?_eq_getElem (by rw [hx.1]; exact hjk)⟩
  obtain ⟨b, hb⟩ : ∃ b, y[j]? = some b := ⟨_, List.getElem?_eq_getElem (by rw [hy.1]; exact hjk)⟩
  have hz := run_zip x y s hl hn j a b ha hb
  have ea := hx.2 j a ha
  have eb := hy.2 j b hb
  have e1 := E_succ k A j hk
  have e2 := E_succ k B j hk
  rcases hj with rfl | rfl
  · rw [inter_get0 x y j hl, ha] at hw
    cases hw
    rw [hz.1, ea, eb, E_even k _ _ hjk]
    rcases hAB with h | h | h
    · subst h; rw [show (A + A + 1) / 2 = A by omega]; omega
    · subst h; rw [show (B + 1 + B + 1) / 2 = B + 1 by omega]; omega
    · subst h; rw [show (A + (A + 1) + 1) / 2 = A + 1 by omega]; omega
  · rw [inter_get1 x y j hl, hb] at hw
    cases hw
    rw [hz.2, ea, eb, E_odd k _ _ hjk]
    rcases hAB with h | h | h
    · subst h; rw [show (A + A) / 2 = A by omega]; omega
    · subst h; rw [show (B + 1 + B) / 2 = B by omega]; omega
    · subst h; rw [show (A + (A + 1)) / 2 = A by omega]; omega
theorem merge_even : ∀ (d : Nat) (x y : List Nat) (s : Nat → Nat) (X Y : Nat), (x ++ y).Nodup → Ev s (2 ^ d) x X → Ev s (2 ^ d) y Y →
    Ev (run (merge d x y).1 s) (2 * 2 ^ d) (merge d x y).2 (X + Y)
  | 0, x, y, s, X, Y, hn, hx, hy => by
    have hl : x.length = y.length := by rw [hx.1, hy.1]
    obtain ⟨a, rfl⟩ := List.length_eq_one_iff.1 hx.1
    obtain ⟨b, rfl⟩ := List.length_eq_one_iff.1 hy.1
    have ha : s a = X := by have := hx.2 0 a rfl; simpa [E] using this
    have hb : s b = Y := by have := hy.2 0 b rfl; simpa [E] using this
    have hz := run_zip [a] [b] s rfl hn 0 a b rfl rfl
    refine ⟨rfl, fun i w hw => ?_⟩
    show run ([a].zip [b]) s w = _
    match i, hw with
    | 0, hw =>
      have : a = w := by simpa [merge, inter] using hw
      subst this
      rw [hz.1, ha, hb]
      show _ = (X + Y + 1) / 2
      omega
    | 1, hw =>
      have : b = w := by simpa [merge, inter] using hw
      subst this
      rw [hz.2, ha, hb]
      show _ = (X + Y + 0) / 2
      omega
    | i + 2, hw => simp [merge, inter] at hw
  | d + 1, x, y, s, X, Y, hn, hx, hy => by
    rw [pow_succ2] at hx hy
    have hp := parts_perm x y
    have hn2 := hp.nodup_iff.2 hn
    have n1 := (List.nodup_append.1 hn2).1
    have n2 := (List.nodup_append.1 hn2).2.1
    have hd : ∀ a, a ∈ ev x ++ od y → a ∉ od x ++ ev y := fun a h1 h2 => (List.nodup_append.1 hn2).2.2 a h1 a h2 rfl
    have h1 := merge_even d (ev x) (od y) s _ _ n1 hx.even hy.odd
    have o1 := merge_only d (ev x) (od y) hx.even.1 hy.odd.1
    have o2 := merge_only d (od x) (ev y) hx.odd.1 hy.even.1
    have p1 := merge_perm d (ev x) (od y) hx.even.1 hy.odd.1
    have p2 := merge_perm d (od x) (ev y) hx.odd.1 hy.even.1
    have hx2 : Ev (run (merge d (ev x) (od y)).1 s) (2 ^ d) (od x) (X / 2) := hx.odd.same (fun a ha => run_out _ _ _ _ o1 (fun h => hd a h (List.mem_append_left _ ha)))
    have hy2 : Ev (run (merge d (ev x) (od y)).1 s) (2 ^ d) (ev y) ((Y + 1) / 2) := hy.even.same (fun a ha => run_out _ _ _ _ o1 (fun h => hd a h (List.mem_append_right _ ha)))
    have h2 := merge_even d (od x) (ev y) _ _ _ n2 hx2 hy2
    have h1' : Ev (run (merge d (od x) (ev y)).1 (run (merge d (ev x) (od y)).1 s)) (2 * 2 ^ d) (merge d (ev x) (od y)).2 ((X + 1) / 2 + Y / 2) :=
      h1.same (fun a ha => run_out _ _ _ _ o2 (hd a (p1.mem_iff.1 ha)))
    have hnn : ((merge d (ev x) (od y)).2 ++ (merge d (od x) (ev y)).2).Nodup := (List.Perm.append p1 p2).nodup_iff.2 hn2
    have hpos : 0 < 2 * 2 ^ d := by have := Nat.two_pow_pos d; omega
    have h3 := zip_even hpos hnn h1' h2 (by omega)
    rw [pow_succ2]
    show Ev (run (_ ++ _ ++ _) s) _ _ _
    rw [run_append, run_append]
    rw [show X + Y = (X + 1) / 2 + Y / 2 + (X / 2 + (Y + 1) / 2) by omega]
    exact h3
def sum (s : Nat → Nat) : List Nat → Nat
  | [] => 0
  | a :: l => s a + sum s l
theorem sum_append (s : Nat → Nat) : ∀ (a b : List Nat), sum s (a ++ b) = sum s a + sum s b
  | [], b => by simp [sum]
  | x :: a, b => by simp [sum, sum_append s a b]; omega
theorem sum_congr {s t : Nat → Nat} : ∀ (l : List Nat), (∀ a ∈ l, t a = s a) → sum t l = sum s l
  | [], _ => rfl
  | a :: l, h => by simp only [sum]; rw [h a List.mem_cons_self, sum_congr l (fun b hb => h b (List.mem_cons_of_mem _ hb))]
/-- STEP. -/
theorem count_even : ∀ (d : Nat) (l : List Nat) (s : Nat → Nat), l.Nodup → l.length = 2 ^ d → Ev (run (count d l).1 s) (2 ^ d) (count d l).2 (sum s l)
  | 0, l, s, hn, h => by
    obtain ⟨a, rfl⟩ := List.length_eq_one_iff.1 h
    refine ⟨rfl, fun i w hw => ?_⟩
    match i, hw with
    | 0, hw => have : a = w := by simpa [count] using hw
               subst this; simp [count, run, E, sum]
    | i + 1, hw => simp [count] at hw
  | d + 1, l, s, hn, h => by
    rw [pow_succ2] at h
    have l1 : (l.take (2 ^ d)).length = 2 ^ d := by rw [List.length_take]; omega
    have l2 : (l.drop (2 ^ d)).length = 2 ^ d := by rw [List.length_drop]; omega
    have hs : l.take (2 ^ d) ++ l.drop (2 ^ d) = l := List.take_append_drop _ _
    have hn2 : (l.take (2 ^ d) ++ l.drop (2 ^ d)).Nodup := by rw [hs]; exact hn
    obtain ⟨n1, n2, n3⟩ := List.nodup_append.1 hn2
    have hd : ∀ a, a ∈ l.take (2 ^ d) → a ∉ l.drop (2 ^ d) := fun a h1 h2 => n3 a h1 a h2 rfl
    have h1 := count_even d _ s n1 l1
    have h2 := count_even d _ (run (count d (l.take (2 ^ d))).1 s) n2 l2
    have o1 := count_only d _ l1
    have o2 := count_only d _ l2
    have p1 := count_perm d _ l1
    have p2 := count_perm d _ l2
    rw [sum_congr (s := s) _ (fun a ha => run_out _ _ _ _ o1 (fun h => hd a h ha))] at h2
    have h1' := h1.same (t := run (count d (l.drop (2 ^ d))).1 (run (count d (l.take (2 ^ d))).1 s)) (fun a ha => run_out _ _ _ _ o2 (hd a (p1.mem_iff.1 ha)))
    have h3 := merge_even d _ _ _ _ _ ((List.Perm.append p1 p2).nodup_iff.2 hn2) h1' h2
    rw [pow_succ2]
    show Ev (run (_ ++ _ ++ _) s) _ _ _
    rw [run_append, run_append]
    rw [← hs, sum_append]
    rw [hs]
    exact h3

/-- One more upon a wire. -/
def inc (s : Nat → Nat) (w : Nat) : Nat → Nat := fun v => if v = w then s v + 1 else s v
/-- A token on its way: by how many passed each gate. -/
def tok : List (Nat × Nat) → List Nat → Nat → List Nat × Nat
  | g :: gs, c :: cs, w => if g.1 = w ∨ g.2 = w then ((c + 1) :: (tok gs cs (if c % 2 = 0 then g.1 else g.2)).1, (tok gs cs (if c % 2 = 0 then g.1 else g.2)).2) else (c :: (tok gs cs w).1, (tok gs cs w).2)
  | _, cs, w => (cs, w)
theorem upd_b (s : Nat → Nat) (g : Nat × Nat) : upd s g g.2 = (s g.1 + s g.2) / 2 := by unfold upd; rw [if_pos rfl]
theorem upd_a (s : Nat → Nat) (g : Nat × Nat) (h : g.1 ≠ g.2) : upd s g g.1 = (s g.1 + s g.2) - (s g.1 + s g.2) / 2 := by unfold upd; rw [if_neg h, if_pos rfl]
theorem upd_o (s : Nat → Nat) (g : Nat × Nat) (v : Nat) (h1 : v ≠ g.1) (h2 : v ≠ g.2) : upd s g v = s v := by unfold upd; rw [if_neg h2, if_neg h1]
theorem inc_at (s : Nat → Nat) (w : Nat) : inc s w w = s w + 1 := if_pos rfl
theorem inc_o (s : Nat → Nat) (w v : Nat) (h : v ≠ w) : inc s w v = s v := if_neg h
theorem tok_run : ∀ (gs : List (Nat × Nat)) (s : Nat → Nat) (w : Nat), (∀ g ∈ gs, g.1 ≠ g.2) →
    (tok gs (cnts gs s) w).1 = cnts gs (inc s w) ∧ run gs (inc s w) = inc (run gs s) (tok gs (cnts gs s) w).2
  | [], s, w, _ => ⟨rfl, rfl⟩
  | g :: gs, s, w, h => by
    have hg := h g List.mem_cons_self
    have ih := fun s w => tok_run gs s w (fun g hg => h g (List.mem_cons_of_mem _ hg))
    by_cases hw : g.1 = w ∨ g.2 = w
    · have hsum : inc s w g.1 + inc s w g.2 = s g.1 + s g.2 + 1 := by
        unfold inc
        rcases hw with hw | hw
        · subst hw; rw [if_pos rfl, if_neg (Ne.symm hg)]; omega
        · subst hw; rw [if_neg hg, if_pos rfl]; omega
      have hupd : upd (inc s w) g = inc (upd s g) (if (s g.1 + s g.2) % 2 = 0 then g.1 else g.2) := by
        funext v
        by_cases h2 : v = g.2
        · subst h2
          rw [upd_b, hsum]
          by_cases h3 : (s g.1 + s g.2) % 2 = 0
          · rw [if_pos h3, inc_o _ _ _ (Ne.symm hg), upd_b]; omega
          · rw [if_neg h3, inc_at, upd_b]; omega
        · by_cases h1 : v = g.1
          · subst h1
            rw [upd_a _ _ hg, hsum]
            by_cases h3 : (s g.1 + s g.2) % 2 = 0
            · rw [if_pos h3, inc_at, upd_a _ _ hg]; omega
            · rw [if_neg h3, inc_o _ _ _ hg, upd_a _ _ hg]; omega
          · have h0 : v ≠ w := fun e => by
              rcases hw with hw | hw
              · exact h1 (e.trans hw.symm)
              · exact h2 (e.trans hw.symm)
            rw [upd_o _ _ _ h1 h2, inc_o _ _ _ h0]
            by_cases h3 : (s g.1 + s g.2) % 2 = 0
            · rw [if_pos h3, inc_o _ _ _ h1, upd_o _ _ _ h1 h2]
            · rw [if_neg h3, inc_o _ _ _ h2, upd_o _ _ _ h1 h2]
      simp only [cnts, tok, run, if_pos hw, hsum, hupd]
      have := ih (upd s g) (if (s g.1 + s g.2) % 2 = 0 then g.1 else g.2)
      exact ⟨by rw [this.1], this.2⟩
    · have h1 : g.1 ≠ w := fun e => hw (.inl e)
      have h2 : g.2 ≠ w := fun e => hw (.inr e)
      have hupd : upd (inc s w) g = inc (upd s g) w := by
        funext v
        have s1 : inc s w g.1 = s g.1 := inc_o _ _ _ h1
        have s2 : inc s w g.2 = s g.2 := inc_o _ _ _ h2
        by_cases e2 : v = g.2
        · subst e2; rw [upd_b, s1, s2, inc_o _ _ _ h2, upd_b]
        · by_cases e1 : v = g.1
          · subst e1; rw [upd_a _ _ e2, s1, s2, inc_o _ _ _ h1, upd_a _ _ e2]
          · rw [upd_o _ _ _ e1 e2]
            by_cases e0 : v = w
            · subst e0; rw [inc_at, inc_at, upd_o _ _ _ e1 e2]
            · rw [inc_o _ _ _ e0, inc_o _ _ _ e0, upd_o _ _ _ e1 e2]
      have hsum : inc s w g.1 + inc s w g.2 = s g.1 + s g.2 := by unfold inc; rw [if_neg h1, if_neg h2]
      simp only [cnts, tok, run, if_neg hw, hsum, hupd]
      have := ih (upd s g) w
      exact ⟨by rw [this.1], this.2⟩
/-- Where two even lists part that are off by one. -/
theorem E_next (k n j : Nat) (hj : j < k) : E k (n + 1) j = if j = n % k then E k n j + 1 else E k n j := by
  have hk : 0 < k := by omega
  have hr : n % k < k := Nat.mod_lt _ hk
  have hn : n = k * (n / k) + n % k := (Nat.div_add_mod n k).symm
  generalize hq : n / k = q at hn
  generalize hm : n % k = r at hn hr ⊢
  unfold E
  subst hn
  have a1 : ∀ t, (k * q + t) / k = q + t / k := fun t => by rw [Nat.mul_add_div hk]
  rw [show k * q + r + 1 + (k - 1 - j) = k * q + (r + 1 + (k - 1 - j)) by omega, show k * q + r + (k - 1 - j) = k * q + (r + (k - 1 - j)) by omega, a1, a1]
  by_cases h : j = r
  · rw [if_pos h]
    subst h
    rw [show j + 1 + (k - 1 - j) = k by omega, show j + (k - 1 - j) = k - 1 by omega, Nat.div_self hk, Nat.div_eq_of_lt (by omega)]
  · rw [if_neg h]
    by_cases h2 : j < r
    · have e1 : (r + 1 + (k - 1 - j)) / k = 1 := by rw [Nat.div_eq_iff (by omega)]; omega
      have e2 : (r + (k - 1 - j)) / k = 1 := by rw [Nat.div_eq_iff (by omega)]; omega
      rw [e1, e2]
    · rw [Nat.div_eq_of_lt (by omega), Nat.div_eq_of_lt (by omega)]
/-- As many at each wire as at most there were at one. -/
theorem run_le : ∀ (gs : List (Nat × Nat)) (s : Nat → Nat) (M : Nat), (∀ v, s v ≤ M) → ∀ v, run gs s v ≤ M
  | [], _, _, h, v => h v
  | g :: gs, s, M, h, v => run_le gs (upd s g) M (fun u => by
      unfold upd
      have := h g.1; have := h g.2; have := h u
      split
      · omega
      · split <;> omega) v
end Wr
end Go.Proofs.Ytbcmilfajeanbaa

namespace Go.Proofs.Ytbcmilfajeanbaa
open Go.RowKit Go.Sort

/-- Numbers in a row, in a block that is none of some. -/
def NsAt (w : World) (a : Option Addr) (S : Nat → Prop) (l : List Nat) : Prop :=
  ∀ (i v : Nat), l[i]? = some v → ∃ (b off : Nat), a = some ⟨b, off, none⟩ ∧ b < w.heap.size ∧ ¬ S b ∧ w.cell? ⟨b, off + i, none⟩ = some (.int .i64 (v : Int))
theorem NsAt.but {w w' : World} {a : Option Addr} {S T : Nat → Prop} {l : List Nat} (h : NsAt w a S l) (hb : But S w w') (hT : ∀ j, T j → S j ∨ w.heap.size ≤ j) : NsAt w' a T l := fun i v hv => by
  obtain ⟨b, off, h1, h2, h3, h4⟩ := h i v hv
  refine ⟨b, off, h1, Nat.lt_of_lt_of_le h2 hb.size, fun e => ?_, by rw [hb.cell (p := ⟨b, off + i, none⟩) h2 h3]; exact h4⟩
  rcases hT b e with h | h
  · exact h3 h
  · omega
theorem NsAt.below {w w' : World} {a : Option Addr} {S : Nat → Prop} {l : List Nat} (h : NsAt w a S l) (hb : Below w.heap.size w w') : NsAt w' a S l := h.but (But.of_below hb) (fun _ e => .inl e)
theorem NsAt.mono {w : World} {a : Option Addr} {S T : Nat → Prop} {l : List Nat} (h : NsAt w a S l) (hT : ∀ j, j < w.heap.size → T j → S j) : NsAt w a T l := fun i v hv => by
  obtain ⟨b, off, h1, h2, h3, h4⟩ := h i v hv
  exact ⟨b, off, h1, h2, fun e => h3 (hT b h2 e), h4⟩
def vals (l : List Nat) : List Value := l.map (fun (n : Nat) => Value.int .i64 (n : Int))
theorem vals_length (l : List Nat) : (vals l).length = l.length := by simp [vals]
theorem vals_one (l : List Nat) : ∀ u ∈ vals l, u.oneCell' = true := by
  intro u hu
  simp only [vals, List.mem_map] at hu
  obtain ⟨n, _, rfl⟩ := hu
  rfl
theorem nsAt_of {w : World} {a : Option Addr} {cap n : Nat} {S : Nat → Prop} {l : List Nat} (h : SlAt 1 w a cap n (vals l)) (hS : ∀ j, inB a j → ¬ S j) : NsAt w a S l := fun i v hv => by
  obtain ⟨g, h1, h2, h3⟩ := h.cell (t := i) (u := .int .i64 (v : Int)) (by simp [vals, hv])
  exact ⟨g, 0, h1, h2, hS g ⟨_, h1, rfl⟩, by rw [Nat.zero_add]; exact h3⟩
theorem plainN : PlainK Try.prog 1 66 3 := by
  have h : (Try.prog.info? 3).map (fun i => (i.zero, i.size, i.bytes)) = some (some (.int .i64 0), 1, 8) := by kernel_rfl
  obtain ⟨i, hi, he⟩ := Option.map_eq_some_iff.1 h
  simp only [Prod.mk.injEq] at he
  exact ⟨i, _, Try.underlying66, hi, he.1, he.2.1, rfl, by rw [he.2.2]; decide⟩

open Wr in
theorem ev_len : ∀ (n : Nat) (l : List Nat), l.length ≤ n → (ev l).length = (l.length + 1) / 2
  | _, [], _ => rfl
  | _, [a], _ => by simp [ev]
  | 0, a :: b :: l, h => by simp at h
  | n + 1, a :: b :: l, h => by
    simp only [ev, List.length_cons] at h ⊢
    rw [ev_len n l (by omega)]
    omega

/-- What holds between two rounds. -/
def EvR (w : World) (L : List Nat) (oa : Option Addr) (oc k : Nat) (wr : World) : Prop :=
  SlAt 1 wr oa oc k (vals (L.take k)) ∧ (∀ j, inB oa j → w.heap.size ≤ j) ∧ Below w.heap.size w wr
theorem EvR.next {w wr w1 w2 : World} {L : List Nat} {oa : Option Addr} {oc k v : Nat} {g2 c2 : Nat} (h : EvR w L oa oc k wr) (hv : L[k]? = some v) (hb1 : Below wr.heap.size wr w1)
    (hF : Flat 1 w2 g2 c2 (k + 1) (vals (L.take k) ++ [.int .i64 (v : Int)])) (hb : But (inB oa) w1 w2) (hg : inB oa g2 ∨ w1.heap.size ≤ g2) : EvR w L (some ⟨g2, 0, none⟩) c2 (k + 1) w2 := by
  obtain ⟨h1, h2, h3⟩ := h
  have hs := h3.size
  have hs1 := hb1.size
  refine ⟨.inr ⟨g2, rfl, ?_⟩, ?_, ?_⟩
  · have e : vals (L.take (k + 1)) = vals (L.take k) ++ [.int .i64 (v : Int)] := by
      rw [List.take_add_one, hv]; simp [vals]
    rw [e]; exact hF
  · rintro j ⟨x, hx, rfl⟩
    cases hx
    rcases hg with h | h
    · exact h2 _ h
    · show w.heap.size ≤ g2; omega
  · exact (h3.trans (hb1.mono hs)).trans (hb.below (by omega) (fun j hj => h2 j hj))

set_option maxRecDepth 20000 in
set_option maxHeartbeats 1000000 in
theorem every_any (w : World) (a : Option Addr) (c f n : Nat) (S : Nat → Prop) (l : List Nat) (hf : f ≤ 1) (hn : l.length = n) (h : NsAt w a S l) (hl : n ≤ 64) :
    Calls Try.prog 131 #[.slice a n c, .int .i64 (f : Int)] w fun e w' => ∃ oa oc m, e = .returned (.slice oa m oc) ∧ (Wr.ev (l.drop f)).length = m ∧ NsAt w' oa (fun j => j < w.heap.size) (Wr.ev (l.drop f)) ∧ Below w.heap.size w w' := by
  obtain ⟨L, hL⟩ : ∃ L, Wr.ev (l.drop f) = L := ⟨_, rfl⟩
  have hlen : L.length = (n - f + 1) / 2 := by rw [← hL, ev_len _ _ (Nat.le_refl _), List.length_drop, hn]
  have hget : ∀ k, f + 2 * k < n → ∃ v, L[k]? = some v ∧ l[f + 2 * k]? = some v := fun k hk => by
    have : l[f + 2 * k]? = some (l[f + 2 * k]'(by omega)) := List.getElem?_eq_getElem (by omega)
    refine ⟨_, ?_, this⟩
    rw [← hL, Wr.ev_get, List.getElem?_drop]
    exact this
  rw [hL]
  have H := hidq h
  have HG := hidq hget
  have HL := hidq hlen
  clear h hget hlen hL hn
  go_enter Try.func131, Try.ntmps131
  go_wp2_with fail
  go_loopw [5, 6] (fun s5 s6 wr => ∃ (k : Nat) (oa : Option Addr) (oc : Nat), s6 = .int .i64 ((f + 2 * k : Nat) : Int) ∧ f + 2 * k ≤ n + 1 ∧ k ≤ L.length ∧ s5 = .slice oa k oc ∧ Hid (EvR w L oa oc k wr)) (fun _ s6 _ => n + 1 - (intOf s6).toNat)
  case atStart => exact ⟨0, none, 0, rfl, by have := HL.out; omega, Nat.zero_le _, rfl, ⟨SlAt.nil _ _, (fun j e => by obtain ⟨x, hx, _⟩ := e; cases hx), Below.refl _ _⟩⟩
  case round =>
    obtain ⟨k, oa, oc, rfl, hk1, hk2, rfl, hR⟩ := hrel
    by_cases hlt : f + 2 * k < n
    · obtain ⟨v, hv1, hv2⟩ := HG.out k hlt
      obtain ⟨b, off, ha, hbl, _, hc⟩ := (H.out.below (S := S) hR.out.2.2) _ _ hv2
      subst ha
      have hltI : ((f + 2 * k : Nat) : Int) < (n : Int) := by omega
      have hlt2 : k + 1 ≤ L.length := by have := (List.getElem?_eq_some_iff.1 hv1).1; omega
      have HV := hidq hv1
      have hkb : k ≤ 64 := by omega
      generalize hi : f + 2 * k = i at *
      have HI := hidq hi
      clear hv1 hv2 hi
      have hib : i ≤ 64 := by omega
      go_wp2_with (at_builtin; refine wpList_sl plainN _ rfl (.tmp 14) (.tmp 19) rfl oa oc k _ rfl (hR.out.1.below ((Below.refl _ _).alloc (Nat.le_refl _) _)) _ rfl 1 [.int .i64 (v : Int)] (src_new 1 _ Try.underlying66 wr.heap.size [.int .i64 (v : Int)] rfl (fun j u hu => by rw [World.cell?_alloc_new]; simpa using hu) (by intro u hu; simp at hu; subst hu; rfl)) (by omega) (by omega) ?_; intro g2 c2 w2 hF2 hb2 hg2)
      go_roundw
      case rel => exact ⟨k + 1, some ⟨g2, 0, none⟩, c2, by rw [show f + 2 * (k + 1) = i + 2 by have := HI.out; omega]; go_num, by have := HI.out; omega, by omega, rfl, hR.out.next HV.out ((Below.refl _ _).alloc (Nat.le_refl _) _) hF2 hb2 hg2⟩
      case measure => simp [intOf]; omega
    · have hd : decide (((f + 2 * k : Nat) : Int) < (n : Int)) = false := decide_eq_false (by omega)
      have hd2 : decide (f + 2 * k < n) = false := decide_eq_false (by omega)
      have hkl : L.length = k := by have := HL.out; omega
      go_wp2
      go_ret
      obtain ⟨h01, h02, h03⟩ := hR.out
      rw [List.take_of_length_le (by omega)] at h01
      exact ⟨oa, oc, k, rfl, hkl, nsAt_of h01 (fun j hj e => by have := h02 j hj; omega), h03⟩
end Go.Proofs.Ytbcmilfajeanbaa

namespace Go.Proofs.Ytbcmilfajeanbaa
open Go.RowKit Go.Sort

def flatG (G : List (Nat × Nat)) : List Value := G.flatMap (fun g => [.int .i64 (g.1 : Int), .int .i64 (g.2 : Int)])
theorem flatG_snoc (G : List (Nat × Nat)) (a b : Nat) : flatG (G ++ [(a, b)]) = flatG G ++ [.int .i64 (a : Int), .int .i64 (b : Int)] := by simp [flatG]
theorem plainG : PlainK Try.prog 2 120 186 := by
  have h : (Try.prog.info? 186).map (fun i => (i.zero, i.size, i.bytes)) = some (some (.agg #[.int .i64 0, .int .i64 0]), 2, 16) := by kernel_rfl
  obtain ⟨i, hi, he⟩ := Option.map_eq_some_iff.1 h
  simp only [Prod.mk.injEq] at he
  exact ⟨i, _, Try.underlying120, hi, he.1, he.2.1, rfl, by rw [he.2.2]; decide⟩
/-- The blocks of a plan. -/
def pset (pb : Nat) (ga : Option Addr) (j : Nat) : Prop := j = pb ∨ inB ga j
/-- A plan at a block: its gates. -/
structure PlanAt (w : World) (pb : Nat) (ga : Option Addr) (gc : Nat) (wd : Int) (m : Nat) (oa : Option Addr) (on oc : Nat) (G : List (Nat × Nat)) : Prop where
  box : BoxAt w pb [.int .i64 wd, .slice ga m gc, .slice oa on oc]
  sl : SlAt 2 w ga gc m (flatG G)
  len : G.length = m
  ne : ¬ inB ga pb
theorem PlanAt.below {w w' : World} {pb : Nat} {ga : Option Addr} {gc : Nat} {wd : Int} {m : Nat} {oa : Option Addr} {on oc : Nat} {G : List (Nat × Nat)} (h : PlanAt w pb ga gc wd m oa on oc G) (hb : Below w.heap.size w w') : PlanAt w' pb ga gc wd m oa on oc G :=
  ⟨h.box.below hb, h.sl.below hb, h.len, h.ne⟩
theorem PlanAt.but {S : Nat → Prop} {w w' : World} {pb : Nat} {ga : Option Addr} {gc : Nat} {wd : Int} {m : Nat} {oa : Option Addr} {on oc : Nat} {G : List (Nat × Nat)} (h : PlanAt w pb ga gc wd m oa on oc G) (hb : But S w w') (hS : ∀ j, pset pb ga j → ¬ S j) : PlanAt w' pb ga gc wd m oa on oc G :=
  ⟨h.box.but hb (hS pb (.inl rfl)), h.sl.but hb (fun j hj => hS j (.inr hj)), h.len, h.ne⟩
theorem PlanAt.lt {w : World} {pb : Nat} {ga : Option Addr} {gc : Nat} {wd : Int} {m : Nat} {oa : Option Addr} {on oc : Nat} {G : List (Nat × Nat)} (h : PlanAt w pb ga gc wd m oa on oc G) : ∀ j, pset pb ga j → j < w.heap.size := by
  rintro j (rfl | hj)
  · exact h.box.lt
  · exact h.sl.lt j hj
/-- One gate more. -/
def JEnd (W0 : World) (pb : Nat) (ga : Option Addr) (wd : Int) (m : Nat) (oa : Option Addr) (on oc : Nat) (G : List (Nat × Nat)) (w : World) : Prop :=
  ∃ ga' gc', PlanAt w pb ga' gc' wd (m + 1) oa on oc G ∧ (∀ j, inB ga' j → inB ga j ∨ W0.heap.size ≤ j)
/-- What a call leaves. -/
def PEnd (pb : Nat) (ga : Option Addr) (w : World) (ga' : Option Addr) (w' : World) : Prop :=
  But (pset pb ga) w w' ∧ ∀ j, pset pb ga' j → pset pb ga j ∨ w.heap.size ≤ j
theorem PEnd.refl (pb : Nat) (ga : Option Addr) (w : World) : PEnd pb ga w ga w := ⟨But.refl _ _, fun _ h => .inl h⟩
theorem PEnd.below {pb : Nat} {ga : Option Addr} {w w' : World} (h : Below w.heap.size w w') : PEnd pb ga w ga w' := ⟨But.of_below h, fun _ h => .inl h⟩
theorem PEnd.trans {pb : Nat} {ga ga1 ga2 : Option Addr} {w w1 w2 : World} (h : PEnd pb ga w ga1 w1) (k : PEnd pb ga1 w1 ga2 w2) : PEnd pb ga w ga2 w2 :=
  ⟨h.1.then k.1 (fun i hi hj => (h.2 i hj).elim id (fun e => by omega)), fun j hj => (k.2 j hj).elim (fun e => h.2 j e) (fun e => .inr (Nat.le_trans h.1.size e))⟩

def join5R (pb m gc on oc n xc yc xb xo yb yo k lo a b : Nat) (ga oa : Option Addr) (wd : Int) (G : List (Nat × Nat)) : List (Value → Nat → World → Prop) :=
  [fun v _ _ => v = .pointer (some ⟨pb, 0, none⟩),
   fun v _ _ => v = .pointer (some ⟨pb, 0, none⟩),
   fun v _ _ => v = .pointer (some ⟨pb, 0, none⟩),
   fun v _ _ => v = .pointer (some ⟨pb, 1, none⟩),
   fun v _ _ => v = .slice ga m gc,
   fun v _ _ => v = .slice (some ⟨xb, xo, none⟩) n xc,
   fun v _ _ => v = .int .i64 (k : Int),
   fun v _ _ => v = .pointer (some ⟨xb, xo + k, none⟩),
   fun v _ _ => v = .int .i64 (a : Int),
   fun v _ _ => v = .slice (some ⟨yb, yo, none⟩) n yc,
   fun v _ _ => v = .int .i64 (k : Int),
   fun v _ _ => v = .pointer (some ⟨yb, yo + k, none⟩),
   fun v _ _ => v = .int .i64 (b : Int),
   fun v _ _ => v = .agg #[.int .i64 (a : Int), .int .i64 (b : Int)],
   fun v _ w => ∃ g, v = .slice (some ⟨g, 0, none⟩) 1 1 ∧ BoxAt w g [.int .i64 (a : Int), .int .i64 (b : Int)] ∧ lo ≤ g ∧ ¬ pset pb ga g,
   fun v x w => 1 ≤ x ∧ ∃ g c, v = .slice (some ⟨g, 0, none⟩) (m + 1) c ∧ (x = 1 → Flat 2 w g c (m + 1) (flatG (G ++ [(a, b)])) ∧ BoxAt w pb [.int .i64 wd, .slice ga m gc, .slice oa on oc] ∧ g ≠ pb ∧ (inB ga g ∨ lo ≤ g)),
   fun v _ _ => v = .pointer (some ⟨pb, 0, none⟩),
   fun v _ _ => v = .pointer (some ⟨pb, 1, none⟩),
   fun _ _ _ => True]
theorem join5R_kept (pb m gc on oc n xc yc xb xo yb yo k lo a b : Nat) (ga oa : Option Addr) (wd : Int) (G : List (Nat × Nat)) : Reg.GAllKept (Reg.PPres (pset pb ga)) (join5R pb m gc on oc n xc yc xb xo yb yo k lo a b ga oa wd G) :=
  ⟨(fun _ _ _ _ _ _ h => h), (fun _ _ _ _ _ _ h => h), (fun _ _ _ _ _ _ h => h), (fun _ _ _ _ _ _ h => h), (fun _ _ _ _ _ _ h => h), (fun _ _ _ _ _ _ h => h), (fun _ _ _ _ _ _ h => h), (fun _ _ _ _ _ _ h => h), (fun _ _ _ _ _ _ h => h), (fun _ _ _ _ _ _ h => h), (fun _ _ _ _ _ _ h => h), (fun _ _ _ _ _ _ h => h), (fun _ _ _ _ _ _ h => h), (fun _ _ _ _ _ _ h => h), (fun v x w x' w' hp h => by obtain ⟨g, h1, h2, h3, h4⟩ := h; exact ⟨g, h1, h2.but hp.2.2 h4, h3, h4⟩), (fun v x w x' w' hp h => by obtain ⟨h0, g, c, h1, h2⟩ := h; refine ⟨Nat.le_trans h0 hp.1, g, c, h1, fun e => ?_⟩; have hx := hp.1; have hxe : x' = x := (by omega); have hB := hp.2.1 hxe; obtain ⟨q1, q2, q3, q4⟩ := h2 (by omega); exact ⟨q1.but (S := fun _ => False) (But.of_below hB) id, q2.below hB, q3, q4⟩), (fun _ _ _ _ _ _ h => h), (fun _ _ _ _ _ _ h => h), (fun _ _ _ _ _ _ _ => trivial), trivial⟩
def join6R (n xc yc xb xo yb yo k l2 a b rn rc : Nat) (ra : Option Addr) (RL : List Value) : List (Value → Nat → World → Prop) :=
  [fun v _ _ => v = .slice ra rn rc,
   fun v _ _ => v = .slice (some ⟨xb, xo, none⟩) n xc,
   fun v _ _ => v = .int .i64 (k : Int),
   fun v _ _ => v = .pointer (some ⟨xb, xo + k, none⟩),
   fun v _ _ => v = .int .i64 (a : Int),
   fun v _ _ => v = .slice (some ⟨yb, yo, none⟩) n yc,
   fun v _ _ => v = .int .i64 (k : Int),
   fun v _ _ => v = .pointer (some ⟨yb, yo + k, none⟩),
   fun v _ _ => v = .int .i64 (b : Int),
   fun v _ w => ∃ g, v = .slice (some ⟨g, 0, none⟩) 2 2 ∧ BoxAt w g [.int .i64 (a : Int), .int .i64 (b : Int)] ∧ l2 ≤ g ∧ ¬ inB ra g,
   fun v x w => 1 ≤ x ∧ ∃ g c, v = .slice (some ⟨g, 0, none⟩) (rn + 2) c ∧ (x = 1 → Flat 1 w g c (rn + 2) (RL ++ [.int .i64 (a : Int), .int .i64 (b : Int)]) ∧ (inB ra g ∨ l2 ≤ g)),
   fun v x w => 1 ≤ x ∧ ∃ g c, v = .slice (some ⟨g, 0, none⟩) (rn + 2) c ∧ (x = 1 → Flat 1 w g c (rn + 2) (RL ++ [.int .i64 (a : Int), .int .i64 (b : Int)]) ∧ (inB ra g ∨ l2 ≤ g))]
theorem join6R_kept (n xc yc xb xo yb yo k l2 a b rn rc : Nat) (ra : Option Addr) (RL : List Value) : Reg.GAllKept (Reg.PPres (inB ra)) (join6R n xc yc xb xo yb yo k l2 a b rn rc ra RL) :=
  ⟨(fun _ _ _ _ _ _ h => h), (fun _ _ _ _ _ _ h => h), (fun _ _ _ _ _ _ h => h), (fun _ _ _ _ _ _ h => h), (fun _ _ _ _ _ _ h => h), (fun _ _ _ _ _ _ h => h), (fun _ _ _ _ _ _ h => h), (fun _ _ _ _ _ _ h => h), (fun _ _ _ _ _ _ h => h), (fun v x w x' w' hp h => by obtain ⟨g, h1, h2, h3, h4⟩ := h; exact ⟨g, h1, h2.but hp.2.2 h4, h3, h4⟩), (fun v x w x' w' hp h => by obtain ⟨h0, g, c, h1, h2⟩ := h; refine ⟨Nat.le_trans h0 hp.1, g, c, h1, fun e => ?_⟩; have hx := hp.1; have hxe : x' = x := (by omega); have hB := hp.2.1 hxe; obtain ⟨q1, q2⟩ := h2 (by omega); exact ⟨q1.but (S := fun _ => False) (But.of_below hB) id, q2⟩), (fun v x w x' w' hp h => by obtain ⟨h0, g, c, h1, h2⟩ := h; refine ⟨Nat.le_trans h0 hp.1, g, c, h1, fun e => ?_⟩; have hx := hp.1; have hxe : x' = x := (by omega); have hB := hp.2.1 hxe; obtain ⟨q1, q2⟩ := h2 (by omega); exact ⟨q1.but (S := fun _ => False) (But.of_below hB) id, q2⟩), trivial⟩

/-- What holds between two rounds. -/
def JR (w : World) (pb : Nat) (ga : Option Addr) (wd : Int) (m : Nat) (oa : Option Addr) (on oc : Nat) (G : List (Nat × Nat)) (x y : List Nat) (k : Nat) (ra : Option Addr) (rc : Nat) (wr : World) : Prop :=
  ∃ ga' gc', PlanAt wr pb ga' gc' wd (m + k) oa on oc (G ++ (x.take k).zip (y.take k)) ∧ PEnd pb ga w ga' wr ∧ SlAt 1 wr ra rc (2 * k) (vals (Wr.inter (x.take k) (y.take k))) ∧ (∀ j, inB ra j → w.heap.size ≤ j ∧ ¬ pset pb ga' j)
theorem zip_snoc {x y : List Nat} {k a b : Nat} (hx : x[k]? = some a) (hy : y[k]? = some b) : (x.take (k + 1)).zip (y.take (k + 1)) = (x.take k).zip (y.take k) ++ [(a, b)] := by
  have h1 := (List.getElem?_eq_some_iff.1 hx).1
  have h2 := (List.getElem?_eq_some_iff.1 hy).1
  rw [List.take_add_one, List.take_add_one, hx, hy]
  exact List.zip_append (by rw [List.length_take, List.length_take]; omega)
theorem inter_snoc : ∀ (x y : List Nat) (a b : Nat), x.length = y.length → Wr.inter (x ++ [a]) (y ++ [b]) = Wr.inter x y ++ [a, b]
  | [], [], a, b, _ => rfl
  | [], _ :: _, a, b, h => by simp at h
  | _ :: _, [], a, b, h => by simp at h
  | p :: x, q :: y, a, b, h => by
    show p :: q :: Wr.inter (x ++ [a]) (y ++ [b]) = p :: q :: (Wr.inter x y ++ [a, b])
    rw [inter_snoc x y a b (by simpa using h)]
theorem inter_take {x y : List Nat} {k a b : Nat} (hx : x[k]? = some a) (hy : y[k]? = some b) : Wr.inter (x.take (k + 1)) (y.take (k + 1)) = Wr.inter (x.take k) (y.take k) ++ [a, b] := by
  have h1 := (List.getElem?_eq_some_iff.1 hx).1
  have h2 := (List.getElem?_eq_some_iff.1 hy).1
  rw [List.take_add_one, List.take_add_one, hx, hy]
  exact inter_snoc _ _ a b (by rw [List.length_take, List.length_take]; omega)
/-- How a row of gates, or more, ends. -/
def JoinEnd (qa : Option Addr) (w : World) (pb : Nat) (ga : Option Addr) (wd : Int) (m : Nat) (oa : Option Addr) (on oc : Nat) (G G2 : List (Nat × Nat)) (out : List Nat) (e : Ending) (w' : World) : Prop :=
  ∃ ga' gc' ra rc n', e = .returned (.slice ra n' rc) ∧ out.length = n' ∧ PlanAt w' pb ga' gc' wd (m + G2.length) oa on oc (G ++ G2) ∧ PEnd pb ga w ga' w' ∧ NsAt w' ra (pset pb ga') out ∧ (∀ j, inB ra j → inB qa j ∨ w.heap.size ≤ j)

theorem JR.next {w W0 wz wz2 : World} {pb : Nat} {ga0 ga : Option Addr} {wd : Int} {m0 m : Nat} {oa : Option Addr} {on oc : Nat} {G0 G : List (Nat × Nat)} {x y : List Nat} {k a b : Nat} {ra : Option Addr} {rc g c : Nat}
    (hE1 : PEnd pb ga0 w ga W0) (hJ : JEnd W0 pb ga wd m oa on oc (G ++ [(a, b)]) wz) (hBz : But (pset pb ga) W0 wz) (hS1 : SlAt 1 W0 ra rc (2 * k) (vals (Wr.inter (x.take k) (y.take k)))) (hN1 : ∀ j, inB ra j → w.heap.size ≤ j ∧ ¬ pset pb ga j)
    (hxa : x[k]? = some a) (hyb : y[k]? = some b) (hm : m0 + k = m) (hG : G0 ++ (x.take k).zip (y.take k) = G)
    (hF : Flat 1 wz2 g c (2 * k + 2) (vals (Wr.inter (x.take k) (y.take k)) ++ [.int .i64 (a : Int), .int .i64 (b : Int)])) (hB2 : But (inB ra) wz wz2) (hg : inB ra g ∨ wz.heap.size ≤ g) :
    JR w pb ga0 wd m0 oa on oc G0 x y (k + 1) (some ⟨g, 0, none⟩) c wz2 := by
  obtain ⟨ga', gc', hP, hga⟩ := hJ
  have s1 := hE1.1.size
  have s2 := hBz.size
  have hps : ∀ j, pset pb ga' j → ¬ inB ra j := by
    rintro j (rfl | hj) hr
    · exact (hN1 _ hr).2 (.inl rfl)
    · rcases hga j hj with h | h
      · exact (hN1 _ hr).2 (.inr h)
      · have := hS1.lt j hr; omega
  refine ⟨ga', gc', ?_, ?_, .inr ⟨g, rfl, ?_⟩, ?_⟩
  · have e : G0 ++ (x.take (k + 1)).zip (y.take (k + 1)) = G ++ [(a, b)] := by rw [zip_snoc hxa hyb, ← List.append_assoc, hG]
    rw [e, ← Nat.add_assoc, hm]
    exact hP.but hB2 hps
  · have h1 : PEnd pb ga0 w ga' wz := hE1.trans ⟨hBz, fun j hj => by
      rcases hj with rfl | hj
      · exact .inl (.inl rfl)
      · exact (hga j hj).imp .inr id⟩
    exact ⟨h1.1.then hB2 (fun i hi hj => by have := (hN1 i hj).1; omega), h1.2⟩
  · rw [inter_take hxa hyb]
    have e : vals (Wr.inter (x.take k) (y.take k) ++ [a, b]) = vals (Wr.inter (x.take k) (y.take k)) ++ [.int .i64 (a : Int), .int .i64 (b : Int)] := by simp [vals]
    rw [e]; exact hF
  · rintro j ⟨z, hz, rfl⟩
    cases hz
    rcases hg with h | h
    · exact ⟨(hN1 _ h).1, fun e => hps _ e h⟩
    · exact ⟨by show w.heap.size ≤ g; omega, fun e => by have h1 : g < wz.heap.size := hP.lt _ e; omega⟩

set_option maxRecDepth 20000 in
set_option maxHeartbeats 8000000 in
theorem join_any (w : World) (pb : Nat) (ga0 : Option Addr) (gc0 : Nat) (wd : Int) (m0 : Nat) (oa : Option Addr) (on oc : Nat) (G0 : List (Nat × Nat)) (xa ya : Option Addr) (xc yc n : Nat) (x y : List Nat)
    (hP : PlanAt w pb ga0 gc0 wd m0 oa on oc G0) (hx : NsAt w xa (pset pb ga0) x) (hy : NsAt w ya (pset pb ga0) y) (hlx : x.length = n) (hly : y.length = n) (hn : n ≤ 64) (hm : m0 ≤ 1000) :
    Calls Try.prog 130 #[.pointer (some ⟨pb, 0, none⟩), .slice xa n xc, .slice ya n yc] w (JoinEnd none w pb ga0 wd m0 oa on oc G0 (x.zip y) (Wr.inter x y)) := by
  have HX := hidq hx
  have HY := hidq hy
  have HLX := hidq hlx
  have HLY := hidq hly
  have H0 := hidq (show JR w pb ga0 wd m0 oa on oc G0 x y 0 none 0 w from ⟨ga0, gc0, by simpa using hP, PEnd.refl _ _ _, by simpa [vals, Wr.inter] using SlAt.nil 1 w, fun j e => by obtain ⟨z, hz, _⟩ := e; cases hz⟩)
  clear hP hx hy hlx hly
  go_enter Try.func130, Try.ntmps130
  go_wp2_with fail
  go_loopw [7, 11] (fun s7 s11 wr => ∃ (k : Nat) (ra : Option Addr) (rc : Nat), s11 = .int .i64 (k : Int) ∧ k ≤ n ∧ s7 = .slice ra (2 * k) rc ∧ Hid (JR w pb ga0 wd m0 oa on oc G0 x y k ra rc wr)) (fun _ s11 _ => n - (intOf s11).toNat)
  case atStart => exact ⟨0, none, 0, rfl, Nat.zero_le _, rfl, H0⟩
  case round =>
    obtain ⟨k, ra, rc, rfl, hk, rfl, hR⟩ := hrel
    clear H0
    obtain ⟨W0, hW0⟩ : ∃ W0, W0 = wr := ⟨_, rfl⟩
    subst hW0
    by_cases hlt : k < n
    · have hltI : (k : Int) < (n : Int) := by omega
      go_wp2_with fail
      obtain ⟨a, hxa⟩ : ∃ a, x[k]? = some a := ⟨_, List.getElem?_eq_getElem (by rw [HLX.out]; exact hlt)⟩
      obtain ⟨b, hyb⟩ : ∃ b, y[k]? = some b := ⟨_, List.getElem?_eq_getElem (by rw [HLY.out]; exact hlt)⟩
      obtain ⟨ga, gc, hP1, hE1, hS1, hN1⟩ := hR.out
      obtain ⟨xb, xo, rfl, hxl, hxs, hxc⟩ := HX.out k a hxa
      obtain ⟨yb, yo, rfl, hyl, hys, hyc⟩ := HY.out k b hyb
      obtain ⟨lo, hlo⟩ : ∃ lo, W0.heap.size = lo := ⟨_, rfl⟩
      obtain ⟨m, hmk⟩ : ∃ m, m0 + k = m := ⟨_, rfl⟩
      rw [hmk] at hP1
      obtain ⟨G, hGk⟩ : ∃ G, G0 ++ (x.take k).zip (y.take k) = G := ⟨_, rfl⟩
      rw [hGk] at hP1
      have hs01 := hE1.1.size
      have HP := hidq (fun W (hW : Below W0.heap.size W0 W) => (show BoxAt W pb [.int .i64 wd, .slice ga m gc, .slice oa on oc] ∧ SlAt 2 W ga gc m (flatG G) ∧ G.length = m ∧ ¬ inB ga pb from ⟨(hP1.below hW).box, (hP1.below hW).sl, hP1.len, hP1.ne⟩))
      have HLT := hidq (fun j (h : pset pb ga j) => (show j < lo from by have := hP1.lt j h; omega))
      have HGL := hidq hP1.len
      have FC := hidq (fun W (hW : Below W0.heap.size W0 W) => (show True ∧ W.cell? ⟨pb, 1, none⟩ = some (.slice ga m gc) ∧ True from ⟨trivial, ((hP1.below hW).box.get 1 _ rfl).1, trivial⟩))
      have hxp : ¬ pset pb ga xb := fun e => (hE1.2 _ e).elim hxs (fun h => by omega)
      have hyp : ¬ pset pb ga yb := fun e => (hE1.2 _ e).elim hys (fun h => by omega)
      have FX := hidq (fun W (hW : But (pset pb ga) W0 W) => (show W.cell? ⟨xb, xo + k, none⟩ = some (.int .i64 (a : Int)) ∧ W.cell? ⟨yb, yo + k, none⟩ = some (.int .i64 (b : Int)) from
        ⟨by rw [hW.cell (p := ⟨xb, xo + k, none⟩) (Nat.lt_of_lt_of_le hxl hs01) hxp, hE1.1.cell (p := ⟨xb, xo + k, none⟩) hxl hxs]; exact hxc, by rw [hW.cell (p := ⟨yb, yo + k, none⟩) (Nat.lt_of_lt_of_le hyl hs01) hyp, hE1.1.cell (p := ⟨yb, yo + k, none⟩) hyl hys]; exact hyc⟩))
      have HF : ∀ (x : Nat) (w w' : World), Below w.heap.size w w' → ((x = 0 → Below W0.heap.size W0 w) ∧ (x = 2 → JEnd W0 pb ga wd m oa on oc (G ++ [(a, b)]) w)) → ((x = 0 → Below W0.heap.size W0 w') ∧ (x = 2 → JEnd W0 pb ga wd m oa on oc (G ++ [(a, b)]) w')) :=
        fun _ _ _ hB h => ⟨fun e => (h.1 e).trans (hB.mono (h.1 e).size), fun e => by obtain ⟨g1, c1, h1, h2⟩ := h.2 e; exact ⟨g1, c1, h1.below hB, h2⟩⟩
      have HR1 := hidq (And.intro hE1 (And.intro hS1 (And.intro hN1 (And.intro hxa (And.intro hyb (And.intro hmk hGk))))))
      have HC := hidq (And.intro hxl (And.intro hyl hs01))
      have hmb : m ≤ 1064 := by omega
      clear hP1 hE1 hS1 hN1 hxa hyb hmk hGk hxl hxs hxc hyl hys hyc hR HX HY hxp hyp hs01
      refine Reg.wp_region_ghost (Reg.gofList (join5R pb m gc on oc n xc yc xb xo yb yo k lo a b ga oa wd G)) (Reg.PPres (pset pb ga)) (Reg.PInv [15, 18] (pset pb ga) W0 (fun x w => (x = 0 → Below W0.heap.size W0 w) ∧ (x = 2 → JEnd W0 pb ga wd m oa on oc (G ++ [(a, b)]) w))) 0 (by kernel_rfl) (by kernel_rfl) (Reg.GAllKept.at _ (join5R_kept pb m gc on oc n xc yc xb xo yb yo k lo a b ga oa wd G)) (Reg.PInv.start 19 ⟨fun _ => below_drewN (Below.refl _ _) 1, fun e => by cases e⟩) ⟨?_, ?_, ?_, ?_, ?_, ?_, ?_, ?_, ?_, ?_, ?_, ?_, ?_, ?_, ?_, ?_, ?_, ?_, ?_, trivial⟩ ?_
      · refine Reg.GStepAt.plain (i := 0) rfl ?_
        intro x L ev w hI hk hp hA
        have e0 : ev (.tmp 0) = .pointer (some ⟨pb, 0, none⟩) := hA.oldNone 0 (by kernel_rfl)
        have hcc := hA.const
        clear hA hp
        refine Reg.out_value (v := .pointer (some ⟨pb, 0, none⟩)) ?_ ⟨x, rfl, Reg.PPres.refl _ _ _, Reg.PInv.light HF hI 0 (by decide) (Below.refl _ _)⟩
        go_simp
      · refine Reg.GStepAt.plain (i := 1) rfl ?_
        intro x L ev w hI hk hp hA
        have e0 : ev (.tmp 0) = .pointer (some ⟨pb, 0, none⟩) := hA.oldNone 0 (by kernel_rfl)
        have hcc := hA.const
        clear hA hp
        refine Reg.out_value (v := .pointer (some ⟨pb, 0, none⟩)) ?_ ⟨x, rfl, Reg.PPres.refl _ _ _, Reg.PInv.light HF hI 1 (by decide) (Below.refl _ _)⟩
        go_simp
      · refine Reg.GStepAt.plain (i := 2) rfl ?_
        intro x L ev w hI hk hp hA
        have e15 : ev (.tmp 15) = .pointer (some ⟨pb, 0, none⟩) := hA.val 1 _ 15 rfl (hp ⟨1, .data⟩ (by simp) rfl) rfl
        have hcc := hA.const
        clear hA hp
        refine Reg.out_value (v := .pointer (some ⟨pb, 0, none⟩)) ?_ ⟨x, rfl, Reg.PPres.refl _ _ _, Reg.PInv.light HF hI 2 (by decide) (Below.refl _ _)⟩
        go_simp
      · refine Reg.GStepAt.plain (i := 3) rfl ?_
        intro x L ev w hI hk hp hA
        have e16 : ev (.tmp 16) = .pointer (some ⟨pb, 0, none⟩) := hA.val 2 _ 16 rfl (hp ⟨2, .data⟩ (by simp) rfl) rfl
        have hcc := hA.const
        clear hA hp
        refine Reg.out_value (v := .pointer (some ⟨pb, 1, none⟩)) ?_ ⟨x, rfl, Reg.PPres.refl _ _ _, Reg.PInv.light HF hI 3 (by decide) (Below.refl _ _)⟩
        go_simp
      · refine Reg.GStepAt.plain (i := 4) rfl ?_
        intro x L ev w hI hk hp hA
        have e17 : ev (.tmp 17) = .pointer (some ⟨pb, 1, none⟩) := hA.val 3 _ 17 rfl (hp ⟨3, .data⟩ (by simp) rfl) rfl
        have hcc := hA.const
        have NL := Reg.not_listed hA 4 18 _ rfl ⟨4, .phase⟩ (by simp) rfl hk
        have NL2 := Reg.not_listed hA 4 15 _ rfl ⟨4, .data⟩ (by simp) rfl hk
        clear hA hp
        have n18 : L.getD 18 false = false := NL
        have n15 : L.getD 15 false = false := NL2
        have hx0 : x = 0 := hI.1.trans (Reg.cnt_zero2 n15 n18)
        have hBw := hI.2.2.1 hx0
        obtain ⟨f0, f1, f2⟩ := FC.out w hBw
        refine Reg.out_value (v := .slice ga m gc) ?_ ⟨x, rfl, Reg.PPres.refl _ _ _, Reg.PInv.light HF hI 4 (by decide) (Below.refl _ _)⟩
        clear hI hBw n18 n15 hx0
        go_simp
      · refine Reg.GStepAt.plain (i := 5) rfl ?_
        intro x L ev w hI hk hp hA
        have e1 : ev (.tmp 1) = .slice (some ⟨xb, xo, none⟩) n xc := hA.oldNone 1 (by kernel_rfl)
        have hcc := hA.const
        clear hA hp
        refine Reg.out_value (v := .slice (some ⟨xb, xo, none⟩) n xc) ?_ ⟨x, rfl, Reg.PPres.refl _ _ _, Reg.PInv.light HF hI 5 (by decide) (Below.refl _ _)⟩
        go_simp
      · refine Reg.GStepAt.plain (i := 6) rfl ?_
        intro x L ev w hI hk hp hA
        have e8 : ev (.tmp 8) = .int .i64 (k : Int) := hA.oldNone 8 (by kernel_rfl)
        have hcc := hA.const
        clear hA hp
        refine Reg.out_value (v := .int .i64 (k : Int)) ?_ ⟨x, rfl, Reg.PPres.refl _ _ _, Reg.PInv.light HF hI 6 (by decide) (Below.refl _ _)⟩
        go_simp
      · refine Reg.GStepAt.plain (i := 7) rfl ?_
        intro x L ev w hI hk hp hA
        have e19 : ev (.tmp 19) = .slice (some ⟨xb, xo, none⟩) n xc := hA.val 5 _ 19 rfl (hp ⟨5, .data⟩ (by simp) rfl) rfl
        have e20 : ev (.tmp 20) = .int .i64 (k : Int) := hA.val 6 _ 20 rfl (hp ⟨6, .data⟩ (by simp) rfl) rfl
        have hcc := hA.const
        clear hA hp
        refine Reg.out_value (v := .pointer (some ⟨xb, xo + k, none⟩)) ?_ ⟨x, rfl, Reg.PPres.refl _ _ _, Reg.PInv.light HF hI 7 (by decide) (Below.refl _ _)⟩
        go_simp
      · refine Reg.GStepAt.plain (i := 8) rfl ?_
        intro x L ev w hI hk hp hA
        have e21 : ev (.tmp 21) = .pointer (some ⟨xb, xo + k, none⟩) := hA.val 7 _ 21 rfl (hp ⟨7, .data⟩ (by simp) rfl) rfl
        have hcc := hA.const
        clear hA hp
        obtain ⟨f1, f2⟩ := FX.out w hI.2.1
        refine Reg.out_value (v := .int .i64 (a : Int)) ?_ ⟨x, rfl, Reg.PPres.refl _ _ _, Reg.PInv.light HF hI 8 (by decide) (Below.refl _ _)⟩
        go_simp
      · refine Reg.GStepAt.plain (i := 9) rfl ?_
        intro x L ev w hI hk hp hA
        have e2 : ev (.tmp 2) = .slice (some ⟨yb, yo, none⟩) n yc := hA.oldNone 2 (by kernel_rfl)
        have hcc := hA.const
        clear hA hp
        refine Reg.out_value (v := .slice (some ⟨yb, yo, none⟩) n yc) ?_ ⟨x, rfl, Reg.PPres.refl _ _ _, Reg.PInv.light HF hI 9 (by decide) (Below.refl _ _)⟩
        go_simp
      · refine Reg.GStepAt.plain (i := 10) rfl ?_
        intro x L ev w hI hk hp hA
        have e8 : ev (.tmp 8) = .int .i64 (k : Int) := hA.oldNone 8 (by kernel_rfl)
        have hcc := hA.const
        clear hA hp
        refine Reg.out_value (v := .int .i64 (k : Int)) ?_ ⟨x, rfl, Reg.PPres.refl _ _ _, Reg.PInv.light HF hI 10 (by decide) (Below.refl _ _)⟩
        go_simp
      · refine Reg.GStepAt.plain (i := 11) rfl ?_
        intro x L ev w hI hk hp hA
        have e23 : ev (.tmp 23) = .slice (some ⟨yb, yo, none⟩) n yc := hA.val 9 _ 23 rfl (hp ⟨9, .data⟩ (by simp) rfl) rfl
        have e24 : ev (.tmp 24) = .int .i64 (k : Int) := hA.val 10 _ 24 rfl (hp ⟨10, .data⟩ (by simp) rfl) rfl
        have hcc := hA.const
        clear hA hp
        refine Reg.out_value (v := .pointer (some ⟨yb, yo + k, none⟩)) ?_ ⟨x, rfl, Reg.PPres.refl _ _ _, Reg.PInv.light HF hI 11 (by decide) (Below.refl _ _)⟩
        go_simp
      · refine Reg.GStepAt.plain (i := 12) rfl ?_
        intro x L ev w hI hk hp hA
        have e25 : ev (.tmp 25) = .pointer (some ⟨yb, yo + k, none⟩) := hA.val 11 _ 25 rfl (hp ⟨11, .data⟩ (by simp) rfl) rfl
        have hcc := hA.const
        clear hA hp
        obtain ⟨f1, f2⟩ := FX.out w hI.2.1
        refine Reg.out_value (v := .int .i64 (b : Int)) ?_ ⟨x, rfl, Reg.PPres.refl _ _ _, Reg.PInv.light HF hI 12 (by decide) (Below.refl _ _)⟩
        go_simp
      · refine Reg.GStepAt.plain (i := 13) rfl ?_
        intro x L ev w hI hk hp hA
        have e22 : ev (.tmp 22) = .int .i64 (a : Int) := hA.val 8 _ 22 rfl (hp ⟨8, .data⟩ (by simp) rfl) rfl
        have e26 : ev (.tmp 26) = .int .i64 (b : Int) := hA.val 12 _ 26 rfl (hp ⟨12, .data⟩ (by simp) rfl) rfl
        have hcc := hA.const
        clear hA hp
        refine Reg.out_value (v := .agg #[.int .i64 (a : Int), .int .i64 (b : Int)]) ?_ ⟨x, rfl, Reg.PPres.refl _ _ _, Reg.PInv.light HF hI 13 (by decide) (Below.refl _ _)⟩
        go_simp
      · refine Reg.GStepAt.plain (i := 14) rfl ?_
        intro x L ev w hI hk hp hA
        have e27 : ev (.tmp 27) = .agg #[.int .i64 (a : Int), .int .i64 (b : Int)] := hA.val 13 _ 27 rfl (hp ⟨13, .data⟩ (by simp) rfl) rfl
        have hcc := hA.const
        clear hA hp
        refine Reg.out_new (v := .slice (some ⟨w.heap.size, 0, none⟩) 1 1) (w' := w.alloc (.cells #[.int .i64 (a : Int), .int .i64 (b : Int)] 186)) ?_ ⟨x, ⟨w.heap.size, rfl, BoxAt.new w [.int .i64 (a : Int), .int .i64 (b : Int)] 186, by have h1 := hI.2.1.size; omega, fun e => by have h1 := hI.2.1.size; have h2 := HLT.out _ e; omega⟩, Reg.PPres.light ((Below.refl _ _).alloc (Nat.le_refl _) _), Reg.PInv.light HF hI 14 (by decide) ((Below.refl _ _).alloc (Nat.le_refl _) _)⟩
        clear hI hk
        go_simp
      · refine Reg.GStepAt.plain (i := 15) rfl ?_
        intro x L ev w hI hk hp hA
        have e18 : ev (.tmp 18) = .slice ga m gc := hA.val 4 _ 18 rfl (hp ⟨4, .data⟩ (by simp) rfl) rfl
        have e28 : (fun v _ w => ∃ g, v = .slice (some ⟨g, 0, none⟩) 1 1 ∧ BoxAt w g [.int .i64 (a : Int), .int .i64 (b : Int)] ∧ lo ≤ g ∧ ¬ pset pb ga g) (ev (.tmp 28)) x w := hA.val 14 _ 28 rfl (hp ⟨14, .data⟩ (by simp) rfl) rfl
        have hcc := hA.const
        have NL := Reg.not_listed hA 15 18 _ rfl ⟨15, .data⟩ (by simp) rfl hk
        clear hA hp
        have n18 : L.getD 18 false = false := NL
        have hx0 : x = 0 := hI.1.trans (Reg.cnt_zero2 (Reg.getD_true hk) n18)
        have hBw := hI.2.2.1 hx0
        obtain ⟨g, e28, hG, hlg, hSg⟩ := e28
        obtain ⟨pB, pS, pL, pN⟩ := HP.out w hBw
        obtain ⟨g', c', w', hrun, hF', hb', hg'⟩ := sl_append plainG 120 w ga gc m _ pS _ 1 [.int .i64 (a : Int), .int .i64 (b : Int)] (src_new 2 w Try.underlying120 g [.int .i64 (a : Int), .int .i64 (b : Int)] rfl (fun j u hu => hG.cell j u hu) (by intro u hu; simp at hu; rcases hu with rfl | rfl <;> rfl)) (by omega) (by omega)
        have hbS := hb'.mono (T := pset pb ga) (fun j _ e => .inr e)
        have hne : g' ≠ pb := hg'.elim (fun h e => pN (e ▸ h)) (fun h e => by have := pB.lt; omega)
        refine Reg.out_new (v := .slice (some ⟨g', 0, none⟩) (m + 1) c') (w' := w') ?_ ⟨x + 1, ⟨by omega, g', c', rfl, fun _ => ⟨by rw [flatG_snoc]; exact hF', pB.but hb' pN, hne, hg'.imp id (fun h => by have := hBw.size; omega)⟩⟩, Reg.PPres.heavy hbS, Reg.PInv.heavy hI 15 (by decide) (by simp) hk hbS ⟨fun e => by omega, fun e => by omega⟩⟩
        simp [execOp, resolve, invoke, builtin, e18, e28, hrun, Result.andThen]
      · refine Reg.GStepAt.plain (i := 16) rfl ?_
        intro x L ev w hI hk hp hA
        have e14 : ev (.tmp 14) = .pointer (some ⟨pb, 0, none⟩) := hA.val 0 _ 14 rfl (hp ⟨0, .data⟩ (by simp) rfl) rfl
        have hcc := hA.const
        clear hA hp
        refine Reg.out_value (v := .pointer (some ⟨pb, 0, none⟩)) ?_ ⟨x, rfl, Reg.PPres.refl _ _ _, Reg.PInv.light HF hI 16 (by decide) (Below.refl _ _)⟩
        go_simp
      · refine Reg.GStepAt.plain (i := 17) rfl ?_
        intro x L ev w hI hk hp hA
        have e30 : ev (.tmp 30) = .pointer (some ⟨pb, 0, none⟩) := hA.val 16 _ 30 rfl (hp ⟨16, .data⟩ (by simp) rfl) rfl
        have hcc := hA.const
        clear hA hp
        refine Reg.out_value (v := .pointer (some ⟨pb, 1, none⟩)) ?_ ⟨x, rfl, Reg.PPres.refl _ _ _, Reg.PInv.light HF hI 17 (by decide) (Below.refl _ _)⟩
        go_simp
      · refine Reg.GStepAt.plain (i := 18) rfl ?_
        intro x L ev w hI hk hp hA
        have e31 : ev (.tmp 31) = .pointer (some ⟨pb, 1, none⟩) := hA.val 17 _ 31 rfl (hp ⟨17, .data⟩ (by simp) rfl) rfl
        have e29 : (fun v x w => 1 ≤ x ∧ ∃ g c, v = .slice (some ⟨g, 0, none⟩) (m + 1) c ∧ (x = 1 → Flat 2 w g c (m + 1) (flatG (G ++ [(a, b)])) ∧ BoxAt w pb [.int .i64 wd, .slice ga m gc, .slice oa on oc] ∧ g ≠ pb ∧ (inB ga g ∨ lo ≤ g))) (ev (.tmp 29)) x w := hA.val 15 _ 29 rfl (hp ⟨15, .data⟩ (by simp) rfl) rfl
        have hcc := hA.const
        have L15 : L.getD 15 false = true := hp ⟨15, .data⟩ (by simp) rfl
        clear hA hp
        have hx1 : x = 1 := hI.1.trans (Reg.cnt_one2 L15 (Reg.getD_true hk))
        obtain ⟨_, g, c, e29, h29⟩ := e29
        obtain ⟨q1, q2, q3, q4⟩ := h29 hx1
        obtain ⟨c1, y1⟩ := q2.get 1 _ rfl
        have hbS : But (pset pb ga) w (w.setCell ⟨pb, 1, none⟩ (.slice (some ⟨g, 0, none⟩) (m + 1) c)) := (But.refl _ w).set1 pb 1 (.inl rfl) _
        have hb1 : But (fun j => j = pb) w (w.setCell ⟨pb, 1, none⟩ (.slice (some ⟨g, 0, none⟩) (m + 1) c)) := (But.refl (fun j => j = pb) w).set1 pb 1 rfl _
        refine Reg.out_skipP (w' := w.setCell ⟨pb, 1, none⟩ (.slice (some ⟨g, 0, none⟩) (m + 1) c)) ?_ ⟨x + 1, trivial, Reg.PPres.heavy hbS, Reg.PInv.heavy hI 18 (by decide) (by simp) hk hbS ⟨fun e => by omega, fun _ => ⟨some ⟨g, 0, none⟩, c, ⟨q2.set 1 _, .inr ⟨g, rfl, q1.but hb1 (by omega)⟩, by rw [List.length_append, HGL.out]; rfl, fun e => by obtain ⟨z, hz, hz2⟩ := e; cases hz; exact q3 hz2⟩, ?_⟩⟩⟩
        · clear hI q1 q2 hbS hb1
          go_simp
        · rintro j ⟨z, hz, rfl⟩
          cases hz
          exact q4.imp id (fun h => by show W0.heap.size ≤ g; omega)
      intro gx L act wz hall hI hF
      have g14 : act.eval (.tmp 14) = .pointer (some ⟨pb, 0, none⟩) := hF.val 0 _ 14 rfl (hall 0 (by simp)) rfl
      have g15 : act.eval (.tmp 15) = .pointer (some ⟨pb, 0, none⟩) := hF.val 1 _ 15 rfl (hall 1 (by simp)) rfl
      have g16 : act.eval (.tmp 16) = .pointer (some ⟨pb, 0, none⟩) := hF.val 2 _ 16 rfl (hall 2 (by simp)) rfl
      have g17 : act.eval (.tmp 17) = .pointer (some ⟨pb, 1, none⟩) := hF.val 3 _ 17 rfl (hall 3 (by simp)) rfl
      have g18 : act.eval (.tmp 18) = .slice ga m gc := hF.val 4 _ 18 rfl (hall 4 (by simp)) rfl
      have g19 : act.eval (.tmp 19) = .slice (some ⟨xb, xo, none⟩) n xc := hF.val 5 _ 19 rfl (hall 5 (by simp)) rfl
      have g20 : act.eval (.tmp 20) = .int .i64 (k : Int) := hF.val 6 _ 20 rfl (hall 6 (by simp)) rfl
      have g21 : act.eval (.tmp 21) = .pointer (some ⟨xb, xo + k, none⟩) := hF.val 7 _ 21 rfl (hall 7 (by simp)) rfl
      have g22 : act.eval (.tmp 22) = .int .i64 (a : Int) := hF.val 8 _ 22 rfl (hall 8 (by simp)) rfl
      have g23 : act.eval (.tmp 23) = .slice (some ⟨yb, yo, none⟩) n yc := hF.val 9 _ 23 rfl (hall 9 (by simp)) rfl
      have g24 : act.eval (.tmp 24) = .int .i64 (k : Int) := hF.val 10 _ 24 rfl (hall 10 (by simp)) rfl
      have g25 : act.eval (.tmp 25) = .pointer (some ⟨yb, yo + k, none⟩) := hF.val 11 _ 25 rfl (hall 11 (by simp)) rfl
      have g26 : act.eval (.tmp 26) = .int .i64 (b : Int) := hF.val 12 _ 26 rfl (hall 12 (by simp)) rfl
      have g27 : act.eval (.tmp 27) = .agg #[.int .i64 (a : Int), .int .i64 (b : Int)] := hF.val 13 _ 27 rfl (hall 13 (by simp)) rfl
      have g28 : (fun v _ w => ∃ g, v = .slice (some ⟨g, 0, none⟩) 1 1 ∧ BoxAt w g [.int .i64 (a : Int), .int .i64 (b : Int)] ∧ lo ≤ g ∧ ¬ pset pb ga g) (act.eval (.tmp 28)) gx wz := hF.val 14 _ 28 rfl (hall 14 (by simp)) rfl
      have g29 : (fun v x w => 1 ≤ x ∧ ∃ g c, v = .slice (some ⟨g, 0, none⟩) (m + 1) c ∧ (x = 1 → Flat 2 w g c (m + 1) (flatG (G ++ [(a, b)])) ∧ BoxAt w pb [.int .i64 wd, .slice ga m gc, .slice oa on oc] ∧ g ≠ pb ∧ (inB ga g ∨ lo ≤ g))) (act.eval (.tmp 29)) gx wz := hF.val 15 _ 29 rfl (hall 15 (by simp)) rfl
      have g30 : act.eval (.tmp 30) = .pointer (some ⟨pb, 0, none⟩) := hF.val 16 _ 30 rfl (hall 16 (by simp)) rfl
      have g31 : act.eval (.tmp 31) = .pointer (some ⟨pb, 1, none⟩) := hF.val 17 _ 31 rfl (hall 17 (by simp)) rfl
      have hact := hF.act [14, 15, 16, 17, 18, 19, 20, 21, 22, 23, 24, 25, 26, 27, 28, 29, 30, 31] (by kernel_rfl)
      obtain ⟨hxz, hBz, hFz⟩ := Reg.PInv.done hI (fun j hj => hall j (by simp at hj ⊢; omega))
      clear hF hall
      simp only [List.foldl_cons, List.foldl_nil] at hact
      rw [g14, g15, g16, g17, g18, g19, g20, g21, g22, g23, g24, g25, g26, g27, g30, g31] at hact
      clear g14 g15 g16 g17 g18 g19 g20 g21 g22 g23 g24 g25 g26 g27 g30 g31
      generalize act.eval (.tmp 28) = u28 at hact g28
      generalize act.eval (.tmp 29) = u29 at hact g29
      simp only [List.setIfInBounds_toArray, List.set_cons_succ, List.set_cons_zero] at hact
      subst hact
      have HJ := hidq (hFz.2 rfl)
      have HBZ := hidq hBz
      clear hFz hBz hI g28 g29 HF HP FC HGL HLT hxz
      go_wp2_with fail
      obtain ⟨V, hV⟩ : ∃ V, V = wz := ⟨_, rfl⟩
      subst hV
      obtain ⟨hE1, hS1, hN1, hxa, hyb, hmk, hGk⟩ := HR1.out
      obtain ⟨hxl, hyl, hs01⟩ := HC.out
      have hsV := HBZ.out.size
      obtain ⟨l2, hl2⟩ : ∃ l2, V.heap.size = l2 := ⟨_, rfl⟩
      obtain ⟨RL, hRL⟩ : ∃ RL, vals (Wr.inter (x.take k) (y.take k)) = RL := ⟨_, rfl⟩
      obtain ⟨rn, hrn⟩ : ∃ rn, 2 * k = rn := ⟨_, rfl⟩
      have hSV : SlAt 1 V ra rc rn RL := by rw [← hrn, ← hRL]; exact hS1.but HBZ.out (fun j hj => (hN1 j hj).2)
      have HRS := hidq hSV
      have FX2 := hidq (fun W (hW : But (inB ra) V W) => (show W.cell? ⟨xb, xo + k, none⟩ = some (.int .i64 (a : Int)) ∧ W.cell? ⟨yb, yo + k, none⟩ = some (.int .i64 (b : Int)) from by
        obtain ⟨h1, h2⟩ := FX.out V HBZ.out
        exact ⟨by rw [hW.cell (p := ⟨xb, xo + k, none⟩) (by show xb < _; omega) (fun e => by have := (hN1 _ e).1; simp at this; omega)]; exact h1, by rw [hW.cell (p := ⟨yb, yo + k, none⟩) (by show yb < _; omega) (fun e => by have := (hN1 _ e).1; simp at this; omega)]; exact h2⟩))
      have HF : ∀ (x : Nat) (w w' : World), Below w.heap.size w w' → (x = 0 → Below V.heap.size V w) → (x = 0 → Below V.heap.size V w') := fun _ _ _ hB h e => (h e).trans (hB.mono (h e).size)
      have HK := hidq (And.intro hRL hrn)
      have hrb : rn ≤ 128 := by omega
      clear hE1 hS1 hN1 hxa hyb hmk hGk hxl hyl hs01 hsV hSV hRL FX
      rw [hrn]
      clear hrn
      refine Reg.wp_region_ghost (Reg.gofList (join6R n xc yc xb xo yb yo k l2 a b rn rc ra RL)) (Reg.PPres (inB ra)) (Reg.PInv [10] (inB ra) V (fun x w => x = 0 → Below V.heap.size V w)) 0 (by kernel_rfl) (by kernel_rfl) (Reg.GAllKept.at _ (join6R_kept n xc yc xb xo yb yo k l2 a b rn rc ra RL)) (Reg.PInv.start 12 (fun _ => below_drewN (Below.refl _ _) 1)) ⟨?_, ?_, ?_, ?_, ?_, ?_, ?_, ?_, ?_, ?_, ?_, ?_, trivial⟩ ?_
      · refine Reg.GStepAt.plain (i := 0) rfl ?_
        intro x L ev w hI hk hp hA
        have e7 : ev (.tmp 7) = .slice ra rn rc := hA.oldBut 11 _ 7 (by kernel_rfl) rfl ⟨0, .phase⟩ (by simp) rfl hk
        have hcc := hA.const
        clear hA hp
        refine Reg.out_value (v := .slice ra rn rc) ?_ ⟨x, rfl, Reg.PPres.refl _ _ _, Reg.PInv.light HF hI 0 (by decide) (Below.refl _ _)⟩
        go_simp
      · refine Reg.GStepAt.plain (i := 1) rfl ?_
        intro x L ev w hI hk hp hA
        have e1 : ev (.tmp 1) = .slice (some ⟨xb, xo, none⟩) n xc := hA.oldNone 1 (by kernel_rfl)
        have hcc := hA.const
        clear hA hp
        refine Reg.out_value (v := .slice (some ⟨xb, xo, none⟩) n xc) ?_ ⟨x, rfl, Reg.PPres.refl _ _ _, Reg.PInv.light HF hI 1 (by decide) (Below.refl _ _)⟩
        go_simp
      · refine Reg.GStepAt.plain (i := 2) rfl ?_
        intro x L ev w hI hk hp hA
        have e8 : ev (.tmp 8) = .int .i64 (k : Int) := hA.oldNone 8 (by kernel_rfl)
        have hcc := hA.const
        clear hA hp
        refine Reg.out_value (v := .int .i64 (k : Int)) ?_ ⟨x, rfl, Reg.PPres.refl _ _ _, Reg.PInv.light HF hI 2 (by decide) (Below.refl _ _)⟩
        go_simp
      · refine Reg.GStepAt.plain (i := 3) rfl ?_
        intro x L ev w hI hk hp hA
        have e33 : ev (.tmp 33) = .slice (some ⟨xb, xo, none⟩) n xc := hA.val 1 _ 33 rfl (hp ⟨1, .data⟩ (by simp) rfl) rfl
        have e34 : ev (.tmp 34) = .int .i64 (k : Int) := hA.val 2 _ 34 rfl (hp ⟨2, .data⟩ (by simp) rfl) rfl
        have hcc := hA.const
        clear hA hp
        refine Reg.out_value (v := .pointer (some ⟨xb, xo + k, none⟩)) ?_ ⟨x, rfl, Reg.PPres.refl _ _ _, Reg.PInv.light HF hI 3 (by decide) (Below.refl _ _)⟩
        go_simp
      · refine Reg.GStepAt.plain (i := 4) rfl ?_
        intro x L ev w hI hk hp hA
        have e35 : ev (.tmp 35) = .pointer (some ⟨xb, xo + k, none⟩) := hA.val 3 _ 35 rfl (hp ⟨3, .data⟩ (by simp) rfl) rfl
        have hcc := hA.const
        clear hA hp
        obtain ⟨f1, f2⟩ := FX2.out w hI.2.1
        refine Reg.out_value (v := .int .i64 (a : Int)) ?_ ⟨x, rfl, Reg.PPres.refl _ _ _, Reg.PInv.light HF hI 4 (by decide) (Below.refl _ _)⟩
        go_simp
      · refine Reg.GStepAt.plain (i := 5) rfl ?_
        intro x L ev w hI hk hp hA
        have e2 : ev (.tmp 2) = .slice (some ⟨yb, yo, none⟩) n yc := hA.oldNone 2 (by kernel_rfl)
        have hcc := hA.const
        clear hA hp
        refine Reg.out_value (v := .slice (some ⟨yb, yo, none⟩) n yc) ?_ ⟨x, rfl, Reg.PPres.refl _ _ _, Reg.PInv.light HF hI 5 (by decide) (Below.refl _ _)⟩
        go_simp
      · refine Reg.GStepAt.plain (i := 6) rfl ?_
        intro x L ev w hI hk hp hA
        have e8 : ev (.tmp 8) = .int .i64 (k : Int) := hA.oldNone 8 (by kernel_rfl)
        have hcc := hA.const
        clear hA hp
        refine Reg.out_value (v := .int .i64 (k : Int)) ?_ ⟨x, rfl, Reg.PPres.refl _ _ _, Reg.PInv.light HF hI 6 (by decide) (Below.refl _ _)⟩
        go_simp
      · refine Reg.GStepAt.plain (i := 7) rfl ?_
        intro x L ev w hI hk hp hA
        have e37 : ev (.tmp 37) = .slice (some ⟨yb, yo, none⟩) n yc := hA.val 5 _ 37 rfl (hp ⟨5, .data⟩ (by simp) rfl) rfl
        have e38 : ev (.tmp 38) = .int .i64 (k : Int) := hA.val 6 _ 38 rfl (hp ⟨6, .data⟩ (by simp) rfl) rfl
        have hcc := hA.const
        clear hA hp
        refine Reg.out_value (v := .pointer (some ⟨yb, yo + k, none⟩)) ?_ ⟨x, rfl, Reg.PPres.refl _ _ _, Reg.PInv.light HF hI 7 (by decide) (Below.refl _ _)⟩
        go_simp
      · refine Reg.GStepAt.plain (i := 8) rfl ?_
        intro x L ev w hI hk hp hA
        have e39 : ev (.tmp 39) = .pointer (some ⟨yb, yo + k, none⟩) := hA.val 7 _ 39 rfl (hp ⟨7, .data⟩ (by simp) rfl) rfl
        have hcc := hA.const
        clear hA hp
        obtain ⟨f1, f2⟩ := FX2.out w hI.2.1
        refine Reg.out_value (v := .int .i64 (b : Int)) ?_ ⟨x, rfl, Reg.PPres.refl _ _ _, Reg.PInv.light HF hI 8 (by decide) (Below.refl _ _)⟩
        go_simp
      · refine Reg.GStepAt.plain (i := 9) rfl ?_
        intro x L ev w hI hk hp hA
        have e36 : ev (.tmp 36) = .int .i64 (a : Int) := hA.val 4 _ 36 rfl (hp ⟨4, .data⟩ (by simp) rfl) rfl
        have e40 : ev (.tmp 40) = .int .i64 (b : Int) := hA.val 8 _ 40 rfl (hp ⟨8, .data⟩ (by simp) rfl) rfl
        have hcc := hA.const
        clear hA hp
        refine Reg.out_new (v := .slice (some ⟨w.heap.size, 0, none⟩) 2 2) (w' := w.alloc (.cells #[.int .i64 (a : Int), .int .i64 (b : Int)] 3)) ?_ ⟨x, ⟨w.heap.size, rfl, BoxAt.new w [.int .i64 (a : Int), .int .i64 (b : Int)] 3, by have h1 := hI.2.1.size; omega, fun e => by have h1 := hI.2.1.size; have h2 := HRS.out.lt _ e; omega⟩, Reg.PPres.light ((Below.refl _ _).alloc (Nat.le_refl _) _), Reg.PInv.light HF hI 9 (by decide) ((Below.refl _ _).alloc (Nat.le_refl _) _)⟩
        clear hI hk
        go_simp
      · refine Reg.GStepAt.plain (i := 10) rfl ?_
        intro x L ev w hI hk hp hA
        have e32 : ev (.tmp 32) = .slice ra rn rc := hA.val 0 _ 32 rfl (hp ⟨0, .data⟩ (by simp) rfl) rfl
        have e41 : (fun v _ w => ∃ g, v = .slice (some ⟨g, 0, none⟩) 2 2 ∧ BoxAt w g [.int .i64 (a : Int), .int .i64 (b : Int)] ∧ l2 ≤ g ∧ ¬ inB ra g) (ev (.tmp 41)) x w := hA.val 9 _ 41 rfl (hp ⟨9, .data⟩ (by simp) rfl) rfl
        have hcc := hA.const
        clear hA hp
        have hx0 : x = 0 := hI.1.trans (Reg.cnt_zero1 (Reg.getD_true hk))
        have hBw := hI.2.2 hx0
        obtain ⟨g, e41, hG, hlg, hSg⟩ := e41
        obtain ⟨g', c', w', hrun, hF', hb', hg'⟩ := sl_append plainN 66 w ra rc rn _ (HRS.out.below hBw) _ 2 [.int .i64 (a : Int), .int .i64 (b : Int)] (Src.ofSlice w Try.underlying66 ⟨g, 0, none⟩ 2 2 [.int .i64 (a : Int), .int .i64 (b : Int)] rfl (fun j u hu => by rw [Addr.add_lit, Nat.zero_add]; exact hG.cell j u hu) (by intro u hu; simp at hu; rcases hu with rfl | rfl <;> rfl)) (by omega) (by omega)
        refine Reg.out_new (v := .slice (some ⟨g', 0, none⟩) (rn + 2) c') (w' := w') ?_ ⟨x + 1, ⟨by omega, g', c', rfl, fun _ => ⟨hF', hg'.imp id (fun h => by have := hBw.size; omega)⟩⟩, Reg.PPres.heavy hb', Reg.PInv.heavy hI 10 (by decide) (by simp) hk hb' (fun e => by omega)⟩
        simp [execOp, resolve, invoke, builtin, e32, e41, hrun, Result.andThen]
      · refine Reg.GStepAt.plain (i := 11) rfl ?_
        intro x L ev w hI hk hp hA
        have e42 : (fun v x w => 1 ≤ x ∧ ∃ g c, v = .slice (some ⟨g, 0, none⟩) (rn + 2) c ∧ (x = 1 → Flat 1 w g c (rn + 2) (RL ++ [.int .i64 (a : Int), .int .i64 (b : Int)]) ∧ (inB ra g ∨ l2 ≤ g))) (ev (.tmp 42)) x w := hA.val 10 _ 42 rfl (hp ⟨10, .data⟩ (by simp) rfl) rfl
        have hcc := hA.const
        clear hA hp
        exact Reg.out_value rfl ⟨x, e42, Reg.PPres.refl _ _ _, Reg.PInv.light HF hI 11 (by decide) (Below.refl _ _)⟩
      intro gx L act wz hall hI hF
      have g32 : act.eval (.tmp 32) = .slice ra rn rc := hF.val 0 _ 32 rfl (hall 0 (by simp)) rfl
      have g33 : act.eval (.tmp 33) = .slice (some ⟨xb, xo, none⟩) n xc := hF.val 1 _ 33 rfl (hall 1 (by simp)) rfl
      have g34 : act.eval (.tmp 34) = .int .i64 (k : Int) := hF.val 2 _ 34 rfl (hall 2 (by simp)) rfl
      have g35 : act.eval (.tmp 35) = .pointer (some ⟨xb, xo + k, none⟩) := hF.val 3 _ 35 rfl (hall 3 (by simp)) rfl
      have g36 : act.eval (.tmp 36) = .int .i64 (a : Int) := hF.val 4 _ 36 rfl (hall 4 (by simp)) rfl
      have g37 : act.eval (.tmp 37) = .slice (some ⟨yb, yo, none⟩) n yc := hF.val 5 _ 37 rfl (hall 5 (by simp)) rfl
      have g38 : act.eval (.tmp 38) = .int .i64 (k : Int) := hF.val 6 _ 38 rfl (hall 6 (by simp)) rfl
      have g39 : act.eval (.tmp 39) = .pointer (some ⟨yb, yo + k, none⟩) := hF.val 7 _ 39 rfl (hall 7 (by simp)) rfl
      have g40 : act.eval (.tmp 40) = .int .i64 (b : Int) := hF.val 8 _ 40 rfl (hall 8 (by simp)) rfl
      have g41 : (fun v _ w => ∃ g, v = .slice (some ⟨g, 0, none⟩) 2 2 ∧ BoxAt w g [.int .i64 (a : Int), .int .i64 (b : Int)] ∧ l2 ≤ g ∧ ¬ inB ra g) (act.eval (.tmp 41)) gx wz := hF.val 9 _ 41 rfl (hall 9 (by simp)) rfl
      have g42 : (fun v x w => 1 ≤ x ∧ ∃ g c, v = .slice (some ⟨g, 0, none⟩) (rn + 2) c ∧ (x = 1 → Flat 1 w g c (rn + 2) (RL ++ [.int .i64 (a : Int), .int .i64 (b : Int)]) ∧ (inB ra g ∨ l2 ≤ g))) (act.eval (.tmp 42)) gx wz := hF.val 10 _ 42 rfl (hall 10 (by simp)) rfl
      have g7 : (fun v x w => 1 ≤ x ∧ ∃ g c, v = .slice (some ⟨g, 0, none⟩) (rn + 2) c ∧ (x = 1 → Flat 1 w g c (rn + 2) (RL ++ [.int .i64 (a : Int), .int .i64 (b : Int)]) ∧ (inB ra g ∨ l2 ≤ g))) (act.eval (.tmp 7)) gx wz := hF.val 11 _ 7 rfl (hall 11 (by simp)) rfl
      have hact := hF.act [32, 33, 34, 35, 36, 37, 38, 39, 40, 41, 42, 7] (by kernel_rfl)
      obtain ⟨hxz, hBz, hFz⟩ := Reg.PInv.done hI (fun j hj => hall j (by simp at hj ⊢; omega))
      clear hF hall
      simp only [List.foldl_cons, List.foldl_nil] at hact
      rw [g32, g33, g34, g35, g36, g37, g38, g39, g40] at hact
      clear g32 g33 g34 g35 g36 g37 g38 g39 g40
      generalize act.eval (.tmp 41) = u41 at hact g41
      generalize act.eval (.tmp 42) = u42 at hact g42
      generalize act.eval (.tmp 7) = u7 at hact g7
      simp only [List.setIfInBounds_toArray, List.set_cons_succ, List.set_cons_zero] at hact
      subst hact
      obtain ⟨_, g, c, rfl, h7⟩ := g7
      obtain ⟨hF7, hg7⟩ := h7 hxz
      obtain ⟨hRL, hrn⟩ := HK.out
      have HN := hidq (show JR w pb ga0 wd m0 oa on oc G0 x y (k + 1) (some ⟨g, 0, none⟩) c wz from by
        obtain ⟨hE1, hS1, hN1, hxa, hyb, hmk, hGk⟩ := HR1.out
        rw [← hrn, ← hRL] at hF7
        exact JR.next hE1 HJ.out HBZ.out hS1 hN1 hxa hyb hmk hGk hF7 hBz (hg7.imp id (fun h => by omega)))
      have hr2 : rn + 2 = 2 * (k + 1) := by omega
      clear hF7 hg7 h7 hRL hrn HK HR1 HJ HBZ HRS FX2 HC hI hFz hBz HF hxz
      rw [hr2]
      clear hr2
      go_wp2
      go_roundw
      case rel => exact ⟨k + 1, _, c, by go_num, by omega, rfl, HN⟩
      case measure => simp [intOf]; omega
    · have hd : decide ((k : Int) < (n : Int)) = false := decide_eq_false (by omega)
      have hd2 : decide (k < n) = false := decide_eq_false (by omega)
      have hkn : k = n := by omega
      obtain ⟨ga', gc', hP, hE, hS, hN⟩ := hR.out
      rw [List.take_of_length_le (by rw [HLX.out]; omega), List.take_of_length_le (by rw [HLY.out]; omega)] at hP hS
      have HN := hidq (show JoinEnd none w pb ga0 wd m0 oa on oc G0 (x.zip y) (Wr.inter x y) (.returned (.slice ra (2 * k) rc)) W0 from
        ⟨ga', gc', ra, rc, 2 * k, rfl, by rw [Wr.inter_length n x y HLX.out HLY.out, hkn], by rw [List.length_zip, HLX.out, HLY.out, Nat.min_self, ← hkn]; exact hP, hE, nsAt_of hS (fun j hj => (hN j hj).2), fun j hj => .inr (hN j hj).1⟩)
      clear hP hE hS hN hR hkn
      go_wp2
      go_ret
      exact HN
end Go.Proofs.Ytbcmilfajeanbaa

namespace Go.Proofs.Ytbcmilfajeanbaa
open Go.RowKit Go.Sort

theorem every0_any (w : World) (a : Option Addr) (c n : Nat) (S : Nat → Prop) (l : List Nat) (hn : l.length = n) (h : NsAt w a S l) (hl : n ≤ 64) :
    Calls Try.prog 131 #[.slice a n c, .int .i64 0] w fun e w' => ∃ oa oc m, e = .returned (.slice oa m oc) ∧ (Wr.ev l).length = m ∧ NsAt w' oa (fun j => j < w.heap.size) (Wr.ev l) ∧ Below w.heap.size w w' :=
  every_any w a c 0 n S l (by omega) hn h hl
theorem every1_any (w : World) (a : Option Addr) (c n : Nat) (S : Nat → Prop) (l : List Nat) (hn : l.length = n) (h : NsAt w a S l) (hl : n ≤ 64) :
    Calls Try.prog 131 #[.slice a n c, .int .i64 1] w fun e w' => ∃ oa oc m, e = .returned (.slice oa m oc) ∧ (Wr.od l).length = m ∧ NsAt w' oa (fun j => j < w.heap.size) (Wr.od l) ∧ Below w.heap.size w w' := by
  have := every_any w a c 1 n S l (by omega) hn h hl
  rw [List.drop_one] at this
  exact this

/-- How many gates. -/
def mg : Nat → Nat
  | 0 => 1
  | d + 1 => 2 * mg d + 2 ^ (d + 1)
def cg : Nat → Nat
  | 0 => 0
  | d + 1 => 2 * cg d + mg d
theorem merge_gates : ∀ (d : Nat) (x y : List Nat), x.length = 2 ^ d → y.length = 2 ^ d → (Wr.merge d x y).1.length = mg d
  | 0, x, y, hx, hy => by simp [Wr.merge, hx, hy, mg]
  | d + 1, x, y, hx, hy => by
    rw [Wr.pow_succ2] at hx hy
    have h1 := merge_gates d (Wr.ev x) (Wr.od y) (Wr.ev_length _ _ hx) (Wr.od_length _ _ hy)
    have h2 := merge_gates d (Wr.od x) (Wr.ev y) (Wr.od_length _ _ hx) (Wr.ev_length _ _ hy)
    have l1 := Wr.merge_length d (Wr.ev x) (Wr.od y) (Wr.ev_length _ _ hx) (Wr.od_length _ _ hy)
    have l2 := Wr.merge_length d (Wr.od x) (Wr.ev y) (Wr.od_length _ _ hx) (Wr.ev_length _ _ hy)
    simp only [Wr.merge, List.length_append, List.length_zip, h1, h2, l1, l2, mg, Wr.pow_succ2]
    omega
theorem count_gates : ∀ (d : Nat) (l : List Nat), l.length = 2 ^ d → (Wr.count d l).1.length = cg d
  | 0, l, _ => rfl
  | d + 1, l, h => by
    rw [Wr.pow_succ2] at h
    have l1 : (l.take (2 ^ d)).length = 2 ^ d := by rw [List.length_take]; omega
    have l2 : (l.drop (2 ^ d)).length = 2 ^ d := by rw [List.length_drop]; omega
    have h1 := count_gates d _ l1
    have h2 := count_gates d _ l2
    have h3 := merge_gates d _ _ (Wr.count_length d _ l1) (Wr.count_length d _ l2)
    simp only [Wr.count, List.length_append, h1, h2, h3, cg]
    omega

set_option maxRecDepth 20000 in
set_option maxHeartbeats 4000000 in
theorem merge_any : ∀ (d : Nat) (w : World) (pb : Nat) (ga : Option Addr) (gc : Nat) (wd : Int) (m : Nat) (oa : Option Addr) (on oc : Nat) (G : List (Nat × Nat)) (xa ya : Option Addr) (xc yc n : Nat) (x y : List Nat),
    PlanAt w pb ga gc wd m oa on oc G → NsAt w xa (pset pb ga) x → NsAt w ya (pset pb ga) y → x.length = n → y.length = n → n = 2 ^ d → n ≤ 32 → m + mg d ≤ 900 →
    Calls Try.prog 125 #[.pointer (some ⟨pb, 0, none⟩), .slice xa n xc, .slice ya n yc] w (JoinEnd none w pb ga wd m oa on oc G (Wr.merge d x y).1 (Wr.merge d x y).2) := by
  intro d
  induction d with
  | zero =>
    intro w pb ga gc wd m oa on oc G xa ya xc yc n x y hP hx hy hlx hly hn _ hm
    have hn1 : n = 1 := hn
    subst hn1
    have hJ := join_any w pb ga gc wd m oa on oc G xa ya xc yc 1 x y hP hx hy hlx hly (by decide) (by omega)
    clear hP hx hy hlx hly hn hm
    go_enter Try.func125, Try.ntmps125
    go_wp2_with fail
    refine hJ.mono ?_
    rintro e w1 hE
    obtain ⟨ga', gc', ra, rc, n', rfl, hE⟩ := hE
    go_wp2_with fail
    go_ret
    exact ⟨ga', gc', ra, rc, n', rfl, hE⟩
  | succ d ih =>
    intro w pb ga gc wd m oa on oc G xa ya xc yc n x y hP hx hy hlx hly hn hn32 hm
    obtain ⟨h, hh⟩ : ∃ h, h = 2 ^ d := ⟨_, rfl⟩
    have hn2 : n = 2 * h := by rw [hn, Wr.pow_succ2, hh]
    have hpos : 1 ≤ h := by have := Nat.two_pow_pos d; omega
    have hne : ((n : Int) == 1) = false := by simp; omega
    have hmg : mg (d + 1) = 2 * mg d + 2 * h := by rw [mg, Wr.pow_succ2, hh]
    have lx : x.length = 2 * h := by omega
    have ly : y.length = 2 * h := by omega
    have ex := Wr.ev_length _ _ lx
    have ox := Wr.od_length _ _ lx
    have ey := Wr.ev_length _ _ ly
    have oy := Wr.od_length _ _ ly
    have g1 := merge_gates d (Wr.ev x) (Wr.od y) (by omega) (by omega)
    have g2 := merge_gates d (Wr.od x) (Wr.ev y) (by omega) (by omega)
    have l1 := Wr.merge_length d (Wr.ev x) (Wr.od y) (by omega) (by omega)
    have l2 := Wr.merge_length d (Wr.od x) (Wr.ev y) (by omega) (by omega)
    have e1 : (Wr.merge (d + 1) x y).1 = (Wr.merge d (Wr.ev x) (Wr.od y)).1 ++ (Wr.merge d (Wr.od x) (Wr.ev y)).1 ++ (Wr.merge d (Wr.ev x) (Wr.od y)).2.zip (Wr.merge d (Wr.od x) (Wr.ev y)).2 := rfl
    have e2 : (Wr.merge (d + 1) x y).2 = Wr.inter (Wr.merge d (Wr.ev x) (Wr.od y)).2 (Wr.merge d (Wr.od x) (Wr.ev y)).2 := rfl
    rw [e1, e2]
    clear e1 e2
    have IH := hidq ih
    have HN := hidq (And.intro hn2 (And.intro hpos (And.intro hh (And.intro hmg (And.intro g1 (And.intro g2 (And.intro l1 l2)))))))
    have HE := hidq (And.intro ex (And.intro ox (And.intro ey oy)))
    have HX := hidq (And.intro hx (And.intro hy (And.intro hlx hly)))
    have HP := hidq hP
    have HM := hidq (And.intro hm hn32)
    have k1 := every0_any w xa xc n _ x hlx hx (by omega)
    clear ih hn2 hpos hh hmg g1 g2 l1 l2 ex ox ey oy hx hy hlx hly hP hm hn32 hn lx ly
    generalize hA : Wr.merge d (Wr.ev x) (Wr.od y) = A at HN ⊢
    generalize hB : Wr.merge d (Wr.od x) (Wr.ev y) = B at HN ⊢
    have HAB := hidq (And.intro hA hB)
    clear hA hB
    go_enter Try.func125, Try.ntmps125
    go_wp2_with fail
    refine k1.mono ?_
    rintro e w1 ⟨a1, c1, m1, rfl, hm1, hN1, hb1⟩
    clear k1
    have k2 := every1_any w1 ya yc n _ y HX.out.2.2.2 (HX.out.2.1.below hb1) (by have := HM.out.2; omega)
    go_wp2_with fail
    refine k2.mono ?_
    rintro e w2 ⟨a2, c2, m2, rfl, hm2, hN2, hb2⟩
    clear k2
    have hb02 : Below w.heap.size w w2 := hb1.trans (hb2.mono hb1.size)
    obtain rfl : m1 = h := by rw [← hm1]; exact HE.out.1
    obtain rfl : m2 = m1 := by rw [← hm2]; exact HE.out.2.2.2
    have hlt := HP.out.lt
    have hs1 := hb1.size
    have k3 := IH.out w2 pb ga gc wd m oa on oc G a1 a2 c1 c2 m2 (Wr.ev x) (Wr.od y) (HP.out.below hb02) ((hN1.below hb2).mono (fun j _ hj => hlt j hj)) (hN2.mono (fun j _ hj => Nat.lt_of_lt_of_le (hlt j hj) hs1)) hm1 hm2 HN.out.2.2.1 (by have := HM.out.2; have := HN.out.1; omega) (by have := HM.out.1; have := HN.out.2.2.2.1; omega)
    rw [HAB.out.1] at k3
    clear hN1 hN2 hm1 hm2 hs1
    have HB2 := hidq hb02
    clear hb1 hb2 hb02 hlt
    go_wp2_with fail
    refine k3.mono ?_
    rintro e w3 ⟨ga1, gc1, ra1, rc1, n1, rfl, hn1, hP3, hE3, hR3, _⟩
    clear k3
    have hE03 : PEnd pb ga w ga1 w3 := (PEnd.below HB2.out).trans hE3
    have H3 := hidq (And.intro hn1 (And.intro hP3 (And.intro hE03 hR3)))
    have k4 := every1_any w3 xa xc n _ x HX.out.2.2.1 (HX.out.1.but hE03.1 hE03.2) (by have := HM.out.2; omega)
    clear hn1 hP3 hE3 hR3 hE03
    go_wp2_with fail
    refine k4.mono ?_
    rintro e w4 ⟨a4, c4, m4, rfl, hm4, hN4, hb4⟩
    clear k4
    have k5 := every0_any w4 ya yc n _ y HX.out.2.2.2 ((HX.out.2.1.but H3.out.2.2.1.1 H3.out.2.2.1.2).below hb4) (by have := HM.out.2; omega)
    go_wp2_with fail
    refine k5.mono ?_
    rintro e w5 ⟨a5, c5, m5, rfl, hm5, hN5, hb5⟩
    clear k5
    obtain rfl : m4 = m2 := by rw [← hm4]; exact HE.out.2.1
    obtain rfl : m5 = m4 := by rw [← hm5]; exact HE.out.2.2.1
    have hb35 : Below w3.heap.size w3 w5 := hb4.trans (hb5.mono hb4.size)
    have hlt := H3.out.2.1.lt
    have hs4 := hb4.size
    have k6 := IH.out w5 pb ga1 gc1 wd _ oa on oc _ a4 a5 c4 c5 m5 (Wr.od x) (Wr.ev y) (H3.out.2.1.below hb35) ((hN4.below hb5).mono (fun j _ hj => hlt j hj)) (hN5.mono (fun j _ hj => Nat.lt_of_lt_of_le (hlt j hj) hs4)) hm4 hm5 HN.out.2.2.1 (by have := HM.out.2; have := HN.out.1; omega) (by have := HM.out.1; have := HN.out.2.2.2.1; have := HN.out.2.2.2.2.1; omega)
    rw [HAB.out.2] at k6
    have HB5 := hidq hb35
    clear hN4 hN5 hm4 hm5 hs4 hb4 hb5 hb35 hlt
    go_wp2_with fail
    refine k6.mono ?_
    rintro e w6 ⟨ga2, gc2, ra2, rc2, n2, rfl, hn2, hP6, hE6, hR6, _⟩
    clear k6
    have hE36 : PEnd pb ga1 w3 ga2 w6 := (PEnd.below HB5.out).trans hE6
    obtain rfl : n1 = n2 := by rw [← H3.out.1, ← hn2, HN.out.2.2.2.2.2.2.1, HN.out.2.2.2.2.2.2.2]
    have k7 := join_any w6 pb ga2 gc2 wd _ oa on oc _ ra1 ra2 rc1 rc2 n1 _ _ hP6 (H3.out.2.2.2.but hE36.1 hE36.2) hR6 H3.out.1 hn2 (by have := HM.out.2; have := HN.out.1; have := HN.out.2.2.2.2.2.2.1; have := HN.out.2.2.1; have := H3.out.1; omega) (by have := HM.out.1; have := HN.out.2.2.2.1; have := HN.out.2.2.2.2.1; have := HN.out.2.2.2.2.2.1; omega)
    have HE6 := hidq (H3.out.2.2.1.trans hE36)
    clear hE36 hn2 hP6 hE6 hR6
    go_wp2_with fail
    refine k7.mono ?_
    rintro e w7 ⟨ga3, gc3, ra3, rc3, n3, rfl, hn3, hP7, hE7, hR7, hQ7⟩
    clear k7
    have HF := hidq (show JoinEnd none w pb ga wd m oa on oc G (A.1 ++ B.1 ++ A.2.zip B.2) (Wr.inter A.2 B.2) (.returned (.slice ra3 n3 rc3)) w7 from
      ⟨ga3, gc3, ra3, rc3, n3, rfl, hn3, by
        have e1 : m + (A.1 ++ B.1 ++ A.2.zip B.2).length = m + A.1.length + B.1.length + (A.2.zip B.2).length := by rw [List.length_append, List.length_append]; omega
        have e2 : G ++ (A.1 ++ B.1 ++ A.2.zip B.2) = G ++ A.1 ++ B.1 ++ A.2.zip B.2 := by simp
        rw [e1, e2]; exact hP7, HE6.out.trans hE7, hR7, fun j hj => (hQ7 j hj).imp id (fun h => Nat.le_trans HE6.out.1.size h)⟩)
    clear hn3 hP7 hE7 hR7 hQ7
    go_wp2_with fail
    go_ret
    exact HF
end Go.Proofs.Ytbcmilfajeanbaa

namespace Go.Proofs.Ytbcmilfajeanbaa
open Go.RowKit Go.Sort

/-- A Net's gates, its places, by its width. -/
def nC (n : Nat) : Nat := cg (Nat.log2 n)
def nG (n : Nat) : List (Nat × Nat) := (Wr.count (Nat.log2 n) (List.range n)).1
def nO (n : Nat) : List Nat := (Wr.count (Nat.log2 n) (List.range n)).2
end Go.Proofs.Ytbcmilfajeanbaa

namespace Go.Proofs.Ytbcmilfajeanbaa
open Go.RowKit

theorem pow2_ex {p : Int} (h : legal 4 p = 0) : ∃ d n : Nat, d ≤ 4 ∧ n = 2 ^ d ∧ p = (n : Int) := by
  have h1 : 1 ≤ p ∧ p ≤ 16 := by
    rcases Classical.em (1 ≤ p ∧ p ≤ 16) with h' | h'
    · exact h'
    · rw [legal_par (by decide) h'] at h; cases h
  have h2 : pow2 p = true := by
    cases e : pow2 p
    · rw [legal_net (by decide) h1 ⟨rfl, e⟩] at h; cases h
    · rfl
  have : p = 1 ∨ p = 2 ∨ p = 4 ∨ p = 8 ∨ p = 16 := by simpa [pow2] using h2
  rcases this with rfl | rfl | rfl | rfl | rfl
  · exact ⟨0, 1, by decide, rfl, rfl⟩
  · exact ⟨1, 2, by decide, rfl, rfl⟩
  · exact ⟨2, 4, by decide, rfl, rfl⟩
  · exact ⟨3, 8, by decide, rfl, rfl⟩
  · exact ⟨4, 16, by decide, rfl, rfl⟩
theorem legal4_of {p : Int} (h : ¬ legal 4 p = 0) : legal 4 p = 5 := by
  by_cases h1 : 1 ≤ p ∧ p ≤ 16
  · by_cases h2 : pow2 p = false
    · exact legal_net (by decide) h1 ⟨rfl, h2⟩
    · exact absurd (legal_ok (by decide) h1 (fun e => h2 e.2)) h
  · exact legal_par (by decide) h1

theorem par_rng {k p : Int} (h : legal k p = 0) : 1 ≤ p ∧ p ≤ 16 := by
  by_cases hk : 1 ≤ k ∧ k ≤ 4
  · rcases Classical.em (1 ≤ p ∧ p ≤ 16) with h' | h'
    · exact h'
    · rw [legal_par hk h'] at h; cases h
  · rw [legal_kind hk] at h; cases h
end Go.Proofs.Ytbcmilfajeanbaa

namespace Go.Proofs.Ytbcmilfajeanbaa
open Go.RowKit Go.Sort

theorem NsAt.take {w : World} {a : Option Addr} {S : Nat → Prop} {l : List Nat} (h : NsAt w a S l) (k : Nat) : NsAt w a S (l.take k) := fun i v hv => by
  refine h i v ?_
  rw [List.getElem?_take] at hv
  split at hv
  · exact hv
  · cases hv
theorem NsAt.drop {w : World} {b off : Nat} {S : Nat → Prop} {l : List Nat} (h : NsAt w (some ⟨b, off, none⟩) S l) (k : Nat) : NsAt w (some ⟨b, off + k, none⟩) S (l.drop k) := fun i v hv => by
  rw [List.getElem?_drop] at hv
  obtain ⟨b', off', h1, h2, h3, h4⟩ := h _ v hv
  cases h1
  exact ⟨b, off + k, rfl, h2, h3, by rw [Nat.add_assoc]; exact h4⟩

set_option maxRecDepth 20000 in
set_option maxHeartbeats 4000000 in
theorem count_any : ∀ (d : Nat) (w : World) (pb : Nat) (ga : Option Addr) (gc : Nat) (wd : Int) (m : Nat) (oa : Option Addr) (on oc : Nat) (G : List (Nat × Nat)) (lb lo lc n : Nat) (l : List Nat),
    PlanAt w pb ga gc wd m oa on oc G → NsAt w (some ⟨lb, lo, none⟩) (pset pb ga) l → l.length = n → n = 2 ^ d → n ≤ 32 → n ≤ lc → lc ≤ 100 → m + cg d ≤ 900 →
    Calls Try.prog 110 #[.pointer (some ⟨pb, 0, none⟩), .slice (some ⟨lb, lo, none⟩) n lc] w (JoinEnd (some ⟨lb, lo, none⟩) w pb ga wd m oa on oc G (Wr.count d l).1 (Wr.count d l).2) := by
  intro d
  induction d with
  | zero =>
    intro w pb ga gc wd m oa on oc G lb lo lc n l hP hl hll hn _ _ _ _
    have hn1 : n = 1 := hn
    subst hn1
    have HF := hidq (show JoinEnd (some ⟨lb, lo, none⟩) w pb ga wd m oa on oc G (Wr.count 0 l).1 (Wr.count 0 l).2 (.returned (.slice (some ⟨lb, lo, none⟩) 1 lc)) w from
      ⟨ga, gc, _, lc, 1, rfl, hll, by simpa [Wr.count] using hP, PEnd.refl _ _ _, hl, fun j hj => .inl hj⟩)
    clear hP hl hll hn
    go_enter Try.func110, Try.ntmps110
    go_wp2_with fail
    go_ret
    exact HF
  | succ d ih =>
    intro w pb ga gc wd m oa on oc G lb lo lc n l hP hl hll hn hn32 hlc hlc2 hm
    obtain ⟨h, hh⟩ : ∃ h, h = 2 ^ d := ⟨_, rfl⟩
    have hn2 : n = 2 * h := by rw [hn, Wr.pow_succ2, hh]
    have hpos : 1 ≤ h := by have := Nat.two_pow_pos d; omega
    have hne : ((n : Int) == 1) = false := by simp; omega
    have hdiv : (n : Int) / 2 = (h : Int) := by omega
    have l1 : (l.take (2 ^ d)).length = h := by rw [List.length_take]; omega
    have l2 : (l.drop (2 ^ d)).length = h := by rw [List.length_drop]; omega
    have c1 := count_gates d _ (l1.trans hh)
    have c2 := count_gates d _ (l2.trans hh)
    have q1 := Wr.count_length d _ (l1.trans hh)
    have q2 := Wr.count_length d _ (l2.trans hh)
    have g3 := merge_gates d _ _ q1 q2
    have e1 : (Wr.count (d + 1) l).1 = (Wr.count d (l.take (2 ^ d))).1 ++ (Wr.count d (l.drop (2 ^ d))).1 ++ (Wr.merge d (Wr.count d (l.take (2 ^ d))).2 (Wr.count d (l.drop (2 ^ d))).2).1 := rfl
    have e2 : (Wr.count (d + 1) l).2 = (Wr.merge d (Wr.count d (l.take (2 ^ d))).2 (Wr.count d (l.drop (2 ^ d))).2).2 := rfl
    have hcg : cg (d + 1) = 2 * cg d + mg d := rfl
    rw [e1, e2]
    clear e1 e2
    have k1 := ih w pb ga gc wd m oa on oc G lb lo lc h (l.take (2 ^ d)) hP (hl.take _) l1 hh (by omega) (by omega) hlc2 (by omega)
    have hl2 := hl.drop (2 ^ d)
    rw [← hh] at hl2 l2
    rw [← hh] at k1 c1 c2 q1 q2 g3 ⊢
    have IH := hidq ih
    generalize hA : Wr.count d (l.take h) = A at *
    generalize hB : Wr.count d (l.drop h) = B at *
    have HN := hidq (And.intro hn2 (And.intro hpos (And.intro hcg (And.intro c1 (And.intro c2 (And.intro q1 (And.intro q2 g3)))))))
    have HM := hidq (And.intro hm (And.intro hn32 (And.intro hlc hlc2)))
    have HL := hidq (And.intro hl2 (And.intro l2 hB))
    have HH := hidq hh
    have hhn : (h : Int) ≤ (n : Int) := by omega
    have hhl : (h : Int) ≤ (lc : Int) := by omega
    have hnl : (n : Int) ≤ (lc : Int) := by omega
    have hh0 : (0 : Int) ≤ (h : Int) := by omega
    have hltc : h < lc := by omega
    have hh32 : (h : Int) ≤ 32 := by omega
    have hnh : n - h = h := by omega
    have hsz : lo + h * 1 = lo + h := by omega
    clear ih hn2 hpos hcg c1 c2 q1 q2 g3 hm hn32 hlc hlc2 hl2 l2 hB hl hll hn hh l1 hA hP
    go_enter Try.func110, Try.ntmps110
    go_wp2_with fail
    refine k1.mono ?_
    rintro e w3 ⟨ga1, gc1, ra1, rc1, n1, rfl, hn1, hP3, hE3, hR3, _⟩
    clear k1
    have k2 := IH.out w3 pb ga1 gc1 wd _ oa on oc _ lb (lo + h) (lc - h) h (l.drop h) hP3 (HL.out.1.but hE3.1 hE3.2) HL.out.2.1 HH.out (by have := HM.out; have := HN.out.1; omega) (by have := HM.out; have := HN.out.1; omega) (by have := HM.out; omega) (by have := HM.out; have := HN.out; omega)
    rw [HL.out.2.2] at k2
    have H3 := hidq (And.intro hn1 (And.intro hP3 (And.intro hE3 hR3)))
    clear hn1 hP3 hE3 hR3
    go_wp2_with fail
    refine k2.mono ?_
    rintro e w4 ⟨ga2, gc2, ra2, rc2, n2, rfl, hn2, hP4, hE4, hR4, _⟩
    clear k2
    obtain rfl : n1 = h := by rw [← H3.out.1]; exact HN.out.2.2.2.2.2.1
    obtain rfl : n2 = n1 := by rw [← hn2]; exact HN.out.2.2.2.2.2.2.1
    have k3 := merge_any d w4 pb ga2 gc2 wd _ oa on oc _ ra1 ra2 rc1 rc2 n2 A.2 B.2 hP4 (H3.out.2.2.2.but hE4.1 hE4.2) hR4 H3.out.1 hn2 HH.out (by have := HM.out; have := HN.out.1; omega) (by have := HM.out; have := HN.out; omega)
    have HE4 := hidq (H3.out.2.2.1.trans hE4)
    clear hn2 hP4 hE4 hR4
    go_wp2_with fail
    refine k3.mono ?_
    rintro e w5 ⟨ga3, gc3, ra3, rc3, n3, rfl, hn3, hP5, hE5, hR5, hQ5⟩
    clear k3
    have HF := hidq (show JoinEnd (some ⟨lb, lo, none⟩) w pb ga wd m oa on oc G (A.1 ++ B.1 ++ (Wr.merge d A.2 B.2).1) (Wr.merge d A.2 B.2).2 (.returned (.slice ra3 n3 rc3)) w5 from
      ⟨ga3, gc3, ra3, rc3, n3, rfl, hn3, by
        have e1 : m + (A.1 ++ B.1 ++ (Wr.merge d A.2 B.2).1).length = m + A.1.length + B.1.length + (Wr.merge d A.2 B.2).1.length := by rw [List.length_append, List.length_append]; omega
        have e2 : G ++ (A.1 ++ B.1 ++ (Wr.merge d A.2 B.2).1) = G ++ A.1 ++ B.1 ++ (Wr.merge d A.2 B.2).1 := by simp
        rw [e1, e2]; exact hP5, HE4.out.trans hE5, hR5, fun j hj => (hQ5 j hj).elim (fun ⟨_, h, _⟩ => by cases h) (fun h => .inr (Nat.le_trans HE4.out.1.size h))⟩)
    clear hn3 hP5 hE5 hR5 hQ5
    go_wp2_with fail
    go_ret
    exact HF
end Go.Proofs.Ytbcmilfajeanbaa

namespace Go.Proofs.Ytbcmilfajeanbaa
open Go.RowKit Go.Sort

set_option maxRecDepth 20000 in
theorem zeros (T E : TypeId) (n : Nat) (hn : n ≤ 1000) (hu : Try.prog.underlying T = some (.slice E)) (h : (Try.prog.info? E).map (fun i => (i.zero, i.size, i.bytes)) = some (some (.int .i64 0), 1, 8)) (w : World) :
    (Instr.makeSlice T (.int .i64 (n : Int)) (.int .i64 (n : Int))).run Try.prog w = .ok (.slice (some ⟨w.heap.size, 0, none⟩) n n) (w.alloc (.cells (List.replicate n (Value.int .i64 0)).toArray E)) := by
  obtain ⟨i, hi, he⟩ := Option.map_eq_some_iff.1 h
  simp only [Prod.mk.injEq] at he
  have hr := run_make (P := Try.prog) w T E i _ hu hi he.1 .i64 .i64 (n : Int) (n : Int) (by omega) (Int.le_refl _) (by rw [he.2.2]; omega) (by omega)
  rw [hr, he.2.1]
  simp only [Int.toNat_natCast, Nat.mul_one]
  congr 3
  apply Array.ext
  · simp [madeCells]
  · intro i h1 h2
    simp [madeCells, Value.cells, Nat.mod_one]
theorem zerosI (n : Nat) (hn : n ≤ 1000) (w : World) : (Instr.makeSlice 66 (.int .i64 (n : Int)) (.int .i64 (n : Int))).run Try.prog w = .ok (.slice (some ⟨w.heap.size, 0, none⟩) n n) (w.alloc (.cells (List.replicate n (Value.int .i64 0)).toArray 3)) :=
  zeros _ _ n hn Try.underlying66 (by kernel_rfl) w
theorem zerosL (n : Nat) (hn : n ≤ 1000) (w : World) : (Instr.makeSlice 55 (.int .i64 (n : Int)) (.int .i64 (n : Int))).run Try.prog w = .ok (.slice (some ⟨w.heap.size, 0, none⟩) n n) (w.alloc (.cells (List.replicate n (Value.int .i64 0)).toArray 2)) :=
  zeros _ _ n hn Try.underlying55 (by kernel_rfl) w
theorem vals_zero (n : Nat) : vals (List.replicate n 0) = List.replicate n (Value.int .i64 0) := by simp [vals]
theorem vals_set (l : List Nat) (i v : Nat) : (vals l).set i (.int .i64 (v : Int)) = vals (l.set i v) := by simp [vals, List.map_set]
theorem flatG_get : ∀ (G : List (Nat × Nat)) (i : Nat) (g : Nat × Nat), G[i]? = some g → (flatG G)[i * 2]? = some (.int .i64 (g.1 : Int)) ∧ (flatG G)[i * 2 + 1]? = some (.int .i64 (g.2 : Int))
  | [], i, g, h => by simp at h
  | x :: G, 0, g, h => by simp at h; subst h; exact ⟨rfl, rfl⟩
  | x :: G, i + 1, g, h => by
    have := flatG_get G i g (by simpa using h)
    have e : flatG (x :: G) = .int .i64 (x.1 : Int) :: .int .i64 (x.2 : Int) :: flatG G := rfl
    rw [e, show (i + 1) * 2 = i * 2 + 1 + 1 by omega]
    exact this
/-- Numbers in a box. -/
theorem BoxAt.ns {w : World} {b : Nat} {l : List Nat} (h : BoxAt w b (vals l)) (S : Nat → Prop) (hS : ¬ S b) : NsAt w (some ⟨b, 0, none⟩) S l := fun i v hv =>
  ⟨b, 0, rfl, h.lt, hS, by rw [Nat.zero_add]; exact h.cell i _ (by simp [vals, hv])⟩
def upTo (k n : Nat) : List Nat := List.range k ++ List.replicate (n - k) 0
theorem upTo_len {k n : Nat} (h : k ≤ n) : (upTo k n).length = n := by simp [upTo]; omega
theorem upTo_set {k n : Nat} (h : k < n) : (upTo k n).set k k = upTo (k + 1) n := by
  apply List.ext_getElem?
  intro j
  unfold upTo
  rw [List.getElem?_set]
  by_cases e : k = j
  · subst e
    rw [if_pos rfl, if_pos (by simp; omega), List.getElem?_append_left (by simp), List.getElem?_range (by omega)]
  · rw [if_neg e]
    by_cases e2 : j < k
    · rw [List.getElem?_append_left (by simpa using e2), List.getElem?_append_left (by simp; omega), List.getElem?_range e2, List.getElem?_range (by omega)]
    · rw [List.getElem?_append_right (by simp; omega), List.getElem?_append_right (by simp; omega)]
      simp only [List.length_range, List.getElem?_replicate]
      by_cases e3 : j < n
      · rw [if_pos (by omega), if_pos (by omega)]
      · rw [if_neg (by omega), if_neg (by omega)]

/-- How a plan is answered. -/
def MakeEnd (d n : Nat) (w : World) (e : Ending) (w' : World) : Prop :=
  ∃ ga gc oa oc, e = .returned (.tuple #[.agg #[.int .i64 (n : Int), .slice ga (cg d) gc, .slice oa n oc], .int .i64 0]) ∧ SlAt 2 w' ga gc (cg d) (flatG (Wr.count d (List.range n)).1) ∧ NsAt w' oa (fun _ => False) (Wr.count d (List.range n)).2 ∧ Below w.heap.size w w'
/-- The same, and that the plan lies in new blocks. -/
def MakeNew (d n : Nat) (w : World) (e : Ending) (w' : World) : Prop :=
  ∃ ga gc oa oc, e = .returned (.tuple #[.agg #[.int .i64 (n : Int), .slice ga (cg d) gc, .slice oa n oc], .int .i64 0]) ∧ SlAt 2 w' ga gc (cg d) (flatG (Wr.count d (List.range n)).1) ∧ NsAt w' oa (fun _ => False) (Wr.count d (List.range n)).2 ∧ (∀ j, inB ga j → w.heap.size ≤ j) ∧ (∀ j, inB oa j → w.heap.size ≤ j) ∧ Below w.heap.size w w'
theorem plan_start (w : World) (b : Nat) (wd : Int) (h : BoxAt w b [.int .i64 wd, .slice none 0 0, .slice none 0 0]) : PlanAt w b none 0 wd 0 none 0 0 [] :=
  ⟨h, SlAt.nil _ _, rfl, fun e => by obtain ⟨x, hx, _⟩ := e; cases hx⟩
theorem legal_pow {d n : Nat} (hd : d ≤ 4) (hn : n = 2 ^ d) : legal 4 (n : Int) = 0 ∧ 1 ≤ n ∧ n ≤ 16 := by
  have : d = 0 ∨ d = 1 ∨ d = 2 ∨ d = 3 ∨ d = 4 := by omega
  rcases this with rfl | rfl | rfl | rfl | rfl <;> subst hn <;> decide
theorem cg_le {d : Nat} (hd : d ≤ 4) : cg d ≤ 100 := by
  have : d = 0 ∨ d = 1 ∨ d = 2 ∨ d = 3 ∨ d = 4 := by omega
  rcases this with rfl | rfl | rfl | rfl | rfl <;> decide

/-- What holds between two rounds. -/
def MR (w : World) (n rb pb sb k : Nat) (wr : World) : Prop :=
  BoxAt wr rb [.int .i64 0, .slice none 0 0, .slice none 0 0] ∧ BoxAt wr pb [.int .i64 (n : Int), .slice none 0 0, .slice none 0 0] ∧ BoxAt wr sb (vals (upTo k n)) ∧ w.heap.size ≤ rb ∧ rb < pb ∧ pb < sb ∧ Below w.heap.size w wr

set_option maxRecDepth 20000 in
set_option maxHeartbeats 4000000 in
theorem make_new (d n : Nat) (hd : d ≤ 4) (hn : n = 2 ^ d) (w : World) : Calls Try.prog 91 #[.int .i64 (n : Int)] w (MakeNew d n w) := by
  obtain ⟨hl, hn1, hn16⟩ := legal_pow hd hn
  have hcg := cg_le hd
  have HN := hidq (And.intro hd (And.intro hn hcg))
  have hL := legal_any 4 (n : Int) (w.alloc (.cells #[.int .i64 0, .slice none 0 0, .slice none 0 0] 122))
  rw [hl] at hL
  have hB0 := BoxAt.new w [.int .i64 0, .slice none 0 0, .slice none 0 0] 122
  have hb0 : Below w.heap.size w (w.alloc (.cells #[.int .i64 0, .slice none 0 0, .slice none 0 0] 122)) := (Below.refl _ _).alloc (Nat.le_refl _) _
  have H0 := hidq (And.intro hB0 hb0)
  have hmk := zerosI n (by omega)
  clear hd hn hcg hl hB0 hb0
  go_enter Try.func91, Try.ntmps91
  go_wp2_with fail
  refine hL.mono ?_
  rintro e w1 ⟨rfl, hb1⟩
  clear hL
  obtain ⟨rb, hrb⟩ : ∃ rb, w.heap.size = rb := ⟨_, rfl⟩
  obtain ⟨hB0, hb0⟩ := H0.out
  have hB1 := hB0.below hb1
  have hb01 : Below w.heap.size w w1 := hb0.trans (hb1.mono (by simp))
  rw [hrb] at hB1
  obtain ⟨pb, hpb⟩ : ∃ pb, w1.heap.size = pb := ⟨_, rfl⟩
  have hlp : rb < pb := by have := hb1.size; simp at this; omega
  obtain ⟨W2, hW2⟩ : ∃ W2, w1.alloc (.cells #[.int .i64 (n : Int), .slice none 0 0, .slice none 0 0] 122) = W2 := ⟨_, rfl⟩
  have hB2 := BoxAt.new w1 [.int .i64 (n : Int), .slice none 0 0, .slice none 0 0] 122
  have hb12 : Below w1.heap.size w1 W2 := by rw [← hW2]; exact (Below.refl _ _).alloc (Nat.le_refl _) _
  rw [show w1.alloc (.cells [.int .i64 (n : Int), .slice none 0 0, .slice none 0 0].toArray 122) = W2 from hW2, hpb] at hB2
  have hs2 : W2.heap.size = pb + 1 := by rw [← hW2]; simp [hpb]
  obtain ⟨W3, hW3⟩ : ∃ W3, W2.alloc (.cells (List.replicate n (Value.int .i64 0)).toArray 3) = W3 := ⟨_, rfl⟩
  have hB3 := BoxAt.new W2 (List.replicate n (Value.int .i64 0)) 3
  rw [hW3, ← vals_zero, hs2] at hB3
  have hb23 : Below W2.heap.size W2 W3 := by rw [← hW3]; exact (Below.refl _ _).alloc (Nat.le_refl _) _
  have HR := hidq (show MR w n rb pb (pb + 1) 0 W3 from
    ⟨(hB1.below hb12).below hb23, hB2.below hb23, by simpa [upTo] using hB3, by omega, hlp, by omega, (hb01.trans (hb12.mono hb01.size)).trans (hb23.mono (by have := hb01.size; have := hb12.size; omega))⟩)
  have hW3' : W2.alloc (.cells (Array.replicate n (Value.int .i64 0)) 3) = W3 := by rw [← hW3, List.toArray_replicate]
  have HW := hidq (And.intro hW2 hW3')
  clear hB0 hb0 hB1 hb1 hB2 hb12 hB3 hb23 hb01 H0 hW3 hW3' hW2 hs2
  go_wp2_with fail
  rw [HW.out.1]
  rw [HW.out.2]
  clear HW hmk
  go_loopw [20] (fun s20 wr => ∃ k : Nat, s20 = .int .i64 (k : Int) ∧ k ≤ n ∧ Hid (MR w n rb pb (pb + 1) k wr)) (fun s20 _ => n - (intOf s20).toNat)
  case atStart => exact ⟨0, rfl, Nat.zero_le _, HR⟩
  case round =>
    obtain ⟨k, rfl, hk, hR⟩ := hrel
    clear HR
    by_cases hlt : k < n
    · have hltI : (k : Int) < (n : Int) := by omega
      obtain ⟨h1, h2, h3, h4, h5, h6, h7⟩ := hR.out
      obtain ⟨c1, z1⟩ := h3.get k (.int .i64 (((upTo k n)[k]'(by rw [upTo_len hk]; exact hlt) : Nat) : Int)) (by simp [vals, upTo_len hk, hlt])
      have HN2 := hidq (show MR w n rb pb (pb + 1) (k + 1) (wr.setCell ⟨pb + 1, k, none⟩ (.int .i64 (k : Int))) from by
        have hb : But (fun j => j = pb + 1) wr (wr.setCell ⟨pb + 1, k, none⟩ (.int .i64 (k : Int))) := (But.refl (fun j => j = pb + 1) wr).set1 _ _ rfl _
        refine ⟨h1.but hb (by omega), h2.but hb (by omega), ?_, h4, h5, h6, h7.setCell (by show w.heap.size ≤ pb + 1; omega) _⟩
        have := h3.set k (.int .i64 (k : Int))
        rw [vals_set, upTo_set hlt] at this
        exact this)
      clear h1 h2 h3 h4 h5 h6 h7 hR
      go_wp2_with fail
      go_roundw
      case rel => exact ⟨k + 1, by go_num, by omega, HN2⟩
      case measure => simp [intOf]; omega
    · have hd : decide ((k : Int) < (n : Int)) = false := decide_eq_false (by omega)
      have hd2 : decide (k < n) = false := decide_eq_false (by omega)
      have hkn : k = n := by omega
      have hR2 := hR.out
      rw [hkn] at hR2
      obtain ⟨h1, h2, h3, h4, h5, h6, h7⟩ := hR2
      have e0 : upTo n n = List.range n := by simp [upTo]
      rw [e0] at h3
      have k1 := count_any d wr pb none 0 (n : Int) 0 none 0 0 [] (pb + 1) 0 n n (List.range n) (plan_start _ _ _ h2) (h3.ns _ (fun e => e.elim (fun e => by omega) (fun ⟨x, hx, _⟩ => by cases hx))) (by simp) HN.out.2.1 (by omega) (Nat.le_refl _) (by omega) (by have := HN.out.2.2; omega)
      have H1 := hidq (And.intro h1 (And.intro h4 (And.intro h5 (And.intro h6 h7))))
      clear h1 h2 h3 h4 h5 h6 h7 hR hkn e0
      go_wp2_with fail
      refine k1.mono ?_
      rintro e w4 ⟨ga, gc, ra, rc, n', rfl, hn', hP, hE, hR4, hQ4⟩
      clear k1
      have hlen : (List.range n).length = 2 ^ d := by rw [List.length_range]; exact HN.out.2.1
      obtain rfl : n' = n := by rw [← hn', Wr.count_length d _ hlen]; exact HN.out.2.1.symm
      have hcgl := count_gates d _ hlen
      rw [Nat.zero_add, hcgl, List.nil_append] at hP
      obtain ⟨h1, h4, h5, h6, h7⟩ := H1.out
      have hps : ∀ j, pset pb none j → j = pb := by
        rintro j (h | ⟨x, hx, _⟩)
        · exact h
        · cases hx
      have hB1 := h1.but hE.1 (fun e => by have := hps _ e; omega)
      have hb4 : Below w.heap.size w w4 := h7.trans (hE.1.below h7.size (fun j hj => by have := hps _ hj; omega))
      obtain ⟨c0, z0⟩ := hP.box.get 0 _ rfl
      obtain ⟨c1, z1⟩ := hP.box.get 1 _ rfl
      obtain ⟨c2, z2⟩ := hP.box.get 2 _ rfl
      obtain ⟨d0, y0⟩ := hB1.get 0 _ rfl
      obtain ⟨d1, y1⟩ := hB1.get 1 _ rfl
      obtain ⟨d2, y2⟩ := hB1.get 2 _ rfl
      have HK := hidq (And.intro hP (And.intro hE (And.intro hR4 (And.intro hQ4 (And.intro hB1 hb4)))))
      clear hP hE hR4 hQ4 hB1 hb4 h1 h4 h7 hcgl hlen hn'
      have hne : ¬ rb = pb := by omega
      go_wp2_with fail
      obtain ⟨W, hW⟩ : ∃ W, (((w4.setCell ⟨pb, 2, none⟩ (.slice ra n' rc)).setCell ⟨rb, 0, none⟩ (.int .i64 (n' : Int))).setCell ⟨rb, 1, none⟩ (.slice ga (cg d) gc)).setCell ⟨rb, 2, none⟩ (.slice ra n' rc) = W := ⟨_, rfl⟩
      rw [hW]
      obtain ⟨hP, hE, hR4, hQ4, hB1, hb4⟩ := HK.out
      have hrl : rb < wr.heap.size := H1.out.1.lt
      have hb5 : But (fun j => j = pb) w4 (w4.setCell ⟨pb, 2, none⟩ (.slice ra n' rc)) := (But.refl (fun j => j = pb) w4).set1 _ _ rfl _
      have hB5 := (((hB1.but hb5 (by omega)).set 0 (.int .i64 (n' : Int))).set 1 (.slice ga (cg d) gc)).set 2 (.slice ra n' rc)
      have hbW : But (fun j => j = pb ∨ j = rb) w4 W := by
        rw [← hW]
        exact ((((But.refl (fun j => j = pb ∨ j = rb) w4).set1 pb 2 (.inl rfl) _).set1 rb 0 (.inr rfl) _).set1 rb 1 (.inr rfl) _).set1 rb 2 (.inr rfl) _
      rw [hW] at hB5
      have hEnd : MakeNew d n' w (.returned (.tuple #[.agg #[.int .i64 (n' : Int), .slice ga (cg d) gc, .slice ra n' rc], .int .i64 0])) W := by
        have hs4 := hb4.size
        refine ⟨ga, gc, ra, rc, rfl, hP.sl.but hbW ?_, ?_, fun j hj => ?_, fun j hj => ?_, ?_⟩
        · intro j hj e
          rcases e with e | e
          · subst e; exact hP.ne hj
          · subst e
            rcases hE.2 _ (.inr hj) with h | h
            · have := hps _ h; omega
            · omega
        · intro i v hv
          obtain ⟨b, off, e1, e2, e3, e4⟩ := hR4 i v hv
          have hnb : ¬ (b = pb ∨ b = rb) := fun e => by
            rcases e with e | e
            · exact e3 (.inl e)
            · rcases hQ4 b ⟨_, e1, rfl⟩ with ⟨x, hx, hx2⟩ | h
              · cases hx; simp at hx2; omega
              · omega
          exact ⟨b, off, e1, Nat.lt_of_lt_of_le e2 hbW.size, id, by rw [hbW.cell (p := ⟨b, off + i, none⟩) e2 hnb]; exact e4⟩
        · rcases hE.2 _ (.inr hj) with h | h
          · have := hps _ h; omega
          · omega
        · rcases hQ4 j hj with ⟨x, hx, hx2⟩ | h
          · cases hx; simp at hx2; omega
          · omega
        · exact hb4.trans (hbW.below hs4 (fun j hj => by rcases hj with h | h <;> omega))
      have q0 := (hB5.get 0 _ rfl).1
      have q1 := (hB5.get 1 _ rfl).1
      have q2 := (hB5.get 2 _ rfl).1
      have HEnd := hidq hEnd
      clear hB5 hbW hb5 hB1 hP hE hR4 hQ4 hb4 hW HK hEnd hrl c0 c1 c2 z0 z1 z2 d0 d1 d2 y0 y1 y2
      exact bodyPost_ret (v := .tuple #[.agg #[.int .i64 (n' : Int), .slice ga (cg d) gc, .slice ra n' rc], .int .i64 0]) (by simp [results, Try.results91, go_sem, q0, q1, q2]) rfl HEnd.out
theorem make_ok (d n : Nat) (hd : d ≤ 4) (hn : n = 2 ^ d) (w : World) : Calls Try.prog 91 #[.int .i64 (n : Int)] w (MakeEnd d n w) :=
  (make_new d n hd hn w).mono (fun e w' h => by obtain ⟨ga, gc, oa, oc, h1, h2, h3, _, _, h4⟩ := h; exact ⟨ga, gc, oa, oc, h1, h2, h3, h4⟩)
end Go.Proofs.Ytbcmilfajeanbaa

namespace Go.Proofs.Ytbcmilfajeanbaa
open Go.RowKit Go.Sort
theorem legal4_cases (p : Int) : legal 4 p = 5 ∨ (legal 4 p = 0 ∧ ∃ d : Nat, d ≤ 4 ∧ p = ((2 ^ d : Nat) : Int)) := by
  by_cases h : 1 ≤ p ∧ p ≤ 16
  · by_cases h2 : pow2 p = false
    · exact .inl (legal_net (by decide) h ⟨rfl, h2⟩)
    · refine .inr ⟨legal_ok (by decide) h (fun e => h2 e.2), ?_⟩
      have h3 : p = 1 ∨ p = 2 ∨ p = 4 ∨ p = 8 ∨ p = 16 := by
        have : pow2 p = true := by cases h4 : pow2 p with | true => rfl | false => exact absurd h4 h2
        exact of_decide_eq_true this
      rcases h3 with rfl | rfl | rfl | rfl | rfl
      · exact ⟨0, by decide, rfl⟩
      · exact ⟨1, by decide, rfl⟩
      · exact ⟨2, by decide, rfl⟩
      · exact ⟨3, by decide, rfl⟩
      · exact ⟨4, by decide, rfl⟩
  · exact .inl (legal_par (by decide) h)

set_option maxRecDepth 20000 in
set_option maxHeartbeats 4000000 in
theorem make_no (p : Int) (w : World) (h : legal 4 p = 5) : Calls Try.prog 91 #[.int .i64 p] w fun e w' => e = .returned (.tuple #[.agg #[.int .i64 0, .slice none 0 0, .slice none 0 0], .int .i64 5]) ∧ Below w.heap.size w w' := by
  have hL := legal_any 4 p (w.alloc (.cells #[.int .i64 0, .slice none 0 0, .slice none 0 0] 122))
  rw [h] at hL
  have hB0 := BoxAt.new w [.int .i64 0, .slice none 0 0, .slice none 0 0] 122
  have hb0 : Below w.heap.size w (w.alloc (.cells #[.int .i64 0, .slice none 0 0, .slice none 0 0] 122)) := (Below.refl _ _).alloc (Nat.le_refl _) _
  have H0 := hidq (And.intro hB0 hb0)
  clear h hB0 hb0
  go_enter Try.func91, Try.ntmps91
  go_wp2_with fail
  refine hL.mono ?_
  rintro e w1 ⟨rfl, hb1⟩
  clear hL
  obtain ⟨rb, hrb⟩ : ∃ rb, w.heap.size = rb := ⟨_, rfl⟩
  obtain ⟨hB0, hb0⟩ := H0.out
  have hB1 := hB0.below hb1
  rw [hrb] at hB1
  have hb01 : Below w.heap.size w w1 := hb0.trans (hb1.mono (by simp))
  obtain ⟨d0, y0⟩ := hB1.get 0 _ rfl
  obtain ⟨d1, y1⟩ := hB1.get 1 _ rfl
  obtain ⟨d2, y2⟩ := hB1.get 2 _ rfl
  have hrl : rb < w1.heap.size := hB1.lt
  obtain ⟨W9, hW9⟩ : ∃ W9, ((w1.setCell ⟨rb, 0, none⟩ (.int .i64 0)).setCell ⟨rb, 1, none⟩ (.slice none 0 0)).setCell ⟨rb, 2, none⟩ (.slice none 0 0) = W9 := ⟨_, rfl⟩
  have hB9 : BoxAt W9 rb [.int .i64 0, .slice none 0 0, .slice none 0 0] := by rw [← hW9]; exact box_cells (cs := [.int .i64 0, .slice none 0 0, .slice none 0 0]) hB1 rfl
  have hb9 : But (fun j => j = rb) w1 W9 := by rw [← hW9]; exact but_setCells rb [.int .i64 0, .slice none 0 0, .slice none 0 0] 0 w1 w1 (But.refl _ _)
  have q0 := (hB9.get 0 _ rfl).1
  have q1 := (hB9.get 1 _ rfl).1
  have q2 := (hB9.get 2 _ rfl).1
  have HEnd := hidq (hb01.trans (hb9.below hb01.size (fun j hj => by omega)))
  have HW9 := hidq hW9
  clear hB0 hb0 hB1 hb1 H0 hb01 hB9 hb9 hW9
  go_wp2_with fail
  rw [HW9.out]
  exact bodyPost_ret (v := .tuple #[.agg #[.int .i64 0, .slice none 0 0, .slice none 0 0], .int .i64 5]) (by simp [results, Try.results91, go_sem, q0, q1, q2]) rfl ⟨rfl, HEnd.out⟩
end Go.Proofs.Ytbcmilfajeanbaa

namespace Go.Proofs.Ytbcmilfajeanbaa
open Go.RowKit Go.Sort

/-- What holds of the five plans. -/
theorem plan_facts (d : Nat) (hd : d ≤ 4) : (∀ g ∈ (Wr.count d (List.range (2 ^ d))).1, g.1 ≠ g.2 ∧ g.1 < 2 ^ d ∧ g.2 < 2 ^ d) ∧ (Wr.count d (List.range (2 ^ d))).2.Nodup ∧ (∀ a ∈ (Wr.count d (List.range (2 ^ d))).2, a < 2 ^ d) ∧ 2 * cg d = 2 ^ d * d * (d + 1) / 2 := by
  have h5 : d = 0 ∨ d = 1 ∨ d = 2 ∨ d = 3 ∨ d = 4 := by omega
  rcases h5 with rfl | rfl | rfl | rfl | rfl <;> decide +kernel
end Go.Proofs.Ytbcmilfajeanbaa
