/-
  Layer 13: an operation begins; who is busy: contracts.
  Counting networks as lists of pairs: the plain mathematics. Two lists of wires merged, a list counted, what passes, and that what goes out is even.
  Layer 10: numbers in slices; every second one of a list: contract.
  Layer 13: who is busy: contract.
  Layer 13: how a pick ends.
  A function that answers an Answer and a bool: its end.
  Layer 14: a call as it lies in memory; is it done, is one ahead of another one: contracts.
  Layer 14: a recorder as it lies in memory; a new one: contracts.
  Layer 13, 14: a pick where nobody is busy: contracts.
  Layer 13: an engine and all that belongs to it, of any kind: what Begin and Pick do to it.
  Layer 6: an operation that nobody disturbs, on any machine: contract.
  A region that draws its order, by a property of each operation's value: whatever order is drawn, each operation runs where those that it waits for have left values with their properties; at the end all properties hold.
-/
import Derived.Test.YtbcmilfajeanbaaGreatOpIn6All
import Derived.Test.YtbcmilfajeanbaaGreatInts7
import Derived.StillTailTactics
import Derived.Test.YtbcmilfajeanbaaGreatKNew9All
import Derived.Laws.ResultCell
import Derived.Orders
import Derived.WalkKit
import Derived.Deep.QuietTactic
namespace Go.Proofs.YtbcmilfajeanbaaGreat
open Go.RowKit Go.Sort

/-- The error of a Begin. -/
def begE (kind : Int) (closed : Bool) (Q : Nat → Option Nat) (t k v : Int) : Int :=
  if ¬ (0 ≤ t ∧ t < 6) then 4 else if closed = true then 12 else if ¬ chk kind k v = 0 then chk kind k v else if Q t.toNat = none then 0 else 11
/-- How a Begin ends. -/
def BegEnd (eb : Nat) (kind param : Int) (T : TypeId) (mv : Value) (mb : Nat) (Q : Nat → Option Nat) (closed : Bool) (steps : Int) (t k : Int) (pri : Nat) (v d0 d1 : Int) (w : World) (e : Ending) (w' : World) : Prop :=
  e = .returned (.int .i64 (begE kind closed Q t k v)) ∧ (¬ begE kind closed Q t k v = 0 → Below w.heap.size w w') ∧
    (begE kind closed Q t k v = 0 → 0 ≤ t ∧ t < 6 ∧ Q t.toNat = none ∧ ∃ fb, w.heap.size ≤ fb ∧ BoxAt w' fb ((Fr.of k pri v d0 d1).l none 0 none 0) ∧ BoxAt w' eb (ecells kind param T mv mb (qset Q t.toNat (some fb)) closed steps) ∧ But (fun j => j = eb) w w')

set_option maxRecDepth 20000 in
set_option maxHeartbeats 4000000 in
theorem begin_any (eb : Nat) (kind param : Int) (T : TypeId) (mv : Value) (mb : Nat) (Q : Nat → Option Nat) (closed : Bool) (steps : Int) (t k : Int) (pri : Nat) (v d0 d1 : Int) (w : World) (h : BoxAt w eb (ecells kind param T mv mb Q closed steps)) :
    Calls Tryz.prog 8 #[.pointer (some ⟨eb, 0, none⟩), .int .i64 t, .agg #[.int .i64 k, .float .f64 pri, .int .i64 v, .int .i64 d0, .int .i64 d1]] w (BegEnd eb kind param T mv mb Q closed steps t k pri v d0 d1 w) := by
  obtain ⟨r, hr⟩ : ∃ r, begE kind closed Q t k v = r := ⟨_, rfl⟩
  have hE : ∀ e w', (e = .returned (.int .i64 r) ∧ (¬ r = 0 → Below w.heap.size w w') ∧ (r = 0 → 0 ≤ t ∧ t < 6 ∧ Q t.toNat = none ∧ ∃ fb, w.heap.size ≤ fb ∧ BoxAt w' fb ((Fr.of k pri v d0 d1).l none 0 none 0) ∧ BoxAt w' eb (ecells kind param T mv mb (qset Q t.toNat (some fb)) closed steps) ∧ But (fun j => j = eb) w w')) → BegEnd eb kind param T mv mb Q closed steps t k pri v d0 d1 w e w' := by
    intro e w' hx; unfold BegEnd; rw [hr]; exact hx
  refine Calls.mono ?_ hE
  clear hE
  have hC := fun w => check_any kind k v d0 d1 pri w
  obtain ⟨ob, hob⟩ : ∃ ob, w.heap.size = ob := ⟨_, rfl⟩
  have hO := BoxAt.new w [.int .i64 k, .float .f64 pri, .int .i64 v, .int .i64 d0, .int .i64 d1] 43
  have hba : Below w.heap.size w (w.alloc (.cells [.int .i64 k, .float .f64 pri, .int .i64 v, .int .i64 d0, .int .i64 d1].toArray 43)) := (Below.refl _ _).alloc (Nat.le_refl _) _
  have h1 := h.below hba
  have hl := h.lt
  obtain ⟨W0, hW0⟩ : ∃ W0, w.alloc (.cells #[.int .i64 k, .float .f64 pri, .int .i64 v, .int .i64 d0, .int .i64 d1] 43) = W0 := ⟨_, rfl⟩
  have hW0' : w.alloc (.cells [.int .i64 k, .float .f64 pri, .int .i64 v, .int .i64 d0, .int .i64 d1].toArray 43) = W0 := hW0
  rw [hW0'] at hO hba h1
  clear hW0'
  have hs1 : W0.heap.size = ob + 1 := by rw [← hW0]; simp [hob]
  rw [hob] at hO hl
  have hne : ob ≠ eb := by omega
  by_cases ht : 0 ≤ t ∧ t < 6
  case neg =>
    have hr4 : r = 4 := by rw [← hr]; exact if_pos ht
    subst hr4
    have HB := hidq hba
    subst hW0
    clear hr hC hO h1 hl hne h hob hs1
    by_cases h0 : t < 0
    · clear ht
      go_enter Tryz.func8, Tryz.ntmps8
      go_wp2
      go_ret
      first | exact ⟨rfl, HB.out⟩ | exact ⟨rfl, fun _ => HB.out, fun h => absurd h (by decide)⟩
    · have d0' : decide (t < 0) = false := decide_eq_false h0
      have d6 : decide (6 ≤ t) = true := decide_eq_true (by omega)
      clear ht
      go_enter Tryz.func8, Tryz.ntmps8
      go_wp2
      go_ret
      first | exact ⟨rfl, HB.out⟩ | exact ⟨rfl, fun _ => HB.out, fun h => absurd h (by decide)⟩
  have d0' : decide (t < 0) = false := decide_eq_false (by omega)
  have d6 : decide (6 ≤ t) = false := decide_eq_false (by omega)
  obtain ⟨e0, e0f⟩ := h1.get 0 _ rfl
  cases closed
  case true =>
    have hr12 : r = 12 := by rw [← hr]; unfold begE; rw [if_neg (fun e => e ht), if_pos rfl]
    subst hr12
    obtain ⟨e10, _⟩ := h1.get 10 _ rfl
    have HB := hidq hba
    clear hr hC hO hba h1 hl hne h ht hs1
    go_enter Tryz.func8, Tryz.ntmps8
    go_wp2
    go_ret
    first | exact ⟨rfl, HB.out⟩ | exact ⟨rfl, fun _ => HB.out, fun h => absurd h (by decide)⟩
  obtain ⟨e10, _⟩ := h1.get 10 _ rfl
  obtain ⟨o0, _⟩ := hO.get 0 _ rfl
  obtain ⟨o1, _⟩ := hO.get 1 _ rfl
  obtain ⟨o2, _⟩ := hO.get 2 _ rfl
  obtain ⟨o3, _⟩ := hO.get 3 _ rfl
  obtain ⟨o4, _⟩ := hO.get 4 _ rfl
  have hel := h1.lt
  obtain ⟨c, hc⟩ : ∃ c, chk kind k v = c := ⟨_, rfl⟩
  rw [hc] at hC
  by_cases hc0 : c = 0
  case neg =>
    have hrc : r = c := by rw [← hr]; unfold begE; rw [if_neg (fun e => e ht), if_neg (by decide), if_pos (by rw [hc]; exact hc0), hc]
    subst hrc
    have hne0 : (r == 0) = false := by simpa using hc0
    have HB := hidq (And.intro hba hc0)
    have hol := hO.lt
    clear hr hc hO hba h1 hl hne h ht hc0 hs1
    go_enter Tryz.func8, Tryz.ntmps8
    go_wp2
    go_still_tail 5, (by kernel_rfl)
    go_wp2_with fail
    refine (hC _).mono ?_
    rintro e w1 ⟨rfl, hb⟩
    have HB2 := hidq hb
    clear hb hC
    go_wp2
    go_ret
    exact ⟨rfl, fun _ => (below_drewN HB.out.1 1).trans (HB2.out.mono HB.out.1.size), fun h => absurd h HB.out.2⟩
  subst hc0
  obtain ⟨n, hn, hn6⟩ : ∃ n : Nat, t = (n : Int) ∧ n < 6 := ⟨t.toNat, by omega, by omega⟩
  subst hn
  have hti : ((n : Int)).toNat = n := by omega
  rw [hti]
  obtain ⟨q, hq⟩ : ∃ q, Q n = q := ⟨_, rfl⟩
  have hth := h1.get (4 + n) _ (ecells_thread kind param T mv mb Q false steps n hn6)
  rw [hq] at hth
  have HC := hidq hC
  have HH := hidq (And.intro h1 (And.intro hO (And.intro hba (And.intro hne hob))))
  have HS := hidq hs1
  have hol := hO.lt
  clear hC hba h hne h1 hO ht hs1
  cases q with
  | some fb =>
    have hr11 : r = 11 := by
      rw [← hr]; unfold begE
      rw [if_neg (fun e => e (by omega)), if_neg (by decide), if_neg (fun e => e hc), hti, if_neg (by rw [hq]; simp)]
    subst hr11
    clear hr hc
    go_enter Tryz.func8, Tryz.ntmps8
    go_wp2
    go_still_tail 5, (by kernel_rfl)
    go_wp2_with fail
    refine (HC.out _).mono ?_
    rintro e w1 ⟨rfl, hb⟩
    obtain ⟨h1, hO, hba, hne, _⟩ := HH.out
    have hB1 := (h1.drewN 1).below hb
    obtain ⟨f0, f0f⟩ := hB1.get (4 + n) _ (ecells_thread kind param T mv mb Q false steps n hn6)
    rw [hq] at f0
    have hlw := hB1.lt
    have HF := hidq ((below_drewN hba 1).trans (hb.mono hba.size))
    clear hb h1 hO hba hne HH HC hB1 hth hq
    go_wp2
    go_ret
    first | exact ⟨rfl, HF.out⟩ | exact ⟨rfl, fun _ => HF.out, fun h => absurd h (by decide)⟩
  | none =>
    have hr0 : r = 0 := by
      rw [← hr]; unfold begE
      rw [if_neg (fun e => e (by omega)), if_neg (by decide), if_neg (fun e => e hc), hti, if_pos hq]
    subst hr0
    clear hr hc
    go_enter Tryz.func8, Tryz.ntmps8
    go_wp2
    go_still_tail 5, (by kernel_rfl)
    go_wp2_with fail
    refine (HC.out _).mono ?_
    rintro e w1 ⟨rfl, hb⟩
    obtain ⟨h1, hO, hba, hne, _⟩ := HH.out
    have hB1 := (h1.drewN 1).below hb
    have hO1 := (hO.drewN 1).below hb
    obtain ⟨o0, _⟩ := hO1.get 0 _ rfl
    obtain ⟨o1, _⟩ := hO1.get 1 _ rfl
    obtain ⟨o2, _⟩ := hO1.get 2 _ rfl
    obtain ⟨o3, _⟩ := hO1.get 3 _ rfl
    obtain ⟨o4, _⟩ := hO1.get 4 _ rfl
    have hol := hO1.lt
    obtain ⟨f0, f0f⟩ := hB1.get (4 + n) _ (ecells_thread kind param T mv mb Q false steps n hn6)
    rw [hq] at f0
    have hlw := hB1.lt
    have hbt := (below_drewN hba 1).trans (hb.mono hba.size)
    have HF := hidq (And.intro hbt (And.intro hB1 hq))
    clear hb h1 hO hba hne HH HC hB1 hO1 hth hq hbt
    go_wp2
    go_region
    obtain ⟨hbt, hB1, hq⟩ := HF.out
    have hBs := (hB1.set (4 + n) (eptr (some w1.heap.size))).same (ecells_set kind param T mv mb Q false steps n hn6 (some w1.heap.size))
    have hF0 := BoxAt.new (w1.setCell ⟨eb, 4 + n, none⟩ (eptr (some w1.heap.size))) ((Fr.of k pri v d0 d1).l none 0 none 0) 97
    rw [World.size_setCell] at hF0
    have hba2 : Below (w1.setCell ⟨eb, 4 + n, none⟩ (eptr (some w1.heap.size))).heap.size (w1.setCell ⟨eb, 4 + n, none⟩ (eptr (some w1.heap.size))) ((w1.setCell ⟨eb, 4 + n, none⟩ (eptr (some w1.heap.size))).alloc (.cells ((Fr.of k pri v d0 d1).l none 0 none 0).toArray 97)) := (Below.refl _ _).alloc (Nat.le_refl _) _
    have HX := hidq (And.intro (hF0.drew) (And.intro (hBs.below hba2).drew (And.intro hq (show But (fun j => j = eb) w ((w1.setCell ⟨eb, 4 + n, none⟩ (eptr (some w1.heap.size))).alloc (.cells ((Fr.of k pri v d0 d1).l none 0 none 0).toArray 97)).drew from ((((But.of_below (S := fun j => j = eb) hbt).set1 eb (4 + n) rfl _).alloc _).drew)))))
    have hws := hbt.size
    have HW := hidq hws
    clear hbt hB1 hq hBs hF0 hba2 hws HF f0 f0f hlw o0 o1 o2 o3 o4 hol HS
    go_wp2
    go_ret
    obtain ⟨x1, x2, x3, x4⟩ := HX.out
    first | exact ⟨rfl, fun h => absurd rfl h, fun _ => ⟨by omega, by omega, x3, w1.heap.size, HW.out, x1, x2, x4⟩⟩ | exact ⟨rfl, fun h => absurd trivial h, fun _ => ⟨by omega, by omega, x3, w1.heap.size, HW.out, x1, x2, x4⟩⟩
end Go.Proofs.YtbcmilfajeanbaaGreat

namespace Go.Proofs.YtbcmilfajeanbaaGreat
namespace Wr

/-- Every second one from the first on. -/
def ev : List Nat → List Nat
  | [] => []
  | [a] => [a]
  | a :: _ :: l => a :: ev l
def od (l : List Nat) : List Nat := ev l.tail
/-- Pair by pair. -/
def inter : List Nat → List Nat → List Nat
  | a :: x, b :: y => a :: b :: inter x y
  | _, _ => []
def merge : Nat → List Nat → List Nat → List (Nat × Nat) × List Nat
  | 0, x, y => (x.zip y, inter x y)
  | d + 1, x, y =>
    ((merge d (ev x) (od y)).1 ++ (merge d (od x) (ev y)).1 ++ (merge d (ev x) (od y)).2.zip (merge d (od x) (ev y)).2,
     inter (merge d (ev x) (od y)).2 (merge d (od x) (ev y)).2)
def count : Nat → List Nat → List (Nat × Nat) × List Nat
  | 0, l => ([], l)
  | d + 1, l =>
    ((count d (l.take (2 ^ d))).1 ++ (count d (l.drop (2 ^ d))).1 ++ (merge d (count d (l.take (2 ^ d))).2 (count d (l.drop (2 ^ d))).2).1,
     (merge d (count d (l.take (2 ^ d))).2 (count d (l.drop (2 ^ d))).2).2)

theorem ev_length : ∀ (n : Nat) (l : List Nat), l.length = 2 * n → (ev l).length = n
  | 0, l, h => by cases l with | nil => rfl | cons a l => simp at h
  | n + 1, l, h => by
    match l, h with
    | a :: b :: l, h => simp only [ev, List.length_cons] at h ⊢; rw [ev_length n l (by omega)]
theorem od_length (n : Nat) (l : List Nat) (h : l.length = 2 * n) : (od l).length = n := by
  match n, l, h with
  | 0, [], h => rfl
  | n + 1, a :: b :: l, h =>
    simp only [od, List.tail_cons]
    match l, h with
    | [], h => have h0 : n = 0 := by simp at h; omega
               subst h0; rfl
    | c :: l, h =>
      show (b :: ev l).length = n + 1
      simp only [List.length_cons] at h ⊢
      have h2 : l.length = 2 * (n - 1) + 1 := by omega
      suffices hh : ∀ (k : Nat) (m : List Nat), m.length = 2 * k + 1 → (ev m).length = k + 1 by rw [hh _ l h2]; omega
      intro k
      induction k with
      | zero => intro m hm; match m, hm with | [x], _ => rfl
      | succ k ih => intro m hm; match m, hm with | x :: y :: m, hm => simp only [ev, List.length_cons] at hm ⊢; rw [ih m (by omega)]
theorem inter_length : ∀ (n : Nat) (x y : List Nat), x.length = n → y.length = n → (inter x y).length = 2 * n
  | 0, x, y, hx, hy => by cases x with | nil => cases y <;> rfl | cons a l => simp at hx
  | n + 1, a :: x, b :: y, hx, hy => by
    simp only [inter, List.length_cons] at *
    rw [inter_length n x y (by omega) (by omega)]
    omega
theorem ev_get : ∀ (l : List Nat) (i : Nat), (ev l)[i]? = l[2 * i]?
  | [], i => by simp [ev]
  | [a], 0 => rfl
  | [a], i + 1 => by simp [ev]
  | a :: b :: l, 0 => rfl
  | a :: b :: l, i + 1 => by
    show (ev l)[i]? = (a :: b :: l)[2 * i + 2]?
    rw [ev_get l i]; rfl
theorem od_get (l : List Nat) (i : Nat) : (od l)[i]? = l[2 * i + 1]? := by
  rw [od, ev_get]; cases l <;> simp
theorem inter_get0 : ∀ (x y : List Nat) (i : Nat), x.length = y.length → (inter x y)[2 * i]? = x[i]?
  | [], y, i, h => by cases y <;> simp [inter]
  | a :: x, [], i, h => by simp at h
  | a :: x, b :: y, 0, h => rfl
  | a :: x, b :: y, i + 1, h => by
    show (inter x y)[2 * i]? = x[i]?
    exact inter_get0 x y i (by simpa using h)
theorem inter_get1 : ∀ (x y : List Nat) (i : Nat), x.length = y.length → (inter x y)[2 * i + 1]? = y[i]?
  | [], y, i, h => by cases y with | nil => simp [inter] | cons b y => simp at h
  | a :: x, [], i, h => by simp at h
  | a :: x, b :: y, 0, h => rfl
  | a :: x, b :: y, i + 1, h => by
    show (inter x y)[2 * i + 1]? = y[i]?
    exact inter_get1 x y i (by simpa using h)
theorem pow_succ2 (d : Nat) : 2 ^ (d + 1) = 2 * 2 ^ d := by rw [Nat.pow_succ, Nat.mul_comm]
theorem merge_length : ∀ (d : Nat) (x y : List Nat), x.length = 2 ^ d → y.length = 2 ^ d → (merge d x y).2.length = 2 * 2 ^ d
  | 0, x, y, hx, hy => inter_length 1 x y hx hy
  | d + 1, x, y, hx, hy => by
    rw [pow_succ2] at hx hy
    rw [pow_succ2]
    exact inter_length _ _ _ (merge_length d _ _ (ev_length _ _ hx) (od_length _ _ hy)) (merge_length d _ _ (od_length _ _ hx) (ev_length _ _ hy))
theorem count_length : ∀ (d : Nat) (l : List Nat), l.length = 2 ^ d → (count d l).2.length = 2 ^ d
  | 0, l, h => h
  | d + 1, l, h => by
    rw [pow_succ2] at h ⊢
    exact merge_length d _ _ (count_length d _ (by rw [List.length_take]; omega)) (count_length d _ (by rw [List.length_drop]; omega))
theorem mem_ev : ∀ (l : List Nat) (a : Nat), a ∈ ev l → a ∈ l
  | [], a, h => h
  | [b], a, h => h
  | b :: c :: l, a, h => by
    rcases List.mem_cons.1 (show a ∈ b :: ev l from h) with rfl | h
    · exact List.mem_cons_self
    · exact List.mem_cons_of_mem _ (List.mem_cons_of_mem _ (mem_ev l a h))
theorem mem_od (l : List Nat) (a : Nat) (h : a ∈ od l) : a ∈ l := List.mem_of_mem_tail (mem_ev _ a h)
theorem ev_od_perm : ∀ (l : List Nat), (ev l ++ od l).Perm l
  | [] => .refl _
  | [a] => .refl _
  | a :: b :: l => by
    have ih := ev_od_perm l
    have hod : od (a :: b :: l) = b :: od l := by
      cases l with
      | nil => rfl
      | cons c l => rfl
    rw [hod]
    show (a :: ev l ++ b :: od l).Perm (a :: b :: l)
    exact (List.Perm.cons a (List.perm_middle)).trans (.cons a (.cons b ih))
theorem inter_perm : ∀ (x y : List Nat), x.length = y.length → (inter x y).Perm (x ++ y)
  | [], [], _ => .refl _
  | [], b :: y, h => by simp at h
  | a :: x, [], h => by simp at h
  | a :: x, b :: y, h => by
    have ih := inter_perm x y (by simpa using h)
    show (a :: b :: inter x y).Perm (a :: x ++ b :: y)
    exact (List.Perm.cons a ((List.Perm.cons b ih).trans (List.perm_middle.symm)))
theorem swap_mid (a b c d : List Nat) : ((a ++ b) ++ (c ++ d)).Perm ((a ++ c) ++ (b ++ d)) := by
  rw [List.append_assoc, List.append_assoc]
  refine List.Perm.append_left a ?_
  rw [← List.append_assoc, ← List.append_assoc]
  exact List.Perm.append_right d List.perm_append_comm
theorem parts_perm (x y : List Nat) : ((ev x ++ od y) ++ (od x ++ ev y)).Perm (x ++ y) :=
  (swap_mid _ _ _ _).trans (List.Perm.append (ev_od_perm x) (List.perm_append_comm.trans (ev_od_perm y)))
theorem merge_perm : ∀ (d : Nat) (x y : List Nat), x.length = 2 ^ d → y.length = 2 ^ d → (merge d x y).2.Perm (x ++ y)
  | 0, x, y, hx, hy => inter_perm x y (by rw [hx, hy])
  | d + 1, x, y, hx, hy => by
    rw [pow_succ2] at hx hy
    have h1 := merge_perm d (ev x) (od y) (ev_length _ _ hx) (od_length _ _ hy)
    have h2 := merge_perm d (od x) (ev y) (od_length _ _ hx) (ev_length _ _ hy)
    have hl := (merge_length d (ev x) (od y) (ev_length _ _ hx) (od_length _ _ hy)).trans (merge_length d (od x) (ev y) (od_length _ _ hx) (ev_length _ _ hy)).symm
    exact (inter_perm _ _ hl).trans ((List.Perm.append h1 h2).trans (parts_perm x y))
theorem count_perm : ∀ (d : Nat) (l : List Nat), l.length = 2 ^ d → (count d l).2.Perm l
  | 0, l, h => .refl _
  | d + 1, l, h => by
    rw [pow_succ2] at h
    have l1 : (l.take (2 ^ d)).length = 2 ^ d := by rw [List.length_take]; omega
    have l2 : (l.drop (2 ^ d)).length = 2 ^ d := by rw [List.length_drop]; omega
    have h1 := count_perm d _ l1
    have h2 := count_perm d _ l2
    refine (merge_perm d _ _ (count_length d _ l1) (count_length d _ l2)).trans ((List.Perm.append h1 h2).trans ?_)
    rw [List.take_append_drop]

/-- What passes: how many came by each gate, and how many are upon each wire then. -/
def upd (s : Nat → Nat) (g : Nat × Nat) : Nat → Nat := fun w => if w = g.2 then (s g.1 + s g.2) / 2 else if w = g.1 then (s g.1 + s g.2) - (s g.1 + s g.2) / 2 else s w
def run : List (Nat × Nat) → (Nat → Nat) → (Nat → Nat)
  | [], s => s
  | g :: gs, s => run gs (upd s g)
def cnts : List (Nat × Nat) → (Nat → Nat) → List Nat
  | [], _ => []
  | g :: gs, s => (s g.1 + s g.2) :: cnts gs (upd s g)
theorem run_append : ∀ (a b : List (Nat × Nat)) (s : Nat → Nat), run (a ++ b) s = run b (run a s)
  | [], _, _ => rfl
  | g :: a, b, s => run_append a b (upd s g)
theorem cnts_length : ∀ (gs : List (Nat × Nat)) (s : Nat → Nat), (cnts gs s).length = gs.length
  | [], _ => rfl
  | g :: gs, s => by simp [cnts, cnts_length gs]
/-- The gates join no other wires. -/
def Only (gs : List (Nat × Nat)) (l : List Nat) : Prop := ∀ g ∈ gs, g.1 ∈ l ∧ g.2 ∈ l
theorem run_out : ∀ (gs : List (Nat × Nat)) (l : List Nat) (s : Nat → Nat) (w : Nat), Only gs l → w ∉ l → run gs s w = s w
  | [], _, _, _, _, _ => rfl
  | g :: gs, l, s, w, h, hw => by
    have hg := h g List.mem_cons_self
    rw [run, run_out gs l _ w (fun g hg => h g (List.mem_cons_of_mem _ hg)) hw]
    unfold upd
    rw [if_neg (fun e : w = g.2 => hw (e ▸ hg.2)), if_neg (fun e : w = g.1 => hw (e ▸ hg.1))]
theorem only_zip (x y l : List Nat) (hx : ∀ a ∈ x, a ∈ l) (hy : ∀ a ∈ y, a ∈ l) : Only (x.zip y) l := fun g hg => by
  obtain ⟨h1, h2⟩ := List.of_mem_zip (a := g.1) (b := g.2) hg
  exact ⟨hx _ h1, hy _ h2⟩
theorem merge_only : ∀ (d : Nat) (x y : List Nat), x.length = 2 ^ d → y.length = 2 ^ d → Only (merge d x y).1 (x ++ y)
  | 0, x, y, _, _ => only_zip x y _ (fun a h => List.mem_append_left _ h) (fun a h => List.mem_append_right _ h)
  | d + 1, x, y, hx, hy => by
    rw [pow_succ2] at hx hy
    have h1 := merge_only d (ev x) (od y) (ev_length _ _ hx) (od_length _ _ hy)
    have h2 := merge_only d (od x) (ev y) (od_length _ _ hx) (ev_length _ _ hy)
    have p1 := merge_perm d (ev x) (od y) (ev_length _ _ hx) (od_length _ _ hy)
    have p2 := merge_perm d (od x) (ev y) (od_length _ _ hx) (ev_length _ _ hy)
    have s1 : ∀ a, a ∈ ev x ++ od y → a ∈ x ++ y := fun a h => by
      rcases List.mem_append.1 h with h | h
      · exact List.mem_append_left _ (mem_ev _ _ h)
      · exact List.mem_append_right _ (mem_od _ _ h)
    have s2 : ∀ a, a ∈ od x ++ ev y → a ∈ x ++ y := fun a h => by
      rcases List.mem_append.1 h with h | h
      · exact List.mem_append_left _ (mem_od _ _ h)
      · exact List.mem_append_right _ (mem_ev _ _ h)
    intro g hg
    rcases List.mem_append.1 hg with hg | hg
    · rcases List.mem_append.1 hg with hg | hg
      · exact ⟨s1 _ (h1 g hg).1, s1 _ (h1 g hg).2⟩
      · exact ⟨s2 _ (h2 g hg).1, s2 _ (h2 g hg).2⟩
    · exact only_zip _ _ _ (fun a h => s1 a (p1.mem_iff.1 h)) (fun a h => s2 a (p2.mem_iff.1 h)) g hg
theorem count_only : ∀ (d : Nat) (l : List Nat), l.length = 2 ^ d → Only (count d l).1 l
  | 0, l, _ => fun g hg => by cases hg
  | d + 1, l, h => by
    rw [pow_succ2] at h
    have l1 : (l.take (2 ^ d)).length = 2 ^ d := by rw [List.length_take]; omega
    have l2 : (l.drop (2 ^ d)).length = 2 ^ d := by rw [List.length_drop]; omega
    have h1 := count_only d _ l1
    have h2 := count_only d _ l2
    have h3 := merge_only d _ _ (count_length d _ l1) (count_length d _ l2)
    intro g hg
    rcases List.mem_append.1 hg with hg | hg
    · rcases List.mem_append.1 hg with hg | hg
      · exact ⟨List.mem_of_mem_take (h1 g hg).1, List.mem_of_mem_take (h1 g hg).2⟩
      · exact ⟨List.mem_of_mem_drop (h2 g hg).1, List.mem_of_mem_drop (h2 g hg).2⟩
    · have hh : ∀ a, a ∈ (count d (l.take (2 ^ d))).2 ++ (count d (l.drop (2 ^ d))).2 → a ∈ l := fun a ha => by
        rcases List.mem_append.1 ha with ha | ha
        · exact List.mem_of_mem_take ((count_perm d _ l1).mem_iff.1 ha)
        · exact List.mem_of_mem_drop ((count_perm d _ l2).mem_iff.1 ha)
      exact ⟨hh _ (h3 g hg).1, hh _ (h3 g hg).2⟩

/-- Even: place i of k, of S in all. -/
def E (k S i : Nat) : Nat := (S + (k - 1 - i)) / k
/-- Upon the wires of a list there are S in all, evenly. -/
def Ev (s : Nat → Nat) (k : Nat) (l : List Nat) (S : Nat) : Prop := l.length = k ∧ ∀ i a, l[i]? = some a → s a = E k S i
theorem E_even (m S i : Nat) (hi : i < m) : E (2 * m) S (2 * i) = E m ((S + 1) / 2) i := by
  unfold E
  rw [← Nat.div_div_eq_div_mul]
  congr 1
  omega
theorem E_odd (m S i : Nat) (hi : i < m) : E (2 * m) S (2 * i + 1) = E m (S / 2) i := by
  unfold E
  rw [← Nat.div_div_eq_div_mul]
  congr 1
  omega
theorem E_succ (k S i : Nat) (hk : 0 < k) : E k S i ≤ E k (S + 1) i ∧ E k (S + 1) i ≤ E k S i + 1 := by
  unfold E
  refine ⟨Nat.div_le_div_right (by omega), ?_⟩
  have : (S + 1 + (k - 1 - i)) / k ≤ ((S + (k - 1 - i)) + k) / k := Nat.div_le_div_right (by omega)
  rw [Nat.add_div_right _ hk] at this
  omega
theorem get_lt {l : List Nat} {i a : Nat} (h : l[i]? = some a) : i < l.length := (List.getElem?_eq_some_iff.1 h).1
theorem Ev.even {s : Nat → Nat} {m : Nat} {l : List Nat} {S : Nat} (h : Ev s (2 * m) l S) : Ev s m (ev l) ((S + 1) / 2) :=
  ⟨ev_length _ _ h.1, fun i a ha => by
    have hi := get_lt ha
    rw [ev_length _ _ h.1] at hi
    rw [ev_get] at ha
    rw [h.2 _ _ ha, E_even _ _ _ hi]⟩
theorem Ev.odd {s : Nat → Nat} {m : Nat} {l : List Nat} {S : Nat} (h : Ev s (2 * m) l S) : Ev s m (od l) (S / 2) :=
  ⟨od_length _ _ h.1, fun i a ha => by
    have hi := get_lt ha
    rw [od_length _ _ h.1] at hi
    rw [od_get] at ha
    rw [h.2 _ _ ha, E_odd _ _ _ hi]⟩
theorem Ev.same {s t : Nat → Nat} {k : Nat} {l : List Nat} {S : Nat} (h : Ev s k l S) (he : ∀ a ∈ l, t a = s a) : Ev t k l S :=
  ⟨h.1, fun i a ha => by rw [he a (List.mem_of_getElem? ha), h.2 i a ha]⟩

/-- A row of gates, place by place. -/
theorem run_zip : ∀ (x y : List Nat) (s : Nat → Nat), x.length = y.length → (x ++ y).Nodup → ∀ (i a b : Nat), x[i]? = some a → y[i]? = some b →
    run (x.zip y) s a = (s a + s b) - (s a + s b) / 2 ∧ run (x.zip y) s b = (s a + s b) / 2
  | [], _, _, _, _, _, _, _, h, _ => by simp at h
  | c :: x, [], _, h, _, _, _, _, _, _ => by simp at h
  | c :: x, e :: y, s, hl, hn, i, a, b, ha, hb => by
    have hn' := hn
    rw [List.cons_append, List.nodup_cons] at hn'
    obtain ⟨hc, hn2⟩ := hn'
    have hp : (x ++ e :: y).Perm (e :: (x ++ y)) := List.perm_middle
    have hn3 := hp.nodup_iff.1 hn2
    rw [List.nodup_cons] at hn3
    have hce : c ≠ e := fun h => hc (by rw [h]; exact hp.mem_iff.2 List.mem_cons_self)
    have hcm : c ∉ x ++ y := fun h => hc (hp.mem_iff.2 (List.mem_cons_of_mem _ h))
    have ho : Only (x.zip y) (x ++ y) := only_zip x y _ (fun a h => List.mem_append_left _ h) (fun a h => List.mem_append_right _ h)
    show run (x.zip y) (upd s (c, e)) a = _ ∧ run (x.zip y) (upd s (c, e)) b = _
    cases i with
    | zero =>
      simp at ha hb
      subst ha hb
      rw [run_out _ _ _ _ ho hcm, run_out _ _ _ _ ho hn3.1]
      refine ⟨?_, ?_⟩
      · show (if c = e then _ else if c = c then _ else _) = _
        rw [if_neg hce, if_pos rfl]
      · show (if e = e then _ else _) = _
        rw [if_pos rfl]
    | succ i =>
      simp only [List.getElem?_cons_succ] at ha hb
      have := run_zip x y (upd s (c, e)) (by simpa using hl) hn3.2 i a b ha hb
      have ma : a ∈ x ++ y := List.mem_append_left _ (List.mem_of_getElem? ha)
      have mb : b ∈ x ++ y := List.mem_append_right _ (List.mem_of_getElem? hb)
      have ea : upd s (c, e) a = s a := by
        show (if a = e then _ else if a = c then _ else _) = _
        rw [if_neg (fun h : a = e => hn3.1 (h ▸ ma)), if_neg (fun h : a = c => hcm (h ▸ ma))]
      have eb : upd s (c, e) b = s b := by
        show (if b = e then _ else if b = c then _ else _) = _
        rw [if_neg (fun h : b = e => hn3.1 (h ▸ mb)), if_neg (fun h : b = c => hcm (h ▸ mb))]
      rw [ea, eb] at this
      exact this
/-- The last row: two even lists that are off by at most one. -/
theorem zip_even {s : Nat → Nat} {k A B : Nat} {x y : List Nat} (hk : 0 < k) (hn : (x ++ y).Nodup) (hx : Ev s k x A) (hy : Ev s k y B) (hAB : A = B ∨ A = B + 1 ∨ B = A + 1) :
    Ev (run (x.zip y) s) (2 * k) (inter x y) (A + B) := by
  have hl : x.length = y.length := by rw [hx.1, hy.1]
  refine ⟨inter_length k x y hx.1 hy.1, fun i w hw => ?_⟩
  have hi := get_lt hw
  rw [inter_length k x y hx.1 hy.1] at hi
  obtain ⟨j, hj⟩ : ∃ j, i = 2 * j ∨ i = 2 * j + 1 := ⟨i / 2, by omega⟩
  have hjk : j < k := by omega
  obtain ⟨a, ha⟩ : ∃ a, x[j]? = some a := ⟨_, List.getElem?_eq_getElem (by rw [hx.1]; exact hjk)⟩
  obtain ⟨b, hb⟩ : ∃ b, y[j]? = some b := ⟨_, List.getElem?_eq_getElem (by rw [hy.1]; exact hjk)⟩
  have hz := run_zip x y s hl hn j a b ha hb
  have ea := hx.2 j a ha
  have eb := hy.2 j b hb
  have e1 := E_succ k A j hk
  have e2 := E_succ k B j hk
  rcases hj with rfl | rfl
  · rw [inter_get0 x y j hl, ha] at hw
    cases hw
    rw [hz.1, ea, eb, E_even k _ _ hjk]
    rcases hAB with h | h | h
    · subst h; rw [show (A + A + 1) / 2 = A by omega]; omega
    · subst h; rw [show (B + 1 + B + 1) / 2 = B + 1 by omega]; omega
    · subst h; rw [show (A + (A + 1) + 1) / 2 = A + 1 by omega]; omega
  · rw [inter_get1 x y j hl, hb] at hw
    cases hw
    rw [hz.2, ea, eb, E_odd k _ _ hjk]
    rcases hAB with h | h | h
    · subst h; rw [show (A + A) / 2 = A by omega]; omega
    · subst h; rw [show (B + 1 + B) / 2 = B by omega]; omega
    · subst h; rw [show (A + (A + 1)) / 2 = A by omega]; omega
theorem merge_even : ∀ (d : Nat) (x y : List Nat) (s : Nat → Nat) (X Y : Nat), (x ++ y).Nodup → Ev s (2 ^ d) x X → Ev s (2 ^ d) y Y →
    Ev (run (merge d x y).1 s) (2 * 2 ^ d) (merge d x y).2 (X + Y)
  | 0, x, y, s, X, Y, hn, hx, hy => by
    have hl : x.length = y.length := by rw [hx.1, hy.1]
    obtain ⟨a, rfl⟩ := List.length_eq_one_iff.1 hx.1
    obtain ⟨b, rfl⟩ := List.length_eq_one_iff.1 hy.1
    have ha : s a = X := by have := hx.2 0 a rfl; simpa [E] using this
    have hb : s b = Y := by have := hy.2 0 b rfl; simpa [E] using this
    have hz := run_zip [a] [b] s rfl hn 0 a b rfl rfl
    refine ⟨rfl, fun i w hw => ?_⟩
    show run ([a].zip [b]) s w = _
    match i, hw with
    | 0, hw =>
      have : a = w := by simpa [merge, inter] using hw
      subst this
      rw [hz.1, ha, hb]
      show _ = (X + Y + 1) / 2
      omega
    | 1, hw =>
      have : b = w := by simpa [merge, inter] using hw
      subst this
      rw [hz.2, ha, hb]
      show _ = (X + Y + 0) / 2
      omega
    | i + 2, hw => simp [merge, inter] at hw
  | d + 1, x, y, s, X, Y, hn, hx, hy => by
    rw [pow_succ2] at hx hy
    have hp := parts_perm x y
    have hn2 := hp.nodup_iff.2 hn
    have n1 := (List.nodup_append.1 hn2).1
    have n2 := (List.nodup_append.1 hn2).2.1
    have hd : ∀ a, a ∈ ev x ++ od y → a ∉ od x ++ ev y := fun a h1 h2 => (List.nodup_append.1 hn2).2.2 a h1 a h2 rfl
    have h1 := merge_even d (ev x) (od y) s _ _ n1 hx.even hy.odd
    have o1 := merge_only d (ev x) (od y) hx.even.1 hy.odd.1
    have o2 := merge_only d (od x) (ev y) hx.odd.1 hy.even.1
    have p1 := merge_perm d (ev x) (od y) hx.even.1 hy.odd.1
    have p2 := merge_perm d (od x) (ev y) hx.odd.1 hy.even.1
    have hx2 : Ev (run (merge d (ev x) (od y)).1 s) (2 ^ d) (od x) (X / 2) := hx.odd.same (fun a ha => run_out _ _ _ _ o1 (fun h => hd a h (List.mem_append_left _ ha)))
    have hy2 : Ev (run (merge d (ev x) (od y)).1 s) (2 ^ d) (ev y) ((Y + 1) / 2) := hy.even.same (fun a ha => run_out _ _ _ _ o1 (fun h => hd a h (List.mem_append_right _ ha)))
    have h2 := merge_even d (od x) (ev y) _ _ _ n2 hx2 hy2
    have h1' : Ev (run (merge d (od x) (ev y)).1 (run (merge d (ev x) (od y)).1 s)) (2 * 2 ^ d) (merge d (ev x) (od y)).2 ((X + 1) / 2 + Y / 2) :=
      h1.same (fun a ha => run_out _ _ _ _ o2 (hd a (p1.mem_iff.1 ha)))
    have hnn : ((merge d (ev x) (od y)).2 ++ (merge d (od x) (ev y)).2).Nodup := (List.Perm.append p1 p2).nodup_iff.2 hn2
    have hpos : 0 < 2 * 2 ^ d := by have := Nat.two_pow_pos d; omega
    have h3 := zip_even hpos hnn h1' h2 (by omega)
    rw [pow_succ2]
    show Ev (run (_ ++ _ ++ _) s) _ _ _
    rw [run_append, run_append]
    rw [show X + Y = (X + 1) / 2 + Y / 2 + (X / 2 + (Y + 1) / 2) by omega]
    exact h3
def sum (s : Nat → Nat) : List Nat → Nat
  | [] => 0
  | a :: l => s a + sum s l
theorem sum_append (s : Nat → Nat) : ∀ (a b : List Nat), sum s (a ++ b) = sum s a + sum s b
  | [], b => by simp [sum]
  | x :: a, b => by simp [sum, sum_append s a b]; omega
theorem sum_congr {s t : Nat → Nat} : ∀ (l : List Nat), (∀ a ∈ l, t a = s a) → sum t l = sum s l
  | [], _ => rfl
  | a :: l, h => by simp only [sum]; rw [h a List.mem_cons_self, sum_congr l (fun b hb => h b (List.mem_cons_of_mem _ hb))]
/-- STEP. -/
theorem count_even : ∀ (d : Nat) (l : List Nat) (s : Nat → Nat), l.Nodup → l.length = 2 ^ d → Ev (run (count d l).1 s) (2 ^ d) (count d l).2 (sum s l)
  | 0, l, s, hn, h => by
    obtain ⟨a, rfl⟩ := List.length_eq_one_iff.1 h
    refine ⟨rfl, fun i w hw => ?_⟩
    match i, hw with
    | 0, hw => have : a = w := by simpa [count] using hw
               subst this; simp [count, run, E, sum]
    | i + 1, hw => simp [count] at hw
  | d + 1, l, s, hn, h => by
    rw [pow_succ2] at h
    have l1 : (l.take (2 ^ d)).length = 2 ^ d := by rw [List.length_take]; omega
    have l2 : (l.drop (2 ^ d)).length = 2 ^ d := by rw [List.length_drop]; omega
    have hs : l.take (2 ^ d) ++ l.drop (2 ^ d) = l := List.take_append_drop _ _
    have hn2 : (l.take (2 ^ d) ++ l.drop (2 ^ d)).Nodup := by rw [hs]; exact hn
    obtain ⟨n1, n2, n3⟩ := List.nodup_append.1 hn2
    have hd : ∀ a, a ∈ l.take (2 ^ d) → a ∉ l.drop (2 ^ d) := fun a h1 h2 => n3 a h1 a h2 rfl
    have h1 := count_even d _ s n1 l1
    have h2 := count_even d _ (run (count d (l.take (2 ^ d))).1 s) n2 l2
    have o1 := count_only d _ l1
    have o2 := count_only d _ l2
    have p1 := count_perm d _ l1
    have p2 := count_perm d _ l2
    rw [sum_congr (s := s) _ (fun a ha => run_out _ _ _ _ o1 (fun h => hd a h ha))] at h2
    have h1' := h1.same (t := run (count d (l.drop (2 ^ d))).1 (run (count d (l.take (2 ^ d))).1 s)) (fun a ha => run_out _ _ _ _ o2 (hd a (p1.mem_iff.1 ha)))
    have h3 := merge_even d _ _ _ _ _ ((List.Perm.append p1 p2).nodup_iff.2 hn2) h1' h2
    rw [pow_succ2]
    show Ev (run (_ ++ _ ++ _) s) _ _ _
    rw [run_append, run_append]
    rw [← hs, sum_append]
    rw [hs]
    exact h3

/-- One more upon a wire. -/
def inc (s : Nat → Nat) (w : Nat) : Nat → Nat := fun v => if v = w then s v + 1 else s v
/-- A token on its way: by how many passed each gate. -/
def tok : List (Nat × Nat) → List Nat → Nat → List Nat × Nat
  | g :: gs, c :: cs, w => if g.1 = w ∨ g.2 = w then ((c + 1) :: (tok gs cs (if c % 2 = 0 then g.1 else g.2)).1, (tok gs cs (if c % 2 = 0 then g.1 else g.2)).2) else (c :: (tok gs cs w).1, (tok gs cs w).2)
  | _, cs, w => (cs, w)
theorem upd_b (s : Nat → Nat) (g : Nat × Nat) : upd s g g.2 = (s g.1 + s g.2) / 2 := by unfold upd; rw [if_pos rfl]
theorem upd_a (s : Nat → Nat) (g : Nat × Nat) (h : g.1 ≠ g.2) : upd s g g.1 = (s g.1 + s g.2) - (s g.1 + s g.2) / 2 := by unfold upd; rw [if_neg h, if_pos rfl]
theorem upd_o (s : Nat → Nat) (g : Nat × Nat) (v : Nat) (h1 : v ≠ g.1) (h2 : v ≠ g.2) : upd s g v = s v := by unfold upd; rw [if_neg h2, if_neg h1]
theorem inc_at (s : Nat → Nat) (w : Nat) : inc s w w = s w + 1 := if_pos rfl
theorem inc_o (s : Nat → Nat) (w v : Nat) (h : v ≠ w) : inc s w v = s v := if_neg h
theorem tok_run : ∀ (gs : List (Nat × Nat)) (s : Nat → Nat) (w : Nat), (∀ g ∈ gs, g.1 ≠ g.2) →
    (tok gs (cnts gs s) w).1 = cnts gs (inc s w) ∧ run gs (inc s w) = inc (run gs s) (tok gs (cnts gs s) w).2
  | [], s, w, _ => ⟨rfl, rfl⟩
  | g :: gs, s, w, h => by
    have hg := h g List.mem_cons_self
    have ih := fun s w => tok_run gs s w (fun g hg => h g (List.mem_cons_of_mem _ hg))
    by_cases hw : g.1 = w ∨ g.2 = w
    · have hsum : inc s w g.1 + inc s w g.2 = s g.1 + s g.2 + 1 := by
        unfold inc
        rcases hw with hw | hw
        · subst hw; rw [if_pos rfl, if_neg (Ne.symm hg)]; omega
        · subst hw; rw [if_neg hg, if_pos rfl]; omega
      have hupd : upd (inc s w) g = inc (upd s g) (if (s g.1 + s g.2) % 2 = 0 then g.1 else g.2) := by
        funext v
        by_cases h2 : v = g.2
        · subst h2
          rw [upd_b, hsum]
          by_cases h3 : (s g.1 + s g.2) % 2 = 0
          · rw [if_pos h3, inc_o _ _ _ (Ne.symm hg), upd_b]; omega
          · rw [if_neg h3, inc_at, upd_b]; omega
        · by_cases h1 : v = g.1
          · subst h1
            rw [upd_a _ _ hg, hsum]
            by_cases h3 : (s g.1 + s g.2) % 2 = 0
            · rw [if_pos h3, inc_at, upd_a _ _ hg]; omega
            · rw [if_neg h3, inc_o _ _ _ hg, upd_a _ _ hg]; omega
          · have h0 : v ≠ w := fun e => by
              rcases hw with hw | hw
              · exact h1 (e.trans hw.symm)
              · exact h2 (e.trans hw.symm)
            rw [upd_o _ _ _ h1 h2, inc_o _ _ _ h0]
            by_cases h3 : (s g.1 + s g.2) % 2 = 0
            · rw [if_pos h3, inc_o _ _ _ h1, upd_o _ _ _ h1 h2]
            · rw [if_neg h3, inc_o _ _ _ h2, upd_o _ _ _ h1 h2]
      simp only [cnts, tok, run, if_pos hw, hsum, hupd]
      have := ih (upd s g) (if (s g.1 + s g.2) % 2 = 0 then g.1 else g.2)
      exact ⟨by rw [this.1], this.2⟩
    · have h1 : g.1 ≠ w := fun e => hw (.inl e)
      have h2 : g.2 ≠ w := fun e => hw (.inr e)
      have hupd : upd (inc s w) g = inc (upd s g) w := by
        funext v
        have s1 : inc s w g.1 = s g.1 := inc_o _ _ _ h1
        have s2 : inc s w g.2 = s g.2 := inc_o _ _ _ h2
        by_cases e2 : v = g.2
        · subst e2; rw [upd_b, s1, s2, inc_o _ _ _ h2, upd_b]
        · by_cases e1 : v = g.1
          · subst e1; rw [upd_a _ _ e2, s1, s2, inc_o _ _ _ h1, upd_a _ _ e2]
          · rw [upd_o _ _ _ e1 e2]
            by_cases e0 : v = w
            · subst e0; rw [inc_at, inc_at, upd_o _ _ _ e1 e2]
            · rw [inc_o _ _ _ e0, inc_o _ _ _ e0, upd_o _ _ _ e1 e2]
      have hsum : inc s w g.1 + inc s w g.2 = s g.1 + s g.2 := by unfold inc; rw [if_neg h1, if_neg h2]
      simp only [cnts, tok, run, if_neg hw, hsum, hupd]
      have := ih (upd s g) w
      exact ⟨by rw [this.1], this.2⟩
/-- Where two even lists part that are off by one. -/
theorem E_next (k n j : Nat) (hj : j < k) : E k (n + 1) j = if j = n % k then E k n j + 1 else E k n j := by
  have hk : 0 < k := by omega
  have hr : n % k < k := Nat.mod_lt _ hk
  have hn : n = k * (n / k) + n % k := (Nat.div_add_mod n k).symm
  generalize hq : n / k = q at hn
  generalize hm : n % k = r at hn hr ⊢
  unfold E
  subst hn
  have a1 : ∀ t, (k * q + t) / k = q + t / k := fun t => by rw [Nat.mul_add_div hk]
  rw [show k * q + r + 1 + (k - 1 - j) = k * q + (r + 1 + (k - 1 - j)) by omega, show k * q + r + (k - 1 - j) = k * q + (r + (k - 1 - j)) by omega, a1, a1]
  by_cases h : j = r
  · rw [if_pos h]
    subst h
    rw [show j + 1 + (k - 1 - j) = k by omega, show j + (k - 1 - j) = k - 1 by omega, Nat.div_self hk, Nat.div_eq_of_lt (by omega)]
  · rw [if_neg h]
    by_cases h2 : j < r
    · have e1 : (r + 1 + (k - 1 - j)) / k = 1 := by rw [Nat.div_eq_iff (by omega)]; omega
      have e2 : (r + (k - 1 - j)) / k = 1 := by rw [Nat.div_eq_iff (by omega)]; omega
      rw [e1, e2]
    · rw [Nat.div_eq_of_lt (by omega), Nat.div_eq_of_lt (by omega)]
/-- As many at each wire as at most there were at one. -/
theorem run_le : ∀ (gs : List (Nat × Nat)) (s : Nat → Nat) (M : Nat), (∀ v, s v ≤ M) → ∀ v, run gs s v ≤ M
  | [], _, _, h, v => h v
  | g :: gs, s, M, h, v => run_le gs (upd s g) M (fun u => by
      unfold upd
      have := h g.1; have := h g.2; have := h u
      split
      · omega
      · split <;> omega) v
end Wr
end Go.Proofs.YtbcmilfajeanbaaGreat

namespace Go.Proofs.YtbcmilfajeanbaaGreat
open Go.RowKit Go.Sort

/-- Numbers in a row, in a block that is none of some. -/
def NsAt (w : World) (a : Option Addr) (S : Nat → Prop) (l : List Nat) : Prop :=
  ∀ (i v : Nat), l[i]? = some v → ∃ (b off : Nat), a = some ⟨b, off, none⟩ ∧ b < w.heap.size ∧ ¬ S b ∧ w.cell? ⟨b, off + i, none⟩ = some (.int .i64 (v : Int))
theorem NsAt.but {w w' : World} {a : Option Addr} {S T : Nat → Prop} {l : List Nat} (h : NsAt w a S l) (hb : But S w w') (hT : ∀ j, T j → S j ∨ w.heap.size ≤ j) : NsAt w' a T l := fun i v hv => by
  obtain ⟨b, off, h1, h2, h3, h4⟩ := h i v hv
  refine ⟨b, off, h1, Nat.lt_of_lt_of_le h2 hb.size, fun e => ?_, by rw [hb.cell (p := ⟨b, off + i, none⟩) h2 h3]; exact h4⟩
  rcases hT b e with h | h
  · exact h3 h
  · omega
theorem NsAt.below {w w' : World} {a : Option Addr} {S : Nat → Prop} {l : List Nat} (h : NsAt w a S l) (hb : Below w.heap.size w w') : NsAt w' a S l := h.but (But.of_below hb) (fun _ e => .inl e)
theorem NsAt.mono {w : World} {a : Option Addr} {S T : Nat → Prop} {l : List Nat} (h : NsAt w a S l) (hT : ∀ j, j < w.heap.size → T j → S j) : NsAt w a T l := fun i v hv => by
  obtain ⟨b, off, h1, h2, h3, h4⟩ := h i v hv
  exact ⟨b, off, h1, h2, fun e => h3 (hT b h2 e), h4⟩
def vals (l : List Nat) : List Value := l.map (fun (n : Nat) => Value.int .i64 (n : Int))
theorem vals_length (l : List Nat) : (vals l).length = l.length := by simp [vals]
theorem vals_one (l : List Nat) : ∀ u ∈ vals l, u.oneCell' = true := by
  intro u hu
  simp only [vals, List.mem_map] at hu
  obtain ⟨n, _, rfl⟩ := hu
  rfl
theorem nsAt_of {w : World} {a : Option Addr} {cap n : Nat} {S : Nat → Prop} {l : List Nat} (h : SlAt 1 w a cap n (vals l)) (hS : ∀ j, inB a j → ¬ S j) : NsAt w a S l := fun i v hv => by
  obtain ⟨g, h1, h2, h3⟩ := h.cell (t := i) (u := .int .i64 (v : Int)) (by simp [vals, hv])
  exact ⟨g, 0, h1, h2, hS g ⟨_, h1, rfl⟩, by rw [Nat.zero_add]; exact h3⟩
theorem plainN : PlainK Tryz.prog 1 101 3 := by
  have h : (Tryz.prog.info? 3).map (fun i => (i.zero, i.size, i.bytes)) = some (some (.int .i64 0), 1, 8) := by kernel_rfl
  obtain ⟨i, hi, he⟩ := Option.map_eq_some_iff.1 h
  simp only [Prod.mk.injEq] at he
  exact ⟨i, _, Tryz.underlying101, hi, he.1, he.2.1, rfl, by rw [he.2.2]; decide⟩

open Wr in
theorem ev_len : ∀ (n : Nat) (l : List Nat), l.length ≤ n → (ev l).length = (l.length + 1) / 2
  | _, [], _ => rfl
  | _, [a], _ => by simp [ev]
  | 0, a :: b :: l, h => by simp at h
  | n + 1, a :: b :: l, h => by
    simp only [ev, List.length_cons] at h ⊢
    rw [ev_len n l (by omega)]
    omega

/-- What holds between two rounds. -/
def EvR (w : World) (L : List Nat) (oa : Option Addr) (oc k : Nat) (wr : World) : Prop :=
  SlAt 1 wr oa oc k (vals (L.take k)) ∧ (∀ j, inB oa j → w.heap.size ≤ j) ∧ Below w.heap.size w wr
theorem EvR.next {w wr w1 w2 : World} {L : List Nat} {oa : Option Addr} {oc k v : Nat} {g2 c2 : Nat} (h : EvR w L oa oc k wr) (hv : L[k]? = some v) (hb1 : Below wr.heap.size wr w1)
    (hF : Flat 1 w2 g2 c2 (k + 1) (vals (L.take k) ++ [.int .i64 (v : Int)])) (hb : But (inB oa) w1 w2) (hg : inB oa g2 ∨ w1.heap.size ≤ g2) : EvR w L (some ⟨g2, 0, none⟩) c2 (k + 1) w2 := by
  obtain ⟨h1, h2, h3⟩ := h
  have hs := h3.size
  have hs1 := hb1.size
  refine ⟨.inr ⟨g2, rfl, ?_⟩, ?_, ?_⟩
  · have e : vals (L.take (k + 1)) = vals (L.take k) ++ [.int .i64 (v : Int)] := by
      rw [List.take_add_one, hv]; simp [vals]
    rw [e]; exact hF
  · rintro j ⟨x, hx, rfl⟩
    cases hx
    rcases hg with h | h
    · exact h2 _ h
    · show w.heap.size ≤ g2; omega
  · exact (h3.trans (hb1.mono hs)).trans (hb.below (by omega) (fun j hj => h2 j hj))

set_option maxRecDepth 20000 in
set_option maxHeartbeats 1000000 in
theorem every_any (w : World) (a : Option Addr) (c f n : Nat) (S : Nat → Prop) (l : List Nat) (hf : f ≤ 1) (hn : l.length = n) (h : NsAt w a S l) (hl : n ≤ 64) :
    Calls Tryz.prog 130 #[.slice a n c, .int .i64 (f : Int)] w fun e w' => ∃ oa oc m, e = .returned (.slice oa m oc) ∧ (Wr.ev (l.drop f)).length = m ∧ NsAt w' oa (fun j => j < w.heap.size) (Wr.ev (l.drop f)) ∧ Below w.heap.size w w' := by
  obtain ⟨L, hL⟩ : ∃ L, Wr.ev (l.drop f) = L := ⟨_, rfl⟩
  have hlen : L.length = (n - f + 1) / 2 := by rw [← hL, ev_len _ _ (Nat.le_refl _), List.length_drop, hn]
  have hget : ∀ k, f + 2 * k < n → ∃ v, L[k]? = some v ∧ l[f + 2 * k]? = some v := fun k hk => by
    have : l[f + 2 * k]? = some (l[f + 2 * k]'(by omega)) := List.getElem?_eq_getElem (by omega)
    refine ⟨_, ?_, this⟩
    rw [← hL, Wr.ev_get, List.getElem?_drop]
    exact this
  rw [hL]
  have H := hidq h
  have HG := hidq hget
  have HL := hidq hlen
  clear h hget hlen hL hn
  go_enter Tryz.func130, Tryz.ntmps130
  go_wp2_with fail
  go_loopw [5, 6] (fun s5 s6 wr => ∃ (k : Nat) (oa : Option Addr) (oc : Nat), s6 = .int .i64 ((f + 2 * k : Nat) : Int) ∧ f + 2 * k ≤ n + 1 ∧ k ≤ L.length ∧ s5 = .slice oa k oc ∧ Hid (EvR w L oa oc k wr)) (fun _ s6 _ => n + 1 - (intOf s6).toNat)
  case atStart => exact ⟨0, none, 0, rfl, by have := HL.out; omega, Nat.zero_le _, rfl, ⟨SlAt.nil _ _, (fun j e => by obtain ⟨x, hx, _⟩ := e; cases hx), Below.refl _ _⟩⟩
  case round =>
    obtain ⟨k, oa, oc, rfl, hk1, hk2, rfl, hR⟩ := hrel
    by_cases hlt : f + 2 * k < n
    · obtain ⟨v, hv1, hv2⟩ := HG.out k hlt
      obtain ⟨b, off, ha, hbl, _, hc⟩ := (H.out.below (S := S) hR.out.2.2) _ _ hv2
      subst ha
      have hltI : ((f + 2 * k : Nat) : Int) < (n : Int) := by omega
      have hlt2 : k + 1 ≤ L.length := by have := (List.getElem?_eq_some_iff.1 hv1).1; omega
      have HV := hidq hv1
      have hkb : k ≤ 64 := by omega
      generalize hi : f + 2 * k = i at *
      have HI := hidq hi
      clear hv1 hv2 hi
      have hib : i ≤ 64 := by omega
      go_wp2_with (at_builtin; refine wpList_sl plainN _ rfl (.tmp 14) (.tmp 19) rfl oa oc k _ rfl (hR.out.1.below ((Below.refl _ _).alloc (Nat.le_refl _) _)) _ rfl 1 [.int .i64 (v : Int)] (src_new 1 _ Tryz.underlying101 wr.heap.size [.int .i64 (v : Int)] rfl (fun j u hu => by rw [World.cell?_alloc_new]; simpa using hu) (by intro u hu; simp at hu; subst hu; rfl)) (by omega) (by omega) ?_; intro g2 c2 w2 hF2 hb2 hg2)
      go_roundw
      case rel => exact ⟨k + 1, some ⟨g2, 0, none⟩, c2, by rw [show f + 2 * (k + 1) = i + 2 by have := HI.out; omega]; go_num, by have := HI.out; omega, by omega, rfl, hR.out.next HV.out ((Below.refl _ _).alloc (Nat.le_refl _) _) hF2 hb2 hg2⟩
      case measure => simp [intOf]; omega
    · have hd : decide (((f + 2 * k : Nat) : Int) < (n : Int)) = false := decide_eq_false (by omega)
      have hd2 : decide (f + 2 * k < n) = false := decide_eq_false (by omega)
      have hkl : L.length = k := by have := HL.out; omega
      go_wp2
      go_ret
      obtain ⟨h01, h02, h03⟩ := hR.out
      rw [List.take_of_length_le (by omega)] at h01
      exact ⟨oa, oc, k, rfl, hkl, nsAt_of h01 (fun j hj e => by have := h02 j hj; omega), h03⟩
end Go.Proofs.YtbcmilfajeanbaaGreat

namespace Go.Proofs.YtbcmilfajeanbaaGreat
open Go.RowKit Go.Sort

/-- Who of the first ones is busy. -/
def busyTo (Q : Nat → Option Nat) (k : Nat) : List Nat := (List.range k).filter (fun t => (Q t).isSome)
theorem busyTo_some {Q : Nat → Option Nat} {k fb : Nat} (h : Q k = some fb) : busyTo Q (k + 1) = busyTo Q k ++ [k] := by
  unfold busyTo; rw [List.range_succ, List.filter_append]; simp [h]
theorem busyTo_none {Q : Nat → Option Nat} {k : Nat} (h : Q k = none) : busyTo Q (k + 1) = busyTo Q k := by
  unfold busyTo; rw [List.range_succ, List.filter_append]; simp [h]
theorem busyTo_le (Q : Nat → Option Nat) (k : Nat) : (busyTo Q k).length ≤ k := by
  unfold busyTo; refine Nat.le_trans (List.length_filter_le _ _) ?_; simp
theorem busyTo_mem {Q : Nat → Option Nat} {k t : Nat} : t ∈ busyTo Q k ↔ t < k ∧ ∃ fb, Q t = some fb := by
  unfold busyTo; rw [List.mem_filter, List.mem_range, Option.isSome_iff_exists]

/-- How Busy ends. -/
def BusyEnd (Q : Nat → Option Nat) (w : World) (e : Ending) (w' : World) : Prop :=
  ∃ a cap, e = .returned (.slice a (busyTo Q 6).length cap) ∧ SlAt 1 w' a cap (busyTo Q 6).length (vals (busyTo Q 6)) ∧ (∀ j, inB a j → w.heap.size ≤ j) ∧ Below w.heap.size w w'

set_option maxRecDepth 20000 in
set_option maxHeartbeats 4000000 in
theorem busy_any (eb : Nat) (kind param : Int) (T : TypeId) (mv : Value) (mb : Nat) (Q : Nat → Option Nat) (closed : Bool) (steps : Int) (w : World) (h : BoxAt w eb (ecells kind param T mv mb Q closed steps)) :
    Calls Tryz.prog 34 #[.pointer (some ⟨eb, 0, none⟩)] w (BusyEnd Q w) := by
  obtain ⟨g4, _⟩ := h.get 4 _ rfl
  obtain ⟨g5, _⟩ := h.get 5 _ rfl
  obtain ⟨g6, _⟩ := h.get 6 _ rfl
  obtain ⟨g7, _⟩ := h.get 7 _ rfl
  obtain ⟨g8, _⟩ := h.get 8 _ rfl
  obtain ⟨g9, _⟩ := h.get 9 _ rfl
  have hl := h.lt
  clear h
  have i0 : ∀ (p0 p1 p2 p3 p4 p5 : Option Addr) w, (Instr.index 88 (.agg #[.pointer p0, .pointer p1, .pointer p2, .pointer p3, .pointer p4, .pointer p5]) (.int .i64 0)).run Tryz.prog w = .ok (.pointer p0) w := fun _ _ _ _ _ _ _ => by kernel_rfl
  have i1 : ∀ (p0 p1 p2 p3 p4 p5 : Option Addr) w, (Instr.index 88 (.agg #[.pointer p0, .pointer p1, .pointer p2, .pointer p3, .pointer p4, .pointer p5]) (.int .i64 1)).run Tryz.prog w = .ok (.pointer p1) w := fun _ _ _ _ _ _ _ => by kernel_rfl
  have i2 : ∀ (p0 p1 p2 p3 p4 p5 : Option Addr) w, (Instr.index 88 (.agg #[.pointer p0, .pointer p1, .pointer p2, .pointer p3, .pointer p4, .pointer p5]) (.int .i64 2)).run Tryz.prog w = .ok (.pointer p2) w := fun _ _ _ _ _ _ _ => by kernel_rfl
  have i3 : ∀ (p0 p1 p2 p3 p4 p5 : Option Addr) w, (Instr.index 88 (.agg #[.pointer p0, .pointer p1, .pointer p2, .pointer p3, .pointer p4, .pointer p5]) (.int .i64 3)).run Tryz.prog w = .ok (.pointer p3) w := fun _ _ _ _ _ _ _ => by kernel_rfl
  have i4 : ∀ (p0 p1 p2 p3 p4 p5 : Option Addr) w, (Instr.index 88 (.agg #[.pointer p0, .pointer p1, .pointer p2, .pointer p3, .pointer p4, .pointer p5]) (.int .i64 4)).run Tryz.prog w = .ok (.pointer p4) w := fun _ _ _ _ _ _ _ => by kernel_rfl
  have i5 : ∀ (p0 p1 p2 p3 p4 p5 : Option Addr) w, (Instr.index 88 (.agg #[.pointer p0, .pointer p1, .pointer p2, .pointer p3, .pointer p4, .pointer p5]) (.int .i64 5)).run Tryz.prog w = .ok (.pointer p5) w := fun _ _ _ _ _ _ _ => by kernel_rfl
  go_enter Tryz.func34, Tryz.ntmps34
  go_wp2_with fail
  clear g4 g5 g6 g7 g8 g9
  go_loopw [3, 10] (fun s3 s10 wr => ∃ (k : Nat) (a : Option Addr) (cap : Nat), s3 = .slice a (busyTo Q k).length cap ∧ s10 = .int .i64 (k : Int) ∧ k ≤ 6 ∧ Hid (SlAt 1 wr a cap (busyTo Q k).length (vals (busyTo Q k)) ∧ (∀ j, inB a j → w.heap.size ≤ j) ∧ Below w.heap.size w wr)) (fun _ s10 _ => 6 - (intOf s10).toNat)
  case atStart => exact ⟨0, none, 0, rfl, rfl, by omega, SlAt.nil _ _, fun j hj => by (obtain ⟨x, hx, _⟩ := hj; cases hx), Below.refl _ _⟩
  case round =>
    obtain ⟨k, a, cap, rfl, rfl, hk, hR⟩ := hrel
    by_cases hk6 : k = 6
    · subst hk6
      have HE := hidq (show BusyEnd Q w (.returned (.slice a (busyTo Q 6).length cap)) wr from ⟨a, cap, rfl, hR.out.1, hR.out.2.1, hR.out.2.2⟩)
      clear hR
      generalize (busyTo Q 6).length = n at *
      go_wp2_with fail
      go_ret
      exact HE.out
    · have hFIN := hidq (fun (q : Option Nat) (hq : Q k = q) => hq)
      have hnone := hidq (fun (hq : Q k = none) => (show SlAt 1 wr a cap (busyTo Q (k + 1)).length (vals (busyTo Q (k + 1))) ∧ (∀ j, inB a j → w.heap.size ≤ j) ∧ Below w.heap.size w wr from by rw [busyTo_none hq]; exact hR.out))
      have hlen := busyTo_le Q k
      have hlenn := hidq (fun (hq : Q k = none) => (show (busyTo Q (k + 1)).length = (busyTo Q k).length from by rw [busyTo_none hq]))
      have hlens := hidq (fun fb (hq : Q k = some fb) => (show (busyTo Q (k + 1)).length = (busyTo Q k).length + 1 from by rw [busyTo_some hq]; simp))
      have hsome := hidq (fun fb (hq : Q k = some fb) g2 c2 w2 (hF2 : Flat 1 w2 g2 c2 ((busyTo Q k).length + 1) (vals (busyTo Q k) ++ [.int .i64 (k : Int)])) (hb2 : But (inB a) (wr.alloc (.cells #[.int .i64 (k : Int)] 3)) w2) (hg2 : inB a g2 ∨ (wr.alloc (.cells #[.int .i64 (k : Int)] 3)).heap.size ≤ g2) => (show SlAt 1 w2 (some ⟨g2, 0, none⟩) c2 (busyTo Q (k + 1)).length (vals (busyTo Q (k + 1))) ∧ (∀ j, inB (some ⟨g2, 0, none⟩) j → w.heap.size ≤ j) ∧ Below w.heap.size w w2 from by
        obtain ⟨h1, h2, h3⟩ := hR.out
        refine ⟨.inr ⟨g2, rfl, ?_⟩, ?_, ?_⟩
        · rw [busyTo_some hq, List.length_append, show vals (busyTo Q k ++ [k]) = vals (busyTo Q k) ++ [.int .i64 (k : Int)] by simp [vals]]; exact hF2
        · rintro j ⟨x, hx, rfl⟩
          cases hx
          rcases hg2 with e | e
          · exact h2 _ e
          · have := h3.size; simp at e; show w.heap.size ≤ g2; omega
        · exact (h3.alloc h3.size _).trans (hb2.below (by simp; have := h3.size; omega) (fun j e => h2 j e))))
      generalize hln : (busyTo Q k).length = len at *
      generalize vals (busyTo Q k) = lst at *
      generalize hln1 : (busyTo Q (k + 1)).length = len1 at *
      generalize hlst1 : vals (busyTo Q (k + 1)) = lst1 at *
      have HL := hidq (And.intro hln1 hlst1)
      obtain ⟨q, hq⟩ : ∃ q, Q k = q := ⟨_, rfl⟩
      have HSL := hidq hR.out.1
      have hl100 : len ≤ 100 := by omega
      have hc : k = 0 ∨ k = 1 ∨ k = 2 ∨ k = 3 ∨ k = 4 ∨ k = 5 := by omega
      clear hk hk6 hFIN hlen
      cases q with
      | none =>
        have h1 := hlenn.out hq
        have h2 := hidq (hnone.out hq)
        subst h1
        clear hnone hlenn hlens hsome hR HSL hln1 hlst1
        rcases hc with rfl | rfl | rfl | rfl | rfl | rfl
        · go_wp2_with fail
          go_roundw
          case rel => exact ⟨0 + 1, a, cap, by rw [HL.out.1], by go_num, by omega, by rw [HL.out.1, HL.out.2]; exact h2⟩
          case measure => simp [intOf]
        · go_wp2_with fail
          go_roundw
          case rel => exact ⟨1 + 1, a, cap, by rw [HL.out.1], by go_num, by omega, by rw [HL.out.1, HL.out.2]; exact h2⟩
          case measure => simp [intOf]
        · go_wp2_with fail
          go_roundw
          case rel => exact ⟨2 + 1, a, cap, by rw [HL.out.1], by go_num, by omega, by rw [HL.out.1, HL.out.2]; exact h2⟩
          case measure => simp [intOf]
        · go_wp2_with fail
          go_roundw
          case rel => exact ⟨3 + 1, a, cap, by rw [HL.out.1], by go_num, by omega, by rw [HL.out.1, HL.out.2]; exact h2⟩
          case measure => simp [intOf]
        · go_wp2_with fail
          go_roundw
          case rel => exact ⟨4 + 1, a, cap, by rw [HL.out.1], by go_num, by omega, by rw [HL.out.1, HL.out.2]; exact h2⟩
          case measure => simp [intOf]
        · go_wp2_with fail
          go_roundw
          case rel => exact ⟨5 + 1, a, cap, by rw [HL.out.1], by go_num, by omega, by rw [HL.out.1, HL.out.2]; exact h2⟩
          case measure => simp [intOf]
      | some fb =>
        have h1 := hlens.out fb hq
        have h2 := hidq (hsome.out fb hq)
        subst h1
        clear hnone hlenn hlens hsome hln1 hlst1
        rcases hc with rfl | rfl | rfl | rfl | rfl | rfl
        · go_wp2_with (at_builtin; refine wpList_sl plainN _ rfl (.tmp 16) (.tmp 18) rfl a cap len _ rfl (HSL.out.below ((Below.refl _ _).alloc (Nat.le_refl _) _)) _ rfl 1 [.int .i64 0] (src_new 1 _ Tryz.underlying101 wr.heap.size [.int .i64 0] rfl (fun j u hu => by rw [World.cell?_alloc_new]; simpa using hu) (by intro u hu; simp at hu; subst hu; rfl)) (by omega) (by omega) ?_; intro g2 c2 w2 hF2 hb2 hg2)
          rw [show eptr (some fb) = eptr (Q 0) from by rw [hq]]
          go_roundw
          case rel => exact ⟨0 + 1, some ⟨g2, 0, none⟩, c2, by rw [HL.out.1], by go_num, by omega, by rw [HL.out.1, HL.out.2]; exact h2.out g2 c2 w2 hF2 hb2 hg2⟩
          case measure => simp [intOf]
        · go_wp2_with (at_builtin; refine wpList_sl plainN _ rfl (.tmp 16) (.tmp 18) rfl a cap len _ rfl (HSL.out.below ((Below.refl _ _).alloc (Nat.le_refl _) _)) _ rfl 1 [.int .i64 1] (src_new 1 _ Tryz.underlying101 wr.heap.size [.int .i64 1] rfl (fun j u hu => by rw [World.cell?_alloc_new]; simpa using hu) (by intro u hu; simp at hu; subst hu; rfl)) (by omega) (by omega) ?_; intro g2 c2 w2 hF2 hb2 hg2)
          rw [show eptr (some fb) = eptr (Q 1) from by rw [hq]]
          go_roundw
          case rel => exact ⟨1 + 1, some ⟨g2, 0, none⟩, c2, by rw [HL.out.1], by go_num, by omega, by rw [HL.out.1, HL.out.2]; exact h2.out g2 c2 w2 hF2 hb2 hg2⟩
          case measure => simp [intOf]
        · go_wp2_with (at_builtin; refine wpList_sl plainN _ rfl (.tmp 16) (.tmp 18) rfl a cap len _ rfl (HSL.out.below ((Below.refl _ _).alloc (Nat.le_refl _) _)) _ rfl 1 [.int .i64 2] (src_new 1 _ Tryz.underlying101 wr.heap.size [.int .i64 2] rfl (fun j u hu => by rw [World.cell?_alloc_new]; simpa using hu) (by intro u hu; simp at hu; subst hu; rfl)) (by omega) (by omega) ?_; intro g2 c2 w2 hF2 hb2 hg2)
          rw [show eptr (some fb) = eptr (Q 2) from by rw [hq]]
          go_roundw
          case rel => exact ⟨2 + 1, some ⟨g2, 0, none⟩, c2, by rw [HL.out.1], by go_num, by omega, by rw [HL.out.1, HL.out.2]; exact h2.out g2 c2 w2 hF2 hb2 hg2⟩
          case measure => simp [intOf]
        · go_wp2_with (at_builtin; refine wpList_sl plainN _ rfl (.tmp 16) (.tmp 18) rfl a cap len _ rfl (HSL.out.below ((Below.refl _ _).alloc (Nat.le_refl _) _)) _ rfl 1 [.int .i64 3] (src_new 1 _ Tryz.underlying101 wr.heap.size [.int .i64 3] rfl (fun j u hu => by rw [World.cell?_alloc_new]; simpa using hu) (by intro u hu; simp at hu; subst hu; rfl)) (by omega) (by omega) ?_; intro g2 c2 w2 hF2 hb2 hg2)
          rw [show eptr (some fb) = eptr (Q 3) from by rw [hq]]
          go_roundw
          case rel => exact ⟨3 + 1, some ⟨g2, 0, none⟩, c2, by rw [HL.out.1], by go_num, by omega, by rw [HL.out.1, HL.out.2]; exact h2.out g2 c2 w2 hF2 hb2 hg2⟩
          case measure => simp [intOf]
        · go_wp2_with (at_builtin; refine wpList_sl plainN _ rfl (.tmp 16) (.tmp 18) rfl a cap len _ rfl (HSL.out.below ((Below.refl _ _).alloc (Nat.le_refl _) _)) _ rfl 1 [.int .i64 4] (src_new 1 _ Tryz.underlying101 wr.heap.size [.int .i64 4] rfl (fun j u hu => by rw [World.cell?_alloc_new]; simpa using hu) (by intro u hu; simp at hu; subst hu; rfl)) (by omega) (by omega) ?_; intro g2 c2 w2 hF2 hb2 hg2)
          rw [show eptr (some fb) = eptr (Q 4) from by rw [hq]]
          go_roundw
          case rel => exact ⟨4 + 1, some ⟨g2, 0, none⟩, c2, by rw [HL.out.1], by go_num, by omega, by rw [HL.out.1, HL.out.2]; exact h2.out g2 c2 w2 hF2 hb2 hg2⟩
          case measure => simp [intOf]
        · go_wp2_with (at_builtin; refine wpList_sl plainN _ rfl (.tmp 16) (.tmp 18) rfl a cap len _ rfl (HSL.out.below ((Below.refl _ _).alloc (Nat.le_refl _) _)) _ rfl 1 [.int .i64 5] (src_new 1 _ Tryz.underlying101 wr.heap.size [.int .i64 5] rfl (fun j u hu => by rw [World.cell?_alloc_new]; simpa using hu) (by intro u hu; simp at hu; subst hu; rfl)) (by omega) (by omega) ?_; intro g2 c2 w2 hF2 hb2 hg2)
          rw [show eptr (some fb) = eptr (Q 5) from by rw [hq]]
          go_roundw
          case rel => exact ⟨5 + 1, some ⟨g2, 0, none⟩, c2, by rw [HL.out.1], by go_num, by omega, by rw [HL.out.1, HL.out.2]; exact h2.out g2 c2 w2 hF2 hb2 hg2⟩
          case measure => simp [intOf]
end Go.Proofs.YtbcmilfajeanbaaGreat

namespace Go.Proofs.YtbcmilfajeanbaaGreat
open Go.RowKit Go.Sort

/-- An event. -/
abbrev evV (t : Nat) (F : Fr) (A : Ans) (d : Bool) : Value := .agg #[.int .i64 (t : Int), .int .i64 F.kind, .float .f64 F.pri, .int .i64 F.val, .int .i64 F.d0, .int .i64 F.d1, .bool d, .bool A.ok, .float .f64 A.pri, .int .i64 A.val, .int .i64 A.n]
/-- How a pick ends. -/
def PickEnd (eb : Nat) (kind param : Int) (T : TypeId) (mv : Value) (mb : Nat) (Q : Nat → Option Nat) (closed : Bool) (steps : Nat) (t fb : Nat) (O P : Nat → Prop) (r : Mem × Fr × Ans × Bool) (w : World) (e : Ending) (w' : World) : Prop :=
  e = .returned (.tuple #[evV t r.2.1 r.2.2.1 r.2.2.2, .bool true]) ∧ BoxAt w' eb (ecells kind param T mv mb (if r.2.2.2 = true then qset Q t none else Q) closed ((steps + 1 : Nat) : Int)) ∧
    ∃ O' P', MemAt w' mb O' r.1 ∧ FrAt w' fb P' r.2.1 ∧ (∀ k, O' k → ¬ P' k) ∧ Grown O w w' O' ∧ Grown P w w' P' ∧ But (fun k => O k ∨ P k ∨ k = eb) w w'
end Go.Proofs.YtbcmilfajeanbaaGreat

namespace Go.Proofs.YtbcmilfajeanbaaGreat
open Go.RowKit Go.Sort

theorem load_ans (W : World) (ab : Nat) (A : Ans) (h : BoxAt W ab A.l) : (loadVar 46 ⟨ab, 0, none⟩).run Tryz.prog W = .ok A.v W := by
  have q0 := (h.get 0 _ rfl).1
  have q1 := (h.get 1 _ rfl).1
  have q2 := (h.get 2 _ rfl).1
  have q3 := (h.get 3 _ rfl).1
  simp [loadVar, go_sem, q0, q1, q2, q3]

theorem ret_ans {fn : Func} {p u : Tmp} (h : fn.results = #[.cell p 46, .tmp u]) {a : Act} {W : World} {ab : Nat} {A : Ans} {d : Bool} {R : Ending → World → Prop}
    (hB : BoxAt W ab A.l) (hp : a.tmps.getD p undef = .pointer (some ⟨ab, 0, none⟩)) (hu : a.tmps.getD u undef = .bool d) (hd : a.defers = [])
    (hR : R (.returned (.tuple #[A.v, .bool d])) W) : bodyPost Tryz.prog fn R .ret a W := by
  refine bodyPost_ret (v := .tuple #[A.v, .bool d]) ?_ hd hR
  rw [results_cell_tmp h, hp, hu]
  have q0 := (hB.get 0 _ rfl).1
  have q1 := (hB.get 1 _ rfl).1
  have q2 := (hB.get 2 _ rfl).1
  have q3 := (hB.get 3 _ rfl).1
  simp [asAddr, go_sem, q0, q1, q2, q3, Result.andThen]

/-- Some cells of a block laid anew, one behind the other. -/
def setBox (w : World) (b : Nat) : List (Nat × Value) → World
  | [] => w
  | p :: l => setBox (w.setCell ⟨b, p.1, none⟩ p.2) b l
theorem setBox_but (b : Nat) : ∀ (s : List (Nat × Value)) (w : World), But (fun j => j = b) w (setBox w b s)
  | [], w => But.refl _ w
  | p :: l, w => ((But.refl (fun j => j = b) w).set1 b p.1 rfl p.2).trans (setBox_but b l _)
theorem setBox_size (b : Nat) : ∀ (s : List (Nat × Value)) (w : World), (setBox w b s).heap.size = w.heap.size
  | [], _ => rfl
  | _ :: l, _ => (setBox_size b l _).trans (World.size_setCell _ _ _)
theorem setBox_box {b : Nat} : ∀ (s : List (Nat × Value)) {w : World} {l : List Value}, BoxAt w b l → BoxAt (setBox w b s) b (s.foldl (fun l p => l.set p.1 p.2) l)
  | [], _, _, h => h
  | p :: s, _, _, h => setBox_box s (h.set p.1 p.2)
abbrev Ans.s (A : Ans) : List (Nat × Value) := [(0, .bool A.ok), (1, .float .f64 A.pri), (2, .int .i64 A.val), (3, .int .i64 A.n)]
theorem set_ans (A A0 : Ans) : A.s.foldl (fun l p => l.set p.1 p.2) A0.l = A.l := rfl

/-- A step whose last writes are in its frame and in its answer. -/
theorem stepEnd_of {w w2 : World} {b fb ab : Nat} {O P O' : Nat → Prop} {M' : Mem} {F' : Fr} {A A0 : Ans} {d : Bool} {l : List Value} (s : List (Nat × Value)) {a0 a1 : Option Addr} {k0 k1 : Nat}
    (hM : MemAt w2 b O' M') (hO : Grown O w w2 O') (hbut : But (fun k => O k ∨ P k) w w2) (hP : P fb) (hB : BoxAt w2 fb l) (hl : s.foldl (fun l p => l.set p.1 p.2) l = F'.l a0 k0 a1 k1)
    (hA : BoxAt w2 ab A0.l) (hab : w.heap.size ≤ ab) (hOa : ¬ O' ab) (hOf : ¬ O' fb) (hfa : fb ≠ ab)
    (s0 : SlAt 2 w2 a0 k0 F'.c0.L.length (flatI F'.c0.L)) (n0 : ∀ j, inB a0 j → j ≠ fb ∧ j ≠ ab ∧ ¬ O' j ∧ (P j ∨ w.heap.size ≤ j))
    (s1 : SlAt 2 w2 a1 k1 F'.c1.L.length (flatI F'.c1.L)) (n1 : ∀ j, inB a1 j → j ≠ fb ∧ j ≠ ab ∧ ¬ O' j ∧ (P j ∨ w.heap.size ≤ j)) :
    BoxAt (setBox (setBox w2 fb s) ab A.s) ab A.l ∧ StepEnd b fb O P (M', F', A, d) w (.returned (.tuple #[A.v, .bool d])) (setBox (setBox w2 fb s) ab A.s) := by
  have b1 := setBox_but fb s w2
  have b2 := setBox_but ab A.s (setBox w2 fb s)
  have hz : (setBox (setBox w2 fb s) ab A.s).heap.size = w2.heap.size := by rw [setBox_size, setBox_size]
  have hk : But (fun j => j = fb ∨ j = ab) w2 (setBox (setBox w2 fb s) ab A.s) := (b1.mono (fun _ _ e => .inl e)).trans (b2.mono (fun _ _ e => .inr e))
  have hB9 := (setBox_box s hB).but b2 hfa
  rw [hl] at hB9
  have hA9 : BoxAt (setBox (setBox w2 fb s) ab A.s) ab A.l := setBox_box A.s (hA.but b1 (fun e => hfa e.symm))
  generalize setBox (setBox w2 fb s) ab A.s = W9 at *
  refine ⟨hA9, rfl, O', fun k => k = fb ∨ inB a0 k ∨ inB a1 k, hM.but hk (fun j hj e => ?_), ⟨.inl rfl, ?_, a0, k0, a1, k1, hB9, s0.but hk (fun j hj e => ?_), s1.but hk (fun j hj e => ?_), fun j hj => ⟨.inr (.inl hj), (n0 j hj).1⟩, fun j hj => ⟨.inr (.inr hj), (n1 j hj).1⟩⟩, ?_, ?_, ?_, ?_⟩
  · rcases e with rfl | rfl
    · exact hOf hj
    · exact hOa hj
  · rintro j (rfl | hj | hj)
    · rw [hz]; exact hB.lt
    · rw [hz]; exact s0.lt j hj
    · rw [hz]; exact s1.lt j hj
  · rcases e with rfl | rfl
    · exact (n0 _ hj).1 rfl
    · exact (n0 _ hj).2.1 rfl
  · rcases e with rfl | rfl
    · exact (n1 _ hj).1 rfl
    · exact (n1 _ hj).2.1 rfl
  · rintro j hj (rfl | e | e)
    · exact hOf hj
    · exact (n0 j e).2.2.1 hj
    · exact (n1 j e).2.2.1 hj
  · intro j hj
    rcases hO j hj with e | e
    · exact .inl e
    · exact .inr ⟨e.1, by omega⟩
  · rintro j (rfl | hj | hj)
    · exact .inl hP
    · rcases (n0 j hj).2.2.2 with e | e
      · exact .inl e
      · exact .inr ⟨e, by rw [hz]; exact s0.lt j hj⟩
    · rcases (n1 j hj).2.2.2 with e | e
      · exact .inl e
      · exact .inr ⟨e, by rw [hz]; exact s1.lt j hj⟩
  · exact hbut.then hk (fun j hj e => by rcases e with rfl | rfl; exact .inr hP; omega)

/-- The same, where an order was drawn between the two. -/
theorem stepEnd_ofN {w w2 : World} {b fb ab : Nat} {O P O' : Nat → Prop} {M' : Mem} {F' : Fr} {A A0 : Ans} {d : Bool} {l : List Value} (n : Nat) (s : List (Nat × Value)) {a0 a1 : Option Addr} {k0 k1 : Nat}
    (hM : MemAt w2 b O' M') (hO : Grown O w w2 O') (hbut : But (fun k => O k ∨ P k) w w2) (hP : P fb) (hB : BoxAt w2 fb l) (hl : s.foldl (fun l p => l.set p.1 p.2) l = F'.l a0 k0 a1 k1)
    (hA : BoxAt w2 ab A0.l) (hab : w.heap.size ≤ ab) (hOa : ¬ O' ab) (hOf : ¬ O' fb) (hfa : fb ≠ ab)
    (s0 : SlAt 2 w2 a0 k0 F'.c0.L.length (flatI F'.c0.L)) (n0 : ∀ j, inB a0 j → j ≠ fb ∧ j ≠ ab ∧ ¬ O' j ∧ (P j ∨ w.heap.size ≤ j))
    (s1 : SlAt 2 w2 a1 k1 F'.c1.L.length (flatI F'.c1.L)) (n1 : ∀ j, inB a1 j → j ≠ fb ∧ j ≠ ab ∧ ¬ O' j ∧ (P j ∨ w.heap.size ≤ j)) :
    BoxAt (setBox ((setBox w2 fb s).drewN n) ab A.s) ab A.l ∧ StepEnd b fb O P (M', F', A, d) w (.returned (.tuple #[A.v, .bool d])) (setBox ((setBox w2 fb s).drewN n) ab A.s) := by
  have b1 := setBox_but fb s w2
  have hz : ((setBox w2 fb s).drewN n).heap.size = w2.heap.size := setBox_size fb s w2
  have hk : But (fun j => j = fb) w2 ((setBox w2 fb s).drewN n) := b1.drewN n
  have hB9 := (setBox_box s hB).drewN n
  rw [hl] at hB9
  have hA9 := hA.but hk (fun e => hfa e.symm)
  have hO9 : Grown O w ((setBox w2 fb s).drewN n) O' := fun k h => by rcases hO k h with e | e; exact .inl e; exact .inr ⟨e.1, by rw [hz]; exact e.2⟩
  exact stepEnd_of [] (hM.but hk (fun k h e => hOf (e ▸ h))) hO9 (hbut.then hk (fun j _ e => .inr (e ▸ hP))) hP hB9 rfl hA9 hab hOa hOf hfa (s0.but hk (fun j hj => (n0 j hj).1)) n0 (s1.but hk (fun j hj => (n1 j hj).1)) n1

/-- What a read into a frame comes to. -/
def RdEnd (b fb : Nat) (O P : Nat → Prop) (M : Mem) (F' : Fr) (w : World) (e : Ending) (w' : World) : Prop :=
  e = .returned (.tuple #[]) ∧ ∃ P', MemAt w' b O M ∧ FrAt w' fb P' F' ∧ (∀ k, O k → ¬ P' k) ∧ Grown P w w' P' ∧ But P w w'
theorem rdEnd_of {w w2 : World} {b fb : Nat} {O P : Nat → Prop} {M : Mem} {F' : Fr} {l : List Value} (s : List (Nat × Value)) {a0 a1 : Option Addr} {k0 k1 : Nat}
    (hM : MemAt w2 b O M) (hbut : But P w w2) (hP : P fb) (hB : BoxAt w2 fb l) (hl : s.foldl (fun l p => l.set p.1 p.2) l = F'.l a0 k0 a1 k1) (hOf : ¬ O fb)
    (s0 : SlAt 2 w2 a0 k0 F'.c0.L.length (flatI F'.c0.L)) (n0 : ∀ j, inB a0 j → j ≠ fb ∧ ¬ O j ∧ (P j ∨ w.heap.size ≤ j))
    (s1 : SlAt 2 w2 a1 k1 F'.c1.L.length (flatI F'.c1.L)) (n1 : ∀ j, inB a1 j → j ≠ fb ∧ ¬ O j ∧ (P j ∨ w.heap.size ≤ j)) :
    RdEnd b fb O P M F' w (.returned (.tuple #[])) (setBox w2 fb s) := by
  have hk := setBox_but fb s w2
  have hz := setBox_size fb s w2
  have hB9 := setBox_box s hB
  rw [hl] at hB9
  generalize setBox w2 fb s = W9 at *
  refine ⟨rfl, fun k => k = fb ∨ inB a0 k ∨ inB a1 k, hM.but hk (fun j hj e => hOf (e ▸ hj)), ⟨.inl rfl, ?_, a0, k0, a1, k1, hB9, s0.but hk (fun j hj e => (n0 j hj).1 e), s1.but hk (fun j hj e => (n1 j hj).1 e), fun j hj => ⟨.inr (.inl hj), (n0 j hj).1⟩, fun j hj => ⟨.inr (.inr hj), (n1 j hj).1⟩⟩, ?_, ?_, ?_⟩
  · rintro j (rfl | hj | hj)
    · rw [hz]; exact hB.lt
    · rw [hz]; exact s0.lt j hj
    · rw [hz]; exact s1.lt j hj
  · rintro j hj (rfl | e | e)
    · exact hOf hj
    · exact (n0 j e).2.1 hj
    · exact (n1 j e).2.1 hj
  · rintro j (rfl | hj | hj)
    · exact .inl hP
    · rcases (n0 j hj).2.2 with e | e
      · exact .inl e
      · exact .inr ⟨e, by rw [hz]; exact s0.lt j hj⟩
    · rcases (n1 j hj).2.2 with e | e
      · exact .inl e
      · exact .inr ⟨e, by rw [hz]; exact s1.lt j hj⟩
  · exact hbut.then hk (fun j _ e => e ▸ hP)

/-- A step within a step: the answer is handed on. -/
theorem stepEnd_on {w W1 w2 : World} {b fb ab : Nat} {O P : Nat → Prop} {r : Mem × Fr × Ans × Bool} {A0 : Ans} {e : Ending} (hb : Below w.heap.size w W1) (hO : ∀ k, O k → k < w.heap.size) (hP : ∀ k, P k → k < w.heap.size)
    (h : StepEnd b fb O P r W1 e w2) (hA : BoxAt W1 ab A0.l) (hab : w.heap.size ≤ ab) :
    BoxAt (setBox w2 ab r.2.2.1.s) ab r.2.2.1.l ∧ StepEnd b fb O P r w (.returned (.tuple #[r.2.2.1.v, .bool r.2.2.2])) (setBox w2 ab r.2.2.1.s) := by
  obtain ⟨rfl, O', P', h1, h2, h3, h4, h5, h6⟩ := h
  have b2 := setBox_but ab r.2.2.1.s w2
  have hz := setBox_size ab r.2.2.1.s w2
  have hal := hA.lt
  have hs := hb.size
  have hnO : ¬ O' ab := fun e => by
    rcases h4 _ e with e | e
    · have := hO _ e; omega
    · omega
  have hnP : ¬ P' ab := fun e => by
    rcases h5 _ e with e | e
    · have := hP _ e; omega
    · omega
  refine ⟨setBox_box r.2.2.1.s (hA.but h6 (fun e => by rcases e with e | e; have := hO _ e; omega; have := hP _ e; omega)), rfl, O', P', h1.but b2 (fun k hk e => hnO (e ▸ hk)), h2.but b2 (fun k hk e => hnP (e ▸ hk)), h3, ?_, ?_, ?_⟩
  · intro k hk
    rcases h4 k hk with e | e
    · exact .inl e
    · exact .inr ⟨by omega, by rw [hz]; exact e.2⟩
  · intro k hk
    rcases h5 k hk with e | e
    · exact .inl e
    · exact .inr ⟨by omega, by rw [hz]; exact e.2⟩
  · exact ((But.of_below hb).trans h6).then b2 (fun k hk e => by omega)
end Go.Proofs.YtbcmilfajeanbaaGreat

namespace Go.Proofs.YtbcmilfajeanbaaGreat
open Go.RowKit Go.Sort

/-- A call. -/
structure Cl where
  thread : Int
  kind : Int
  pri : Nat
  val : Int
  d0 : Int
  d1 : Int
  beg : Int
  fin : Int
  ans : Ans
abbrev Cl.l (c : Cl) : List Value := [.int .i64 c.thread, .int .i64 c.kind, .float .f64 c.pri, .int .i64 c.val, .int .i64 c.d0, .int .i64 c.d1, .int .i64 c.beg, .int .i64 c.fin, .bool c.ans.ok, .float .f64 c.ans.pri, .int .i64 c.ans.val, .int .i64 c.ans.n]
abbrev Cl.v (c : Cl) : Value := .agg #[.int .i64 c.thread, .int .i64 c.kind, .float .f64 c.pri, .int .i64 c.val, .int .i64 c.d0, .int .i64 c.d1, .int .i64 c.beg, .int .i64 c.fin, .bool c.ans.ok, .float .f64 c.ans.pri, .int .i64 c.ans.val, .int .i64 c.ans.n]
def Cl.done (c : Cl) : Bool := decide (0 ≤ c.fin)
def Cl.ahead (c d : Cl) : Bool := decide (0 ≤ c.fin ∧ c.fin < d.beg)

end Go.Proofs.YtbcmilfajeanbaaGreat

namespace Go.Proofs.YtbcmilfajeanbaaGreat
open Go.RowKit Go.Sort

/-- A recorder's cells: the engine, the calls, what each thread is at. -/
abbrev rcells (eb : Nat) (a : Option Addr) (n cap : Nat) (U : Nat → Option Nat) : List Value :=
  [.pointer (some ⟨eb, 0, none⟩), .slice a n cap, eptr (U 0), eptr (U 1), eptr (U 2), eptr (U 3), eptr (U 4), eptr (U 5)]
theorem rcells_thread (eb : Nat) (a : Option Addr) (n cap : Nat) (U : Nat → Option Nat) (k : Nat) (hk : k < 6) : (rcells eb a n cap U)[2 + k]? = some (eptr (U k)) := by
  have : k = 0 ∨ k = 1 ∨ k = 2 ∨ k = 3 ∨ k = 4 ∨ k = 5 := by omega
  rcases this with rfl | rfl | rfl | rfl | rfl | rfl <;> rfl
theorem rcells_set (eb : Nat) (a : Option Addr) (n cap : Nat) (U : Nat → Option Nat) (k : Nat) (hk : k < 6) (q : Option Nat) : (rcells eb a n cap U).set (2 + k) (eptr q) = rcells eb a n cap (qset U k q) := by
  have : k = 0 ∨ k = 1 ∨ k = 2 ∨ k = 3 ∨ k = 4 ∨ k = 5 := by omega
  rcases this with rfl | rfl | rfl | rfl | rfl | rfl <;> rfl
/-- Pointers in a row. -/
def ptrs (cs : List (Nat × Cl)) : List Value := cs.map fun p => .pointer (some ⟨p.1, 0, none⟩)
theorem ptrs_length (cs : List (Nat × Cl)) : (ptrs cs).length = cs.length := by simp [ptrs]
theorem ptrs_snoc (cs : List (Nat × Cl)) (b : Nat) (c : Cl) : ptrs (cs ++ [(b, c)]) = ptrs cs ++ [.pointer (some ⟨b, 0, none⟩)] := by simp [ptrs]
/-- The blocks that a recorder owns. -/
def RK (rb : Nat) (a : Option Addr) (cs : List (Nat × Cl)) (k : Nat) : Prop := k = rb ∨ inB a k ∨ ∃ p ∈ cs, p.1 = k
/-- A recorder at block rb. -/
structure RecAt (w : World) (rb eb : Nat) (a : Option Addr) (cap : Nat) (cs : List (Nat × Cl)) (U : Nat → Option Nat) : Prop where
  box : BoxAt w rb (rcells eb a cs.length cap U)
  sl : SlAt 1 w a cap cs.length (ptrs cs)
  cl : ∀ p ∈ cs, BoxAt w p.1 p.2.l
  nd : cs.Pairwise (fun p q => p.1 ≠ q.1)
  nb : ∀ p ∈ cs, p.1 ≠ rb ∧ ¬ inB a p.1
  na : ¬ inB a rb
theorem RecAt.lt {w : World} {rb eb : Nat} {a : Option Addr} {cap : Nat} {cs : List (Nat × Cl)} {U : Nat → Option Nat} (h : RecAt w rb eb a cap cs U) : ∀ k, RK rb a cs k → k < w.heap.size := by
  rintro k (rfl | hk | ⟨p, hp, rfl⟩)
  · exact h.box.lt
  · exact h.sl.lt k hk
  · exact (h.cl p hp).lt
theorem RecAt.but {w w' : World} {rb eb : Nat} {a : Option Addr} {cap : Nat} {cs : List (Nat × Cl)} {U : Nat → Option Nat} {S : Nat → Prop} (h : RecAt w rb eb a cap cs U) (hb : But S w w') (hS : ∀ k, RK rb a cs k → ¬ S k) : RecAt w' rb eb a cap cs U :=
  ⟨h.box.but hb (hS rb (.inl rfl)), h.sl.but hb (fun j hj => hS j (.inr (.inl hj))), fun p hp => (h.cl p hp).but hb (hS p.1 (.inr (.inr ⟨p, hp, rfl⟩))), h.nd, h.nb, h.na⟩
theorem RecAt.below {w w' : World} {rb eb : Nat} {a : Option Addr} {cap : Nat} {cs : List (Nat × Cl)} {U : Nat → Option Nat} (h : RecAt w rb eb a cap cs U) (hb : Below w.heap.size w w') : RecAt w' rb eb a cap cs U :=
  h.but (S := fun _ => False) (But.of_below hb) (fun _ _ e => e)
theorem RecAt.new {w : World} {rb eb : Nat} (h : BoxAt w rb (rcells eb none 0 0 (fun _ => none))) : RecAt w rb eb none 0 [] (fun _ => none) :=
  ⟨h, SlAt.nil _ _, (fun p hp => by cases hp), List.Pairwise.nil, (fun p hp => by cases hp), (fun ⟨x, hx, _⟩ => by cases hx)⟩

theorem of14_any (eb : Nat) (w : World) : Calls Tryz.prog 43 #[.pointer (some ⟨eb, 0, none⟩)] w fun e w' => e = .returned (.pointer (some ⟨w.heap.size, 0, none⟩)) ∧ RecAt w' w.heap.size eb none 0 [] (fun _ => none) ∧ Below w.heap.size w w' := by
  go_enter Tryz.func43, Tryz.ntmps43
  go_wp2
  go_ret
  exact ⟨rfl, RecAt.new (BoxAt.new w (rcells eb none 0 0 (fun _ => none)) _), (Below.refl _ _).alloc (Nat.le_refl _) _⟩
theorem forget_nil (r : Value) (w : World) : Calls Tryz.prog 44 #[r, .pointer none] w fun e w' => e = .returned (.tuple #[]) ∧ w' = w := by
  go_enter Tryz.func44, Tryz.ntmps44
  go_wp2
  exact bodyPost_end (results_none Tryz.results44 _ _ _) rfl ⟨rfl, rfl⟩
theorem plainH : PlainK Tryz.prog 1 78 79 := by
  have h : (Tryz.prog.info? 79).map (fun i => (i.zero, i.size, i.bytes)) = some (some (.pointer none), 1, 8) := by kernel_rfl
  obtain ⟨i, hi, he⟩ := Option.map_eq_some_iff.1 h
  simp only [Prod.mk.injEq] at he
  exact ⟨i, _, Tryz.underlying78, hi, he.1, he.2.1, rfl, by rw [he.2.2]; decide⟩
end Go.Proofs.YtbcmilfajeanbaaGreat

namespace Go.Proofs.YtbcmilfajeanbaaGreat
open Go.RowKit Go.Sort

abbrev evZ : Value := .agg #[.int .i64 0, .int .i64 0, .float .f64 0, .int .i64 0, .int .i64 0, .int .i64 0, .bool false, .bool false, .float .f64 0, .int .i64 0, .int .i64 0]
set_option maxRecDepth 20000 in
set_option maxHeartbeats 4000000 in
theorem pickno_any (eb : Nat) (kind param : Int) (T : TypeId) (mv : Value) (mb : Nat) (Q : Nat → Option Nat) (closed : Bool) (steps : Int) (pick : Int) (w : World) (h : BoxAt w eb (ecells kind param T mv mb Q closed steps)) (hb : busyTo Q 6 = []) :
    Calls Tryz.prog 10 #[.pointer (some ⟨eb, 0, none⟩), .int .i64 pick] w fun e w' => e = .returned (.tuple #[evZ, .bool false]) ∧ Below w.heap.size w w' := by
  have hsf := run_store_flt (P := Tryz.prog)
  obtain ⟨vb, hvb⟩ : ∃ vb, w.heap.size = vb := ⟨_, rfl⟩
  obtain ⟨W0, hW0⟩ : ∃ W0, w.alloc (.cells #[.int .i64 0, .int .i64 0, .float .f64 0, .int .i64 0, .int .i64 0, .int .i64 0, .bool false, .bool false, .float .f64 0, .int .i64 0, .int .i64 0] 48) = W0 := ⟨_, rfl⟩
  have hV0 := BoxAt.new w [.int .i64 0, .int .i64 0, .float .f64 0, .int .i64 0, .int .i64 0, .int .i64 0, .bool false, .bool false, .float .f64 0, .int .i64 0, .int .i64 0] 48
  rw [show w.alloc (.cells [.int .i64 0, .int .i64 0, .float .f64 0, .int .i64 0, .int .i64 0, .int .i64 0, .bool false, .bool false, .float .f64 0, .int .i64 0, .int .i64 0].toArray 48) = W0 from hW0, hvb] at hV0
  have hb0 : Below w.heap.size w W0 := by rw [← hW0]; exact (Below.refl _ _).alloc (Nat.le_refl _) _
  have hBz := busy_any eb kind param T mv mb Q closed steps W0 (h.below hb0)
  have hBE : ∀ e w', BusyEnd Q W0 e w' → ∃ a cap, e = .returned (.slice a 0 cap) ∧ Below W0.heap.size W0 w' := by
    rintro e w' ⟨a, cap, h1, _, _, h4⟩
    rw [hb] at h1
    exact ⟨a, cap, h1, h4⟩
  replace hBz := hBz.mono hBE
  have HH := hidq (And.intro hV0 (And.intro hb0 hvb))
  clear hBE h hb hV0 hb0
  go_enter Tryz.func10, Tryz.ntmps10
  go_wp2_with fail
  refine hBz.mono ?_
  rintro e w1 ⟨a, cap, rfl, hb1⟩
  clear hBz
  obtain ⟨hV0, hb0, _⟩ := HH.out
  have hV1 := hV0.below hb1
  obtain ⟨v0, u0⟩ := hV1.get 0 _ rfl
  obtain ⟨v1, u1⟩ := hV1.get 1 _ rfl
  obtain ⟨v2, u2⟩ := hV1.get 2 _ rfl
  obtain ⟨v3, u3⟩ := hV1.get 3 _ rfl
  obtain ⟨v4, u4⟩ := hV1.get 4 _ rfl
  obtain ⟨v5, u5⟩ := hV1.get 5 _ rfl
  obtain ⟨v6, u6⟩ := hV1.get 6 _ rfl
  obtain ⟨v7, u7⟩ := hV1.get 7 _ rfl
  obtain ⟨v8, u8⟩ := hV1.get 8 _ rfl
  obtain ⟨v9, u9⟩ := hV1.get 9 _ rfl
  obtain ⟨v10, u10⟩ := hV1.get 10 _ rfl
  have hvl := hV1.lt
  have hlow := hb0.trans (hb1.mono hb0.size)
  obtain ⟨Wv, hWv⟩ : ∃ Wv, setBox w1 vb [(0, .int .i64 0), (1, .int .i64 0), (2, .float .f64 0), (3, .int .i64 0), (4, .int .i64 0), (5, .int .i64 0), (6, .bool false), (7, .bool false), (8, .float .f64 0), (9, .int .i64 0), (10, .int .i64 0)] = Wv := ⟨_, rfl⟩
  have hbv : But (fun j => j = vb) w1 Wv := by rw [← hWv]; exact setBox_but vb _ w1
  have hQV : BoxAt Wv vb [.int .i64 0, .int .i64 0, .float .f64 0, .int .i64 0, .int .i64 0, .int .i64 0, .bool false, .bool false, .float .f64 0, .int .i64 0, .int .i64 0] := by rw [← hWv]; exact setBox_box _ hV1
  dsimp only [setBox] at hWv
  have HWv := hidq hWv
  have HE := hidq (hlow.trans (hbv.below hlow.size (fun k e => by have : k = vb := e; omega)))
  have HQZ := hidq hQV
  clear hQV hbv hWv hlow hV0 hb0 hV1 hb1 HH hvb hW0
  go_wp2_with fail
  try rw [HWv.out]
  have hQV := HQZ.out
  have q0 := (hQV.get 0 _ rfl).1
  have q1 := (hQV.get 1 _ rfl).1
  have q2 := (hQV.get 2 _ rfl).1
  have q3 := (hQV.get 3 _ rfl).1
  have q4 := (hQV.get 4 _ rfl).1
  have q5 := (hQV.get 5 _ rfl).1
  have q6 := (hQV.get 6 _ rfl).1
  have q7 := (hQV.get 7 _ rfl).1
  have q8 := (hQV.get 8 _ rfl).1
  have q9 := (hQV.get 9 _ rfl).1
  have q10 := (hQV.get 10 _ rfl).1
  clear hQV
  exact bodyPost_ret (v := .tuple #[evZ, .bool false]) (by simp [results, Tryz.results10, go_sem, q0, q1, q2, q3, q4, q5, q6, q7, q8, q9, q10]) rfl ⟨rfl, HE.out⟩
end Go.Proofs.YtbcmilfajeanbaaGreat

namespace Go.Proofs.YtbcmilfajeanbaaGreat
open Go.RowKit Go.Sort

/-- A machine of a kind: where its plan lies (D, PA), what holds of its memory (I) and of a frame (G), its step. -/
structure Kit (kind param : Int) (T : TypeId) (mv : Value) (D : Nat → Prop) (PA : World → Prop) (I : Mem → Prop) (G : Mem → Fr → Prop) (st : StepFn) : Prop where
  pa : ∀ (w w' : World) (S : Nat → Prop), PA w → But S w w' → (∀ k, D k → ¬ S k) → PA w'
  pick : ∀ (eb mb : Nat) (Q : Nat → Option Nat) (closed : Bool) (steps : Nat) (pick : Int) (t fb : Nat) (O P : Nat → Prop) (M : Mem) (F : Fr) (w : World),
    BoxAt w eb (ecells kind param T mv mb Q closed (steps : Int)) → (busyTo Q 6)[(into pick (busyTo Q 6).length).toNat]? = some t → Q t = some fb → steps < 4611686018427387904 →
    MemAt w mb O M → FrAt w fb P F → PA w → (∀ k, O k → ¬ P k) → ¬ (O eb ∨ P eb) → (∀ k, D k → ¬ O k ∧ ¬ P k) → G M F → M.clock < 1125899906842624 →
    Calls Tryz.prog 10 #[.pointer (some ⟨eb, 0, none⟩), .int .i64 pick] w (PickEnd eb kind param T mv mb Q closed steps t fb O P (st M F) w)
  self : ∀ M F, G M F → (st M F).2.2.2 = false → G (st M F).1 (st M F).2.1
  other : ∀ M F F2, G M F → G M F2 → G (st M F).1 F2
  inv : ∀ M F, G M F → I M → I (st M F).1
  clk : ∀ M F, (st M F).1.clock ≤ M.clock + 1
  start : ∀ M k pri v d0 d1, I M → chk kind k v = 0 → pri < 18446744073709551616 → G M (Fr.of k pri v d0 d1)

/-- An engine: its box, its memory, its frames, its plan, all apart; S: the blocks of all of it. -/
structure ESt (kind param : Int) (T : TypeId) (mv : Value) (D : Nat → Prop) (PA : World → Prop) (I : Mem → Prop) (G : Mem → Fr → Prop) (S : Nat → Prop) (eb mb : Nat) (M : Mem) (F : Nat → Option Fr) (closed : Bool) (steps : Nat) (Q : Nat → Option Nat) (O : Nat → Prop) (P : Nat → Nat → Prop) (w : World) : Prop where
  box : BoxAt w eb (ecells kind param T mv mb Q closed (steps : Int))
  mem : MemAt w mb O M
  pa : PA w
  inv : I M
  no : ∀ t, Q t = none → F t = none ∧ ∀ k, ¬ P t k
  yes : ∀ t fb, Q t = some fb → ∃ f, F t = some f ∧ FrAt w fb (P t) f ∧ G M f
  dis : ∀ t t' k, t ≠ t' → P t k → ¬ P t' k
  disO : ∀ t k, O k → ¬ P t k
  eO : ¬ O eb
  eP : ∀ t, ¬ P t eb
  dO : ∀ k, D k → ¬ O k
  dP : ∀ t k, D k → ¬ P t k
  dE : ¬ D eb
  sE : S eb
  sO : ∀ k, O k → S k
  sP : ∀ t k, P t k → S k
  sD : ∀ k, D k → S k
  lt : ∀ k, S k → k < w.heap.size

/-- Who is busy, by the frames. -/
def busyF (F : Nat → Option Fr) : List Nat := (List.range 6).filter (fun t => (F t).isSome)
/-- The error of a Begin, by the frames. -/
def begG (kind : Int) (closed : Bool) (F : Nat → Option Fr) (t k v : Int) : Int :=
  if ¬ (0 ≤ t ∧ t < 6) then 4 else if closed = true then 12 else if ¬ chk kind k v = 0 then chk kind k v else if F t.toNat = none then 0 else 11
/-- The frames behind a Begin. -/
def begF (F : Nat → Option Fr) (e t : Int) (f : Fr) : Nat → Option Fr := if e = 0 then fun j => if j = t.toNat then some f else F j else F
/-- What a Pick comes to. -/
structure PR where
  ev : Value
  ok : Bool
  M : Mem
  F : Nat → Option Fr
  steps : Nat
def pickT (st : StepFn) (t : Nat) (o : Option Fr) (M : Mem) (F : Nat → Option Fr) (steps : Nat) : PR :=
  match o with
  | none => ⟨evZ, false, M, F, steps⟩
  | some f => ⟨evV t (st M f).2.1 (st M f).2.2.1 (st M f).2.2.2, true, (st M f).1, fun j => if j = t then (if (st M f).2.2.2 = true then none else some (st M f).2.1) else F j, steps + 1⟩
def pickS (st : StepFn) (pick : Int) (M : Mem) (F : Nat → Option Fr) (steps : Nat) : PR :=
  match (busyF F)[(into pick (busyF F).length).toNat]? with
  | none => ⟨evZ, false, M, F, steps⟩
  | some t => pickT st t (F t) M F steps
theorem begE_chk {kind : Int} {closed : Bool} {Q : Nat → Option Nat} {t k v : Int} (h : begE kind closed Q t k v = 0) : chk kind k v = 0 := by
  unfold begE at h
  split at h
  · cases h
  · split at h
    · cases h
    · split at h
      · exact h
      · next e => exact Classical.not_not.1 e
section
variable {kind param : Int} {T : TypeId} {mv : Value} {D : Nat → Prop} {PA : World → Prop} {I : Mem → Prop} {G : Mem → Fr → Prop} {st : StepFn} {S O : Nat → Prop} {eb mb : Nat} {M : Mem} {F : Nat → Option Fr} {closed : Bool} {steps : Nat} {Q : Nat → Option Nat} {P : Nat → Nat → Prop} {w w' : World}
theorem ESt.but (K : Kit kind param T mv D PA I G st) (h : ESt kind param T mv D PA I G S eb mb M F closed steps Q O P w) {B : Nat → Prop} (hb : But B w w') (hS : ∀ k, S k → ¬ B k) : ESt kind param T mv D PA I G S eb mb M F closed steps Q O P w' :=
  ⟨h.box.but hb (hS _ h.sE), h.mem.but hb (fun k hk => hS k (h.sO k hk)), K.pa _ _ _ h.pa hb (fun k hk => hS k (h.sD k hk)), h.inv, h.no, fun t fb e => by
    obtain ⟨f, h1, h2, h3⟩ := h.yes t fb e
    exact ⟨f, h1, h2.but hb (fun k hk => hS k (h.sP t k hk)), h3⟩, h.dis, h.disO, h.eO, h.eP, h.dO, h.dP, h.dE, h.sE, h.sO, h.sP, h.sD, fun k hk => Nat.lt_of_lt_of_le (h.lt k hk) hb.size⟩
theorem ESt.below (K : Kit kind param T mv D PA I G st) (h : ESt kind param T mv D PA I G S eb mb M F closed steps Q O P w) (hb : Below w.heap.size w w') : ESt kind param T mv D PA I G S eb mb M F closed steps Q O P w' :=
  h.but K (B := fun _ => False) (But.of_below hb) (fun _ _ e => e)
/-- With more blocks. -/
theorem ESt.more (h : ESt kind param T mv D PA I G S eb mb M F closed steps Q O P w) {S' : Nat → Prop} (h1 : ∀ k, S k → S' k) (h2 : ∀ k, S' k → k < w.heap.size) : ESt kind param T mv D PA I G S' eb mb M F closed steps Q O P w :=
  ⟨h.box, h.mem, h.pa, h.inv, h.no, h.yes, h.dis, h.disO, h.eO, h.eP, h.dO, h.dP, h.dE, h1 _ h.sE, fun k hk => h1 k (h.sO k hk), fun t k hk => h1 k (h.sP t k hk), fun k hk => h1 k (h.sD k hk), h2⟩
theorem ESt.iff (h : ESt kind param T mv D PA I G S eb mb M F closed steps Q O P w) (t : Nat) : Q t = none ↔ F t = none := by
  constructor
  · exact fun e => (h.no t e).1
  · intro e
    cases hq : Q t with
    | none => rfl
    | some fb =>
      obtain ⟨f, h1, _⟩ := h.yes t fb hq
      rw [e] at h1; cases h1
theorem ESt.busy (h : ESt kind param T mv D PA I G S eb mb M F closed steps Q O P w) : busyTo Q 6 = busyF F := by
  unfold busyTo busyF
  refine List.filter_congr (fun t _ => ?_)
  have := h.iff t
  cases hq : Q t with
  | none => simp [this.1 hq]
  | some fb =>
    cases hf : F t with
    | none => rw [this.2 hf] at hq; cases hq
    | some f => rfl
theorem ESt.begE_eq (h : ESt kind param T mv D PA I G S eb mb M F closed steps Q O P w) (t k v : Int) : begE kind closed Q t k v = begG kind closed F t k v := by
  unfold begE begG
  simp only [h.iff]
theorem own_lt {S : Nat → Prop} {w w' : World} (hs : w.heap.size ≤ w'.heap.size) (h : ∀ k, S k → k < w.heap.size) : ∀ k, own' S w w' k → k < w'.heap.size := fun k hk => by
  rcases hk with e | e
  · exact Nat.lt_of_lt_of_le (h k e) hs
  · exact e.2

theorem ESt.begin_ (K : Kit kind param T mv D PA I G st) (h : ESt kind param T mv D PA I G S eb mb M F closed steps Q O P w) (t k v d0 d1 : Int) (pri : Nat) (hp : pri < 18446744073709551616) :
    Calls Tryz.prog 8 #[.pointer (some ⟨eb, 0, none⟩), .int .i64 t, .agg #[.int .i64 k, .float .f64 pri, .int .i64 v, .int .i64 d0, .int .i64 d1]] w fun e w' =>
      e = .returned (.int .i64 (begG kind closed F t k v)) ∧ (∃ Q' P', ESt kind param T mv D PA I G (own' S w w') eb mb M (begF F (begG kind closed F t k v) t (Fr.of k pri v d0 d1)) closed steps Q' O P' w') ∧ But S w w' := by
  rw [← h.begE_eq t k v]
  refine (begin_any eb kind param T mv mb Q closed steps t k pri v d0 d1 w h.box).mono ?_
  rintro e w' ⟨he, hno, hok⟩
  by_cases h0 : begE kind closed Q t k v = 0
  · obtain ⟨t0, t6, hq, fb, hfb, hF, hE, hbt⟩ := hok h0
    have hc := begE_chk h0
    have hel := h.lt eb h.sE
    have hfl := hF.lt
    have hsz := hbt.size
    obtain ⟨j, hj⟩ : ∃ j, t.toNat = j := ⟨_, rfl⟩
    rw [hj] at hq hE
    refine ⟨he, ⟨qset Q j (some fb), fun i k => if i = j then k = fb else P i k, ?_⟩, hbt.mono (fun k _ e => e ▸ h.sE)⟩
    rw [show begF F (begE kind closed Q t k v) t (Fr.of k pri v d0 d1) = fun i => if i = j then some (Fr.of k pri v d0 d1) else F i by unfold begF; rw [if_pos h0, hj]]
    have hnew : ∀ i k, (if i = j then k = fb else P i k) → (i = j ∧ k = fb) ∨ (i ≠ j ∧ P i k) := fun i k hk => by
      by_cases e : i = j
      · rw [if_pos e] at hk; exact .inl ⟨e, hk⟩
      · rw [if_neg e] at hk; exact .inr ⟨e, hk⟩
    refine ⟨hE, h.mem.but hbt (fun k hk e => h.eO (e ▸ hk)), K.pa _ _ _ h.pa hbt (fun k hk e => h.dE (e ▸ hk)), h.inv, fun i hi => ?_, fun i f hi => ?_, fun i i' k hne hk hk' => ?_, fun i k hk hk' => ?_, h.eO, fun i hk => ?_, h.dO, fun i k hk hk' => ?_, h.dE, .inl h.sE, fun k hk => .inl (h.sO k hk), fun i k hk => ?_, fun k hk => .inl (h.sD k hk), own_lt hsz h.lt⟩
    · by_cases e : i = j
      · subst e; rw [qset_same] at hi; cases hi
      · rw [qset_other _ _ _ e] at hi
        try dsimp only
        rw [if_neg e]
        exact ⟨(h.no i hi).1, fun k hk => by rw [if_neg e] at hk; exact (h.no i hi).2 k hk⟩
    · by_cases e : i = j
      · subst e; rw [qset_same] at hi; cases hi
        refine ⟨Fr.of k pri v d0 d1, if_pos rfl, ?_, K.start M k pri v d0 d1 h.inv hc hp⟩
        have : (fun k => if i = i then k = fb else P i k) = fun k => k = fb := by funext k; rw [if_pos rfl]
        rw [this]
        exact ⟨rfl, fun k hk => by have : k = fb := hk; omega, none, 0, none, 0, hF, SlAt.nil _ _, SlAt.nil _ _, fun j hj => (by obtain ⟨x, hx, _⟩ := hj; cases hx), fun j hj => (by obtain ⟨x, hx, _⟩ := hj; cases hx)⟩
      · rw [qset_other _ _ _ e] at hi
        obtain ⟨f', h1, h2, h3⟩ := h.yes i f hi
        refine ⟨f', by rw [if_neg e]; exact h1, ?_, h3⟩
        have : (fun k => if i = j then k = fb else P i k) = P i := by funext k; rw [if_neg e]
        rw [this]
        exact h2.but hbt (fun k hk e => h.eP i (e ▸ hk))
    · rcases hnew i k hk with ⟨e, q⟩ | ⟨e, q⟩ <;> rcases hnew i' k hk' with ⟨e', q'⟩ | ⟨e', q'⟩
      · exact hne (e.trans e'.symm)
      · have := h.lt k (h.sP i' k q'); omega
      · have := h.lt k (h.sP i k q); omega
      · exact h.dis i i' k hne q q'
    · rcases hnew i k hk' with ⟨_, q⟩ | ⟨_, q⟩
      · have := h.lt k (h.sO k hk); omega
      · exact h.disO i k hk q
    · rcases hnew i eb hk with ⟨_, q⟩ | ⟨_, q⟩
      · omega
      · exact h.eP i q
    · rcases hnew i k hk' with ⟨_, q⟩ | ⟨_, q⟩
      · have := h.lt k (h.sD k hk); omega
      · exact h.dP i k hk q
    · rcases hnew i k hk with ⟨_, q⟩ | ⟨_, q⟩
      · exact .inr ⟨by omega, by omega⟩
      · exact .inl (h.sP i k q)
  · have hb := hno h0
    refine ⟨he, ⟨Q, P, ?_⟩, But.of_below hb⟩
    rw [show begF F (begE kind closed Q t k v) t (Fr.of k pri v d0 d1) = F from if_neg h0]
    exact (h.below K hb).more (fun k hk => .inl hk) (own_lt hb.size h.lt)

theorem ESt.pick_ (K : Kit kind param T mv D PA I G st) (h : ESt kind param T mv D PA I G S eb mb M F closed steps Q O P w) (pick : Int) (hst : steps < 4611686018427387904) (hcl : M.clock < 1125899906842624) :
    Calls Tryz.prog 10 #[.pointer (some ⟨eb, 0, none⟩), .int .i64 pick] w fun e w' =>
      e = .returned (.tuple #[(pickS st pick M F steps).ev, .bool (pickS st pick M F steps).ok]) ∧
      (∃ Q' O' P', ESt kind param T mv D PA I G (own' S w w') eb mb (pickS st pick M F steps).M (pickS st pick M F steps).F closed (pickS st pick M F steps).steps Q' O' P' w') ∧ But S w w' := by
  by_cases hb : busyTo Q 6 = []
  · have hp : pickS st pick M F steps = ⟨evZ, false, M, F, steps⟩ := by
      unfold pickS; rw [← h.busy, hb]; rfl
    rw [hp]
    refine (pickno_any eb kind param T mv mb Q closed steps pick w h.box hb).mono ?_
    rintro e w' ⟨he, hbw⟩
    exact ⟨he, ⟨Q, O, P, (h.below K hbw).more (fun k hk => .inl hk) (own_lt hbw.size h.lt)⟩, But.of_below hbw⟩
  · have hn : 1 ≤ (busyTo Q 6).length := by
      cases hl : busyTo Q 6 with
      | nil => exact absurd hl hb
      | cons a l => simp
    have hr := into_rng (d := pick) (n := ((busyTo Q 6).length : Int)) (by omega)
    obtain ⟨t, ht⟩ : ∃ t, (busyTo Q 6)[(into pick (busyTo Q 6).length).toNat]? = some t := ⟨_, List.getElem?_eq_getElem (by omega)⟩
    obtain ⟨t6, fb, hq⟩ := busyTo_mem.1 (List.mem_of_getElem? ht)
    obtain ⟨f, hf, hfr, hg⟩ := h.yes t fb hq
    have hp : pickS st pick M F steps = ⟨evV t (st M f).2.1 (st M f).2.2.1 (st M f).2.2.2, true, (st M f).1, fun j => if j = t then (if (st M f).2.2.2 = true then none else some (st M f).2.1) else F j, steps + 1⟩ := by
      unfold pickS; rw [← h.busy, ht]; dsimp only; rw [hf]; rfl
    rw [hp]
    have hself := K.self M f hg
    have hother := fun F2 => K.other M f F2 hg
    have hinv := K.inv M f hg h.inv
    refine (K.pick eb mb Q closed steps pick t fb O (P t) M f w h.box ht hq hst h.mem hfr h.pa (h.disO t) (fun e => e.elim h.eO (h.eP t)) (fun k hk => ⟨h.dO k hk, h.dP t k hk⟩) hg hcl).mono ?_
    obtain ⟨r, hr⟩ : ∃ r, st M f = r := ⟨_, rfl⟩
    rw [hr] at hself hother hinv ⊢
    rintro e w' ⟨he, hE, O', P', hM, hF, hd, hgO, hgP, hbt⟩
    have hsz := hbt.size
    have hel := h.lt eb h.sE
    have hPl : ∀ k, P' k → k < w'.heap.size := hF.lt
    have hOl : ∀ k, O' k → k < w'.heap.size := hM.lt
    have hPk : ∀ i k, P i k → k < w.heap.size := fun i k hk => h.lt k (h.sP i k hk)
    have hnew : ∀ i k, (if i = t then (if r.2.2.2 = true then False else P' k) else P i k) → (i = t ∧ r.2.2.2 = false ∧ P' k) ∨ (i ≠ t ∧ P i k) := fun i k hk => by
      by_cases e : i = t
      · rw [if_pos e] at hk
        by_cases e2 : r.2.2.2 = true
        · rw [if_pos e2] at hk; exact hk.elim
        · rw [if_neg e2] at hk; exact .inl ⟨e, by simpa using e2, hk⟩
      · rw [if_neg e] at hk; exact .inr ⟨e, hk⟩
    have hQ : ∀ i, (if r.2.2.2 = true then qset Q t none else Q) i = if i = t then (if r.2.2.2 = true then none else some fb) else Q i := fun i => by
      by_cases e : i = t
      · subst e
        rw [if_pos rfl]
        split
        · exact qset_same _ _ _
        · exact hq
      · rw [if_neg e]
        split
        · exact qset_other _ _ _ e
        · rfl
    refine ⟨he, ⟨_, O', fun i k => if i = t then (if r.2.2.2 = true then False else P' k) else P i k, hE, hM, K.pa _ _ _ h.pa hbt (fun k hk e => ?_), hinv, fun i hi => ?_, fun i f' hi => ?_, fun i i' k hne hk hk' => ?_, fun i k hk hk' => ?_, fun hk => ?_, fun i hk => ?_, fun k hk hk' => ?_, fun i k hk hk' => ?_, h.dE, .inl h.sE, fun k hk => ?_, fun i k hk => ?_, fun k hk => .inl (h.sD k hk), own_lt hsz h.lt⟩, hbt.mono (fun k _ e => ?_)⟩
    · rcases e with e | e | e
      · exact h.dO k hk e
      · exact h.dP t k hk e
      · exact h.dE (e ▸ hk)
    · rw [hQ] at hi
      try dsimp only
      by_cases e : i = t
      · rw [if_pos e] at hi
        by_cases e2 : r.2.2.2 = true
        · rw [if_pos e, if_pos e2]
          exact ⟨rfl, fun k hk => by rw [if_pos e, if_pos e2] at hk; exact hk⟩
        · rw [if_neg e2] at hi; cases hi
      · rw [if_neg e] at hi
        rw [if_neg e]
        exact ⟨(h.no i hi).1, fun k hk => by rw [if_neg e] at hk; exact (h.no i hi).2 k hk⟩
    · rw [hQ] at hi
      try dsimp only
      by_cases e : i = t
      · rw [if_pos e] at hi
        by_cases e2 : r.2.2.2 = true
        · rw [if_pos e2] at hi; cases hi
        · rw [if_neg e2] at hi; cases hi
          refine ⟨r.2.1, by rw [if_pos e, if_neg e2], ?_, hself (by simpa using e2)⟩
          have : (fun k => if i = t then (if r.2.2.2 = true then False else P' k) else P i k) = P' := by funext k; rw [if_pos e, if_neg e2]
          rw [this]
          exact hF
      · rw [if_neg e] at hi
        obtain ⟨f2, h1, h2, h3⟩ := h.yes i f' hi
        refine ⟨f2, by rw [if_neg e]; exact h1, ?_, hother f2 h3⟩
        have : (fun k => if i = t then (if r.2.2.2 = true then False else P' k) else P i k) = P i := by funext k; rw [if_neg e]
        rw [this]
        refine h2.but hbt (fun k hk q => ?_)
        rcases q with q | q | q
        · exact h.disO i k q hk
        · exact h.dis i t k e hk q
        · exact h.eP i (q ▸ hk)
    · rcases hnew i k hk with ⟨e, _, q⟩ | ⟨e, q⟩ <;> rcases hnew i' k hk' with ⟨e', _, q'⟩ | ⟨e', q'⟩
      · exact hne (e.trans e'.symm)
      · rcases hgP k q with s | s
        · exact h.dis t i' k (Ne.symm e') s q'
        · have := hPk i' k q'; omega
      · rcases hgP k q' with s | s
        · exact h.dis t i k (Ne.symm e) s q
        · have := hPk i k q; omega
      · exact h.dis i i' k hne q q'
    · rcases hnew i k hk' with ⟨_, _, q⟩ | ⟨_, q⟩
      · exact hd k hk q
      · rcases hgO k hk with s | s
        · exact h.disO i k s q
        · have := hPk i k q; omega
    · rcases hgO eb hk with s | s
      · exact h.eO s
      · omega
    · rcases hnew i eb hk with ⟨_, _, q⟩ | ⟨_, q⟩
      · rcases hgP eb q with s | s
        · exact h.eP t s
        · omega
      · exact h.eP i q
    · rcases hgO k hk' with s | s
      · exact h.dO k hk s
      · have := h.lt k (h.sD k hk); omega
    · rcases hnew i k hk' with ⟨_, _, q⟩ | ⟨_, q⟩
      · rcases hgP k q with s | s
        · exact h.dP t k hk s
        · have := h.lt k (h.sD k hk); omega
      · exact h.dP i k hk q
    · rcases hgO k hk with s | s
      · exact .inl (h.sO k s)
      · exact .inr s
    · rcases hnew i k hk with ⟨_, _, q⟩ | ⟨_, q⟩
      · rcases hgP k q with s | s
        · exact .inl (h.sP t k s)
        · exact .inr s
      · exact .inl (h.sP i k q)
    · rcases e with e | e | e
      · exact h.sO k e
      · exact h.sP t k e
      · exact e ▸ h.sE
end
end Go.Proofs.YtbcmilfajeanbaaGreat

namespace Go.Proofs.YtbcmilfajeanbaaGreat
open Go.RowKit Go.Sort

/-- An operation that nobody disturbs, up to so many steps. -/
def alone (st : StepFn) : Nat → Mem → Fr → Mem × Ans × Bool
  | 0, M, _ => (M, Ans.zero, false)
  | n + 1, M, F => if (st M F).2.2.2 = true then ((st M F).1, (st M F).2.2.1, true) else alone st n (st M F).1 (st M F).2.1
theorem alone_done {st : StepFn} {n : Nat} {M M' : Mem} {F F' : Fr} {A : Ans} (h : st M F = (M', F', A, true)) : alone st (n + 1) M F = (M', A, true) := by
  unfold alone; rw [h]; rfl
theorem alone_on {st : StepFn} {n : Nat} {M M' : Mem} {F F' : Fr} {A : Ans} (h : st M F = (M', F', A, false)) : alone st (n + 1) M F = alone st n M' F' := by
  conv => lhs; unfold alone
  rw [h]; rfl

/-- A machine whose steps keep to what is asked of them. -/
structure Fine (G : Mem → Fr → Prop) (st : StepFn) : Prop where
  on : ∀ M F, G M F → (st M F).2.2.2 = false → G (st M F).1 (st M F).2.1
  clock : ∀ M F, (st M F).1.clock ≤ M.clock + 1

/-- How it ends. -/
def AEnd (b : Nat) (O : Nat → Prop) (r : Mem × Ans × Bool) (w : World) (e : Ending) (w' : World) : Prop :=
  e = .returned (.tuple #[r.2.1.v, .bool r.2.2]) ∧ ∃ O', MemAt w' b O' r.1 ∧ Grown O w w' O' ∧ But O w w'

/-- A machine in a box, a memory beside it, all made since w. -/
structure St (w W : World) (sb : Nat) (l : List Value) (mb : Nat) (O : Nat → Prop) (M : Mem) : Prop where
  mem : MemAt W mb O M
  own : ∀ k, O k → w.heap.size ≤ k ∧ k ≠ sb
  box : BoxAt W sb l
  low : Below w.heap.size w W
section
variable {w W W' : World} {sb mb : Nat} {l : List Value} {O O' : Nat → Prop} {M M' : Mem}
theorem St.call (h : St w W sb l mb O M) (h1 : MemAt W' mb O' M') (h2 : Grown O W W' O') (h3 : But O W W') : St w W' sb l mb O' M' := by
  refine ⟨h1, fun k hk => ?_, h.box.but h3 (fun e => (h.own _ e).2 rfl), h.low.trans (h3.below h.low.size (fun k e => (h.own k e).1))⟩
  rcases h2 k hk with e | e
  · exact h.own k e
  · have := h.box.lt; have := h.low.size; omega
theorem St.below (h : St w W sb l mb O M) (hb : Below W.heap.size W W') : St w W' sb l mb O M :=
  ⟨h.mem.below hb, h.own, h.box.below hb, h.low.trans (hb.mono h.low.size)⟩
theorem St.alloc (h : St w W sb l mb O M) (o : Obj) : St w (W.alloc o) sb l mb O M := h.below ((Below.refl _ _).alloc (Nat.le_refl _) o)
end

end Go.Proofs.YtbcmilfajeanbaaGreat

namespace Go.Proofs.YtbcmilfajeanbaaGreat.Reg
open Go

/-- What an operation comes to: a value, or a call that returns. -/
def Outcome (P : Program) (K : Value → World → Prop) : Result Next → Prop
  | .ok (.value v) w' => K v w'
  | .ok .skip w' => K undef w'
  | .ok (.enter f args) w' => Calls P f args w' fun e w'' => ∃ v, e = .returned v ∧ K v w''
  | _ => False

theorem outcome_value {P : Program} {K : Value → World → Prop} {v : Value} {w : World} (h : K v w) : Outcome P K (.ok (.value v) w) := h

theorem outcome_wp {P : Program} {o : Oper} {a : Act} {w : World} {K : Value → World → Prop} {N : Act → World → Prop} {Q : Exit → Act → World → Prop}
    (h : Outcome P K ((execOp a.eval o).run P w)) (hn : ∀ v w', K v w' → N (a.put o.dst v) w') : o.wp P a w N Q := by
  unfold Oper.wp
  generalize (execOp a.eval o).run P w = r at *
  cases r with
  | ok n w' =>
    cases n <;> simp only [Outcome, Oper.upon] at h ⊢
    case value v => exact hn _ _ h
    case skip => exact hn _ _ h
    case enter f args =>
      refine Calls.mono h ?_
      rintro e w'' ⟨v, rfl, hk⟩
      exact hn _ _ hk
  | halt x w' => simp [Outcome] at h

/-- The edges lead back, and no two operations write one slot; every slot is there. -/
def fineB (ops : Array Oper) (n : Nat) : Bool :=
  (List.range ops.size).all fun i => match ops[i]? with
    | none => true
    | some o => o.after.all (fun e => decide (e.on < i) || !Region.binds .any e) &&
      (match o.dst with
       | none => true
       | some t => decide (t < n) && (List.range ops.size).all fun j => decide (j = i) || ((ops[j]?).bind (·.dst)) != some t)

theorem fine_back {ops : Array Oper} {n i : Nat} {o : Oper} (h : fineB ops n = true) (ho : ops[i]? = some o) : ∀ e ∈ o.after, Region.binds .any e = true → e.on < i := by
  have hi : i < ops.size := by
    rcases Nat.lt_or_ge i ops.size with h' | h'
    · exact h'
    · rw [Array.getElem?_eq_none h'] at ho; cases ho
  have := List.all_eq_true.1 h i (List.mem_range.2 hi)
  simp only [ho, Bool.and_eq_true] at this
  intro e he hb
  have h2 := this.1
  rw [Array.all_eq_true_iff_forall_mem] at h2
  have h3 := h2 e he
  rw [hb] at h3
  simpa using h3

theorem fine_dst {ops : Array Oper} {n i j t : Nat} {o o' : Oper} (h : fineB ops n = true) (ho : ops[i]? = some o) (ho' : ops[j]? = some o') (hd : o.dst = some t) (hd' : o'.dst = some t) : j = i := by
  have hi : i < ops.size := by
    rcases Nat.lt_or_ge i ops.size with h' | h'
    · exact h'
    · rw [Array.getElem?_eq_none h'] at ho; cases ho
  have hj : j < ops.size := by
    rcases Nat.lt_or_ge j ops.size with h' | h'
    · exact h'
    · rw [Array.getElem?_eq_none h'] at ho'; cases ho'
  have := List.all_eq_true.1 h i (List.mem_range.2 hi)
  simp only [ho, hd, Bool.and_eq_true] at this
  have h2 := List.all_eq_true.1 this.2.2 j (List.mem_range.2 hj)
  simp only [ho', Option.bind_some, hd'] at h2
  simpa using h2

theorem fine_lt {ops : Array Oper} {n i t : Nat} {o : Oper} (h : fineB ops n = true) (ho : ops[i]? = some o) (hd : o.dst = some t) : t < n := by
  have hi : i < ops.size := by
    rcases Nat.lt_or_ge i ops.size with h' | h'
    · exact h'
    · rw [Array.getElem?_eq_none h'] at ho; cases ho
  have := List.all_eq_true.1 h i (List.mem_range.2 hi)
  simp only [ho, hd, Bool.and_eq_true] at this
  simpa using this.2.1

section
variable (P : Program) (ops : Array Oper) (a0 : Act) (R : Nat → Value → World → Prop) (Pres : World → World → Prop) (Inv : Array Bool → World → Prop)

/-- Where the operations that are listed have come up: their slots have their properties, the others are as at the start. -/
structure Fits (L : Array Bool) (a : Act) (w : World) : Prop where
  defers : a.defers = a0.defers
  size : a.tmps.size = a0.tmps.size
  lsize : L.size = ops.size
  val : ∀ j o t, ops[j]? = some o → L.getD j false = true → o.dst = some t → R j (a.eval (.tmp t)) w
  old : ∀ t, (∀ j o, ops[j]? = some o → L.getD j false = true → o.dst ≠ some t) → a.eval (.tmp t) = a0.eval (.tmp t)
  closed : ∀ j o, ops[j]? = some o → L.getD j false = true → ∀ e ∈ o.after, Region.binds .any e = true → L.getD e.on false = true

/-- The slots as a plain function. -/
structure At (L : Array Bool) (ev : Operand → Value) (w : World) : Prop where
  val : ∀ j o t, ops[j]? = some o → L.getD j false = true → o.dst = some t → R j (ev (.tmp t)) w
  old : ∀ t, (∀ j o, ops[j]? = some o → L.getD j false = true → o.dst ≠ some t) → ev (.tmp t) = a0.eval (.tmp t)
  closed : ∀ j o, ops[j]? = some o → L.getD j false = true → ∀ e ∈ o.after, Region.binds .any e = true → L.getD e.on false = true
  const : ∀ v, ev (.const v) = v
  func : ∀ f, ev (.func f) = .func (.func f) #[] #[]
  global : ∀ g, ev (.global g) = .pointer (some ⟨g, 0, none⟩)

/-- What is asked of one operation. -/
def StepAt (i : Nat) (o : Oper) : Prop :=
  ∀ (L : Array Bool) (ev : Operand → Value) (w : World), Inv L w → L.getD i true = false → (∀ e ∈ o.after, Region.binds .any e = true → L.getD e.on false = true) → At ops a0 R L ev w →
    match o.guard with
    | none => Outcome P (fun v w' => R i v w' ∧ Pres w w' ∧ Inv (L.setIfInBounds i true) w') ((execOp ev o).run P w)
    | some (g, want) => (∃ og t b, ops[g]? = some og ∧ og.dst = some t ∧ ev (.tmp t) = .bool b ∧
        if b = want then Outcome P (fun v w' => R i v w' ∧ Pres w w' ∧ Inv (L.setIfInBounds i true) w') ((execOp ev o).run P w)
        else R i undef w ∧ Inv (L.setIfInBounds i true) w) ∨
      ∃ og t, ops[g]? = some og ∧ og.dst = some t ∧ ev (.tmp t) = undef ∧ R i undef w ∧ Inv (L.setIfInBounds i true) w

def AllSteps : Nat → List Oper → Prop
  | _, [] => True
  | k, o :: l => StepAt P ops a0 R Pres Inv k o ∧ AllSteps (k + 1) l
end

section
variable {P : Program} {ops : Array Oper} {a0 : Act} {R : Nat → Value → World → Prop} {Pres : World → World → Prop} {Inv : Array Bool → World → Prop}

theorem StepAt.plain {i : Nat} {o : Oper} (hg : o.guard = none)
    (h : ∀ (L : Array Bool) (ev : Operand → Value) (w : World), Inv L w → L.getD i true = false → (∀ e ∈ o.after, Region.binds .any e = true → L.getD e.on false = true) → At ops a0 R L ev w →
      Outcome P (fun v w' => R i v w' ∧ Pres w w' ∧ Inv (L.setIfInBounds i true) w') ((execOp ev o).run P w)) : StepAt P ops a0 R Pres Inv i o := by
  intro L ev w hI hk hp hA
  rw [hg]; exact h L ev w hI hk hp hA
theorem StepAt.guarded {i g : Nat} {want : Bool} {o : Oper} (hg : o.guard = some (g, want))
    (h : ∀ (L : Array Bool) (ev : Operand → Value) (w : World), Inv L w → L.getD i true = false → (∀ e ∈ o.after, Region.binds .any e = true → L.getD e.on false = true) → At ops a0 R L ev w →
      ∃ og t b, ops[g]? = some og ∧ og.dst = some t ∧ ev (.tmp t) = .bool b ∧
        if b = want then Outcome P (fun v w' => R i v w' ∧ Pres w w' ∧ Inv (L.setIfInBounds i true) w') ((execOp ev o).run P w)
        else R i undef w ∧ Inv (L.setIfInBounds i true) w) : StepAt P ops a0 R Pres Inv i o := by
  intro L ev w hI hk hp hA
  rw [hg]; exact .inl (h L ev w hI hk hp hA)
/-- A guard that is not reached itself. -/
theorem StepAt.unreached {i g : Nat} {want : Bool} {o : Oper} (hg : o.guard = some (g, want))
    (h : ∀ (L : Array Bool) (ev : Operand → Value) (w : World), Inv L w → L.getD i true = false → (∀ e ∈ o.after, Region.binds .any e = true → L.getD e.on false = true) → At ops a0 R L ev w →
      ∃ og t, ops[g]? = some og ∧ og.dst = some t ∧ ev (.tmp t) = undef ∧ R i undef w ∧ Inv (L.setIfInBounds i true) w) : StepAt P ops a0 R Pres Inv i o := by
  intro L ev w hI hk hp hA
  rw [hg]; exact .inr (h L ev w hI hk hp hA)
/-- What is not there says neither yes nor no. -/
theorem yielded_undef {ops : Array Oper} {tmps : Array Value} {g t : Nat} {og : Oper} (hog : ops[g]? = some og) (hd : og.dst = some t) (h : tmps.getD t undef = undef) : yielded ops tmps g = none := by
  unfold yielded
  rw [hog]
  simp only [Option.bind_some, hd]
  rw [Array.getD_eq_getD_getElem?] at h
  cases hx : tmps[t]? with
  | none => rfl
  | some x => rw [hx] at h; simp only [Option.getD_some] at h; subst h; rfl

theorem AllSteps.at : ∀ (l : List Oper) (k : Nat), AllSteps P ops a0 R Pres Inv k l → ∀ (i : Nat) (o : Oper), l[i]? = some o → StepAt P ops a0 R Pres Inv (k + i) o
  | [], _, _, i, o, h => by simp at h
  | x :: l, k, hs, 0, o, h => by simp at h; subst h; exact hs.1
  | x :: l, k, hs, i + 1, o, h => by
    have := AllSteps.at l (k + 1) hs.2 i o (by simpa using h)
    rw [show k + (i + 1) = k + 1 + i by omega]; exact this

theorem Fits.at {L : Array Bool} {a : Act} {w : World} (h : Fits ops a0 R L a w) : At ops a0 R L a.eval w :=
  ⟨h.val, h.old, h.closed, fun _ => rfl, fun _ => rfl, fun _ => rfl⟩

theorem eval_put_same {a : Act} {t : Nat} {v : Value} (h : t < a.tmps.size) : (a.put (some t) v).eval (.tmp t) = v := by
  simp [Act.put, Act.eval, h]
theorem eval_put_other {a : Act} {t u : Nat} {v : Value} (h : t ≠ u) : (a.put (some t) v).eval (.tmp u) = a.eval (.tmp u) := by
  simp [Act.put, Act.eval, Array.getElem?_setIfInBounds_ne h]
theorem size_put {a : Act} {d : Option Tmp} {v : Value} : (a.put d v).tmps.size = a.tmps.size := by
  cases d <;> simp [Act.put]
theorem defers_put {a : Act} {d : Option Tmp} {v : Value} : (a.put d v).defers = a.defers := by
  cases d <;> simp [Act.put]

theorem getD_set_of {L : Array Bool} {i j : Nat} (h : (L.setIfInBounds i true).getD j false = true) : j = i ∨ L.getD j false = true := by
  by_cases e : i = j
  · exact .inl e.symm
  · rw [getD_set_ne false e] at h; exact .inr h

theorem Fits.put {L : Array Bool} {a : Act} {w w' : World} {i : Nat} {o : Oper} {v : Value} (hf : fineB ops a0.tmps.size = true) (ho : ops[i]? = some o)
    (hall : ∀ e ∈ o.after, Region.binds .any e = true → L.getD e.on false = true)
    (hR : ∀ j v, R j v w → R j v w') (h : Fits ops a0 R L a w) (hv : o.dst.isSome → R i v w') : Fits ops a0 R (L.setIfInBounds i true) (a.put o.dst v) w' where
  defers := by rw [defers_put]; exact h.defers
  size := by rw [size_put]; exact h.size
  lsize := by rw [Array.size_setIfInBounds]; exact h.lsize
  val := by
    intro j oj t hj hL hd
    rcases getD_set_of hL with rfl | hL'
    · rw [ho] at hj; injection hj with hj; subst hj
      rw [hd, eval_put_same (by rw [h.size]; exact fine_lt hf ho hd)]
      exact hv (by rw [hd]; rfl)
    · by_cases e : j = i
      · subst e; rw [ho] at hj; injection hj with hj; subst hj
        rw [hd, eval_put_same (by rw [h.size]; exact fine_lt hf ho hd)]
        exact hv (by rw [hd]; rfl)
      · cases hd' : o.dst with
        | none => exact hR _ _ (h.val j oj t hj hL' hd)
        | some u =>
          have hne : u ≠ t := fun e2 => e (fine_dst hf ho hj (e2 ▸ hd') hd)
          rw [eval_put_other hne]; exact hR _ _ (h.val j oj t hj hL' hd)
  old := by
    intro t hno
    have h1 : a.eval (.tmp t) = a0.eval (.tmp t) := h.old t (fun j oj hj hL => hno j oj hj (getD_set_true hL))
    cases hd' : o.dst with
    | none => exact h1
    | some u =>
      have hlt : i < L.size := by
        rcases Nat.lt_or_ge i ops.size with h' | h'
        · rw [h.lsize]; exact h'
        · rw [Array.getElem?_eq_none h'] at ho; cases ho
      have hne : u ≠ t := fun e2 => hno i o ho (by simp [hlt]) (e2 ▸ hd')
      rw [eval_put_other hne]; exact h1
  closed := by
    intro j oj hj hL e he hb
    rcases getD_set_of hL with rfl | hL'
    · rw [ho] at hj; injection hj with hj; subst hj
      exact getD_set_true (hall e he hb)
    · exact getD_set_true (h.closed j oj hj hL' e he hb)

/-- Nothing may come up: all have. -/
theorem all_listed {n : Nat} {L : Array Bool} (hf : fineB ops n = true) (hl : L.size = ops.size) (hr : Region.ready .any ops L = []) : ∀ i, i < ops.size → L.getD i false = true := by
  intro i
  induction i using Nat.strongRecOn with
  | ind i ih =>
    intro hi
    have ho : ops[i]? = some ops[i] := Array.getElem?_eq_getElem hi
    cases hL : L.getD i false with
    | true => rfl
    | false =>
      have hm : i ∈ Region.ready .any ops L := by
        rw [mem_ready]
        refine ⟨?_, ops[i], ho, fun e he hb => ih e.on (fine_back hf ho e he hb) (Nat.lt_trans (fine_back hf ho e he hb) hi)⟩
        have hlt : i < L.size := by omega
        simp [hlt] at hL ⊢; exact hL
      rw [hr] at hm; cases hm

theorem count_set {L : Array Bool} {i : Nat} (h : L.getD i true = false) : (L.setIfInBounds i true).toList.countP (! ·) + 1 = L.toList.countP (! ·) := by
  have hlt : i < L.size := by
    rcases Nat.lt_or_ge i L.size with h' | h'
    · exact h'
    · simp [Array.getElem?_eq_none h'] at h
  have hv : L[i] = false := by simpa [hlt] using h
  have hp : 0 < L.toList.countP (! ·) := List.countP_pos_iff.2 ⟨L[i], by simp, by simp [hv]⟩
  rw [Array.toList_setIfInBounds, List.countP_set (by simpa using hlt)]
  have e : (L.toList)[i]'(by simpa using hlt) = false := by simpa using hv
  rw [e]
  show L.toList.countP (! ·) - 1 + 0 + 1 = _
  omega

/-- The rule, from any stage on. -/
theorem wpAny_of_steps {Q : Exit → Act → World → Prop} (hf : fineB ops a0.tmps.size = true) (hR : ∀ j v w w', Pres w w' → R j v w → R j v w')
    (hs : ∀ i o, ops[i]? = some o → StepAt P ops a0 R Pres Inv i o) (hrefl : ∀ w, Pres w w)
    (hend : ∀ L a w, (∀ i, i < ops.size → L.getD i false = true) → Inv L w → Fits ops a0 R L a w → Q .normal a w) :
    ∀ (fuel : Nat) (L : Array Bool) (a : Act) (w : World), L.toList.countP (! ·) = fuel → Inv L w → Fits ops a0 R L a w → wpAny P .any ops Q fuel L a w := by
  intro fuel
  induction fuel with
  | zero =>
    intro L a w hc hI hF
    have hr : Region.ready .any ops L = [] := by
      cases h : Region.ready .any ops L with
      | nil => rfl
      | cons x xs =>
        have hx : x ∈ Region.ready .any ops L := by rw [h]; simp
        have := count_set (mem_ready.1 hx).1
        omega
    exact ⟨hr, hend L a w (all_listed hf hF.lsize hr) hI hF⟩
  | succ fuel ih =>
    intro L a w hc hI hF
    refine ⟨fun hr => hend L a w (all_listed hf hF.lsize hr) hI hF, fun i hi => ?_⟩
    obtain ⟨h0, o, ho, hall⟩ := mem_ready.1 hi
    have hst := hs i o ho L a.eval w hI h0 hall hF.at
    have hcs := count_set h0
    unfold wpOp
    simp only [ho]
    have go : Outcome P (fun v w' => R i v w' ∧ Pres w w' ∧ Inv (L.setIfInBounds i true) w') ((execOp a.eval o).run P w) →
        o.wp P a w (wpAny P .any ops Q fuel (L.setIfInBounds i true)) Q := fun h =>
      outcome_wp h fun v w' ⟨h1, h2, h3⟩ => ih _ _ _ (by omega) h3 (hF.put hf ho hall (fun j v => hR j v w w' h2) (fun _ => h1))
    cases hg : o.guard with
    | none =>
      rw [hg] at hst
      rw [if_pos (by simp [Region.wanted, hg])]
      exact .inl (go hst)
    | some gw =>
      obtain ⟨g, want⟩ := gw
      rw [hg] at hst
      rcases hst with ⟨og, t, b, hog, hd, hev, hcase⟩ | ⟨og, t, hog, hd, hev, hcase⟩
      case inr =>
        have hy : yielded ops a.tmps g = none := yielded_undef hog hd hev
        rw [if_neg (by simp [Region.wanted, hg, hy])]
        exact ih _ _ _ (by omega) hcase.2 (hF.put hf ho hall (fun j v => hR j v w w (hrefl w)) (fun _ => hcase.1))
      have hy : yielded ops a.tmps g = some b := by
        have hb : a.tmps[t]? = some (.bool b) := by
          have : a.tmps.getD t undef = .bool b := hev
          rw [Array.getD_eq_getD_getElem?] at this
          cases h : a.tmps[t]? with
          | none => rw [h] at this; cases this
          | some x => rw [h] at this; simpa using this
        simp [yielded, hog, hd, hb]
      by_cases hbw : b = want
      · rw [if_pos hbw] at hcase
        rw [if_pos (by simp [Region.wanted, hg, hy, hbw])]
        exact .inl (go hcase)
      · rw [if_neg hbw] at hcase
        rw [if_neg (by simp [Region.wanted, hg, hy, hbw])]
        exact ih _ _ _ (by omega) hcase.2 (hF.put hf ho hall (fun j v => hR j v w w (hrefl w)) (fun _ => hcase.1))

/-- No operation writes slot t. -/
def noneWrites (ops : Array Oper) (t : Nat) : Bool := ops.all fun o => o.dst != some t
/-- None but number j writes slot t. -/
def onlyWrites (ops : Array Oper) (t j : Nat) : Bool := (List.range ops.size).all fun i => decide (i = j) || ((ops[i]?).bind (·.dst)) != some t

theorem At.oldNone {L : Array Bool} {ev : Operand → Value} {w : World} (h : At ops a0 R L ev w) (t : Nat) (hb : noneWrites ops t = true) : ev (.tmp t) = a0.eval (.tmp t) := by
  refine h.old t fun j o ho _ hd => ?_
  have := (Array.all_eq_true_iff_forall_mem.1 hb) o (Array.mem_of_getElem? ho)
  simp [hd] at this

theorem At.oldBut {L : Array Bool} {ev : Operand → Value} {w : World} {i : Nat} (h : At ops a0 R L ev w) (j : Nat) (oj : Oper) (t : Nat) (hb : onlyWrites ops t j = true) (hj : ops[j]? = some oj)
    (e : Edge) (he : e ∈ oj.after) (hbi : Region.binds .any e = true) (hi : L.getD i true = false) (hei : e.on = i := by rfl) : ev (.tmp t) = a0.eval (.tmp t) := by
  refine h.old t fun k o ho hL hd => ?_
  have hk : k < ops.size := by
    rcases Nat.lt_or_ge k ops.size with h' | h'
    · exact h'
    · rw [Array.getElem?_eq_none h'] at ho; cases ho
  have h1 := List.all_eq_true.1 hb k (List.mem_range.2 hk)
  simp only [ho, Option.bind_some, hd] at h1
  have hkj : k = j := by simpa using h1
  subst hkj
  have h2 := h.closed k oj hj hL e he hbi
  rw [hei] at h2
  rcases Nat.lt_or_ge i L.size with h' | h'
  · simp [h'] at h2 hi; rw [hi] at h2; cases h2
  · simp [Array.getElem?_eq_none h'] at h2

/-- Properties by a list. -/
def ofList (l : List (Value → World → Prop)) : Nat → Value → World → Prop := fun j => l.getD j (fun _ _ => True)

/-- Each of them is kept. -/
def AllKept (Pres : World → World → Prop) : List (Value → World → Prop) → Prop
  | [] => True
  | p :: l => (∀ v w w', Pres w w' → p v w → p v w') ∧ AllKept Pres l

theorem AllKept.at {Pres : World → World → Prop} : ∀ (l : List (Value → World → Prop)), AllKept Pres l → ∀ j v w w', Pres w w' → ofList l j v w → ofList l j v w'
  | [], _, _, _, _, _, _, _ => trivial
  | _ :: _, h, 0, v, w, w', hp, hv => h.1 v w w' hp hv
  | _ :: l, h, j + 1, v, w, w', hp, hv => AllKept.at l h.2 j v w w' hp hv

theorem out_new {K : Value → World → Prop} {ev : Operand → Value} {o : Oper} {w w' : World} {v : Value} (hrun : (execOp ev o).run P w = .ok (.value v) w') (hk : K v w') :
    Outcome P K ((execOp ev o).run P w) := by
  rw [hrun]; exact hk
theorem out_value {K : Value → World → Prop} {ev : Operand → Value} {o : Oper} {w : World} {v : Value} (hrun : (execOp ev o).run P w = .ok (.value v) w) (hk : K v w) :
    Outcome P K ((execOp ev o).run P w) := by
  rw [hrun]; exact hk
theorem out_call {f : Nat} {K : Value → World → Prop} {ev : Operand → Value} {o : Oper} {w w0 : World} {args : Array Value} (hrun : (execOp ev o).run P w = .ok (.enter f args) w0)
    (hc : Calls P f args w0 fun e w'' => ∃ v, e = .returned v ∧ K v w'') : Outcome P K ((execOp ev o).run P w) := by
  rw [hrun]; exact hc

/-- THE RULE. -/
theorem wp_region_props {id : Nat} {l : List Oper} {Q : Exit → Act → World → Prop} {w : World} (R : Nat → Value → World → Prop) (Pres : World → World → Prop) (Inv : Array Bool → World → Prop)
    (hm : P.follows .mixedOrders = true) (hf : fineB l.toArray a0.tmps.size = true) (hR : ∀ j v w w', Pres w w' → R j v w → R j v w') (hrefl : ∀ w, Pres w w)
    (hI : Inv (Array.replicate l.length false) w.drew)
    (hs : AllSteps P l.toArray a0 R Pres Inv 0 l)
    (hend : ∀ L a w, (∀ i, i < l.length → L.getD i false = true) → Inv L w → Fits l.toArray a0 R L a w → Q .normal a w) : (Code.region id l.toArray true).wp P Q a0 w := by
  refine wp_region_any hm ?_
  refine wpAny_of_steps (Pres := Pres) (Inv := Inv) (R := R) (a0 := a0) hf hR ?_ hrefl (by simpa using hend) _ _ _ _ ?_ (by simpa using hI) ?_
  · intro i o ho
    have := hs.at l 0 i o (by simpa using ho)
    simpa using this
  · simp [List.countP_replicate]
  · refine ⟨rfl, rfl, by simp, ?_, fun _ _ => rfl, ?_⟩
    · intro j o t ho hL
      exfalso
      rw [Array.getD_eq_getD_getElem?] at hL
      by_cases hj : j < l.toArray.size
      · simp at hj; simp [hj] at hL
      · simp at hj; simp [hj] at hL
    · intro j o ho hL
      exfalso
      rw [Array.getD_eq_getD_getElem?] at hL
      by_cases hj : j < l.toArray.size
      · simp at hj; simp [hj] at hL
      · simp at hj; simp [hj] at hL
end

/-- A slice of just these values, in a block of its own. -/
def OwnSl (l : List Value) (v : Value) (w : World) : Prop :=
  ∃ sb, v = .slice (some ⟨sb, 0, none⟩) l.length l.length ∧ sb < w.heap.size ∧ ∀ i (h : i < l.length), w.cell? ⟨sb, i, none⟩ = some l[i]
/-- Nothing that was there is another one. -/
def Keeps (w w' : World) : Prop := RowKit.Below w.heap.size w w'
theorem Keeps.refl (w : World) : Keeps w w := RowKit.Below.refl _ _
theorem Keeps.drewN {w w' : World} (h : Keeps w w') (n : Nat) : Keeps w (w'.drewN n) := ⟨h.os, h.tape, h.output, h.size, h.block⟩
theorem Keeps.alloc {w w' : World} (h : Keeps w w') (o : Obj) : Keeps w (w'.alloc o) := RowKit.Below.alloc h h.size o
theorem Keeps.trans {w w' w'' : World} (h : Keeps w w') (k : Keeps w' w'') : Keeps w w'' := RowKit.Below.trans h (RowKit.Below.mono k h.size)
theorem OwnSl.keeps {l : List Value} {v : Value} {w w' : World} (hk : Keeps w w') (h : OwnSl l v w) : OwnSl l v w' := by
  obtain ⟨sb, hv, hs, hc⟩ := h
  refine ⟨sb, hv, Nat.lt_of_lt_of_le hs hk.size, fun i hi => ?_⟩
  rw [hk.cell (p := ⟨sb, i, none⟩) hs]; exact hc i hi
theorem OwnSl.new (l : List Value) (w : World) (t : TypeId) (n : Nat) (hn : n = l.length) : OwnSl l (.slice (some ⟨w.heap.size, 0, none⟩) n n) (w.alloc (.cells l.toArray t)) := by
  subst hn
  refine ⟨w.heap.size, rfl, by simp, fun i hi => ?_⟩
  rw [World.cell?_alloc_new]; simp [hi]
end Go.Proofs.YtbcmilfajeanbaaGreat.Reg
