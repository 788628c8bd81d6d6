/-
  Layer 13: an operation begins; who is busy: contracts.
  Layer 13: what an engine tells of itself; an engine of no kind: contracts.
  Layer 14: an operation begins, written down: contract.
  A region that draws its order in which some operations turn memory that was there (an append, a store), one behind the other: their number is carried on as a ghost; all others only read, or make memory.
  Layer 14: a call ends, written down: contract.
  Layer 14: a step is picked, written down: contract.
  Layer 14: what was written down: contract.
  A region that draws its order: the operations of its head by a property of each value, in whatever order; then, when all of them have come up, its tail, one by one.
-/
import Derived.Test.YtdghgmaoamjnlaaGreatSlGAll
import Derived.Test.YtdghgmaoamjnlaaGreatOp6All
import Derived.Test.YtdghgmaoamjnlaaGreatGhostAll
import Derived.Test.YtdghgmaoamjnlaaGreatWireAAll
import Derived.StillTailTactics
import Derived.Test.YtdghgmaoamjnlaaGreatKNew9All
import Derived.Test.YtdghgmaoamjnlaaGreatFits5
namespace Go.Proofs.YtdghgmaoamjnlaaGreat
open Go.RowKit Go.Sort

/-- The error of a Begin. -/
def begE (kind : Int) (closed : Bool) (Q : Nat → Option Nat) (t k v : Int) : Int :=
  if ¬ (0 ≤ t ∧ t < 6) then 4 else if closed = true then 12 else if ¬ chk kind k v = 0 then chk kind k v else if Q t.toNat = none then 0 else 11
/-- How a Begin ends. -/
def BegEnd (eb : Nat) (kind param : Int) (T : TypeId) (mv : Value) (mb : Nat) (Q : Nat → Option Nat) (closed : Bool) (steps : Int) (t k : Int) (pri : Nat) (v d0 d1 : Int) (w : World) (e : Ending) (w' : World) : Prop :=
  e = .returned (.int .i64 (begE kind closed Q t k v)) ∧ (¬ begE kind closed Q t k v = 0 → Below w.heap.size w w') ∧
    (begE kind closed Q t k v = 0 → 0 ≤ t ∧ t < 6 ∧ Q t.toNat = none ∧ ∃ fb, w.heap.size ≤ fb ∧ BoxAt w' fb ((Fr.of k pri v d0 d1).l none 0 none 0) ∧ BoxAt w' eb (ecells kind param T mv mb (qset Q t.toNat (some fb)) closed steps) ∧ But (fun j => j = eb) w w')

set_option maxRecDepth 20000 in
set_option maxHeartbeats 4000000 in
theorem begin_any (eb : Nat) (kind param : Int) (T : TypeId) (mv : Value) (mb : Nat) (Q : Nat → Option Nat) (closed : Bool) (steps : Int) (t k : Int) (pri : Nat) (v d0 d1 : Int) (w : World) (h : BoxAt w eb (ecells kind param T mv mb Q closed steps)) :
    Calls Tryz.prog 34 #[.pointer (some ⟨eb, 0, none⟩), .int .i64 t, .agg #[.int .i64 k, .float .f64 pri, .int .i64 v, .int .i64 d0, .int .i64 d1]] w (BegEnd eb kind param T mv mb Q closed steps t k pri v d0 d1 w) := by
  obtain ⟨r, hr⟩ : ∃ r, begE kind closed Q t k v = r := ⟨_, rfl⟩
  have hE : ∀ e w', (e = .returned (.int .i64 r) ∧ (¬ r = 0 → Below w.heap.size w w') ∧ (r = 0 → 0 ≤ t ∧ t < 6 ∧ Q t.toNat = none ∧ ∃ fb, w.heap.size ≤ fb ∧ BoxAt w' fb ((Fr.of k pri v d0 d1).l none 0 none 0) ∧ BoxAt w' eb (ecells kind param T mv mb (qset Q t.toNat (some fb)) closed steps) ∧ But (fun j => j = eb) w w')) → BegEnd eb kind param T mv mb Q closed steps t k pri v d0 d1 w e w' := by
    intro e w' hx; unfold BegEnd; rw [hr]; exact hx
  refine Calls.mono ?_ hE
  clear hE
  have hC := fun w => check_any kind k v d0 d1 pri w
  obtain ⟨ob, hob⟩ : ∃ ob, w.heap.size = ob := ⟨_, rfl⟩
  have hO := BoxAt.new w [.int .i64 k, .float .f64 pri, .int .i64 v, .int .i64 d0, .int .i64 d1] 64
  have hba : Below w.heap.size w (w.alloc (.cells [.int .i64 k, .float .f64 pri, .int .i64 v, .int .i64 d0, .int .i64 d1].toArray 64)) := (Below.refl _ _).alloc (Nat.le_refl _) _
  have h1 := h.below hba
  have hl := h.lt
  obtain ⟨W0, hW0⟩ : ∃ W0, w.alloc (.cells #[.int .i64 k, .float .f64 pri, .int .i64 v, .int .i64 d0, .int .i64 d1] 64) = W0 := ⟨_, rfl⟩
  have hW0' : w.alloc (.cells [.int .i64 k, .float .f64 pri, .int .i64 v, .int .i64 d0, .int .i64 d1].toArray 64) = W0 := hW0
  rw [hW0'] at hO hba h1
  clear hW0'
  have hs1 : W0.heap.size = ob + 1 := by rw [← hW0]; simp [hob]
  rw [hob] at hO hl
  have hne : ob ≠ eb := by omega
  by_cases ht : 0 ≤ t ∧ t < 6
  case neg =>
    have hr4 : r = 4 := by rw [← hr]; exact if_pos ht
    subst hr4
    have HB := hidq hba
    subst hW0
    clear hr hC hO h1 hl hne h hob hs1
    by_cases h0 : t < 0
    · clear ht
      go_enter Tryz.func34, Tryz.ntmps34
      go_wp2
      go_ret
      first | exact ⟨rfl, HB.out⟩ | exact ⟨rfl, fun _ => HB.out, fun h => absurd h (by decide)⟩
    · have d0' : decide (t < 0) = false := decide_eq_false h0
      have d6 : decide (6 ≤ t) = true := decide_eq_true (by omega)
      clear ht
      go_enter Tryz.func34, Tryz.ntmps34
      go_wp2
      go_ret
      first | exact ⟨rfl, HB.out⟩ | exact ⟨rfl, fun _ => HB.out, fun h => absurd h (by decide)⟩
  have d0' : decide (t < 0) = false := decide_eq_false (by omega)
  have d6 : decide (6 ≤ t) = false := decide_eq_false (by omega)
  obtain ⟨e0, e0f⟩ := h1.get 0 _ rfl
  cases closed
  case true =>
    have hr12 : r = 12 := by rw [← hr]; unfold begE; rw [if_neg (fun e => e ht), if_pos rfl]
    subst hr12
    obtain ⟨e10, _⟩ := h1.get 10 _ rfl
    have HB := hidq hba
    clear hr hC hO hba h1 hl hne h ht hs1
    go_enter Tryz.func34, Tryz.ntmps34
    go_wp2
    go_ret
    first | exact ⟨rfl, HB.out⟩ | exact ⟨rfl, fun _ => HB.out, fun h => absurd h (by decide)⟩
  obtain ⟨e10, _⟩ := h1.get 10 _ rfl
  obtain ⟨o0, _⟩ := hO.get 0 _ rfl
  obtain ⟨o1, _⟩ := hO.get 1 _ rfl
  obtain ⟨o2, _⟩ := hO.get 2 _ rfl
  obtain ⟨o3, _⟩ := hO.get 3 _ rfl
  obtain ⟨o4, _⟩ := hO.get 4 _ rfl
  have hel := h1.lt
  obtain ⟨c, hc⟩ : ∃ c, chk kind k v = c := ⟨_, rfl⟩
  rw [hc] at hC
  by_cases hc0 : c = 0
  case neg =>
    have hrc : r = c := by rw [← hr]; unfold begE; rw [if_neg (fun e => e ht), if_neg (by decide), if_pos (by rw [hc]; exact hc0), hc]
    subst hrc
    have hne0 : (r == 0) = false := by simpa using hc0
    have HB := hidq (And.intro hba hc0)
    have hol := hO.lt
    clear hr hc hO hba h1 hl hne h ht hc0 hs1
    go_enter Tryz.func34, Tryz.ntmps34
    go_wp2
    go_still_tail 5, (by kernel_rfl)
    go_wp2_with fail
    refine (hC _).mono ?_
    rintro e w1 ⟨rfl, hb⟩
    have HB2 := hidq hb
    clear hb hC
    go_wp2
    go_ret
    exact ⟨rfl, fun _ => (below_drewN HB.out.1 1).trans (HB2.out.mono HB.out.1.size), fun h => absurd h HB.out.2⟩
  subst hc0
  obtain ⟨n, hn, hn6⟩ : ∃ n : Nat, t = (n : Int) ∧ n < 6 := ⟨t.toNat, by omega, by omega⟩
  subst hn
  have hti : ((n : Int)).toNat = n := by omega
  rw [hti]
  obtain ⟨q, hq⟩ : ∃ q, Q n = q := ⟨_, rfl⟩
  have hth := h1.get (4 + n) _ (ecells_thread kind param T mv mb Q false steps n hn6)
  rw [hq] at hth
  have HC := hidq hC
  have HH := hidq (And.intro h1 (And.intro hO (And.intro hba (And.intro hne hob))))
  have HS := hidq hs1
  have hol := hO.lt
  clear hC hba h hne h1 hO ht hs1
  cases q with
  | some fb =>
    have hr11 : r = 11 := by
      rw [← hr]; unfold begE
      rw [if_neg (fun e => e (by omega)), if_neg (by decide), if_neg (fun e => e hc), hti, if_neg (by rw [hq]; simp)]
    subst hr11
    clear hr hc
    go_enter Tryz.func34, Tryz.ntmps34
    go_wp2
    go_still_tail 5, (by kernel_rfl)
    go_wp2_with fail
    refine (HC.out _).mono ?_
    rintro e w1 ⟨rfl, hb⟩
    obtain ⟨h1, hO, hba, hne, _⟩ := HH.out
    have hB1 := (h1.drewN 1).below hb
    obtain ⟨f0, f0f⟩ := hB1.get (4 + n) _ (ecells_thread kind param T mv mb Q false steps n hn6)
    rw [hq] at f0
    have hlw := hB1.lt
    have HF := hidq ((below_drewN hba 1).trans (hb.mono hba.size))
    clear hb h1 hO hba hne HH HC hB1 hth hq
    go_wp2
    go_ret
    first | exact ⟨rfl, HF.out⟩ | exact ⟨rfl, fun _ => HF.out, fun h => absurd h (by decide)⟩
  | none =>
    have hr0 : r = 0 := by
      rw [← hr]; unfold begE
      rw [if_neg (fun e => e (by omega)), if_neg (by decide), if_neg (fun e => e hc), hti, if_pos hq]
    subst hr0
    clear hr hc
    go_enter Tryz.func34, Tryz.ntmps34
    go_wp2
    go_still_tail 5, (by kernel_rfl)
    go_wp2_with fail
    refine (HC.out _).mono ?_
    rintro e w1 ⟨rfl, hb⟩
    obtain ⟨h1, hO, hba, hne, _⟩ := HH.out
    have hB1 := (h1.drewN 1).below hb
    have hO1 := (hO.drewN 1).below hb
    obtain ⟨o0, _⟩ := hO1.get 0 _ rfl
    obtain ⟨o1, _⟩ := hO1.get 1 _ rfl
    obtain ⟨o2, _⟩ := hO1.get 2 _ rfl
    obtain ⟨o3, _⟩ := hO1.get 3 _ rfl
    obtain ⟨o4, _⟩ := hO1.get 4 _ rfl
    have hol := hO1.lt
    obtain ⟨f0, f0f⟩ := hB1.get (4 + n) _ (ecells_thread kind param T mv mb Q false steps n hn6)
    rw [hq] at f0
    have hlw := hB1.lt
    have hbt := (below_drewN hba 1).trans (hb.mono hba.size)
    have HF := hidq (And.intro hbt (And.intro hB1 hq))
    clear hb h1 hO hba hne HH HC hB1 hO1 hth hq hbt
    go_wp2
    go_region
    obtain ⟨hbt, hB1, hq⟩ := HF.out
    have hBs := (hB1.set (4 + n) (eptr (some w1.heap.size))).same (ecells_set kind param T mv mb Q false steps n hn6 (some w1.heap.size))
    have hF0 := BoxAt.new (w1.setCell ⟨eb, 4 + n, none⟩ (eptr (some w1.heap.size))) ((Fr.of k pri v d0 d1).l none 0 none 0) 169
    rw [World.size_setCell] at hF0
    have hba2 : Below (w1.setCell ⟨eb, 4 + n, none⟩ (eptr (some w1.heap.size))).heap.size (w1.setCell ⟨eb, 4 + n, none⟩ (eptr (some w1.heap.size))) ((w1.setCell ⟨eb, 4 + n, none⟩ (eptr (some w1.heap.size))).alloc (.cells ((Fr.of k pri v d0 d1).l none 0 none 0).toArray 169)) := (Below.refl _ _).alloc (Nat.le_refl _) _
    have HX := hidq (And.intro (hF0.drew) (And.intro (hBs.below hba2).drew (And.intro hq (show But (fun j => j = eb) w ((w1.setCell ⟨eb, 4 + n, none⟩ (eptr (some w1.heap.size))).alloc (.cells ((Fr.of k pri v d0 d1).l none 0 none 0).toArray 169)).drew from ((((But.of_below (S := fun j => j = eb) hbt).set1 eb (4 + n) rfl _).alloc _).drew)))))
    have hws := hbt.size
    have HW := hidq hws
    clear hbt hB1 hq hBs hF0 hba2 hws HF f0 f0f hlw o0 o1 o2 o3 o4 hol HS
    go_wp2
    go_ret
    obtain ⟨x1, x2, x3, x4⟩ := HX.out
    first | exact ⟨rfl, fun h => absurd rfl h, fun _ => ⟨by omega, by omega, x3, w1.heap.size, HW.out, x1, x2, x4⟩⟩ | exact ⟨rfl, fun h => absurd trivial h, fun _ => ⟨by omega, by omega, x3, w1.heap.size, HW.out, x1, x2, x4⟩⟩
end Go.Proofs.YtdghgmaoamjnlaaGreat

namespace Go.Proofs.YtdghgmaoamjnlaaGreat
open Go.RowKit Go.Sort

section
variable (eb : Nat) (kind param : Int) (T : TypeId) (mv : Value) (mb : Nat) (Q : Nat → Option Nat) (closed : Bool) (steps : Int) (w : World)
theorem kind_any (h : BoxAt w eb (ecells kind param T mv mb Q closed steps)) : Calls Tryz.prog 76 #[.pointer (some ⟨eb, 0, none⟩)] w fun e w' => e = .returned (.int .i64 kind) ∧ w' = w := by
  have f0 := (h.get 0 _ rfl).1
  have hl := h.lt
  clear h
  go_enter Tryz.func76, Tryz.ntmps76
  go_wp2
  go_ret
  exact ⟨rfl, rfl⟩
theorem steps_any (h : BoxAt w eb (ecells kind param T mv mb Q closed steps)) : Calls Tryz.prog 75 #[.pointer (some ⟨eb, 0, none⟩)] w fun e w' => e = .returned (.int .i64 steps) ∧ w' = w := by
  have f0 := (h.get 11 _ rfl).1
  have hl := h.lt
  clear h
  go_enter Tryz.func75, Tryz.ntmps75
  go_wp2
  go_ret
  exact ⟨rfl, rfl⟩
theorem memory_any (h : BoxAt w eb (ecells kind param T mv mb Q closed steps)) : Calls Tryz.prog 33 #[.pointer (some ⟨eb, 0, none⟩)] w fun e w' => e = .returned (.pointer (some ⟨mb, 0, none⟩)) ∧ w' = w := by
  have f0 := (h.get 3 _ rfl).1
  have hl := h.lt
  clear h
  go_enter Tryz.func33, Tryz.ntmps33
  go_wp2
  go_ret
  exact ⟨rfl, rfl⟩
end

theorem machine0_any (k p : Int) (hk : ¬ (1 ≤ k ∧ k ≤ 4)) (w : World) : Calls Tryz.prog 79 #[.int .i64 k, .int .i64 p] w fun e w' => e = .returned (.tuple #[.nilIface, .int .i64 6]) ∧ Below w.heap.size w w' := by
  have hL := fun w => legal_any k p w
  rw [legal_kind hk] at hL
  have k1 : (k == 1) = false := by simp; omega
  have k2 : (k == 2) = false := by simp; omega
  have k3 : (k == 3) = false := by simp; omega
  have k4 : (k == 4) = false := by simp; omega
  clear hk
  go_enter Tryz.func79, Tryz.ntmps79
  go_wp2_with fail
  refine (hL _).mono ?_
  rintro e w1 ⟨rfl, hb⟩
  have HB := hidq hb
  clear hb hL
  go_wp2
  go_ret2
  exact ⟨rfl, HB.out⟩
theorem with0_any (k p : Int) (hk : ¬ (1 ≤ k ∧ k ≤ 4)) (m : Value) (w : World) : Calls Tryz.prog 32 #[.int .i64 k, .int .i64 p, m] w fun e w' => e = .returned (.tuple #[.pointer none, .int .i64 6]) ∧ Below w.heap.size w w' := by
  have hM := fun w => machine0_any k p hk w
  clear hk
  go_enter Tryz.func32, Tryz.ntmps32
  go_wp2_with fail
  refine (hM _).mono ?_
  rintro e w1 ⟨rfl, hb⟩
  have HB := hidq hb
  clear hb hM
  go_wp2
  go_ret2
  exact ⟨rfl, HB.out⟩
theorem new0_any (k p : Int) (hk : ¬ (1 ≤ k ∧ k ≤ 4)) (w : World) : Calls Tryz.prog 12 #[.int .i64 k, .int .i64 p] w fun e w' => e = .returned (.tuple #[.pointer none, .int .i64 6]) ∧ Below w.heap.size w w' := by
  have hW := fun m w => with0_any k p hk m w
  clear hk
  go_enter Tryz.func12, Tryz.ntmps12
  go_wp2_with fail
  refine (new5_any _).mono ?_
  rintro e w1 ⟨rfl, _, hb1⟩
  have H1 := hidq hb1
  clear hb1
  go_wp2_with fail
  refine (hW _ _).mono ?_
  rintro e w2 ⟨rfl, hb2⟩
  have H2 := hidq (H1.out.trans (hb2.mono H1.out.size))
  clear hb2 hW H1
  go_wp2
  go_ret2
  exact ⟨rfl, H2.out⟩
end Go.Proofs.YtdghgmaoamjnlaaGreat

namespace Go.Proofs.YtdghgmaoamjnlaaGreat
open Go.RowKit Go.Sort

/-- How a Begin of a recorder ends. -/
def RBegEnd (rb eb : Nat) (a : Option Addr) (cs : List (Nat × Cl)) (U : Nat → Option Nat) (kind param : Int) (T : TypeId) (mv : Value) (mb : Nat) (Q : Nat → Option Nat) (closed : Bool) (steps : Int) (t k : Int) (pri : Nat) (v d0 d1 : Int) (w : World) (e : Ending) (w' : World) : Prop :=
  e = .returned (.int .i64 (begE kind closed Q t k v)) ∧ (¬ begE kind closed Q t k v = 0 → Below w.heap.size w w') ∧
    (begE kind closed Q t k v = 0 → 0 ≤ t ∧ t < 6 ∧ Q t.toNat = none ∧ ∃ fb cb a' cap', w.heap.size ≤ fb ∧ w.heap.size ≤ cb ∧ fb ≠ cb ∧ ¬ inB a' fb ∧ BoxAt w' fb ((Fr.of k pri v d0 d1).l none 0 none 0) ∧ BoxAt w' eb (ecells kind param T mv mb (qset Q t.toNat (some fb)) closed steps) ∧
      RecAt w' rb eb a' cap' (cs ++ [(cb, ⟨t, k, pri, v, d0, d1, steps, -1, Ans.zero⟩)]) (qset U t.toNat (some cb)) ∧ (∀ j, inB a' j → inB a j ∨ w.heap.size ≤ j) ∧ But (fun j => j = eb ∨ RK rb a cs j) w w')

set_option maxRecDepth 20000 in
set_option maxHeartbeats 4000000 in
theorem rbegin_any (rb eb : Nat) (a : Option Addr) (cap : Nat) (cs : List (Nat × Cl)) (U : Nat → Option Nat) (kind param : Int) (T : TypeId) (mv : Value) (mb : Nat) (Q : Nat → Option Nat) (closed : Bool) (steps : Int) (t k : Int) (pri : Nat) (v d0 d1 : Int) (w : World)
    (hE : BoxAt w eb (ecells kind param T mv mb Q closed steps)) (hR : RecAt w rb eb a cap cs U) (hne : ¬ RK rb a cs eb) (hU : ∀ j, j < 6 → Q j = none → U j = none) (hcs : cs.length ≤ 1000) :
    Calls Tryz.prog 55 #[.pointer (some ⟨rb, 0, none⟩), .int .i64 t, .agg #[.int .i64 k, .float .f64 pri, .int .i64 v, .int .i64 d0, .int .i64 d1]] w (RBegEnd rb eb a cs U kind param T mv mb Q closed steps t k pri v d0 d1 w) := by
  obtain ⟨r, hr⟩ : ∃ r, begE kind closed Q t k v = r := ⟨_, rfl⟩
  obtain ⟨ob, hob⟩ : ∃ ob, w.heap.size = ob := ⟨_, rfl⟩
  obtain ⟨W0, hW0⟩ : ∃ W0, w.alloc (.cells #[.int .i64 k, .float .f64 pri, .int .i64 v, .int .i64 d0, .int .i64 d1] 64) = W0 := ⟨_, rfl⟩
  have hO := BoxAt.new w [.int .i64 k, .float .f64 pri, .int .i64 v, .int .i64 d0, .int .i64 d1] 64
  rw [show w.alloc (.cells [.int .i64 k, .float .f64 pri, .int .i64 v, .int .i64 d0, .int .i64 d1].toArray 64) = W0 from hW0, hob] at hO
  have hba : Below w.heap.size w W0 := by rw [← hW0]; exact (Below.refl _ _).alloc (Nat.le_refl _) _
  have hs1 : W0.heap.size = ob + 1 := by rw [← hW0]; simp [hob]
  have hrbe : rb ≠ eb := fun e => hne (.inl e.symm)
  have hel : eb < ob := by rw [← hob]; exact hE.lt
  have HEL := hidq hel
  have hR0 := hR.below hba
  have hE0 := hE.below hba
  have r0 := (hR0.box.get 0 _ rfl).1
  have hrl := hR0.box.lt
  obtain ⟨o0, _⟩ := hO.get 0 _ rfl
  obtain ⟨o1, _⟩ := hO.get 1 _ rfl
  obtain ⟨o2, _⟩ := hO.get 2 _ rfl
  obtain ⟨o3, _⟩ := hO.get 3 _ rfl
  obtain ⟨o4, _⟩ := hO.get 4 _ rfl
  have hol := hO.lt
  have hB := hidq (begin_any eb kind param T mv mb Q closed steps t k pri v d0 d1 W0.drew hE0.drew)
  have HW := hidq (And.intro hO (And.intro hba (And.intro hs1 (And.intro hR0 (And.intro hE0 (And.intro hne hrbe))))))
  have HOB := hidq hob
  have HU := hidq hU
  by_cases h0 : r = 0
  case neg =>
    have hne0 : (r == 0) = false := by simpa using h0
    have HR := hidq (And.intro hr h0)
    clear hE hR hne hU hr h0 hO hba hs1 hrbe hR0 hE0 hel
    go_enter Tryz.func55, Tryz.ntmps55
    go_wp2
    go_still_tail 6, (by kernel_rfl)
    go_wp2_with fail
    refine hB.out.mono ?_
    rintro e w1 ⟨he, hlow, _⟩
    rw [HR.out.1] at he
    subst he
    have HX := hidq (HW.out.2.1.trans (((Below.refl _ _).drew.trans (hlow (fun e => HR.out.2 (by rw [← HR.out.1]; exact e)))).mono HW.out.2.1.size))
    clear hlow hB
    go_wp2_with fail
    go_ret
    exact ⟨by rw [HR.out.1]; rfl, fun _ => HX.out, fun e => absurd (HR.out.1.symm.trans e) HR.out.2⟩
  subst h0
  have HR := hidq hr
  clear hE hR hne hU hr hO hba hs1 hrbe hR0 hE0 hel
  go_enter Tryz.func55, Tryz.ntmps55
  go_wp2
  go_still_tail 6, (by kernel_rfl)
  go_wp2_with fail
  refine hB.out.mono ?_
  rintro e w1 ⟨he, _, hok⟩
  rw [HR.out] at he
  subst he
  obtain ⟨ht0, ht6, hQ, fb, hfb, hF, hE1, hbt⟩ := hok HR.out
  obtain ⟨n, rfl⟩ : ∃ n : Nat, t = (n : Int) := ⟨t.toNat, by omega⟩
  have hn6 : n < 6 := by omega
  have htn : ((n : Int)).toNat = n := by omega
  rw [htn] at hQ hE1
  obtain ⟨hO, hba, hs1, hR0, hE0, hne, hrbe⟩ := HW.out
  have hbt' : But (fun j => j = eb) W0 w1 := (((But.refl _ W0).drew)).trans hbt
  have hRe : ∀ k, RK rb a cs k → k ≠ eb := fun k hk e => hne (e ▸ hk)
  have hR1 := hR0.but hbt' hRe
  have hel := HEL.out
  have hO1 := hO.but hbt' (fun e => by have : ob = eb := e; omega)
  have hun : U n = none := HU.out n hn6 hQ
  have hs01 := hbt'.size
  obtain ⟨u0, _⟩ := hR1.box.get (2 + n) _ (rcells_thread eb a cs.length cap U n hn6)
  rw [hun] at u0
  replace u0 : w1.cell? ⟨rb, 2 + n, none⟩ = some (.pointer none) := u0
  have r0 := (hR1.box.get 0 _ rfl).1
  have r1 := (hR1.box.get 1 _ rfl).1
  have hrl := hR1.box.lt
  obtain ⟨o0, _⟩ := hO1.get 0 _ rfl
  obtain ⟨o1, _⟩ := hO1.get 1 _ rfl
  obtain ⟨o2, _⟩ := hO1.get 2 _ rfl
  obtain ⟨o3, _⟩ := hO1.get 3 _ rfl
  obtain ⟨o4, _⟩ := hO1.get 4 _ rfl
  have hol := hO1.lt
  have H1 := hidq (And.intro hR1 (And.intro hF (And.intro hE1 (And.intro hbt' (And.intro hfb (And.intro hba (And.intro hs1 (And.intro hne (And.intro hrbe (And.intro hRe hs01))))))))))
  have HQ := hidq (And.intro hQ hun)
  have hst := fun (_ : Unit) => steps_any eb kind param T mv mb (qset Q n (some fb)) closed steps w1.drew hE1.drew
  have HST := hidq hst
  clear hO hba hs1 hR0 hE0 hne hrbe hbt hbt' hRe hR1 hF hE1 hO1 hun hQ hfb hok hs01 hst hel
  go_wp2_with fail
  refine (forget_nil _ _).mono ?_
  rintro e w2 ⟨rfl, hw2⟩
  replace hw2 := hw2.symm
  subst hw2
  go_wp2_with fail
  refine wp_region_still_tail 8 (by kernel_rfl) (by kernel_rfl) ?_
  simp only [List.take_succ_cons, List.take_zero, List.drop_succ_cons, List.drop_zero]
  repeat still_step
  still_call (HST.out ())
  repeat still_step
  refine wpStill_nil ?_
  refine (?_ : wpList _ _ _ _ _ w1.drew)
  obtain ⟨cb, hcb⟩ : ∃ cb, w1.heap.size = cb := ⟨_, rfl⟩
  obtain ⟨W2, hW2⟩ : ∃ W2, w1.drew.alloc (.cells #[.int .i64 (n : Int), .int .i64 k, .float .f64 pri, .int .i64 v, .int .i64 d0, .int .i64 d1, .int .i64 steps, .int .i64 (-1), .bool false, .float .f64 0, .int .i64 0, .int .i64 0] 68) = W2 := ⟨_, rfl⟩
  obtain ⟨hR1, hF, hE1, hbt', hfb, hba, hs1, hne, hrbe, hRe, hs01⟩ := H1.out
  have hb2 : Below w1.heap.size w1 W2 := by rw [← hW2]; exact (Below.refl _ _).drew.alloc (Nat.le_refl _) _
  have hC2 : BoxAt W2 cb (Cl.l ⟨(n : Int), k, pri, v, d0, d1, steps, -1, Ans.zero⟩) := by rw [← hW2, ← hcb]; exact BoxAt.new w1.drew _ _
  have hs2 : W2.heap.size = cb + 1 := by rw [← hW2, ← hcb]; simp
  have hR2 := hR1.below hb2
  have hF2 := hF.below hb2
  have hE2 := hE1.below hb2
  have hcbr : ∀ j, RK rb a cs j → j < cb := fun j hj => by rw [← hcb]; exact hR1.lt j hj
  have r1 := (hR2.box.get 1 _ rfl).1
  have hrl2 := hR2.box.lt
  have hfbl : fb < cb := by rw [← hcb]; exact hF.lt
  have hebl : eb < cb := by rw [← hcb]; exact hE1.lt
  have HSL := hidq hR2.sl
  have H2 := hidq (And.intro hR2 (And.intro hF2 (And.intro hE2 (And.intro hC2 (And.intro hcbr (And.intro hs2 (And.intro hfbl hebl)))))))
  have hl1000 : cs.length + 1 ≤ 1099511627776 := by omega
  obtain ⟨m, hm⟩ : ∃ m, cs.length = m := ⟨_, rfl⟩
  have HM := hidq hm
  rw [hm] at r1 hl1000
  clear hR1 hF hE1 hbt' hfb hba hs1 hne hrbe hRe hs01 hb2 hC2 hs2 hR2 hF2 hE2 hcbr hfbl hebl o0 o1 o2 o3 o4 hol r0 u0 hm hcs
  go_wp2_with (at_builtin; refine wpList_sl plainH _ rfl (.tmp 40) (.tmp 42) rfl a cap m (ptrs cs) rfl (by have h := HSL.out.below ((Below.refl W2.heap.size W2).alloc (Nat.le_refl _) (.cells #[.pointer (some ⟨cb, 0, none⟩)] 42)); rw [HM.out] at h; exact h) _ rfl 1 [.pointer (some ⟨cb, 0, none⟩)] (src_new 1 _ Tryz.underlying41 W2.heap.size [.pointer (some ⟨cb, 0, none⟩)] rfl (fun j u hu => by rw [World.cell?_alloc_new]; simpa using hu) (by intro u hu; simp at hu; subst hu; rfl)) (by omega) hl1000 ?_; intro g2 c2 w3 hF3 hb3 hg3; have HF3 := hidq hF3; have HB3 := hidq hb3; have hx := (((H2.out.1.box.below ((Below.refl W2.heap.size W2).alloc (Nat.le_refl _) (.cells #[.pointer (some ⟨cb, 0, none⟩)] 42))).but hb3 H2.out.1.na)); obtain ⟨z1, y1⟩ := hx.get 1 _ rfl; obtain ⟨z2, y2⟩ := hx.get (2 + n) _ (rcells_thread eb a cs.length cap U n hn6); have hxl := hx.lt; have HX := hidq hx; clear hx hF3 hb3)
  go_ret
  obtain ⟨hR1, hF, hE1, hbt', hfb, hba, hs1, hne, hrbe, hRe, hs01⟩ := H1.out
  obtain ⟨hR2, hF2, hE2, hC2, hcbr, hs2, hfbl, hebl⟩ := H2.out
  have hR0 := HW.out.2.2.2.1
  have hob := HOB.out
  have hb2 : Below w1.heap.size w1 W2 := by rw [← hW2]; exact (Below.refl _ _).drew.alloc (Nat.le_refl _) _
  have hbA : Below W2.heap.size W2 (W2.alloc (.cells #[.pointer (some ⟨cb, 0, none⟩)] 42)) := (Below.refl _ _).alloc (Nat.le_refl _) _
  have hsA : (W2.alloc (.cells #[.pointer (some ⟨cb, 0, none⟩)] 42)).heap.size = cb + 2 := by simp [hs2]
  have hb3 := HB3.out
  have hF3 := HF3.out
  have hm := HM.out
  rw [hsA] at hg3
  obtain ⟨W5, hW5⟩ : ∃ W5, (w3.setCell ⟨rb, 1, none⟩ (.slice (some ⟨g2, 0, none⟩) (m + 1) c2)).setCell ⟨rb, 2 + n, none⟩ (.pointer (some ⟨cb, 0, none⟩)) = W5 := ⟨_, rfl⟩
  rw [hW5]
  have hb5 : But (fun j => j = rb) w3 W5 := by rw [← hW5]; exact ((But.refl (fun j => j = rb) w3).set1 rb 1 rfl _).set1 rb (2 + n) rfl _
  have hB5 : BoxAt W5 rb (rcells eb (some ⟨g2, 0, none⟩) (m + 1) c2 (qset U n (some cb))) := by
    rw [← hW5]
    exact (((HX.out.set 1 (.slice (some ⟨g2, 0, none⟩) (m + 1) c2)).same (show _ = rcells eb (some ⟨g2, 0, none⟩) (m + 1) c2 U from rfl)).set (2 + n) (eptr (some cb))).same (rcells_set eb (some ⟨g2, 0, none⟩) (m + 1) c2 U n hn6 (some cb))
  have hgn : ∀ j, j < cb → ¬ inB a j → j ≠ g2 := fun j hj hn e => by
    subst e
    rcases hg3 with q | q
    · exact hn q
    · omega
  have hgc : cb ≠ g2 := fun e => by
    subst e
    rcases hg3 with q | q
    · have := hcbr cb (.inr (.inl q)); omega
    · omega
  have hall : ∀ {b : Nat} {l : List Value}, BoxAt W2 b l → ¬ inB a b → b ≠ rb → BoxAt W5 b l := fun h h1 h2 => ((h.below hbA).but hb3 h1).but hb5 h2
  have hrbl := hcbr rb (.inl rfl)
  have hr0l := hR0.lt rb (.inl rfl)
  have hnf : ¬ inB a fb := fun e => by have := hR0.lt fb (.inr (.inl e)); have : W0.heap.size ≤ fb := hfb; omega
  have hfr : fb ≠ rb := fun e => by have : W0.heap.size ≤ fb := hfb; omega
  have hwl : w.heap.size ≤ W0.heap.size := hba.size
  have hw1 : W0.heap.size ≤ w1.heap.size := hs01
  refine ⟨by rw [HR.out]; rfl, fun e => absurd HR.out e, fun _ => ⟨ht0, ht6, by rw [htn]; exact HQ.out.1, fb, cb, some ⟨g2, 0, none⟩, c2, by have : W0.heap.size ≤ fb := hfb; omega, by omega, by omega, ?_, hall hF2 hnf hfr, ?_, ?_, ?_, ?_⟩⟩
  · rintro ⟨x, hx, e⟩
    cases hx
    exact hgn fb hfbl hnf e.symm
  · rw [htn]
    exact hall hE2 (fun e => hne (.inr (.inl e))) (fun e => hrbe e.symm)
  · rw [htn]
    refine ⟨?_, ?_, ?_, ?_, ?_, ?_⟩
    · rw [List.length_append, hm]; exact hB5
    · rw [List.length_append, hm, ptrs_snoc]
      exact .inr ⟨g2, rfl, hF3.but hb5 (fun e => hgn rb hrbl hR1.na e.symm)⟩
    · intro p hp
      rcases List.mem_append.1 hp with hp | hp
      · exact hall (hR2.cl p hp) (hR1.nb p hp).2 (hR1.nb p hp).1
      · rw [List.mem_singleton] at hp
        subst hp
        exact hall hC2 (fun e => by have := hcbr cb (.inr (.inl e)); omega) (by show cb ≠ rb; omega)
    · refine List.pairwise_append.2 ⟨hR1.nd, List.pairwise_singleton _ _, fun p hp q hq => ?_⟩
      rw [List.mem_singleton] at hq
      subst hq
      have := hcbr p.1 (.inr (.inr ⟨p, hp, rfl⟩))
      show p.1 ≠ cb
      omega
    · intro p hp
      rcases List.mem_append.1 hp with hp | hp
      · refine ⟨(hR1.nb p hp).1, ?_⟩
        rintro ⟨x, hx, e⟩
        cases hx
        exact hgn p.1 (hcbr p.1 (.inr (.inr ⟨p, hp, rfl⟩))) (hR1.nb p hp).2 e.symm
      · rw [List.mem_singleton] at hp
        subst hp
        refine ⟨by show cb ≠ rb; omega, ?_⟩
        rintro ⟨x, hx, e⟩
        cases hx
        exact hgc e.symm
    · rintro ⟨x, hx, e⟩
      cases hx
      exact hgn rb hrbl hR1.na e.symm
  · rintro j ⟨x, hx, rfl⟩
    cases hx
    rcases hg3 with q | q
    · exact .inl q
    · exact .inr (by show w.heap.size ≤ g2; omega)
  · have h01 : But (fun j => j = eb ∨ RK rb a cs j) w w1 := (But.of_below hba).then hbt' (fun k _ e => .inl e)
    have h03 := ((h01.trans (But.of_below hb2)).trans (But.of_below hbA)).then hb3 (fun k _ e => .inr (.inr (.inl e)))
    exact h03.then hb5 (fun k _ e => .inr (.inl e))
end Go.Proofs.YtdghgmaoamjnlaaGreat

namespace Go.Proofs.YtdghgmaoamjnlaaGreat.Reg
open Go Go.RowKit

/-- How many of these have come up. -/
def cnt (hs : List Nat) (L : Array Bool) : Nat := hs.countP (fun j => L.getD j false)
theorem cnt_light {hs : List Nat} (L : Array Bool) (i : Nat) (h : hs.contains i = false) : cnt hs (L.setIfInBounds i true) = cnt hs L := by
  unfold cnt
  refine List.countP_congr (fun j hj => ?_)
  have hne : i ≠ j := fun e => by subst e; rw [List.contains_iff_mem.2 hj] at h; cases h
  rw [getD_set_ne false hne]
theorem cnt_none (hs : List Nat) (n : Nat) : cnt hs (Array.replicate n false) = 0 := by
  unfold cnt
  rw [List.countP_eq_zero]
  intro j _
  rw [Array.getD_eq_getD_getElem?]
  by_cases hj : j < n
  · simp [hj]
  · simp [hj]
theorem cnt_all {hs : List Nat} {L : Array Bool} (h : ∀ j ∈ hs, L.getD j false = true) : cnt hs L = hs.length := by
  unfold cnt
  rw [List.countP_eq_length]
  exact h
theorem getD_true {L : Array Bool} {i : Nat} (h : L.getD i true = false) : L.getD i false = false := by
  rw [Array.getD_eq_getD_getElem?] at h ⊢
  cases hx : L[i]? with
  | none => rw [hx] at h; cases h
  | some b => rw [hx] at h; simpa using h
theorem cnt_heavy {hs : List Nat} {L : Array Bool} {i : Nat} (hn : hs.Nodup) (hi : i ∈ hs) (h0 : L.getD i true = false) : cnt hs (L.setIfInBounds i true) = cnt hs L + 1 := by
  have hlt : i < L.size := by
    rcases Nat.lt_or_ge i L.size with h' | h'
    · exact h'
    · rw [Array.getD_eq_getD_getElem?, Array.getElem?_eq_none h'] at h0; cases h0
  have h1 : (L.setIfInBounds i true).getD i false = true := by simp [hlt]
  have h2 := getD_true h0
  unfold cnt
  induction hs with
  | nil => cases hi
  | cons a l ih =>
    rw [List.nodup_cons] at hn
    rw [List.countP_cons, List.countP_cons]
    by_cases e : a = i
    · subst e
      rw [if_pos h1, if_neg (by rw [h2]; decide)]
      have : l.countP (fun j => (L.setIfInBounds a true).getD j false) = l.countP (fun j => L.getD j false) := by
        refine List.countP_congr (fun j hj => ?_)
        have hne : a ≠ j := fun e => by subst e; exact hn.1 hj
        rw [getD_set_ne false hne]
      rw [this]
    · have hi' : i ∈ l := by
        rcases List.mem_cons.1 hi with h | h
        · exact absurd h.symm e
        · exact h
      rw [ih hn.2 hi', getD_set_ne false (Ne.symm e)]
      omega
theorem cnt_zero {hs : List Nat} {L : Array Bool} (h : ∀ j ∈ hs, L.getD j false = false) : cnt hs L = 0 := by
  unfold cnt
  rw [List.countP_eq_zero]
  intro j hj
  rw [h j hj]; decide

theorem cnt_zero1 {a : Nat} {L : Array Bool} (h : L.getD a false = false) : cnt [a] L = 0 := by simp only [cnt, List.countP_cons, List.countP_nil, h]; decide
theorem cnt_zero2 {a b : Nat} {L : Array Bool} (h : L.getD a false = false) (h2 : L.getD b false = false) : cnt [a, b] L = 0 := by simp only [cnt, List.countP_cons, List.countP_nil, h, h2]; decide
theorem cnt_one2 {a b : Nat} {L : Array Bool} (h : L.getD a false = true) (h2 : L.getD b false = false) : cnt [a, b] L = 1 := by simp only [cnt, List.countP_cons, List.countP_nil, h, h2]; decide
/-- What each step leaves. -/
def PPres (S : Nat → Prop) (x : Nat) (w : World) (x' : Nat) (w' : World) : Prop := x ≤ x' ∧ (x' = x → Below w.heap.size w w') ∧ But S w w'
theorem PPres.light {S : Nat → Prop} {x : Nat} {w w' : World} (h : Below w.heap.size w w') : PPres S x w x w' := ⟨Nat.le_refl _, fun _ => h, But.of_below h⟩
theorem PPres.refl (S : Nat → Prop) (x : Nat) (w : World) : PPres S x w x w := PPres.light (Below.refl _ _)
theorem PPres.heavy {S : Nat → Prop} {x : Nat} {w w' : World} (h : But S w w') : PPres S x w (x + 1) w' := ⟨Nat.le_succ _, fun e => by omega, h⟩
/-- A property that only what is turned next may break. -/
def At1 (p : Nat) (F : World → Prop) (x : Nat) (w : World) : Prop := p ≤ x ∧ (x = p → F w)
theorem At1.kept {S : Nat → Prop} {p : Nat} {F : World → Prop} (hF : ∀ w w', Below w.heap.size w w' → F w → F w') {x x' : Nat} {w w' : World} (hp : PPres S x w x' w') (h : At1 p F x w) : At1 p F x' w' :=
  ⟨Nat.le_trans h.1 hp.1, fun e => by
    have hx : x' = x := by have := h.1; have := hp.1; omega
    exact hF _ _ (hp.2.1 hx) (h.2 (by omega))⟩
/-- What holds from step to step. -/
def PInv (hs : List Nat) (S : Nat → Prop) (W0 : World) (F : Nat → World → Prop) (x : Nat) (L : Array Bool) (w : World) : Prop :=
  x = cnt hs L ∧ But S W0 w ∧ F x w
theorem PInv.light {hs : List Nat} {S : Nat → Prop} {W0 : World} {F : Nat → World → Prop} (hF : ∀ x w w', Below w.heap.size w w' → F x w → F x w') {x : Nat} {L : Array Bool} {w w' : World} (h : PInv hs S W0 F x L w) (i : Nat) (hi : hs.contains i = false) (hb : Below w.heap.size w w') :
    PInv hs S W0 F x (L.setIfInBounds i true) w' := ⟨by rw [cnt_light L i hi]; exact h.1, h.2.1.trans (But.of_below hb), hF _ _ _ hb h.2.2⟩
theorem PInv.heavy {hs : List Nat} {S : Nat → Prop} {W0 : World} {F : Nat → World → Prop} {x : Nat} {L : Array Bool} {w w' : World} (h : PInv hs S W0 F x L w) (i : Nat) (hn : hs.Nodup) (hi : i ∈ hs) (h0 : L.getD i true = false) (hb : But S w w') (hf : F (x + 1) w') :
    PInv hs S W0 F (x + 1) (L.setIfInBounds i true) w' := ⟨by rw [cnt_heavy hn hi h0, h.1], h.2.1.trans hb, hf⟩
theorem PInv.start {hs : List Nat} {S : Nat → Prop} {w : World} {F : Nat → World → Prop} (n : Nat) (hf : F 0 w.drew) : PInv hs S w F 0 (Array.replicate n false) w.drew :=
  ⟨(cnt_none hs n).symm, (But.refl S w).drew, hf⟩
theorem PInv.done {hs : List Nat} {S : Nat → Prop} {W0 : World} {F : Nat → World → Prop} {x : Nat} {L : Array Bool} {w : World} (h : PInv hs S W0 F x L w) (hl : ∀ j ∈ hs, L.getD j false = true) : x = hs.length ∧ But S W0 w ∧ F hs.length w := by
  have := cnt_all hl
  refine ⟨h.1.trans this, h.2.1, ?_⟩
  have h2 := h.2.2
  rw [h.1, this] at h2
  exact h2
theorem out_skipP {P : Program} {K : Value → World → Prop} {ev : Operand → Value} {o : Oper} {w w' : World} (hrun : (execOp ev o).run P w = .ok .skip w') (hk : K undef w') : Outcome P K ((execOp ev o).run P w) := by
  rw [hrun]; exact hk
/-- What is not listed keeps what waits for it from being listed. -/
theorem not_listed {ops : Array Oper} {a0 : Act} {R : Nat → Value → World → Prop} {L : Array Bool} {ev : Operand → Value} {w : World} (h : At ops a0 R L ev w) (i j : Nat) (oj : Oper) (hj : ops[j]? = some oj) (e : Edge) (he : e ∈ oj.after) (hb : Region.binds .any e = true) (hi : L.getD i true = false) (hei : e.on = i := by rfl) : L.getD j false = false := by
  cases hL : L.getD j false with
  | false => rfl
  | true =>
    have := h.closed j oj hj hL e he hb
    rw [hei, getD_true hi] at this
    cases this
/-- A guarded operation, whichever way its guard is. -/
theorem GStepAt.either {γ : Type} {P : Program} {ops : Array Oper} {a0 : Act} {R : Nat → Value → γ → World → Prop} {Pres : γ → World → γ → World → Prop} {Inv : γ → Array Bool → World → Prop} {i g : Nat} {want : Bool} {o : Oper} (hg : o.guard = some (g, want))
    (h : ∀ (x : γ) (L : Array Bool) (ev : Operand → Value) (w : World), Inv x L w → L.getD i true = false → (∀ e ∈ o.after, Region.binds .any e = true → L.getD e.on false = true) → At ops a0 (fun j v w => R j v x w) L ev w →
      ∃ og t b, ops[g]? = some og ∧ og.dst = some t ∧ ev (.tmp t) = .bool b ∧
        if b = want then Outcome P (fun v w' => ∃ x', R i v x' w' ∧ Pres x w x' w' ∧ Inv x' (L.setIfInBounds i true) w') ((execOp ev o).run P w)
        else R i undef x w ∧ Inv x (L.setIfInBounds i true) w) : GStepAt P ops a0 R Pres Inv i o := by
  intro x L ev w hI hk hp hA
  rw [hg]; exact h x L ev w hI hk hp hA
theorem getD_setb {L : Array Bool} {i c0 : Nat} (hi : i ≠ c0) : (L.setIfInBounds i true).getD c0 false = L.getD c0 false := by
  rw [Array.getD_eq_getD_getElem?, Array.getD_eq_getD_getElem?, Array.getElem?_setIfInBounds_ne hi]
theorem getD_sets {L : Array Bool} {i : Nat} (h : L.getD i true = false) : (L.setIfInBounds i true).getD i false = true := by
  have hi : i < L.size := by
    rcases Nat.lt_or_ge i L.size with h' | h'
    · exact h'
    · rw [Array.getD_eq_getD_getElem?, Array.getElem?_eq_none h'] at h; cases h
  rw [Array.getD_eq_getD_getElem?, Array.getElem?_setIfInBounds_self_of_lt hi]; rfl
end Go.Proofs.YtdghgmaoamjnlaaGreat.Reg

namespace Go.Proofs.YtdghgmaoamjnlaaGreat
open Go.RowKit Go.Sort

theorem ptrs_set {cs : List (Nat × Cl)} {i cb : Nat} {C C' : Cl} (hi : cs[i]? = some (cb, C)) : ptrs (cs.set i (cb, C')) = ptrs cs := by
  apply List.ext_getElem?
  intro j
  unfold ptrs
  rw [List.getElem?_map, List.getElem?_map, List.getElem?_set]
  by_cases e : i = j
  · subst e
    rw [if_pos rfl, if_pos (List.getElem?_eq_some_iff.1 hi).1, hi]; rfl
  · rw [if_neg e]
theorem set_fst {cs : List (Nat × Cl)} {i cb : Nat} {C C' : Cl} (hi : cs[i]? = some (cb, C)) : (cs.set i (cb, C')).map Prod.fst = cs.map Prod.fst := by
  apply List.ext_getElem?
  intro j
  rw [List.getElem?_map, List.getElem?_map, List.getElem?_set]
  by_cases e : i = j
  · subst e
    rw [if_pos rfl, if_pos (List.getElem?_eq_some_iff.1 hi).1, hi]; rfl
  · rw [if_neg e]
theorem mem_set_ne {cs : List (Nat × Cl)} {i cb : Nat} {C C' : Cl} (hi : cs[i]? = some (cb, C)) (hd : cs.Pairwise (fun p q => p.1 ≠ q.1)) {p : Nat × Cl} (hp : p ∈ cs.set i (cb, C')) : p = (cb, C') ∨ (p ∈ cs ∧ p.1 ≠ cb) := by
  obtain ⟨j, hj, e⟩ := List.mem_iff_getElem.1 hp
  rw [List.getElem_set] at e
  by_cases h : i = j
  · rw [if_pos h] at e; exact .inl e.symm
  · rw [if_neg h] at e
    rw [List.length_set] at hj
    obtain ⟨hil, hiv⟩ := List.getElem?_eq_some_iff.1 hi
    refine .inr ⟨e ▸ List.getElem_mem hj, fun q => ?_⟩
    rw [List.pairwise_iff_getElem] at hd
    rcases Nat.lt_or_gt_of_ne h with h | h
    · exact hd i j hil hj h (by rw [hiv, e]; exact q.symm)
    · exact hd j i hj hil h (by rw [hiv, e]; exact q)
/-- What a thread is at, laid anew. -/
theorem RecAt.under {w w' : World} {rb eb : Nat} {a : Option Addr} {cap : Nat} {cs : List (Nat × Cl)} {U U' : Nat → Option Nat} (h : RecAt w rb eb a cap cs U) (hb : But (fun j => j = rb) w w') (hB : BoxAt w' rb (rcells eb a cs.length cap U')) : RecAt w' rb eb a cap cs U' :=
  ⟨hB, h.sl.but hb (fun j hj e => h.na (by subst e; exact hj)), fun p hp => (h.cl p hp).but hb (h.nb p hp).1, h.nd, h.nb, h.na⟩
/-- A call laid anew. -/
theorem RecAt.upd {w w' : World} {rb eb : Nat} {a : Option Addr} {cap : Nat} {cs : List (Nat × Cl)} {U : Nat → Option Nat} {i cb : Nat} {C : Cl} (h : RecAt w rb eb a cap cs U) (hi : cs[i]? = some (cb, C)) (hb : But (fun j => j = cb) w w') (C' : Cl) (hC : BoxAt w' cb C'.l) :
    RecAt w' rb eb a cap (cs.set i (cb, C')) U := by
  have hm : (cb, C) ∈ cs := List.mem_of_getElem? hi
  obtain ⟨n1, n2⟩ := h.nb _ hm
  refine ⟨?_, ?_, ?_, ?_, ?_, h.na⟩
  · rw [List.length_set]; exact h.box.but hb (fun e => n1 e.symm)
  · rw [List.length_set, ptrs_set hi]; exact h.sl.but hb (fun j hj e => n2 (by subst e; exact hj))
  · intro p hp
    rcases mem_set_ne hi h.nd hp with e | ⟨e1, e2⟩
    · subst e; exact hC
    · exact (h.cl p e1).but hb e2
  · have : ∀ l : List (Nat × Cl), l.Pairwise (fun p q => p.1 ≠ q.1) ↔ (l.map Prod.fst).Pairwise (fun p q => p ≠ q) := fun l => (List.pairwise_map).symm
    rw [this, set_fst hi, ← this]; exact h.nd
  · intro p hp
    rcases mem_set_ne hi h.nd hp with e | ⟨e1, e2⟩
    · subst e
      have := h.nb (cb, C) hm
      exact this
    · exact h.nb p e1
theorem RK_set {rb : Nat} {a : Option Addr} {cs : List (Nat × Cl)} {i cb : Nat} {C C' : Cl} (hi : cs[i]? = some (cb, C)) {k : Nat} (h : RK rb a (cs.set i (cb, C')) k) : RK rb a cs k := by
  rcases h with h | h | ⟨p, hp, h⟩
  · exact .inl h
  · exact .inr (.inl h)
  · refine .inr (.inr ?_)
    obtain ⟨j, hj, e⟩ := List.mem_iff_getElem.1 hp
    rw [List.getElem_set] at e
    by_cases q : i = j
    · rw [if_pos q] at e
      exact ⟨(cb, C), List.mem_of_getElem? hi, by rw [← h, ← e]⟩
    · rw [if_neg q] at e
      rw [List.length_set] at hj
      exact ⟨p, e ▸ List.getElem_mem hj, h⟩

def rendR (cb rb vb eb : Nat) (st se : Int) (A : Ans) : List (Value → Nat → World → Prop) :=
  [fun v _ _ => v = .pointer (some ⟨cb, 0, none⟩),
   fun v _ _ => v = .pointer (some ⟨cb, 0, none⟩),
   fun v _ _ => v = .pointer (some ⟨rb, 0, none⟩),
   fun v _ _ => v = .pointer (some ⟨rb, 0, none⟩),
   fun v _ _ => v = .pointer (some ⟨rb, 0, none⟩),
   fun v _ _ => v = .pointer (some ⟨eb, 0, none⟩),
   fun v _ _ => v = .int .i64 st,
   fun v _ _ => v = .int .i64 se,
   fun v _ _ => v = .pointer (some ⟨vb, 7, none⟩),
   fun v _ _ => v = .agg #[.bool A.ok, .float .f64 A.pri, .int .i64 A.val, .int .i64 A.n],
   fun v _ _ => v = .pointer (some ⟨cb, 0, none⟩),
   fun v _ _ => v = .pointer (some ⟨cb, 7, none⟩),
   fun _ _ _ => True,
   fun v _ _ => v = .pointer (some ⟨cb, 0, none⟩),
   fun v _ _ => v = .pointer (some ⟨cb, 8, none⟩),
   fun _ _ _ => True]
theorem rendR_kept (cb rb vb eb : Nat) (st se : Int) (A : Ans) : Reg.GAllKept (Reg.PPres (fun j => j = cb)) (rendR cb rb vb eb st se A) :=
  ⟨(fun _ _ _ _ _ _ h => h), (fun _ _ _ _ _ _ h => h), (fun _ _ _ _ _ _ h => h), (fun _ _ _ _ _ _ h => h), (fun _ _ _ _ _ _ h => h), (fun _ _ _ _ _ _ h => h), (fun _ _ _ _ _ _ h => h), (fun _ _ _ _ _ _ h => h), (fun _ _ _ _ _ _ h => h), (fun _ _ _ _ _ _ h => h), (fun _ _ _ _ _ _ h => h), (fun _ _ _ _ _ _ h => h), (fun _ _ _ _ _ _ _ => trivial), (fun _ _ _ _ _ _ h => h), (fun _ _ _ _ _ _ h => h), (fun _ _ _ _ _ _ _ => trivial), trivial⟩

set_option maxRecDepth 20000 in
set_option maxHeartbeats 4000000 in
theorem rend_any (rb eb : Nat) (a : Option Addr) (cap : Nat) (cs : List (Nat × Cl)) (U : Nat → Option Nat) (kind param : Int) (T : TypeId) (mv : Value) (mb : Nat) (Q : Nat → Option Nat) (closed : Bool) (st se : Int) (hse : IntKind.i64.wrap (st - 1) = se) (t i cb : Nat) (C : Cl) (ht : t < 6) (hi : cs[i]? = some (cb, C)) (hU : U t = some cb) (FF : Fr) (A : Ans) (dd : Bool) (w : World)
    (hE : BoxAt w eb (ecells kind param T mv mb Q closed st)) (hR : RecAt w rb eb a cap cs U) (hne : ¬ RK rb a cs eb) :
    Calls Tryz.prog 104 #[.pointer (some ⟨rb, 0, none⟩), evV t FF A dd] w fun e w' => e = .returned (.tuple #[]) ∧ RecAt w' rb eb a cap (cs.set i (cb, { C with fin := se, ans := A })) (qset U t none) ∧ But (RK rb a cs) w w' := by
  have hsf := run_store_flt (P := Tryz.prog)
  have hm : (cb, C) ∈ cs := List.mem_of_getElem? hi
  obtain ⟨vb, hvb⟩ : ∃ vb, w.heap.size = vb := ⟨_, rfl⟩
  obtain ⟨W1, hW1⟩ : ∃ W1, w.alloc (.cells #[.int .i64 (t : Int), .int .i64 FF.kind, .float .f64 FF.pri, .int .i64 FF.val, .int .i64 FF.d0, .int .i64 FF.d1, .bool dd, .bool A.ok, .float .f64 A.pri, .int .i64 A.val, .int .i64 A.n] 101) = W1 := ⟨_, rfl⟩
  have hV := BoxAt.new w [.int .i64 (t : Int), .int .i64 FF.kind, .float .f64 FF.pri, .int .i64 FF.val, .int .i64 FF.d0, .int .i64 FF.d1, .bool dd, .bool A.ok, .float .f64 A.pri, .int .i64 A.val, .int .i64 A.n] 101
  rw [show w.alloc (.cells [.int .i64 (t : Int), .int .i64 FF.kind, .float .f64 FF.pri, .int .i64 FF.val, .int .i64 FF.d0, .int .i64 FF.d1, .bool dd, .bool A.ok, .float .f64 A.pri, .int .i64 A.val, .int .i64 A.n].toArray 101) = W1 from hW1, hvb] at hV
  have hb1 : Below w.heap.size w W1 := by rw [← hW1]; exact (Below.refl _ _).alloc (Nat.le_refl _) _
  have hR1 := hR.below hb1
  have hE1 := hE.below hb1
  have v0 := (hV.get 0 _ rfl).1
  have hvl := hV.lt
  have u0 := (hR1.box.get (2 + t) _ (rcells_thread eb a cs.length cap U t ht)).1
  rw [hU] at u0
  replace u0 : W1.cell? ⟨rb, 2 + t, none⟩ = some (.pointer (some ⟨cb, 0, none⟩)) := u0
  have hrl := hR1.box.lt
  obtain ⟨W2, hW2⟩ : ∃ W2, W1.drew = W2 := ⟨_, rfl⟩
  have hR2 : RecAt W2 rb eb a cap cs U := by rw [← hW2]; exact hR1.below (Below.refl _ _).drew
  have hE2 : BoxAt W2 eb (ecells kind param T mv mb Q closed st) := by rw [← hW2]; exact hE1.drew
  have hV2 := hV.drew
  rw [hW2] at hV2
  have hb2 : Below w.heap.size w W2 := by rw [← hW2]; exact hb1.drew
  have hcr : cb ≠ rb := (hR.nb _ hm).1
  have hce : cb ≠ eb := fun e => hne (.inr (.inr ⟨_, hm, e⟩))
  have hcv : cb ≠ vb := fun e => by have := (hR.cl _ hm).lt; have : cb < w.heap.size := this; omega
  have hrv : rb ≠ vb := fun e => by have := hR.box.lt; omega
  have HRB := hidq (And.intro hR2.box (fun e => hcr e.symm : ¬ rb = cb))
  have HVB := hidq (And.intro hV2 (fun e => hcv e.symm : ¬ vb = cb))
  have HST := hidq (fun W (hW : But (fun j => j = cb) W2 W) => steps_any eb kind param T mv mb Q closed st W (hE2.but hW (fun e => hce e.symm)))
  have HB : Hid (BoxAt W2 cb C.l) := hR2.cl _ hm
  have HR := hidq (And.intro hR2 (And.intro hb2 (And.intro hcr (And.intro hi (And.intro hm hrv)))))
  clear hV hb1 hR1 hE1 hR2 hE2 hV2 hb2 hcr hce hcv hrv hE hR hne hm hi hU
  have HW2 := hidq hW2
  clear hW2
  go_enter Tryz.func104, Tryz.ntmps104
  go_wp2
  go_region
  rw [HW2.out]
  clear HW2 hvl u0 v0 hrl hW1
  have HF : ∀ x w w', Below w.heap.size w w' → (fun x w => (x = 0 → BoxAt w cb C.l) ∧ (x = 1 → BoxAt w cb (C.l.set 7 (.int .i64 se))) ∧ (x = 2 → BoxAt w cb (((((C.l.set 7 (.int .i64 se)).set 8 (.bool A.ok)).set 9 (.float .f64 A.pri)).set 10 (.int .i64 A.val)).set 11 (.int .i64 A.n)))) x w → (fun x w => (x = 0 → BoxAt w cb C.l) ∧ (x = 1 → BoxAt w cb (C.l.set 7 (.int .i64 se))) ∧ (x = 2 → BoxAt w cb (((((C.l.set 7 (.int .i64 se)).set 8 (.bool A.ok)).set 9 (.float .f64 A.pri)).set 10 (.int .i64 A.val)).set 11 (.int .i64 A.n)))) x w' := fun x w w' hb hh => ⟨fun e => (hh.1 e).below hb, fun e => (hh.2.1 e).below hb, fun e => (hh.2.2 e).below hb⟩
  go_wp2_with fail
  refine Reg.wp_region_ghost (Reg.gofList (rendR cb rb vb eb st se A)) (Reg.PPres (fun j => j = cb)) (Reg.PInv [12, 15] (fun j => j = cb) W2 (fun x w => (x = 0 → BoxAt w cb C.l) ∧ (x = 1 → BoxAt w cb (C.l.set 7 (.int .i64 se))) ∧ (x = 2 → BoxAt w cb (((((C.l.set 7 (.int .i64 se)).set 8 (.bool A.ok)).set 9 (.float .f64 A.pri)).set 10 (.int .i64 A.val)).set 11 (.int .i64 A.n))))) 0 (by kernel_rfl) (by kernel_rfl) (Reg.GAllKept.at _ (rendR_kept cb rb vb eb st se A)) (Reg.PInv.start 16 ⟨fun _ => HB.out.drew, (fun e => by cases e), (fun e => by cases e)⟩) ⟨?_, ?_, ?_, ?_, ?_, ?_, ?_, ?_, ?_, ?_, ?_, ?_, ?_, ?_, ?_, ?_, trivial⟩ ?_
  · refine Reg.GStepAt.plain (i := 0) rfl ?_
    intro x L ev w hI hk hp hA
    have e4 : ev (.tmp 4) = .pointer (some ⟨cb, 0, none⟩) := hA.oldNone 4 (by kernel_rfl)
    have hcc := hA.const
    clear hA hp
    refine Reg.out_value (v := .pointer (some ⟨cb, 0, none⟩)) ?_ ⟨x, rfl, Reg.PPres.refl _ _ _, Reg.PInv.light HF hI 0 (by decide) (Below.refl _ _)⟩
    go_simp
  · refine Reg.GStepAt.plain (i := 1) rfl ?_
    intro x L ev w hI hk hp hA
    have e4 : ev (.tmp 4) = .pointer (some ⟨cb, 0, none⟩) := hA.oldNone 4 (by kernel_rfl)
    have hcc := hA.const
    clear hA hp
    refine Reg.out_value (v := .pointer (some ⟨cb, 0, none⟩)) ?_ ⟨x, rfl, Reg.PPres.refl _ _ _, Reg.PInv.light HF hI 1 (by decide) (Below.refl _ _)⟩
    go_simp
  · refine Reg.GStepAt.plain (i := 2) rfl ?_
    intro x L ev w hI hk hp hA
    have e0 : ev (.tmp 0) = .pointer (some ⟨rb, 0, none⟩) := hA.oldNone 0 (by kernel_rfl)
    have hcc := hA.const
    clear hA hp
    refine Reg.out_value (v := .pointer (some ⟨rb, 0, none⟩)) ?_ ⟨x, rfl, Reg.PPres.refl _ _ _, Reg.PInv.light HF hI 2 (by decide) (Below.refl _ _)⟩
    go_simp
  · refine Reg.GStepAt.plain (i := 3) rfl ?_
    intro x L ev w hI hk hp hA
    have e16 : ev (.tmp 16) = .pointer (some ⟨rb, 0, none⟩) := hA.val 2 _ 16 rfl (hp ⟨2, .data⟩ (by simp) rfl) rfl
    have hcc := hA.const
    clear hA hp
    refine Reg.out_value (v := .pointer (some ⟨rb, 0, none⟩)) ?_ ⟨x, rfl, Reg.PPres.refl _ _ _, Reg.PInv.light HF hI 3 (by decide) (Below.refl _ _)⟩
    go_simp
  · refine Reg.GStepAt.plain (i := 4) rfl ?_
    intro x L ev w hI hk hp hA
    have e17 : ev (.tmp 17) = .pointer (some ⟨rb, 0, none⟩) := hA.val 3 _ 17 rfl (hp ⟨3, .data⟩ (by simp) rfl) rfl
    have hcc := hA.const
    clear hA hp
    refine Reg.out_value (v := .pointer (some ⟨rb, 0, none⟩)) ?_ ⟨x, rfl, Reg.PPres.refl _ _ _, Reg.PInv.light HF hI 4 (by decide) (Below.refl _ _)⟩
    go_simp
  · refine Reg.GStepAt.plain (i := 5) rfl ?_
    intro x L ev w hI hk hp hA
    have e18 : ev (.tmp 18) = .pointer (some ⟨rb, 0, none⟩) := hA.val 4 _ 18 rfl (hp ⟨4, .data⟩ (by simp) rfl) rfl
    have hcc := hA.const
    clear hA hp
    have f0 := ((HRB.out.1.but hI.2.1 HRB.out.2).get 0 _ rfl).1
    have hrl := (HRB.out.1.but hI.2.1 HRB.out.2).lt
    have v7 := ((HVB.out.1.but hI.2.1 HVB.out.2).get 7 _ rfl).1
    have v8 := ((HVB.out.1.but hI.2.1 HVB.out.2).get 8 _ rfl).1
    have v9 := ((HVB.out.1.but hI.2.1 HVB.out.2).get 9 _ rfl).1
    have v10 := ((HVB.out.1.but hI.2.1 HVB.out.2).get 10 _ rfl).1
    have hvl := (HVB.out.1.but hI.2.1 HVB.out.2).lt
    refine Reg.out_value (v := .pointer (some ⟨eb, 0, none⟩)) ?_ ⟨x, rfl, Reg.PPres.refl _ _ _, Reg.PInv.light HF hI 5 (by decide) (Below.refl _ _)⟩
    go_simp
  · refine Reg.GStepAt.plain (i := 6) rfl ?_
    intro x L ev w hI hk hp hA
    have e19 : ev (.tmp 19) = .pointer (some ⟨eb, 0, none⟩) := hA.val 5 _ 19 rfl (hp ⟨5, .data⟩ (by simp) rfl) rfl
    have hcc := hA.const
    have hcf := hA.func
    clear hA hp
    refine Reg.out_call (f := 75) (args := #[.pointer (some ⟨eb, 0, none⟩)]) (w0 := w) ?_ ?_
    · go_simp
    refine (HST.out w hI.2.1).mono ?_
    rintro e w' ⟨rfl, hw⟩
    subst hw; exact ⟨_, rfl, x, rfl, Reg.PPres.light (Below.refl _ _), Reg.PInv.light HF hI 6 (by decide) (Below.refl _ _)⟩
  · refine Reg.GStepAt.plain (i := 7) rfl ?_
    intro x L ev w hI hk hp hA
    have e20 : ev (.tmp 20) = .int .i64 st := hA.val 6 _ 20 rfl (hp ⟨6, .data⟩ (by simp) rfl) rfl
    have hcc := hA.const
    clear hA hp
    refine Reg.out_value (v := .int .i64 se) ?_ ⟨x, rfl, Reg.PPres.refl _ _ _, Reg.PInv.light HF hI 7 (by decide) (Below.refl _ _)⟩
    go_simp
  · refine Reg.GStepAt.plain (i := 8) rfl ?_
    intro x L ev w hI hk hp hA
    have e3 : ev (.tmp 3) = .pointer (some ⟨vb, 0, none⟩) := hA.oldNone 3 (by kernel_rfl)
    have hcc := hA.const
    clear hA hp
    refine Reg.out_value (v := .pointer (some ⟨vb, 7, none⟩)) ?_ ⟨x, rfl, Reg.PPres.refl _ _ _, Reg.PInv.light HF hI 8 (by decide) (Below.refl _ _)⟩
    go_simp
  · refine Reg.GStepAt.plain (i := 9) rfl ?_
    intro x L ev w hI hk hp hA
    have e22 : ev (.tmp 22) = .pointer (some ⟨vb, 7, none⟩) := hA.val 8 _ 22 rfl (hp ⟨8, .data⟩ (by simp) rfl) rfl
    have hcc := hA.const
    clear hA hp
    have f0 := ((HRB.out.1.but hI.2.1 HRB.out.2).get 0 _ rfl).1
    have hrl := (HRB.out.1.but hI.2.1 HRB.out.2).lt
    have v7 := ((HVB.out.1.but hI.2.1 HVB.out.2).get 7 _ rfl).1
    have v8 := ((HVB.out.1.but hI.2.1 HVB.out.2).get 8 _ rfl).1
    have v9 := ((HVB.out.1.but hI.2.1 HVB.out.2).get 9 _ rfl).1
    have v10 := ((HVB.out.1.but hI.2.1 HVB.out.2).get 10 _ rfl).1
    have hvl := (HVB.out.1.but hI.2.1 HVB.out.2).lt
    refine Reg.out_value (v := .agg #[.bool A.ok, .float .f64 A.pri, .int .i64 A.val, .int .i64 A.n]) ?_ ⟨x, rfl, Reg.PPres.refl _ _ _, Reg.PInv.light HF hI 9 (by decide) (Below.refl _ _)⟩
    go_simp
  · refine Reg.GStepAt.plain (i := 10) rfl ?_
    intro x L ev w hI hk hp hA
    have e14 : ev (.tmp 14) = .pointer (some ⟨cb, 0, none⟩) := hA.val 0 _ 14 rfl (hp ⟨0, .data⟩ (by simp) rfl) rfl
    have hcc := hA.const
    clear hA hp
    refine Reg.out_value (v := .pointer (some ⟨cb, 0, none⟩)) ?_ ⟨x, rfl, Reg.PPres.refl _ _ _, Reg.PInv.light HF hI 10 (by decide) (Below.refl _ _)⟩
    go_simp
  · refine Reg.GStepAt.plain (i := 11) rfl ?_
    intro x L ev w hI hk hp hA
    have e24 : ev (.tmp 24) = .pointer (some ⟨cb, 0, none⟩) := hA.val 10 _ 24 rfl (hp ⟨10, .data⟩ (by simp) rfl) rfl
    have hcc := hA.const
    clear hA hp
    refine Reg.out_value (v := .pointer (some ⟨cb, 7, none⟩)) ?_ ⟨x, rfl, Reg.PPres.refl _ _ _, Reg.PInv.light HF hI 11 (by decide) (Below.refl _ _)⟩
    go_simp
  · refine Reg.GStepAt.plain (i := 12) rfl ?_
    intro x L ev w hI hk hp hA
    have e25 : ev (.tmp 25) = .pointer (some ⟨cb, 7, none⟩) := hA.val 11 _ 25 rfl (hp ⟨11, .data⟩ (by simp) rfl) rfl
    have e21 : ev (.tmp 21) = .int .i64 se := hA.val 7 _ 21 rfl (hp ⟨7, .data⟩ (by simp) rfl) rfl
    have hcc := hA.const
    have NL := Reg.not_listed hA 12 15 _ rfl ⟨12, .chain⟩ (by simp) rfl hk
    clear hA hp
    have hx : x = 0 := hI.1.trans (Reg.cnt_zero2 (Reg.getD_true hk) NL)
    have hT := hI.2.2.1 hx
    obtain ⟨c7, y7⟩ := hT.get 7 _ rfl
    have hset := hT.set 7 (.int .i64 se)
    have hbS : But (fun j => j = cb) w (w.setCell ⟨cb, 7, none⟩ (.int .i64 se)) := (But.refl (fun j => j = cb) w).set1 cb 7 rfl _
    refine Reg.out_skipP (w' := w.setCell ⟨cb, 7, none⟩ (.int .i64 se)) ?_ ⟨x + 1, trivial, Reg.PPres.heavy hbS, Reg.PInv.heavy hI 12 (by decide) (by simp) hk hbS ⟨fun e => by omega, fun e => hset, fun e => by omega⟩⟩
    clear hI hset hT hbS
    go_simp
  · refine Reg.GStepAt.plain (i := 13) rfl ?_
    intro x L ev w hI hk hp hA
    have e15 : ev (.tmp 15) = .pointer (some ⟨cb, 0, none⟩) := hA.val 1 _ 15 rfl (hp ⟨1, .data⟩ (by simp) rfl) rfl
    have hcc := hA.const
    clear hA hp
    refine Reg.out_value (v := .pointer (some ⟨cb, 0, none⟩)) ?_ ⟨x, rfl, Reg.PPres.refl _ _ _, Reg.PInv.light HF hI 13 (by decide) (Below.refl _ _)⟩
    go_simp
  · refine Reg.GStepAt.plain (i := 14) rfl ?_
    intro x L ev w hI hk hp hA
    have e26 : ev (.tmp 26) = .pointer (some ⟨cb, 0, none⟩) := hA.val 13 _ 26 rfl (hp ⟨13, .data⟩ (by simp) rfl) rfl
    have hcc := hA.const
    clear hA hp
    refine Reg.out_value (v := .pointer (some ⟨cb, 8, none⟩)) ?_ ⟨x, rfl, Reg.PPres.refl _ _ _, Reg.PInv.light HF hI 14 (by decide) (Below.refl _ _)⟩
    go_simp
  · refine Reg.GStepAt.plain (i := 15) rfl ?_
    intro x L ev w hI hk hp hA
    have e27 : ev (.tmp 27) = .pointer (some ⟨cb, 8, none⟩) := hA.val 14 _ 27 rfl (hp ⟨14, .data⟩ (by simp) rfl) rfl
    have e23 : ev (.tmp 23) = .agg #[.bool A.ok, .float .f64 A.pri, .int .i64 A.val, .int .i64 A.n] := hA.val 9 _ 23 rfl (hp ⟨9, .data⟩ (by simp) rfl) rfl
    have hcc := hA.const
    have L12 : L.getD 12 false = true := hp ⟨12, .chain⟩ (by simp) rfl
    clear hA hp
    have hx : x = 1 := hI.1.trans (Reg.cnt_one2 L12 (Reg.getD_true hk))
    have hT := hI.2.2.2.1 hx
    obtain ⟨c8, y8⟩ := hT.get 8 _ rfl
    obtain ⟨c9, y9⟩ := hT.get 9 _ rfl
    obtain ⟨c10, y10⟩ := hT.get 10 _ rfl
    obtain ⟨c11, y11⟩ := hT.get 11 _ rfl
    have hset := setBox_box [(8, .bool A.ok), (9, .float .f64 A.pri), (10, .int .i64 A.val), (11, .int .i64 A.n)] hT
    have hbS := setBox_but cb [(8, .bool A.ok), (9, .float .f64 A.pri), (10, .int .i64 A.val), (11, .int .i64 A.n)] w
    refine Reg.out_skipP (w' := setBox w cb [(8, .bool A.ok), (9, .float .f64 A.pri), (10, .int .i64 A.val), (11, .int .i64 A.n)]) ?_ ⟨x + 1, trivial, Reg.PPres.heavy hbS, Reg.PInv.heavy hI 15 (by decide) (by simp) hk hbS ⟨fun e => by omega, fun e => by omega, fun e => hset⟩⟩
    clear hI hset hT hbS
    simp only [setBox]
    go_simp
  intro gx L act wz hall hI hF
  have g14 : act.eval (.tmp 14) = .pointer (some ⟨cb, 0, none⟩) := hF.val 0 _ 14 rfl (hall 0 (by simp)) rfl
  have g15 : act.eval (.tmp 15) = .pointer (some ⟨cb, 0, none⟩) := hF.val 1 _ 15 rfl (hall 1 (by simp)) rfl
  have g16 : act.eval (.tmp 16) = .pointer (some ⟨rb, 0, none⟩) := hF.val 2 _ 16 rfl (hall 2 (by simp)) rfl
  have g17 : act.eval (.tmp 17) = .pointer (some ⟨rb, 0, none⟩) := hF.val 3 _ 17 rfl (hall 3 (by simp)) rfl
  have g18 : act.eval (.tmp 18) = .pointer (some ⟨rb, 0, none⟩) := hF.val 4 _ 18 rfl (hall 4 (by simp)) rfl
  have g19 : act.eval (.tmp 19) = .pointer (some ⟨eb, 0, none⟩) := hF.val 5 _ 19 rfl (hall 5 (by simp)) rfl
  have g20 : act.eval (.tmp 20) = .int .i64 st := hF.val 6 _ 20 rfl (hall 6 (by simp)) rfl
  have g21 : act.eval (.tmp 21) = .int .i64 se := hF.val 7 _ 21 rfl (hall 7 (by simp)) rfl
  have g22 : act.eval (.tmp 22) = .pointer (some ⟨vb, 7, none⟩) := hF.val 8 _ 22 rfl (hall 8 (by simp)) rfl
  have g23 : act.eval (.tmp 23) = .agg #[.bool A.ok, .float .f64 A.pri, .int .i64 A.val, .int .i64 A.n] := hF.val 9 _ 23 rfl (hall 9 (by simp)) rfl
  have g24 : act.eval (.tmp 24) = .pointer (some ⟨cb, 0, none⟩) := hF.val 10 _ 24 rfl (hall 10 (by simp)) rfl
  have g25 : act.eval (.tmp 25) = .pointer (some ⟨cb, 7, none⟩) := hF.val 11 _ 25 rfl (hall 11 (by simp)) rfl
  have g26 : act.eval (.tmp 26) = .pointer (some ⟨cb, 0, none⟩) := hF.val 13 _ 26 rfl (hall 13 (by simp)) rfl
  have g27 : act.eval (.tmp 27) = .pointer (some ⟨cb, 8, none⟩) := hF.val 14 _ 27 rfl (hall 14 (by simp)) rfl
  have hact := hF.act [14, 15, 16, 17, 18, 19, 20, 21, 22, 23, 24, 25, 26, 27] (by kernel_rfl)
  obtain ⟨hxz, hBz, hFz⟩ := Reg.PInv.done hI (fun j hj => hall j (by simp at hj ⊢; omega))
  clear hF hall
  simp only [List.foldl_cons, List.foldl_nil] at hact
  rw [g14, g15, g16, g17, g18, g19, g20, g21, g22, g23, g24, g25, g26, g27] at hact
  clear g14 g15 g16 g17 g18 g19 g20 g21 g22 g23 g24 g25 g26 g27
  simp only [List.setIfInBounds_toArray, List.set_cons_succ, List.set_cons_zero] at hact
  subst hact
  obtain ⟨hR2, hb2, hcr, hi, hm, hrv⟩ := HR.out
  have hC := (hFz.2.2 rfl).same (show _ = Cl.l { C with fin := se, ans := A } from rfl)
  have hR3 := hR2.upd hi hBz { C with fin := se, ans := A } hC
  have hV3 := HVB.out.1.but hBz HVB.out.2
  have v0 := (hV3.get 0 _ rfl).1
  have hvl := hV3.lt
  obtain ⟨u0, y0⟩ := hR3.box.get (2 + t) _ (rcells_thread eb a (cs.set i (cb, { C with fin := se, ans := A })).length cap U t ht)
  have hrl := hR3.box.lt
  have H3 := hidq hR3
  have HBz := hidq hBz
  clear hR2 hb2 hcr hi hm hrv hC hR3 hV3 hBz hFz HF HB HRB HVB HST
  go_wp2_with fail
  go_region
  have hR3 := H3.out
  have hBz := HBz.out
  obtain ⟨hR2, hb2, hcr, hi, hm, hrv⟩ := HR.out
  have hb5 : But (fun j => j = rb) wz (wz.setCell ⟨rb, 2 + t, none⟩ (.pointer none)).drew := ((But.refl (fun j => j = rb) wz).set1 rb (2 + t) rfl _).drew
  have HX := hidq (show RecAt (wz.setCell ⟨rb, 2 + t, none⟩ (.pointer none)).drew rb eb a cap (cs.set i (cb, { C with fin := se, ans := A })) (qset U t none) ∧ But (RK rb a cs) w (wz.setCell ⟨rb, 2 + t, none⟩ (.pointer none)).drew from
    ⟨hR3.under hb5 (((hR3.box.set (2 + t) (eptr none)).same (rcells_set eb a (cs.set i (cb, { C with fin := se, ans := A })).length cap U t ht none)).drew), (((But.of_below hb2).then hBz (fun k _ e => .inr (.inr ⟨_, hm, e.symm⟩))).then hb5 (fun k _ e => .inl e))⟩)
  clear H3 HBz HR hR3 hBz hR2 hb2 hcr hi hm hrv hb5 v0 hvl u0 y0 hrl
  go_wp2_with fail
  exact bodyPost_end (results_none Tryz.results104 _ _ _) rfl ⟨rfl, HX.out⟩
end Go.Proofs.YtdghgmaoamjnlaaGreat

namespace Go.Proofs.YtdghgmaoamjnlaaGreat
open Go.RowKit Go.Sort

/-- What is written down behind a step. -/
def csAfter (cs : List (Nat × Cl)) (i cb : Nat) (C : Cl) (se : Int) (A : Ans) (d : Bool) : List (Nat × Cl) := if d = true then cs.set i (cb, { C with fin := se, ans := A }) else cs
/-- How a pick of a recorder ends. -/
def RPickEnd (rb eb : Nat) (a : Option Addr) (cap : Nat) (cs : List (Nat × Cl)) (U : Nat → Option Nat) (kind param : Int) (T : TypeId) (mv : Value) (mb : Nat) (Q : Nat → Option Nat) (closed : Bool) (steps : Nat) (t fb : Nat) (O P : Nat → Prop) (r : Mem × Fr × Ans × Bool) (i cb : Nat) (C : Cl) (w : World) (e : Ending) (w' : World) : Prop :=
  e = .returned (.tuple #[evV t r.2.1 r.2.2.1 r.2.2.2, .bool true]) ∧ BoxAt w' eb (ecells kind param T mv mb (if r.2.2.2 = true then qset Q t none else Q) closed ((steps + 1 : Nat) : Int)) ∧
    RecAt w' rb eb a cap (csAfter cs i cb C (steps : Int) r.2.2.1 r.2.2.2) (if r.2.2.2 = true then qset U t none else U) ∧
    ∃ O' P', MemAt w' mb O' r.1 ∧ FrAt w' fb P' r.2.1 ∧ (∀ k, O' k → ¬ P' k) ∧ Grown O w w' O' ∧ Grown P w w' P' ∧ But (fun k => O k ∨ P k ∨ k = eb ∨ RK rb a cs k) w w'

set_option maxRecDepth 20000 in
set_option maxHeartbeats 8000000 in
theorem rpick_any (rb eb : Nat) (a : Option Addr) (cap : Nat) (cs : List (Nat × Cl)) (U : Nat → Option Nat) (kind param : Int) (T : TypeId) (mv : Value) (mb : Nat) (Q : Nat → Option Nat) (closed : Bool) (steps : Nat) (pick : Int) (t fb : Nat) (O P : Nat → Prop) (r : Mem × Fr × Ans × Bool) (i cb : Nat) (C : Cl) (w : World)
    (ht : t < 6) (hst : steps < 4611686018427387904) (hlt : ∀ k, O k ∨ P k → k < w.heap.size) (hel : eb < w.heap.size) (hR : RecAt w rb eb a cap cs U) (hne : ∀ k, RK rb a cs k → ¬ (O k ∨ P k ∨ k = eb)) (hd : r.2.2.2 = true → cs[i]? = some (cb, C) ∧ U t = some cb)
    (hP : ∀ W, Below w.heap.size w W → Calls Tryz.prog 35 #[.pointer (some ⟨eb, 0, none⟩), .int .i64 pick] W (PickEnd eb kind param T mv mb Q closed steps t fb O P r W)) :
    Calls Tryz.prog 56 #[.pointer (some ⟨rb, 0, none⟩), .int .i64 pick] w (RPickEnd rb eb a cap cs U kind param T mv mb Q closed steps t fb O P r i cb C w) := by
  have hsf := run_store_flt (P := Tryz.prog)
  obtain ⟨vb, hvb⟩ : ∃ vb, w.heap.size = vb := ⟨_, rfl⟩
  obtain ⟨W0, hW0⟩ : ∃ W0, w.alloc (.cells #[.int .i64 0, .int .i64 0, .float .f64 0, .int .i64 0, .int .i64 0, .int .i64 0, .bool false, .bool false, .float .f64 0, .int .i64 0, .int .i64 0] 101) = W0 := ⟨_, rfl⟩
  have hV0 := BoxAt.new w [.int .i64 0, .int .i64 0, .float .f64 0, .int .i64 0, .int .i64 0, .int .i64 0, .bool false, .bool false, .float .f64 0, .int .i64 0, .int .i64 0] 101
  rw [show w.alloc (.cells [.int .i64 0, .int .i64 0, .float .f64 0, .int .i64 0, .int .i64 0, .int .i64 0, .bool false, .bool false, .float .f64 0, .int .i64 0, .int .i64 0].toArray 101) = W0 from hW0, hvb] at hV0
  have hb0 : Below w.heap.size w W0 := by rw [← hW0]; exact (Below.refl _ _).alloc (Nat.le_refl _) _
  have hs0 : W0.heap.size = vb + 1 := by rw [← hW0]; simp [hvb]
  have hR0 := hR.below hb0
  have r0 := (hR0.box.get 0 _ rfl).1
  have hrl := hR0.box.lt
  have HP := hidq (hP W0 hb0)
  have HH := hidq (And.intro hV0 (And.intro hb0 (And.intro hs0 (And.intro hR0 (And.intro hlt (And.intro hne (And.intro hd (And.intro hvb (And.intro hel hR.lt)))))))))
  obtain ⟨M2, F2, A, d⟩ := r
  obtain ⟨aok, api, av, an⟩ := A
  dsimp only at *
  clear hV0 hb0 hs0 hR0 hR hlt hne hd hP hel
  go_enter Tryz.func56, Tryz.ntmps56
  go_wp2_with fail
  refine HP.out.mono ?_
  rintro e w1 ⟨rfl, hE1, O', P', hM1, hF1, hD1, hO1, hP1, hb1⟩
  clear HP
  dsimp only at *
  obtain ⟨hV0, hb0, hs0, hR0, hlt, hne, hd, _, hel, hRlt⟩ := HH.out
  have hR1 := hR0.but hb1 (fun k hk e => hne k hk e)
  have hV1 := hV0.but hb1 (fun e => by
    rcases e with e | e | e
    · have := hlt vb (.inl e); omega
    · have := hlt vb (.inr e); omega
    · omega)
  obtain ⟨xb, hxb⟩ : ∃ xb, w1.heap.size = xb := ⟨_, rfl⟩
  have hs1 := hb1.size
  have hOP : ∀ k, O' k ∨ P' k → k < xb ∧ k ≠ vb ∧ ¬ RK rb a cs k := fun k hk => by
    refine ⟨?_, ?_, fun e => ?_⟩
    · rw [← hxb]; exact hk.elim (hM1.lt k) (hF1.lt k)
    · intro e
      rcases hk with q | q
      · rcases hO1 k q with s | s
        · have := hlt k (.inl s); omega
        · omega
      · rcases hP1 k q with s | s
        · have := hlt k (.inr s); omega
        · omega
    · have hkl := hRlt k e
      rcases hk with q | q
      · rcases hO1 k q with s | s
        · exact hne k e (.inl s)
        · omega
      · rcases hP1 k q with s | s
        · exact hne k e (.inr (.inl s))
        · omega
  cases d with
  | false =>
    obtain ⟨W2, hW2⟩ : ∃ W2, w1.alloc (.cells #[.int .i64 (t : Int), .int .i64 F2.kind, .float .f64 F2.pri, .int .i64 F2.val, .int .i64 F2.d0, .int .i64 F2.d1, .bool false, .bool aok, .float .f64 api, .int .i64 av, .int .i64 an] 101) = W2 := ⟨_, rfl⟩
    have hX2 := BoxAt.new w1 [.int .i64 (t : Int), .int .i64 F2.kind, .float .f64 F2.pri, .int .i64 F2.val, .int .i64 F2.d0, .int .i64 F2.d1, .bool false, .bool aok, .float .f64 api, .int .i64 av, .int .i64 an] 101
    rw [show w1.alloc (.cells [.int .i64 (t : Int), .int .i64 F2.kind, .float .f64 F2.pri, .int .i64 F2.val, .int .i64 F2.d0, .int .i64 F2.d1, .bool false, .bool aok, .float .f64 api, .int .i64 av, .int .i64 an].toArray 101) = W2 from hW2, hxb] at hX2
    have hb2 : Below w1.heap.size w1 W2 := by rw [← hW2]; exact (Below.refl _ _).alloc (Nat.le_refl _) _
    have hs2 : W2.heap.size = xb + 1 := by rw [← hW2, ← hxb]; simp
    have hR2 := hR1.below hb2
    have hV2 := hV1.below hb2
    have hE2 := hE1.below hb2
    have hM2 := hM1.below hb2
    have hF2 := hF1.below hb2
    have hszz : xb ≤ W2.heap.size := by omega
    have hbW : But (fun k => O k ∨ P k ∨ k = eb ∨ RK rb a cs k) w W2 := ((But.of_below hb0).then hb1 (fun k _ e => e.elim .inl (fun q => .inr (q.elim .inl (fun s => .inr (.inl s)))))).trans (But.of_below hb2)
    have hxv : xb ≠ vb := by omega
    obtain ⟨Wv, hWv⟩ : ∃ Wv, setBox W2 vb [(0, .int .i64 (t : Int)), (1, .int .i64 F2.kind), (2, .float .f64 F2.pri), (3, .int .i64 F2.val), (4, .int .i64 F2.d0), (5, .int .i64 F2.d1), (6, .bool false), (7, .bool aok), (8, .float .f64 api), (9, .int .i64 av), (10, .int .i64 an)] = Wv := ⟨_, rfl⟩
    have hbv : But (fun j => j = vb) W2 Wv := by rw [← hWv]; exact setBox_but vb [(0, .int .i64 (t : Int)), (1, .int .i64 F2.kind), (2, .float .f64 F2.pri), (3, .int .i64 F2.val), (4, .int .i64 F2.d0), (5, .int .i64 F2.d1), (6, .bool false), (7, .bool aok), (8, .float .f64 api), (9, .int .i64 av), (10, .int .i64 an)] W2
    have hQV : BoxAt Wv vb [.int .i64 (t : Int), .int .i64 F2.kind, .float .f64 F2.pri, .int .i64 F2.val, .int .i64 F2.d0, .int .i64 F2.d1, .bool false, .bool aok, .float .f64 api, .int .i64 av, .int .i64 an] := by rw [← hWv]; exact (setBox_box [(0, .int .i64 (t : Int)), (1, .int .i64 F2.kind), (2, .float .f64 F2.pri), (3, .int .i64 F2.val), (4, .int .i64 F2.d0), (5, .int .i64 F2.d1), (6, .bool false), (7, .bool aok), (8, .float .f64 api), (9, .int .i64 av), (10, .int .i64 an)] hV2)
    dsimp only [setBox] at hWv
    have HWv := hidq hWv
    have HE := hidq (show RPickEnd rb eb a cap cs U kind param T mv mb Q closed steps t fb O P (M2, F2, ⟨aok, api, av, an⟩, false) i cb C w (.returned (.tuple #[evV t F2 ⟨aok, api, av, an⟩ false, .bool true])) Wv from by
      refine ⟨rfl, hE2.but hbv (fun e => by have : eb = vb := e; omega), hR2.but hbv (fun k hk e => by have : k = vb := e; have := hRlt k hk; omega), O', P', hM2.but hbv (fun k hk e => (hOP k (.inl hk)).2.1 e), hF2.but hbv (fun k hk e => (hOP k (.inr hk)).2.1 e), hD1, fun k hk => (hO1 k hk).imp id (fun q => ⟨by omega, ?_⟩), fun k hk => (hP1 k hk).imp id (fun q => ⟨by omega, ?_⟩), hbW.then hbv (fun k hk e => by omega)⟩
      · have := (hOP k (.inl hk)).1; have := hbv.size; have := hszz; omega
      · have := (hOP k (.inr hk)).1; have := hbv.size; have := hszz; omega)
    have HQZ := hidq hQV
    clear hQV hbv hWv
    obtain ⟨x0, _⟩ := hX2.get 0 _ rfl
    obtain ⟨x1, _⟩ := hX2.get 1 _ rfl
    obtain ⟨x2, _⟩ := hX2.get 2 _ rfl
    obtain ⟨x3, _⟩ := hX2.get 3 _ rfl
    obtain ⟨x4, _⟩ := hX2.get 4 _ rfl
    obtain ⟨x5, _⟩ := hX2.get 5 _ rfl
    obtain ⟨x6, _⟩ := hX2.get 6 _ rfl
    obtain ⟨x7, _⟩ := hX2.get 7 _ rfl
    obtain ⟨x8, _⟩ := hX2.get 8 _ rfl
    obtain ⟨x9, _⟩ := hX2.get 9 _ rfl
    obtain ⟨x10, _⟩ := hX2.get 10 _ rfl
    obtain ⟨v0, u0⟩ := hV2.get 0 _ rfl
    obtain ⟨v1, u1⟩ := hV2.get 1 _ rfl
    obtain ⟨v2, u2⟩ := hV2.get 2 _ rfl
    obtain ⟨v3, u3⟩ := hV2.get 3 _ rfl
    obtain ⟨v4, u4⟩ := hV2.get 4 _ rfl
    obtain ⟨v5, u5⟩ := hV2.get 5 _ rfl
    obtain ⟨v6, u6⟩ := hV2.get 6 _ rfl
    obtain ⟨v7, u7⟩ := hV2.get 7 _ rfl
    obtain ⟨v8, u8⟩ := hV2.get 8 _ rfl
    obtain ⟨v9, u9⟩ := hV2.get 9 _ rfl
    obtain ⟨v10, u10⟩ := hV2.get 10 _ rfl
    have hxl := hX2.lt
    have hvl := hV2.lt
    clear hR2 hV2 hE2 hM2 hF2 hX2 hb2 hR1 hV1 hE1 hM1 hF1 hb0 hb1 hOP hD1 hO1 hP1 hs0 hs1 hlt hne hd hel hRlt hV0 hR0 hvb r0 hrl HH hszz hbW
    go_wp2_with fail
    rw [HWv.out]
    have hQV := HQZ.out
    have q0 := (hQV.get 0 _ rfl).1
    have q1 := (hQV.get 1 _ rfl).1
    have q2 := (hQV.get 2 _ rfl).1
    have q3 := (hQV.get 3 _ rfl).1
    have q4 := (hQV.get 4 _ rfl).1
    have q5 := (hQV.get 5 _ rfl).1
    have q6 := (hQV.get 6 _ rfl).1
    have q7 := (hQV.get 7 _ rfl).1
    have q8 := (hQV.get 8 _ rfl).1
    have q9 := (hQV.get 9 _ rfl).1
    have q10 := (hQV.get 10 _ rfl).1
    clear hQV
    exact bodyPost_ret (v := .tuple #[evV t F2 ⟨aok, api, av, an⟩ false, .bool true]) (by simp [results, Tryz.results56, go_sem, q0, q1, q2, q3, q4, q5, q6, q7, q8, q9, q10]) rfl HE.out
  | true =>
    obtain ⟨W2, hW2⟩ : ∃ W2, w1.alloc (.cells #[.int .i64 (t : Int), .int .i64 F2.kind, .float .f64 F2.pri, .int .i64 F2.val, .int .i64 F2.d0, .int .i64 F2.d1, .bool true, .bool aok, .float .f64 api, .int .i64 av, .int .i64 an] 101) = W2 := ⟨_, rfl⟩
    have hX2 := BoxAt.new w1 [.int .i64 (t : Int), .int .i64 F2.kind, .float .f64 F2.pri, .int .i64 F2.val, .int .i64 F2.d0, .int .i64 F2.d1, .bool true, .bool aok, .float .f64 api, .int .i64 av, .int .i64 an] 101
    rw [show w1.alloc (.cells [.int .i64 (t : Int), .int .i64 F2.kind, .float .f64 F2.pri, .int .i64 F2.val, .int .i64 F2.d0, .int .i64 F2.d1, .bool true, .bool aok, .float .f64 api, .int .i64 av, .int .i64 an].toArray 101) = W2 from hW2, hxb] at hX2
    have hb2 : Below w1.heap.size w1 W2 := by rw [← hW2]; exact (Below.refl _ _).alloc (Nat.le_refl _) _
    have hs2 : W2.heap.size = xb + 1 := by rw [← hW2, ← hxb]; simp
    have hR2 := hR1.below hb2
    have hV2 := hV1.below hb2
    have hE2 := hE1.below hb2
    have hM2 := hM1.below hb2
    have hF2 := hF1.below hb2
    have hszz : xb ≤ W2.heap.size := by omega
    have hbW : But (fun k => O k ∨ P k ∨ k = eb ∨ RK rb a cs k) w W2 := ((But.of_below hb0).then hb1 (fun k _ e => e.elim .inl (fun q => .inr (q.elim .inl (fun s => .inr (.inl s)))))).trans (But.of_below hb2)
    have hxv : xb ≠ vb := by omega
    obtain ⟨hdi, hdu⟩ := hd rfl
    have HDI := hidq hdi
    have hnRe : ¬ RK rb a cs eb := fun e => hne eb e (.inr (.inr rfl))
    have hRE := hidq (rend_any rb eb a cap cs U kind param T mv mb (qset Q t none) closed (((steps + 1 : Nat)) : Int) (steps : Int) (by rw [IntKind.wrap_i64]; omega) t i cb C ht hdi hdu F2 ⟨aok, api, av, an⟩ true W2 hE2 hR2 hnRe)
    have HP2 := hidq (And.intro hV2 (And.intro hE2 (And.intro hM2 (And.intro hF2 (And.intro hX2 (And.intro hOP (And.intro hD1 (And.intro hO1 (And.intro hP1 (And.intro hszz (And.intro hbW (And.intro hRlt (And.intro hd (And.intro hel (And.intro hvb (And.intro hlt (And.intro hne (And.intro hs0 hs1))))))))))))))))))
    obtain ⟨x0, _⟩ := hX2.get 0 _ rfl
    obtain ⟨x1, _⟩ := hX2.get 1 _ rfl
    obtain ⟨x2, _⟩ := hX2.get 2 _ rfl
    obtain ⟨x3, _⟩ := hX2.get 3 _ rfl
    obtain ⟨x4, _⟩ := hX2.get 4 _ rfl
    obtain ⟨x5, _⟩ := hX2.get 5 _ rfl
    obtain ⟨x6, _⟩ := hX2.get 6 _ rfl
    obtain ⟨x7, _⟩ := hX2.get 7 _ rfl
    obtain ⟨x8, _⟩ := hX2.get 8 _ rfl
    obtain ⟨x9, _⟩ := hX2.get 9 _ rfl
    obtain ⟨x10, _⟩ := hX2.get 10 _ rfl
    have hxl := hX2.lt
    clear hR2 hV2 hE2 hM2 hF2 hX2 hb2 hR1 hV1 hE1 hM1 hF1 hb0 hb1 hOP hD1 hO1 hP1 hs0 hs1 hlt hne hd hel hRlt hV0 hR0 hvb r0 hrl HH hszz hbW hdi hdu hnRe
    go_wp2_with fail
    refine hRE.out.mono ?_
    rintro e w3 ⟨rfl, hR3, hb3⟩
    obtain ⟨hV2, hE2, hM2, hF2, hX2, hOP, hD1, hO1, hP1, hszz0, hbW2, hRlt, hd, hel, hvb, hlt, hne, hs0, hs1⟩ := HP2.out
    have hV3 := hV2.but hb3 (fun e => by have := hRlt vb e; omega)
    have hE3 := hE2.but hb3 (fun e => hne eb e (.inr (.inr rfl)))
    have hM3 := hM2.but hb3 (fun k hk e => (hOP k (.inl hk)).2.2 e)
    have hF3 := hF2.but hb3 (fun k hk e => (hOP k (.inr hk)).2.2 e)
    have hX3 := hX2.but hb3 (fun e => by have := hRlt xb e; omega)
    have hszz : xb ≤ w3.heap.size := by have := hb3.size; omega
    have hbW : But (fun k => O k ∨ P k ∨ k = eb ∨ RK rb a cs k) w w3 := hbW2.then hb3 (fun k _ e => .inr (.inr (.inr e)))
    obtain ⟨Wv, hWv⟩ : ∃ Wv, setBox w3 vb [(0, .int .i64 (t : Int)), (1, .int .i64 F2.kind), (2, .float .f64 F2.pri), (3, .int .i64 F2.val), (4, .int .i64 F2.d0), (5, .int .i64 F2.d1), (6, .bool true), (7, .bool aok), (8, .float .f64 api), (9, .int .i64 av), (10, .int .i64 an)] = Wv := ⟨_, rfl⟩
    have hbv : But (fun j => j = vb) w3 Wv := by rw [← hWv]; exact setBox_but vb [(0, .int .i64 (t : Int)), (1, .int .i64 F2.kind), (2, .float .f64 F2.pri), (3, .int .i64 F2.val), (4, .int .i64 F2.d0), (5, .int .i64 F2.d1), (6, .bool true), (7, .bool aok), (8, .float .f64 api), (9, .int .i64 av), (10, .int .i64 an)] w3
    have hQV : BoxAt Wv vb [.int .i64 (t : Int), .int .i64 F2.kind, .float .f64 F2.pri, .int .i64 F2.val, .int .i64 F2.d0, .int .i64 F2.d1, .bool true, .bool aok, .float .f64 api, .int .i64 av, .int .i64 an] := by rw [← hWv]; exact (setBox_box [(0, .int .i64 (t : Int)), (1, .int .i64 F2.kind), (2, .float .f64 F2.pri), (3, .int .i64 F2.val), (4, .int .i64 F2.d0), (5, .int .i64 F2.d1), (6, .bool true), (7, .bool aok), (8, .float .f64 api), (9, .int .i64 av), (10, .int .i64 an)] hV3)
    dsimp only [setBox] at hWv
    have HWv := hidq hWv
    have HE := hidq (show RPickEnd rb eb a cap cs U kind param T mv mb Q closed steps t fb O P (M2, F2, ⟨aok, api, av, an⟩, true) i cb C w (.returned (.tuple #[evV t F2 ⟨aok, api, av, an⟩ true, .bool true])) Wv from by
      refine ⟨rfl, hE3.but hbv (fun e => by have : eb = vb := e; omega), hR3.but hbv (fun k hk e => by have : k = vb := e; have := hRlt k (RK_set HDI.out hk); omega), O', P', hM3.but hbv (fun k hk e => (hOP k (.inl hk)).2.1 e), hF3.but hbv (fun k hk e => (hOP k (.inr hk)).2.1 e), hD1, fun k hk => (hO1 k hk).imp id (fun q => ⟨by omega, ?_⟩), fun k hk => (hP1 k hk).imp id (fun q => ⟨by omega, ?_⟩), hbW.then hbv (fun k hk e => by omega)⟩
      · have := (hOP k (.inl hk)).1; have := hbv.size; have := hszz; omega
      · have := (hOP k (.inr hk)).1; have := hbv.size; have := hszz; omega)
    have HQZ := hidq hQV
    clear hQV hbv hWv
    obtain ⟨x0, _⟩ := hX3.get 0 _ rfl
    obtain ⟨x1, _⟩ := hX3.get 1 _ rfl
    obtain ⟨x2, _⟩ := hX3.get 2 _ rfl
    obtain ⟨x3, _⟩ := hX3.get 3 _ rfl
    obtain ⟨x4, _⟩ := hX3.get 4 _ rfl
    obtain ⟨x5, _⟩ := hX3.get 5 _ rfl
    obtain ⟨x6, _⟩ := hX3.get 6 _ rfl
    obtain ⟨x7, _⟩ := hX3.get 7 _ rfl
    obtain ⟨x8, _⟩ := hX3.get 8 _ rfl
    obtain ⟨x9, _⟩ := hX3.get 9 _ rfl
    obtain ⟨x10, _⟩ := hX3.get 10 _ rfl
    obtain ⟨v0, u0⟩ := hV3.get 0 _ rfl
    obtain ⟨v1, u1⟩ := hV3.get 1 _ rfl
    obtain ⟨v2, u2⟩ := hV3.get 2 _ rfl
    obtain ⟨v3, u3⟩ := hV3.get 3 _ rfl
    obtain ⟨v4, u4⟩ := hV3.get 4 _ rfl
    obtain ⟨v5, u5⟩ := hV3.get 5 _ rfl
    obtain ⟨v6, u6⟩ := hV3.get 6 _ rfl
    obtain ⟨v7, u7⟩ := hV3.get 7 _ rfl
    obtain ⟨v8, u8⟩ := hV3.get 8 _ rfl
    obtain ⟨v9, u9⟩ := hV3.get 9 _ rfl
    obtain ⟨v10, u10⟩ := hV3.get 10 _ rfl
    have hxl3 := hX3.lt
    have hvl := hV3.lt
    clear hR3 hV2 hE2 hM2 hF2 hX2 hOP hD1 hO1 hP1 hszz0 hbW2 hRlt hd hel hvb hlt hne hs0 hs1 hV3 hE3 hM3 hF3 hX3 hszz hbW hb3
    go_wp2_with fail
    rw [HWv.out]
    have hQV := HQZ.out
    have q0 := (hQV.get 0 _ rfl).1
    have q1 := (hQV.get 1 _ rfl).1
    have q2 := (hQV.get 2 _ rfl).1
    have q3 := (hQV.get 3 _ rfl).1
    have q4 := (hQV.get 4 _ rfl).1
    have q5 := (hQV.get 5 _ rfl).1
    have q6 := (hQV.get 6 _ rfl).1
    have q7 := (hQV.get 7 _ rfl).1
    have q8 := (hQV.get 8 _ rfl).1
    have q9 := (hQV.get 9 _ rfl).1
    have q10 := (hQV.get 10 _ rfl).1
    clear hQV
    exact bodyPost_ret (v := .tuple #[evV t F2 ⟨aok, api, av, an⟩ true, .bool true]) (by simp [results, Tryz.results56, go_sem, q0, q1, q2, q3, q4, q5, q6, q7, q8, q9, q10]) rfl HE.out
end Go.Proofs.YtdghgmaoamjnlaaGreat

namespace Go.Proofs.YtdghgmaoamjnlaaGreat
open Go.RowKit Go.Sort

/-- Calls in a row. -/
def flatCl (L : List Cl) : List Value := L.flatMap Cl.l
theorem flatCl_snoc (L : List Cl) (c : Cl) : flatCl (L ++ [c]) = flatCl L ++ c.l := by simp [flatCl]
theorem flatCl_len (L : List Cl) : (flatCl L).length = L.length * 12 := by
  induction L with
  | nil => rfl
  | cons a l ih =>
    show (a.l ++ flatCl l).length = _
    rw [List.length_append, ih]
    show 12 + l.length * 12 = (l.length + 1) * 12
    omega
theorem flatCl_get : ∀ (L : List Cl) (i k : Nat) (c : Cl), L[i]? = some c → k < 12 → (flatCl L)[i * 12 + k]? = c.l[k]? := by
  intro L
  induction L with
  | nil => intro i k c h; simp at h
  | cons a l ih =>
    intro i k c h hk
    show (a.l ++ flatCl l)[i * 12 + k]? = _
    cases i with
    | zero =>
      simp only [List.getElem?_cons_zero, Option.some.injEq] at h
      subst h
      rw [Nat.zero_mul, Nat.zero_add, List.getElem?_append_left (by show k < 12; exact hk)]
    | succ i =>
      rw [List.getElem?_cons_succ] at h
      rw [List.getElem?_append_right (by show 12 ≤ _; omega), show (i + 1) * 12 + k - a.l.length = i * 12 + k by show (i + 1) * 12 + k - 12 = _; omega]
      exact ih i k c h hk
theorem plainCl : PlainK Tryz.prog 12 39 68 := by
  have h : (Tryz.prog.info? 68).map (fun i => (i.zero, i.size, i.bytes)) = some (some (.agg #[.int .i64 0, .int .i64 0, .float .f64 0, .int .i64 0, .int .i64 0, .int .i64 0, .int .i64 0, .int .i64 0, .bool false, .float .f64 0, .int .i64 0, .int .i64 0]), 12, 96) := by kernel_rfl
  obtain ⟨i, hi, he⟩ := Option.map_eq_some_iff.1 h
  simp only [Prod.mk.injEq] at he
  exact ⟨i, _, Tryz.underlying39, hi, he.1, he.2.1, rfl, by rw [he.2.2]; decide⟩
theorem cl_one (c : Cl) : ∀ u ∈ c.l, u.oneCell' = true := by
  intro u hu
  simp only [List.mem_cons, List.not_mem_nil, or_false] at hu
  rcases hu with h | h | h | h | h | h | h | h | h | h | h | h <;> (subst h; rfl)

/-- How Calls ends. -/
def CallsEnd (L : List Cl) (w : World) (e : Ending) (w' : World) : Prop :=
  ∃ a cap, e = .returned (.slice a L.length cap) ∧ SlAt 12 w' a cap L.length (flatCl L) ∧ (∀ j, inB a j → w.heap.size ≤ j) ∧ Below w.heap.size w w'

set_option maxRecDepth 20000 in
set_option maxHeartbeats 4000000 in
theorem calls14_any (rb eb : Nat) (a : Option Addr) (cap : Nat) (cs : List (Nat × Cl)) (U : Nat → Option Nat) (w : World) (hR : RecAt w rb eb a cap cs U) (hcs : cs.length ≤ 1000) :
    Calls Tryz.prog 17 #[.pointer (some ⟨rb, 0, none⟩)] w (CallsEnd (cs.map Prod.snd) w) := by
  have r1 := (hR.box.get 1 _ rfl).1
  have hrl := hR.box.lt
  have hle := hR.sl.le
  obtain ⟨L, hL⟩ : ∃ L, cs.map Prod.snd = L := ⟨_, rfl⟩
  obtain ⟨n, hn⟩ : ∃ n, cs.length = n := ⟨_, rfl⟩
  have hLn : L.length = n := by rw [← hL, List.length_map, hn]
  have HR := hidq (And.intro hR (And.intro hL (And.intro hn hLn)))
  rw [hn] at r1 hle hcs
  rw [hL]
  clear hR hL hn hLn
  go_enter Tryz.func17, Tryz.ntmps17
  go_wp2_with fail
  clear r1
  go_loopw [3, 11] (fun s3 s11 wr => ∃ (k : Nat) (a2 : Option Addr) (cap2 : Nat), s3 = .slice a2 k cap2 ∧ s11 = .int .i64 (k : Int) ∧ k ≤ n ∧ Hid (SlAt 12 wr a2 cap2 k (flatCl (L.take k)) ∧ (∀ j, inB a2 j → w.heap.size ≤ j) ∧ Below w.heap.size w wr)) (fun _ s11 _ => n - (intOf s11).toNat)
  case atStart => exact ⟨0, none, 0, rfl, rfl, by omega, SlAt.nil _ _, (fun j hj => by obtain ⟨x, hx, _⟩ := hj; cases hx), Below.refl _ _⟩
  case round =>
    obtain ⟨k, a2, cap2, rfl, rfl, hk, hX⟩ := hrel
    by_cases hlt : k < n
    · have hltI : (k : Int) < (n : Int) := by omega
      obtain ⟨hR, hL, hn, hLn⟩ := HR.out
      obtain ⟨p, hp⟩ : ∃ p, cs[k]? = some p := ⟨_, List.getElem?_eq_getElem (by omega)⟩
      obtain ⟨cb, C⟩ := p
      have hm := List.mem_of_getElem? hp
      have hRr := hR.below hX.out.2.2
      obtain ⟨g, rfl, hgl, hgc⟩ := hRr.sl.cell (t := k) (u := .pointer (some ⟨cb, 0, none⟩)) (by simp [ptrs, hp])
      have hC := hRr.cl _ hm
      obtain ⟨c0, _⟩ := hC.get 0 _ rfl
      obtain ⟨c1, _⟩ := hC.get 1 _ rfl
      obtain ⟨c2, _⟩ := hC.get 2 _ rfl
      obtain ⟨c3, _⟩ := hC.get 3 _ rfl
      obtain ⟨c4, _⟩ := hC.get 4 _ rfl
      obtain ⟨c5, _⟩ := hC.get 5 _ rfl
      obtain ⟨c6, _⟩ := hC.get 6 _ rfl
      obtain ⟨c7, _⟩ := hC.get 7 _ rfl
      obtain ⟨c8, _⟩ := hC.get 8 _ rfl
      obtain ⟨c9, _⟩ := hC.get 9 _ rfl
      obtain ⟨c10, _⟩ := hC.get 10 _ rfl
      obtain ⟨c11, _⟩ := hC.get 11 _ rfl
      have hcl := hC.lt
      have hcl2 : cb < wr.heap.size := hcl
      have hLk : L[k]? = some C := by rw [← hL, List.getElem?_map, hp]; rfl
      have htk : L.take (k + 1) = L.take k ++ [C] := by rw [List.take_add_one, hLk]; rfl
      have HT := hidq htk
      have HSL := hidq hX.out.1
      have hk1 : k + 1 ≤ 1099511627776 := by omega
      dsimp only at c0 c1 c2 c3 c4 c5 c6 c7 c8 c9 c10 c11
      clear hR hL hn hLn hRr hC hm hp hLk htk hcl
      go_wp2_with (at_builtin; refine wpList_sl plainCl _ rfl (.tmp 15) (.tmp 19) rfl a2 cap2 k _ rfl (HSL.out.below ((Below.refl _ _).alloc (Nat.le_refl _) _)) _ rfl 1 C.l (src_new 12 _ Tryz.underlying39 wr.heap.size C.l rfl (fun j u hu => by rw [World.cell?_alloc_new, List.getElem?_toArray]; exact hu) (cl_one C)) (by omega) hk1 ?_; intro g2 q2 w2 hF2 hb2 hg2)
      go_roundw
      case rel =>
        refine ⟨k + 1, some ⟨g2, 0, none⟩, q2, rfl, by go_num, by omega, ?_⟩
        obtain ⟨h1, h2, h3⟩ := hX.out
        refine ⟨.inr ⟨g2, rfl, by rw [HT.out, flatCl_snoc]; exact hF2⟩, ?_, ?_⟩
        · rintro j ⟨x, hx, rfl⟩
          cases hx
          rcases hg2 with e | e
          · exact h2 _ e
          · have := h3.size; simp at e; show w.heap.size ≤ g2; omega
        · exact (h3.alloc h3.size _).trans (hb2.below (by simp; have := h3.size; omega) (fun j e => h2 j e))
      case measure => simp [intOf]; omega
    · have hd : decide ((k : Int) < (n : Int)) = false := decide_eq_false (by omega)
      have hd2 : decide (k < n) = false := decide_eq_false hlt
      have hkn : k = n := by omega
      have HE := hidq (show CallsEnd L w (.returned (.slice a2 k cap2)) wr from by
        obtain ⟨h1, h2, h3⟩ := hX.out
        have hl := HR.out.2.2.2
        rw [List.take_of_length_le (by omega), hkn, ← hl] at h1
        exact ⟨a2, cap2, by rw [hkn, hl], h1, h2, h3⟩)
      clear hX hkn
      go_wp2_with fail
      go_ret
      exact HE.out
end Go.Proofs.YtdghgmaoamjnlaaGreat

namespace Go.Proofs.YtdghgmaoamjnlaaGreat.Reg
open Go

/-- The head is listed, and nothing else. -/
def headL (m n : Nat) : Array Bool := (Array.range m).map fun i => decide (i < n)
theorem headL_get (m n i : Nat) : (headL m n)[i]? = if i < m then some (decide (i < n)) else none := by
  unfold headL
  rw [Array.getElem?_map, Array.getElem?_range]
  split <;> rfl
theorem headL_eq {L : Array Bool} {m n : Nat} (hs : L.size = m) (hh : ∀ i, i < n → L.getD i false = true) (ht : ∀ t, n ≤ t → t < m → L.getD t true = false) : L = headL m n := by
  apply Array.ext_getElem?
  intro i
  rw [headL_get]
  by_cases hi : i < m
  · rw [if_pos hi, Array.getElem?_eq_getElem (by omega)]
    by_cases h : i < n
    · have := hh i h
      rw [Array.getD_eq_getD_getElem?, Array.getElem?_eq_getElem (by omega)] at this
      simp only [Option.getD_some] at this
      rw [this]; simp [h]
    · have := ht i (by omega) hi
      rw [Array.getD_eq_getD_getElem?, Array.getElem?_eq_getElem (by omega)] at this
      simp only [Option.getD_some] at this
      rw [this]; simp [h]
  · rw [if_neg hi, Array.getElem?_eq_none (by omega)]

/-- The head waits for nothing of the tail, the tail goes one by one. -/
def tailB (ops : Array Oper) (n : Nat) : Bool :=
  decide (n < ops.size) && Region.sinkB .any ops n && Region.chainB .any ops n && Region.seqB .any ops (ops.size - n) n (headL ops.size n)

theorem countP_drop {l : List Bool} {n : Nat} (h : ∀ t, n ≤ t → t < l.length → l[t]? = some false) : l.length - n ≤ l.countP (! ·) := by
  have h1 : (l.drop n).countP (! ·) ≤ l.countP (! ·) := List.Sublist.countP_le (List.drop_sublist n l)
  have h2 : (l.drop n).countP (! ·) = (l.drop n).length := by
    rw [List.countP_eq_length]
    intro a ha
    obtain ⟨i, hi, rfl⟩ := List.getElem_of_mem ha
    have hi' : i < l.length - n := by simpa using hi
    have := h (n + i) (by omega) (by omega)
    rw [List.getElem_drop]
    rw [List.getElem?_eq_getElem (by omega)] at this
    simp only [Option.some.injEq] at this
    simp [this]
  rw [h2, List.length_drop] at h1
  exact h1

section
variable {P : Program} {ops : Array Oper} {a0 : Act} {R : Nat → Value → World → Prop} {Pres : World → World → Prop} {Inv : Array Bool → World → Prop}

theorem tail_count {L : Array Bool} {n : Nat} (hi : HeadInv .any ops n L) : ops.size - n ≤ L.toList.countP (! ·) := by
  have := countP_drop (l := L.toList) (n := n) (fun t ht hl => by
    have h1 : t < L.size := by simpa using hl
    have := hi.tail t ht (by rw [← hi.size]; exact h1)
    rw [Array.getD_eq_getD_getElem?, Array.getElem?_eq_getElem h1] at this
    simp only [Option.getD_some] at this
    rw [Array.getElem?_toList, Array.getElem?_eq_getElem h1, this])
  rw [← hi.size]
  simpa using this

theorem wpAny_of_steps_tail {n : Nat} {l : List Oper} {Q : Exit → Act → World → Prop} (hl : l.toArray = ops) (hf : fineB ops a0.tmps.size = true) (hB : tailB ops n = true) (hR : ∀ j v w w', Pres w w' → R j v w → R j v w') (hrefl : ∀ w, Pres w w)
    (hs : ∀ i o, i < n → ops[i]? = some o → StepAt P ops a0 R Pres Inv i o)
    (hend : ∀ a w, Inv (headL ops.size n) w → Fits ops a0 R (headL ops.size n) a w → wpList P ops Q (l.drop n) a w) :
    ∀ (m : Nat) (L : Array Bool) (a : Act) (w : World), L.toList.countP (! ·) = m + (ops.size - n) → HeadInv .any ops n L → Inv L w → Fits ops a0 R L a w → wpAny P .any ops Q (m + (ops.size - n)) L a w := by
  simp only [tailB, Bool.and_eq_true, decide_eq_true_eq] at hB
  obtain ⟨⟨⟨hn, hsink⟩, hchain⟩, hseq⟩ := hB
  have hdl : (l.drop n).length = ops.size - n := by rw [← hl]; simp
  intro m
  induction m with
  | zero =>
    intro L a w hc hH hI hF
    have hall : ∀ i, i < n → L.getD i false = true := fun i hi => by
      cases h : L.getD i false with
      | true => rfl
      | false =>
        exfalso
        have hil : i < L.size := by rw [hH.size]; omega
        have hun : L.getD i true = false := getD_in hil h
        have h1 := count_set hun
        have h2 : HeadInv .any ops n (headL ops.size n) → True := fun _ => trivial
        have h3 := countP_drop (l := (L.setIfInBounds i true).toList) (n := n) (fun t ht hl => by
          have h1 : t < L.size := by simpa using hl
          have := hH.tail t ht (by rw [← hH.size]; exact h1)
          rw [Array.getD_eq_getD_getElem?, Array.getElem?_eq_getElem h1] at this
          simp only [Option.getD_some] at this
          rw [Array.getElem?_toList, Array.getElem?_setIfInBounds, if_neg (by omega), Array.getElem?_eq_getElem h1, this])
        have h4 : (L.setIfInBounds i true).toList.length = ops.size := by simp [hH.size]
        rw [h4] at h3
        omega
    have hLe : L = headL ops.size n := headL_eq hH.size hall hH.tail
    have := wpAny_of_seq (P := P) (ops := ops) (md := .any) (Q' := Q) (l.drop n) n L a w (fun j => by rw [← hl]; simp [List.getElem?_drop]) (by rw [hdl, hLe]; exact hseq) (hend a w (hLe ▸ hI) (hLe ▸ hF))
    rw [hdl] at this
    rw [Nat.zero_add]
    exact this
  | succ m ih =>
    intro L a w hc hH hI hF
    have hex : ∃ i, i < n ∧ L.getD i true = false := by
      rcases Classical.em (∃ i, i < n ∧ L.getD i true = false) with h | h
      · exact h
      · exfalso
        have hall : ∀ i, i < n → L.getD i false = true := fun i hi => by
          cases h2 : L.getD i false with
          | true => rfl
          | false => exact absurd ⟨i, hi, getD_in (by rw [hH.size]; omega) h2⟩ h
        have hLe : L = headL ops.size n := headL_eq hH.size hall hH.tail
        have h5 : (headL ops.size n).toList.countP (! ·) ≤ ops.size - n := by
          have e : (headL ops.size n).toList = (headL ops.size n).toList.take n ++ (headL ops.size n).toList.drop n := (List.take_append_drop n _).symm
          rw [e, List.countP_append]
          have z : ((headL ops.size n).toList.take n).countP (! ·) = 0 := by
            rw [List.countP_eq_zero]
            intro b hb
            obtain ⟨i, hi, rfl⟩ := List.getElem_of_mem hb
            have hi' : i < n ∧ i < ops.size := by simp [headL] at hi; omega
            simp [headL, hi'.1]
          have y : ((headL ops.size n).toList.drop n).countP (! ·) ≤ ops.size - n := by
            refine Nat.le_trans List.countP_le_length ?_
            simp [headL]
          omega
        rw [← hLe] at h5
        omega
    obtain ⟨i0, hi0, hun0⟩ := hex
    have hnt : ∀ t, n ≤ t → t ∉ Region.ready .any ops L := tail_waits hsink hchain hn hH _ i0 rfl hi0 hun0
    rw [show m + 1 + (ops.size - n) = (m + (ops.size - n)) + 1 by omega]
    refine ⟨fun hr => ?_, fun i hi => ?_⟩
    · exfalso
      have := all_listed hf hF.lsize hr i0 (by omega)
      rw [getD_both hun0] at this
      cases this
    · have hin : i < n := by
        rcases Nat.lt_or_ge i n with h | h
        · exact h
        · exact absurd hi (hnt i h)
      obtain ⟨h0, o, ho, hall⟩ := mem_ready.1 hi
      have hst := hs i o hin ho L a.eval w hI h0 hall hF.at
      have hcs := count_set h0
      have hH' := hH.set hi hin
      unfold wpOp
      simp only [ho]
      have go : Outcome P (fun v w' => R i v w' ∧ Pres w w' ∧ Inv (L.setIfInBounds i true) w') ((execOp a.eval o).run P w) →
          o.wp P a w (wpAny P .any ops Q (m + (ops.size - n)) (L.setIfInBounds i true)) Q := fun h =>
        outcome_wp h fun v w' ⟨h1, h2, h3⟩ => ih _ _ _ (by omega) hH' h3 (hF.put hf ho hall (fun j v => hR j v w w' h2) (fun _ => h1))
      cases hg : o.guard with
      | none =>
        rw [hg] at hst
        rw [if_pos (by simp [Region.wanted, hg])]
        exact .inl (go hst)
      | some gw =>
        obtain ⟨g, want⟩ := gw
        rw [hg] at hst
        rcases hst with ⟨og, t, b, hog, hd, hev, hcase⟩ | ⟨og, t, hog, hd, hev, hcase⟩
        case inr =>
          have hy : yielded ops a.tmps g = none := yielded_undef hog hd hev
          rw [if_neg (by simp [Region.wanted, hg, hy])]
          exact ih _ _ _ (by omega) hH' hcase.2 (hF.put hf ho hall (fun j v => hR j v w w (hrefl w)) (fun _ => hcase.1))
        have hy : yielded ops a.tmps g = some b := by
          have hb : a.tmps[t]? = some (.bool b) := by
            have : a.tmps.getD t undef = .bool b := hev
            rw [Array.getD_eq_getD_getElem?] at this
            cases h : a.tmps[t]? with
            | none => rw [h] at this; cases this
            | some y => rw [h] at this; simpa using this
          simp [yielded, hog, hd, hb]
        by_cases hbw : b = want
        · rw [if_pos hbw] at hcase
          rw [if_pos (by simp [Region.wanted, hg, hy, hbw])]
          exact .inl (go hcase)
        · rw [if_neg hbw] at hcase
          rw [if_neg (by simp [Region.wanted, hg, hy, hbw])]
          exact ih _ _ _ (by omega) hH' hcase.2 (hF.put hf ho hall (fun j v => hR j v w w (hrefl w)) (fun _ => hcase.1))
end

/-- THE RULE: the head in whatever order, then the tail. -/
theorem wp_region_props_tail {P : Program} {a0 : Act} {id : Nat} {l : List Oper} {Q : Exit → Act → World → Prop} {w : World} (n : Nat) (R : Nat → Value → World → Prop) (Pres : World → World → Prop) (Inv : Array Bool → World → Prop)
    (hm : P.follows .mixedOrders = true) (hf : fineB l.toArray a0.tmps.size = true) (hB : tailB l.toArray n = true) (hR : ∀ j v w w', Pres w w' → R j v w → R j v w') (hrefl : ∀ w, Pres w w)
    (hI : Inv (Array.replicate l.length false) w.drew)
    (hs : AllSteps P l.toArray a0 R Pres Inv 0 (l.take n))
    (hend : ∀ a w, Inv (headL l.length n) w → Fits l.toArray a0 R (headL l.length n) a w → wpList P l.toArray Q (l.drop n) a w) : (Code.region id l.toArray true).wp P Q a0 w := by
  refine wp_region_any hm ?_
  have hn : n < l.length := by
    simp only [tailB, Bool.and_eq_true, decide_eq_true_eq] at hB
    simpa using hB.1.1.1
  have := wpAny_of_steps_tail (P := P) (ops := l.toArray) (a0 := a0) (R := R) (Pres := Pres) (Inv := Inv) (n := n) (l := l) (Q := Q) rfl hf hB hR hrefl (fun i o hi ho => by
      have := hs.at (l.take n) 0 i o (by rw [List.getElem?_take, if_pos hi]; simpa using ho)
      simpa using this) (by simpa using hend) n (Array.replicate l.length false) a0 w.drew (by simp [List.countP_replicate]; omega)
    ⟨by simp, fun j oj _ hl => (by rw [getD_replicate_false] at hl; cases hl), fun t _ ht => getD_in (by simpa using ht) (getD_replicate_false _ _)⟩ hI
    ⟨rfl, rfl, by simp, fun j o t ho hL => (by rw [getD_replicate_false] at hL; cases hL), fun _ _ => rfl, fun j oj _ hl => (by rw [getD_replicate_false] at hl; cases hl)⟩
  have he : n + (l.toArray.size - n) = l.toArray.size := by simp; omega
  rw [he] at this
  simpa using this

/-- The slots behind the head, written out. -/
def coversHeadB (ops : Array Oper) (n : Nat) (ds : List Nat) : Bool := (List.range n).all fun j => match (ops[j]?).bind (·.dst) with | none => true | some t => ds.contains t
theorem coversHead_at {ops : Array Oper} {n : Nat} {ds : List Nat} (h : coversHeadB ops n ds = true) {j t : Nat} {o : Oper} (hj : j < n) (ho : ops[j]? = some o) (hd : o.dst = some t) : ds.contains t = true := by
  have := List.all_eq_true.1 h j (List.mem_range.2 hj)
  simp only [ho, Option.bind_some, hd] at this
  exact this
theorem headL_lt {m n j : Nat} (h : (headL m n).getD j false = true) : j < n := by
  rw [Array.getD_eq_getD_getElem?, headL_get] at h
  split at h
  · simpa using h
  · cases h
theorem Fits.actHead {ops : Array Oper} {a0 : Act} {R : Nat → Value → World → Prop} {m n : Nat} {a : Act} {w : World} (hF : Fits ops a0 R (headL m n) a w) (ds : List Nat) (hc : coversHeadB ops n ds = true) :
    a = ⟨ds.foldl (fun T t => T.setIfInBounds t (a.eval (.tmp t))) a0.tmps, a0.defers⟩ := by
  have hsz := hF.size
  have hdf := hF.defers
  have hold : ∀ t, ds.contains t = false → a.eval (.tmp t) = a0.eval (.tmp t) := fun t ht => hF.old t (fun j o ho hL hd => by rw [coversHead_at hc (headL_lt hL) ho hd] at ht; cases ht)
  have hev : ∀ t, a.eval (.tmp t) = a.tmps.getD t undef := fun _ => rfl
  have hev0 : ∀ t, a0.eval (.tmp t) = a0.tmps.getD t undef := fun _ => rfl
  have ht : a.tmps = ds.foldl (fun T t => T.setIfInBounds t (a.eval (.tmp t))) a0.tmps := by
    apply Array.ext_getElem?
    intro i
    by_cases hi : i < a0.tmps.size
    · rw [fold_get (fun t => a.eval (.tmp t)) ds a0.tmps i hi]
      have hia : i < a.tmps.size := by rw [hsz]; exact hi
      cases e : ds.contains i
      · rw [if_neg (by decide)]
        have := hold i e
        rw [hev, hev0, Array.getD_eq_getD_getElem?, Array.getD_eq_getD_getElem?, Array.getElem?_eq_getElem hia, Array.getElem?_eq_getElem hi] at this
        rw [Array.getElem?_eq_getElem hia, Array.getElem?_eq_getElem hi]
        exact congrArg some this
      · rw [if_pos rfl, hev, Array.getD_eq_getD_getElem?, Array.getElem?_eq_getElem hia]
        rfl
    · rw [Array.getElem?_eq_none (by rw [hsz]; omega), Array.getElem?_eq_none (by rw [fold_size]; omega)]
  obtain ⟨t, d⟩ := a
  simp only at hdf
  subst hdf
  exact congrArg (fun q => (⟨q, a0.defers⟩ : Act)) ht
end Go.Proofs.YtdghgmaoamjnlaaGreat.Reg
