/-
  Layer 4's law of any calls of a pile: the call returns true.
-/
import Derived.Test.YtepigofpcjmddaaFlat4All
import Derived.Test.YtepigofpcjmddaaFits5All
import Derived.Test.YtepigofpcjmddaaTail
import Derived.Test.YtepigofpcjmddaaActs4All
import Derived.Deep.CutBlock
namespace Go.Proofs.Ytepigofpcjmddaa
open Go.RowKit Go.Sort Go.Lib

def ownL4 (K V : Nat → Int) (n : Nat) : List It := (List.range n).map fun i => (nf (K i), V i)
theorem ownL4_succ (K V : Nat → Int) (n : Nat) : flatI (ownL4 K V (n + 1)) = flatI (ownL4 K V n) ++ [.float .f64 (nf (K n)), .int .i64 (V n)] := by
  unfold ownL4
  rw [List.range_succ, List.map_append]
  simp [flatI, encI]
def pp18Rnone (gx : Nat) (ox : Nat) (cx : Nat) : List (Value → World → Prop) :=
  [fun v _ => v = .bool false,
   fun v _ => v = .slice (some ⟨gx, ox, none⟩) 0 cx,
   fun v _ => v = .int .i64 0,
   fun v _ => v = .bool false,
   fun v _ => v = .bool false,
   fun v _ => v = .bool false,
   fun v _ => v = .bool false,
   fun v _ => v = .bool true,
   fun v _ => v = .bool true,
   fun v _ => v = .agg #[.float .f64 0, .int .i64 0],
   fun v _ => v = .agg #[.float .f64 0, .int .i64 0],
   fun v _ => v = .bool false,
   fun v _ => v = .bool false,
   fun v _ => v = .bool false,
   fun v _ => v = .bool false,
   fun v _ => v = .bool false,
   fun v _ => v = .bool false,
   fun v _ => v = undef,
   fun v _ => v = undef,
   fun v _ => v = undef,
   fun v _ => v = undef,
   fun v _ => v = undef,
   fun v _ => v = undef,
   fun v _ => v = .bool false,
   fun v _ => v = .bool false]
theorem pp18Rnone_kept (gx : Nat) (ox : Nat) (cx : Nat) : Reg.AllKept Reg.Keeps (pp18Rnone gx ox cx) :=
  ⟨(fun _ _ _ _ h => h), (fun _ _ _ _ h => h), (fun _ _ _ _ h => h), (fun _ _ _ _ h => h), (fun _ _ _ _ h => h), (fun _ _ _ _ h => h), (fun _ _ _ _ h => h), (fun _ _ _ _ h => h), (fun _ _ _ _ h => h), (fun _ _ _ _ h => h), (fun _ _ _ _ h => h), (fun _ _ _ _ h => h), (fun _ _ _ _ h => h), (fun _ _ _ _ h => h), (fun _ _ _ _ h => h), (fun _ _ _ _ h => h), (fun _ _ _ _ h => h), (fun _ _ _ _ h => h), (fun _ _ _ _ h => h), (fun _ _ _ _ h => h), (fun _ _ _ _ h => h), (fun _ _ _ _ h => h), (fun _ _ _ _ h => h), (fun _ _ _ _ h => h), (fun _ _ _ _ h => h), trivial⟩
def pp18Rsome (gx : Nat) (ox : Nat) (nl : Nat) (cx : Nat) (yb : Nat) (yq : Int) (yv : Int) : List (Value → World → Prop) :=
  [fun v _ => v = .bool true,
   fun v _ => v = .slice (some ⟨gx, ox, none⟩) nl cx,
   fun v _ => v = .int .i64 (nl : Int),
   fun v _ => v = .bool true,
   fun v _ => v = .bool false,
   fun v _ => v = .bool false,
   fun v _ => v = .bool true,
   fun v _ => v = .bool false,
   fun v _ => v = .bool false,
   fun v _ => v = undef,
   fun v _ => v = undef,
   fun v _ => v = undef,
   fun v _ => v = .bool false,
   fun v _ => v = .bool false,
   fun v _ => v = .bool false,
   fun v _ => v = .bool true,
   fun v _ => v = .bool true,
   fun v _ => v = .agg #[.float .f64 yb, .int .i64 yv],
   fun v _ => v = .slice (some ⟨gx, ox, none⟩) nl cx,
   fun v _ => v = .pointer (some ⟨gx, ox, none⟩),
   fun v _ => v = .agg #[.int .u64 yq, .int .i64 yv],
   fun v _ => v = .int .i64 0,
   fun v _ => v = .bool false,
   fun v _ => v = .bool false,
   fun v _ => v = .bool false]
theorem pp18Rsome_kept (gx : Nat) (ox : Nat) (nl : Nat) (cx : Nat) (yb : Nat) (yq : Int) (yv : Int) : Reg.AllKept Reg.Keeps (pp18Rsome gx ox nl cx yb yq yv) :=
  ⟨(fun _ _ _ _ h => h), (fun _ _ _ _ h => h), (fun _ _ _ _ h => h), (fun _ _ _ _ h => h), (fun _ _ _ _ h => h), (fun _ _ _ _ h => h), (fun _ _ _ _ h => h), (fun _ _ _ _ h => h), (fun _ _ _ _ h => h), (fun _ _ _ _ h => h), (fun _ _ _ _ h => h), (fun _ _ _ _ h => h), (fun _ _ _ _ h => h), (fun _ _ _ _ h => h), (fun _ _ _ _ h => h), (fun _ _ _ _ h => h), (fun _ _ _ _ h => h), (fun _ _ _ _ h => h), (fun _ _ _ _ h => h), (fun _ _ _ _ h => h), (fun _ _ _ _ h => h), (fun _ _ _ _ h => h), (fun _ _ _ _ h => h), (fun _ _ _ _ h => h), (fun _ _ _ _ h => h), trivial⟩
def pp22Rnonefalse (b : Nat) (gy : Nat) (oy : Nat) (cy : Nat) (j : Nat) (jm : Int) : List (Value → World → Prop) :=
  [fun v _ => v = .pointer (some ⟨b, 0, none⟩),
   fun v _ => v = .int .i64 0,
   fun v _ => v = .slice (some ⟨gy, oy, none⟩) 0 cy,
   fun v _ => v = .int .i64 0,
   fun v _ => v = .bool false,
   fun v _ => v = .bool false,
   fun v _ => v = .bool false,
   fun v _ => v = .slice (some ⟨gy, oy, none⟩) 0 cy,
   fun v _ => v = .int .i64 0,
   fun v _ => v = .bool false,
   fun v _ => v = .bool false,
   fun v _ => v = .bool false,
   fun v _ => v = .bool false,
   fun v _ => v = .bool false,
   fun v _ => v = .bool false,
   fun v _ => v = undef,
   fun v _ => v = undef,
   fun v _ => v = undef,
   fun v _ => v = undef,
   fun v _ => v = undef,
   fun v _ => v = undef,
   fun v _ => v = .bool false,
   fun v _ => v = .bool false,
   fun v _ => v = .bool false,
   fun v _ => v = .int .i64 (j : Int),
   fun v _ => v = .int .i64 jm,
   fun v _ => v = .bool false,
   fun v _ => v = .bool false,
   fun v _ => v = undef,
   fun v _ => v = undef,
   fun v _ => v = undef,
   fun v _ => v = undef,
   fun v _ => v = undef,
   fun v _ => v = .bool false,
   fun v _ => v = .bool false]
theorem pp22Rnonefalse_kept (b : Nat) (gy : Nat) (oy : Nat) (cy : Nat) (j : Nat) (jm : Int) : Reg.AllKept Reg.Keeps (pp22Rnonefalse b gy oy cy j jm) :=
  ⟨(fun _ _ _ _ h => h), (fun _ _ _ _ h => h), (fun _ _ _ _ h => h), (fun _ _ _ _ h => h), (fun _ _ _ _ h => h), (fun _ _ _ _ h => h), (fun _ _ _ _ h => h), (fun _ _ _ _ h => h), (fun _ _ _ _ h => h), (fun _ _ _ _ h => h), (fun _ _ _ _ h => h), (fun _ _ _ _ h => h), (fun _ _ _ _ h => h), (fun _ _ _ _ h => h), (fun _ _ _ _ h => h), (fun _ _ _ _ h => h), (fun _ _ _ _ h => h), (fun _ _ _ _ h => h), (fun _ _ _ _ h => h), (fun _ _ _ _ h => h), (fun _ _ _ _ h => h), (fun _ _ _ _ h => h), (fun _ _ _ _ h => h), (fun _ _ _ _ h => h), (fun _ _ _ _ h => h), (fun _ _ _ _ h => h), (fun _ _ _ _ h => h), (fun _ _ _ _ h => h), (fun _ _ _ _ h => h), (fun _ _ _ _ h => h), (fun _ _ _ _ h => h), (fun _ _ _ _ h => h), (fun _ _ _ _ h => h), (fun _ _ _ _ h => h), (fun _ _ _ _ h => h), trivial⟩
def pp22Rnonetrue (b : Nat) (gy : Nat) (oy : Nat) (cy : Nat) (j : Nat) (jm : Int) (LL : List KI) : List (Value → World → Prop) :=
  [fun v _ => v = .pointer (some ⟨b, 0, none⟩),
   fun v _ => v = .int .i64 0,
   fun v _ => v = .slice (some ⟨gy, oy, none⟩) 0 cy,
   fun v _ => v = .int .i64 0,
   fun v _ => v = .bool false,
   fun v _ => v = .bool false,
   fun v _ => v = .bool false,
   fun v _ => v = .slice (some ⟨gy, oy, none⟩) 0 cy,
   fun v _ => v = .int .i64 0,
   fun v _ => v = .bool false,
   fun v _ => v = .bool false,
   fun v _ => v = .bool false,
   fun v _ => v = .bool false,
   fun v _ => v = .bool false,
   fun v _ => v = .bool false,
   fun v _ => v = undef,
   fun v _ => v = undef,
   fun v _ => v = undef,
   fun v _ => v = undef,
   fun v _ => v = undef,
   fun v _ => v = undef,
   fun v _ => v = .bool false,
   fun v _ => v = .bool false,
   fun v _ => v = .bool false,
   fun v _ => v = .int .i64 (j : Int),
   fun v _ => v = .int .i64 jm,
   fun v _ => v = .bool true,
   fun v _ => v = .bool true,
   fun v _ => v = .pointer (some ⟨b, 0, none⟩),
   fun v w => ∃ g9, v = .slice (some ⟨g9, 0, none⟩) 0 0 ∧ Row w g9 0 (LL : List KI).toArray,
   fun v _ => v = .slice (some ⟨gy, oy, none⟩) 0 cy,
   fun v _ => v = .int .i64 0,
   fun v _ => v = .bool false,
   fun v _ => v = .bool false,
   fun v _ => v = .bool false]
theorem pp22Rnonetrue_kept (b : Nat) (gy : Nat) (oy : Nat) (cy : Nat) (j : Nat) (jm : Int) (LL : List KI) : Reg.AllKept Reg.Keeps (pp22Rnonetrue b gy oy cy j jm LL) :=
  ⟨(fun _ _ _ _ h => h), (fun _ _ _ _ h => h), (fun _ _ _ _ h => h), (fun _ _ _ _ h => h), (fun _ _ _ _ h => h), (fun _ _ _ _ h => h), (fun _ _ _ _ h => h), (fun _ _ _ _ h => h), (fun _ _ _ _ h => h), (fun _ _ _ _ h => h), (fun _ _ _ _ h => h), (fun _ _ _ _ h => h), (fun _ _ _ _ h => h), (fun _ _ _ _ h => h), (fun _ _ _ _ h => h), (fun _ _ _ _ h => h), (fun _ _ _ _ h => h), (fun _ _ _ _ h => h), (fun _ _ _ _ h => h), (fun _ _ _ _ h => h), (fun _ _ _ _ h => h), (fun _ _ _ _ h => h), (fun _ _ _ _ h => h), (fun _ _ _ _ h => h), (fun _ _ _ _ h => h), (fun _ _ _ _ h => h), (fun _ _ _ _ h => h), (fun _ _ _ _ h => h), (fun _ _ _ _ h => h), (fun v w w' hk h => by obtain ⟨g9, h1, h2⟩ := h; exact ⟨g9, h1, h2.but (S := fun _ => False) (But.of_below hk) id⟩), (fun _ _ _ _ h => h), (fun _ _ _ _ h => h), (fun _ _ _ _ h => h), (fun _ _ _ _ h => h), (fun _ _ _ _ h => h), trivial⟩
def pp22Rsomefalse (b : Nat) (gy : Nat) (oy : Nat) (nm : Nat) (cy : Nat) (yb : Nat) (j : Nat) (yq : Int) (yv : Int) (jm : Int) : List (Value → World → Prop) :=
  [fun v _ => v = .pointer (some ⟨b, 0, none⟩),
   fun v _ => v = .int .i64 (nm : Int),
   fun v _ => v = .slice (some ⟨gy, oy, none⟩) nm cy,
   fun v _ => v = .int .i64 (nm : Int),
   fun v _ => v = .bool false,
   fun v _ => v = .bool false,
   fun v _ => v = .bool true,
   fun v _ => v = .slice (some ⟨gy, oy, none⟩) nm cy,
   fun v _ => v = .int .i64 (nm : Int),
   fun v _ => v = .bool true,
   fun v _ => v = .bool false,
   fun v _ => v = .bool false,
   fun v _ => v = .bool false,
   fun v _ => v = .bool true,
   fun v _ => v = .bool true,
   fun v _ => v = .agg #[.float .f64 yb, .int .i64 yv],
   fun v _ => v = .slice (some ⟨gy, oy, none⟩) nm cy,
   fun v _ => v = .pointer (some ⟨gy, oy, none⟩),
   fun v _ => v = .agg #[.int .u64 yq, .int .i64 yv],
   fun v _ => v = .int .i64 0,
   fun v _ => v = .bool false,
   fun v _ => v = .bool false,
   fun v _ => v = .bool false,
   fun v _ => v = .bool false,
   fun v _ => v = .int .i64 (j : Int),
   fun v _ => v = .int .i64 jm,
   fun v _ => v = .bool false,
   fun v _ => v = .bool false,
   fun v _ => v = undef,
   fun v _ => v = undef,
   fun v _ => v = undef,
   fun v _ => v = undef,
   fun v _ => v = undef,
   fun v _ => v = .bool false,
   fun v _ => v = .bool false]
theorem pp22Rsomefalse_kept (b : Nat) (gy : Nat) (oy : Nat) (nm : Nat) (cy : Nat) (yb : Nat) (j : Nat) (yq : Int) (yv : Int) (jm : Int) : Reg.AllKept Reg.Keeps (pp22Rsomefalse b gy oy nm cy yb j yq yv jm) :=
  ⟨(fun _ _ _ _ h => h), (fun _ _ _ _ h => h), (fun _ _ _ _ h => h), (fun _ _ _ _ h => h), (fun _ _ _ _ h => h), (fun _ _ _ _ h => h), (fun _ _ _ _ h => h), (fun _ _ _ _ h => h), (fun _ _ _ _ h => h), (fun _ _ _ _ h => h), (fun _ _ _ _ h => h), (fun _ _ _ _ h => h), (fun _ _ _ _ h => h), (fun _ _ _ _ h => h), (fun _ _ _ _ h => h), (fun _ _ _ _ h => h), (fun _ _ _ _ h => h), (fun _ _ _ _ h => h), (fun _ _ _ _ h => h), (fun _ _ _ _ h => h), (fun _ _ _ _ h => h), (fun _ _ _ _ h => h), (fun _ _ _ _ h => h), (fun _ _ _ _ h => h), (fun _ _ _ _ h => h), (fun _ _ _ _ h => h), (fun _ _ _ _ h => h), (fun _ _ _ _ h => h), (fun _ _ _ _ h => h), (fun _ _ _ _ h => h), (fun _ _ _ _ h => h), (fun _ _ _ _ h => h), (fun _ _ _ _ h => h), (fun _ _ _ _ h => h), (fun _ _ _ _ h => h), trivial⟩
def pp22Rsometrue (b : Nat) (gy : Nat) (oy : Nat) (nm : Nat) (cy : Nat) (yb : Nat) (j : Nat) (yq : Int) (yv : Int) (jm : Int) (LL : List KI) : List (Value → World → Prop) :=
  [fun v _ => v = .pointer (some ⟨b, 0, none⟩),
   fun v _ => v = .int .i64 (nm : Int),
   fun v _ => v = .slice (some ⟨gy, oy, none⟩) nm cy,
   fun v _ => v = .int .i64 (nm : Int),
   fun v _ => v = .bool false,
   fun v _ => v = .bool false,
   fun v _ => v = .bool true,
   fun v _ => v = .slice (some ⟨gy, oy, none⟩) nm cy,
   fun v _ => v = .int .i64 (nm : Int),
   fun v _ => v = .bool true,
   fun v _ => v = .bool false,
   fun v _ => v = .bool false,
   fun v _ => v = .bool false,
   fun v _ => v = .bool true,
   fun v _ => v = .bool true,
   fun v _ => v = .agg #[.float .f64 yb, .int .i64 yv],
   fun v _ => v = .slice (some ⟨gy, oy, none⟩) nm cy,
   fun v _ => v = .pointer (some ⟨gy, oy, none⟩),
   fun v _ => v = .agg #[.int .u64 yq, .int .i64 yv],
   fun v _ => v = .int .i64 0,
   fun v _ => v = .bool false,
   fun v _ => v = .bool false,
   fun v _ => v = .bool false,
   fun v _ => v = .bool false,
   fun v _ => v = .int .i64 (j : Int),
   fun v _ => v = .int .i64 jm,
   fun v _ => v = .bool true,
   fun v _ => v = .bool true,
   fun v _ => v = .pointer (some ⟨b, 0, none⟩),
   fun v w => ∃ g9, v = .slice (some ⟨g9, 0, none⟩) nm nm ∧ Row w g9 nm (LL : List KI).toArray,
   fun v _ => v = .slice (some ⟨gy, oy, none⟩) nm cy,
   fun v _ => v = .int .i64 0,
   fun v _ => v = .bool false,
   fun v _ => v = .bool false,
   fun v _ => v = .bool false]
theorem pp22Rsometrue_kept (b : Nat) (gy : Nat) (oy : Nat) (nm : Nat) (cy : Nat) (yb : Nat) (j : Nat) (yq : Int) (yv : Int) (jm : Int) (LL : List KI) : Reg.AllKept Reg.Keeps (pp22Rsometrue b gy oy nm cy yb j yq yv jm LL) :=
  ⟨(fun _ _ _ _ h => h), (fun _ _ _ _ h => h), (fun _ _ _ _ h => h), (fun _ _ _ _ h => h), (fun _ _ _ _ h => h), (fun _ _ _ _ h => h), (fun _ _ _ _ h => h), (fun _ _ _ _ h => h), (fun _ _ _ _ h => h), (fun _ _ _ _ h => h), (fun _ _ _ _ h => h), (fun _ _ _ _ h => h), (fun _ _ _ _ h => h), (fun _ _ _ _ h => h), (fun _ _ _ _ h => h), (fun _ _ _ _ h => h), (fun _ _ _ _ h => h), (fun _ _ _ _ h => h), (fun _ _ _ _ h => h), (fun _ _ _ _ h => h), (fun _ _ _ _ h => h), (fun _ _ _ _ h => h), (fun _ _ _ _ h => h), (fun _ _ _ _ h => h), (fun _ _ _ _ h => h), (fun _ _ _ _ h => h), (fun _ _ _ _ h => h), (fun _ _ _ _ h => h), (fun _ _ _ _ h => h), (fun v w w' hk h => by obtain ⟨g9, h1, h2⟩ := h; exact ⟨g9, h1, h2.but (S := fun _ => False) (But.of_below hk) id⟩), (fun _ _ _ _ h => h), (fun _ _ _ _ h => h), (fun _ _ _ _ h => h), (fun _ _ _ _ h => h), (fun _ _ _ _ h => h), trivial⟩
/-- Between two rounds of the first loop. -/
def P1 (w : World) (K V : Nat → Int) (i g5 c5 g6 c6 : Nat) (wr : World) : Prop :=
  Flat 2 wr g5 c5 i (flatI (ownL4 K V i)) ∧ w.heap.size ≤ g5 ∧ Flat 2 wr g6 c6 i (flatR (rsrt K V i)) ∧ w.heap.size ≤ g6 ∧ g5 ≠ g6 ∧ Below w.heap.size w wr

theorem Flat.items4 {w : World} {g cap n : Nat} {L : List It} (h : Flat 2 w g cap n (flatI L)) (hL : L.length = n) (P : Nat → Nat) (V : Nat → Int) (hP : ∀ i (hi : i < L.length), L[i] = (P i, V i)) (hb : ∀ i, i < n → P i < 18446744073709551616) : Items w (some ⟨g, 0, none⟩) n P V := fun i hi => by
  have hil : i < L.length := by omega
  obtain ⟨e0, e1⟩ := flatI_get L i hil
  rw [hP i hil] at e0 e1
  exact ⟨g, rfl, h.lt, h.cell _ _ e0, h.cell _ _ e1, hb i hi⟩
theorem RdR.head4 {w : World} {a : Option Addr} {z : KI} {K : List KI} (h : RdR w a (z :: K)) : ∃ g off, a = some ⟨g, off, none⟩ ∧ g < w.heap.size ∧ w.cell? ⟨g, off, none⟩ = some (.int .u64 (ni z.b)) ∧ w.cell? ⟨g, off + 1, none⟩ = some (.int .i64 z.v) ∧
    ∀ o9, (K = [] ∨ o9 = off + 2) → RdR w (some ⟨g, o9, none⟩) K := by
  obtain ⟨g, off, h1, h2, h3, h4⟩ := h 0 (by simp)
  rw [Nat.zero_mul, Nat.add_zero] at h3 h4
  refine ⟨g, off, h1, h2, h3, h4, fun o9 ho i hi => ?_⟩
  obtain ⟨g', off', e1, e2, e3, e4⟩ := h (i + 1) (by simp; omega)
  rw [h1] at e1
  injection e1 with e1
  injection e1 with e5 e6
  subst e5; subst e6
  have ho9 : o9 = off + 2 := by
    rcases ho with e | e
    · subst e; simp at hi
    · exact e
  subst ho9
  rw [show off + (i + 1) * 2 = off + 2 + i * 2 by omega] at e3 e4
  exact ⟨g, off + 2, rfl, e2, e3, e4⟩
theorem eq_zero4 (w : World) : Sem.run Try.prog (Op.equalIn 9999 27 (.float .f64 0) (.float .f64 0)) w = .ok true w := by kernel_rfl
/-- Between two rounds of the second loop. -/
def P2 (w W : World) (b g : Nat) (d : Array KI) (gx ox : Nat) (L : List KI) : Prop :=
  HeapAt W b g d ∧ w.heap.size ≤ b ∧ w.heap.size ≤ g ∧ d.toList.Perm L ∧ InOrder L ∧ RdR W (some ⟨gx, ox, none⟩) L ∧ gx < W.heap.size ∧ w.heap.size ≤ gx ∧ gx ≠ b ∧ gx ≠ g ∧ Below w.heap.size w W

set_option maxRecDepth 20000 in
set_option maxHeartbeats 16000000 in
theorem pilePlays_any (a : Option Addr) (n cap : Nat) (K V : Nat → Int) (a2 : Option Addr) (n2 cap2 : Nat) (w : World) (h : Raws w a n K V) (h2 : Acts4 w a2 n2) :
    Calls Try.prog 3 #[.slice a n cap, .slice a2 n2 cap2] w fun e w' => e = .returned (.bool true) ∧ Below w.heap.size w w' := by
  have hsf := run_store_float (P := Try.prog)
  have HH := hidq h
  have HA2 := hidq h2
  clear h h2
  go_enter Try.func3, Try.ntmps3
  go_wp2_with fail
  refine (awake4_any w).mono ?_
  rintro e w1 ⟨rfl, hb1⟩
  obtain ⟨g5, hg5⟩ : ∃ g5, w1.heap.size = g5 := ⟨_, rfl⟩
  have hs0 : (w1.alloc (.cells #[] 29)).heap.size = g5 + 1 := by rw [World.size_alloc, hg5]
  obtain ⟨W1, hW1⟩ : ∃ W1, (w1.alloc (.cells #[] 29)).alloc (.cells #[] 35) = W1 := ⟨_, rfl⟩
  have hT0 : P1 w K V 0 g5 0 (g5 + 1) 0 W1 := by
    have hba : Below w1.heap.size w1 (w1.alloc (.cells #[] 29)) := (Below.refl _ _).alloc (Nat.le_refl _) _
    have hbb : Below (w1.alloc (.cells #[] 29)).heap.size (w1.alloc (.cells #[] 29)) W1 := by rw [← hW1]; exact (Below.refl _ _).alloc (Nat.le_refl _) _
    have hw := hb1.size
    refine ⟨?_, by omega, ?_, by omega, by omega, (hb1.trans (hba.mono hb1.size)).trans (hbb.mono (by omega))⟩
    · have := Flat.new w1 [] 29 2 0 rfl (Nat.zero_le _) (fun u hu => by cases hu)
      rw [hg5] at this
      exact this.but (S := fun _ => False) (But.of_below hbb) id
    · have := Flat.new (w1.alloc (.cells #[] 29)) [] 35 2 0 rfl (Nat.zero_le _) (fun u hu => by cases hu)
      rw [hs0] at this
      rw [← hW1]
      exact this
  have HT0 := hidq hT0
  clear hT0 hb1
  go_upto_block 0 with fail
  clear hW1 hs0
  go_cut [5, 6] from 14 (fun s5 s6 wx => ∃ i g5 c5 g6 c6 : Nat, s5 = .slice (some ⟨g5, 0, none⟩) i c5 ∧ s6 = .slice (some ⟨g6, 0, none⟩) i c6 ∧ i ≤ n ∧ i ≤ 20 ∧ Hid (P1 w K V i g5 c5 g6 c6 wx))
  case first =>
   go_wp2_with fail
   go_loopw [5, 6, 7] (fun s5 s6 s7 wr => ∃ i g5 c5 g6 c6 : Nat, s5 = .slice (some ⟨g5, 0, none⟩) i c5 ∧ s6 = .slice (some ⟨g6, 0, none⟩) i c6 ∧ s7 = .int .i64 (i : Int) ∧ i ≤ n ∧ i ≤ 20 ∧ Hid (P1 w K V i g5 c5 g6 c6 wr)) (fun _ _ s7 _ => 20 - (intOf s7).toNat)
   case atStart => exact ⟨0, g5, 0, g5 + 1, 0, rfl, rfl, rfl, Nat.zero_le _, Nat.zero_le _, HT0⟩
   case round =>
     obtain ⟨i, g5, c5, g6, c6, rfl, rfl, rfl, hi1, hi20, hT⟩ := hrel
     clear HT0
     by_cases hlt : i < n ∧ i < 20
     · obtain ⟨hlt1, hlt2⟩ := hlt
       have hltI1 : (i : Int) < (n : Int) := by omega
       have hltI2 : (i : Int) < 20 := by omega
       obtain ⟨t1, t2, t3, t4, t5, t6⟩ := hT.out
       obtain ⟨zb, zo, rfl, hzl, hk, hv, hk0, hk1⟩ := HH.out i hlt1
       obtain ⟨p, hp⟩ : ∃ p, K i = p := ⟨_, rfl⟩
       obtain ⟨v, hvv⟩ : ∃ v, V i = v := ⟨_, rfl⟩
       rw [hp] at hk hk0 hk1
       rw [hvv] at hv
       have m0 : wr.cell? ⟨zb, zo + i * 2, none⟩ = some (.int .u64 p) := (t6.cell (p := ⟨zb, zo + i * 2, none⟩) hzl).trans hk
       have m1 : wr.cell? ⟨zb, zo + i * 2 + 1, none⟩ = some (.int .i64 v) := (t6.cell (p := ⟨zb, zo + i * 2 + 1, none⟩) hzl).trans hv
       have hzr : zb < wr.heap.size := Nat.lt_of_lt_of_le hzl t6.size
       have HZ := hidq (And.intro hzl (And.intro hk (And.intro hv (And.intro hk0 (And.intro hk1 (And.intro hp hvv))))))
       have hOw := hidq (fun W => own_any p v W)
       have HFL := hidq (And.intro t1 (And.intro t2 (And.intro t3 (And.intro t4 (And.intro t5 t6)))))
       have hi12 : i + 1 ≤ 1099511627776 := by omega
       clear t1 t2 t3 t4 t5 t6 hk hv hk0 hk1 hp hvv hzl hT
       go_wp2_with fail
       refine (hOw.out _).mono ?_
       rintro e w2 ⟨rfl, hb2⟩
       have HB2 := hidq hb2
       have HSL := hidq (show SlAt 2 w2 (some ⟨g5, 0, none⟩) c5 i (flatI (ownL4 K V i)) from .inr ⟨g5, rfl, HFL.out.1.but (S := fun _ => False) (But.of_below hb2) id⟩)
       clear hb2 hOw m0 m1 hzr
       obtain ⟨x, hx⟩ : ∃ x, mkKI (nf p) v = x := ⟨_, rfl⟩
       have hp18 : p < 18446744073709551616 := HZ.out.2.2.2.2.1
       have hxb : x.b = cbits (nf p) := by rw [← hx]; exact mkKI_b (nf_lt hp18) v
       have hxv : x.v = v := by rw [← hx]; exact mkKI_v (nf_lt hp18) v
       have HTo := hidq (fun W => told_any p v W HZ.out.2.2.2.1 hp18)
       rw [← hxb, ← hxv] at HTo
       have hki : kiOf K V i = x := by unfold kiOf; rw [HZ.out.2.2.2.2.2.1, HZ.out.2.2.2.2.2.2, hx]
       have hlen : (rsrt K V i).length = i := by
         have := HFL.out.2.2.1.len
         rw [flatR_length] at this
         omega
       have HX := hidq (And.intro hki (And.intro hlen hxv))
       have HL3 := hidq (fun w3 (hb3 : But (inB (some ⟨g5, 0, none⟩)) (w2.alloc (.cells #[.float .f64 (nf p), .int .i64 v] 29)) w3) => (show Below w.heap.size w w3 ∧ (w3.cell? ⟨zb, zo + i * 2, none⟩ = some (.int .u64 p) ∧ w3.cell? ⟨zb, zo + i * 2 + 1, none⟩ = some (.int .i64 v) ∧ zb < w3.heap.size) ∧ Flat 2 w3 g6 c6 i (flatR (rsrt K V i)) from by
         obtain ⟨t1, t2, t3, t4, t5, t6⟩ := HFL.out
         have hba : Below w2.heap.size w2 (w2.alloc (.cells #[.float .f64 (nf p), .int .i64 v] 29)) := (Below.refl _ _).alloc (Nat.le_refl _) _
         have h12 := t6.trans (HB2.out.mono t6.size)
         have h13 := h12.trans (hba.mono h12.size)
         have h14 := h13.trans (hb3.below (by have := h13.size; omega) (fun j hj => by obtain ⟨y, hy, rfl⟩ := hj; cases hy; exact t2))
         obtain ⟨z1, z2, z3, _⟩ := HZ.out
         refine ⟨h14, ⟨(h14.cell (p := ⟨zb, zo + i * 2, none⟩) z1).trans z2, (h14.cell (p := ⟨zb, zo + i * 2 + 1, none⟩) z1).trans z3, Nat.lt_of_lt_of_le z1 h14.size⟩, ((t3.but (S := fun _ => False) (But.of_below HB2.out) id).but (S := fun _ => False) (But.of_below hba) id).but hb3 (fun e => by obtain ⟨y, hy, e2⟩ := e; cases hy; exact t5 e2)⟩))
       clear hxb hki hlen hx hp18
       rw [← hxv] at HL3
       have hxv2 : v = x.v := hxv.symm
       subst hxv2
       go_wp2_with (at_builtin; refine wpList_sl plainI _ rfl (.tmp 28) (.tmp 34) rfl (some ⟨g5, 0, none⟩) c5 i (flatI (ownL4 K V i)) rfl (HSL.out.below ((Below.refl _ _).alloc (Nat.le_refl _) _)) _ rfl 1 [.float .f64 (nf p), .int .i64 x.v] (src_new 2 _ Try.underlying25 w2.heap.size [.float .f64 (nf p), .int .i64 x.v] rfl (fun j u hu => by rw [World.cell?_alloc_new]; simpa using hu) (by intro u hu; simp at hu; rcases hu with rfl | rfl <;> rfl)) (by omega) hi12 ?_; intro g7 c7 w3 hF3 hb3 hg3; have HF3 := hidq hF3; have HG3 := hidq hg3; have HLL := hidq (HL3.out w3 hb3); obtain ⟨m0, m1, hzr⟩ := HLL.out.2.1; clear hF3 hb3 hg3)
       refine (HTo.out _).mono ?_
       rintro e w4 ⟨rfl, hb4⟩
       have HB4 := hidq hb4
       have hRL : RdR w4 (some ⟨g6, 0, none⟩) (rsrt K V i) := RdR.of_flat (by rw [HX.out.2.1]; exact HLL.out.2.2.but (S := fun _ => False) (But.of_below hb4) id)
       have HW := hidq (withR_any (some ⟨g6, 0, none⟩) c6 (rsrt K V i) x w4 hRL (by rw [HX.out.2.1]; omega))
       rw [HX.out.2.1] at HW
       clear hb4 hRL m0 m1 hzr
       go_wp2_with fail
       refine (HW.out).mono ?_
       rintro e w5 ⟨g8, c8, rfl, hg8, hF8, hb5⟩
       have HN := hidq (show P1 w K V (i + 1) g7 c7 g8 c8 w5 from by
         obtain ⟨t1, t2, t3, t4, t5, t6⟩ := HFL.out
         obtain ⟨e1, e2, e3⟩ := HX.out
         obtain ⟨_, _, _, _, _, z1, z2⟩ := HZ.out
         have hg7 : w.heap.size ≤ g7 := by
           rcases HG3.out with ⟨y, hy, rfl⟩ | h
           · cases hy; exact t2
           · have := HB2.out.size
             have := t6.size
             rw [World.size_alloc] at h
             omega
         have hlt7 := HF3.out.lt
         have h34 := HB4.out.size
         refine ⟨?_, hg7, ?_, by have := HLL.out.1.size; omega, by omega, (HLL.out.1.trans (HB4.out.mono HLL.out.1.size)).trans (hb5.mono (by have := HLL.out.1.size; omega))⟩
         · rw [ownL4_succ, z1, z2]
           exact (HF3.out.but (S := fun _ => False) (But.of_below HB4.out) id).but (S := fun _ => False) (But.of_below hb5) id
         · rw [rsrt_succ, e1]
           exact hF8)
       clear hF8 hb5 hg8
       go_wp2_with fail
       exact ⟨⟨i + 1, g7, c7, g8, c8, rfl, rfl, by push_cast; rfl, by omega, by omega, HN⟩, by simp [intOf]; omega⟩
     · have hnext : ∀ (Q : Prop), (i < n → ¬ ((i : Int) < 20) → (i : Int) < (n : Int) → Q) → (¬ ((i : Int) < (n : Int)) → Q) → Q := fun Q h1 h2 => by
         rcases Nat.lt_or_ge i n with e | e
         · exact h1 e (by omega) (by omega)
         · exact h2 (by omega)
       apply hnext
       · intro hq0 hq1 hq2
         clear hnext
         go_wp2_with fail
         go_meet
         case rel => exact ⟨i, g5, c5, g6, c6, rfl, rfl, hi1, hi20, hT⟩
       · intro hq1
         clear hnext
         go_wp2_with fail
         go_meet
         case rel => exact ⟨i, g5, c5, g6, c6, rfl, rfl, hi1, hi20, hT⟩
  case rest =>
    clear HT0
    obtain ⟨i, g5, c5, g6, c6, rfl, rfl, hi1, hi20, hT⟩ := hcut
    obtain ⟨wr, hwr⟩ : ∃ wr, wr = wc := ⟨_, rfl⟩
    subst hwr
    have hrng : ∀ j, j < i → 0 ≤ K j ∧ K j < 18446744073709551616 := fun j hj => by
      obtain ⟨_, _, _, _, _, _, h0, h1⟩ := HH.out j (by omega)
      exact ⟨h0, h1⟩
    have hNw := hidq (new_any (some ⟨g5, 0, none⟩) i c5 (fun j => nf (K j)) V wr (hT.out.1.items4 (by simp [ownL4]) (fun j => nf (K j)) V (fun j hj => by simp [ownL4]) (fun j hj => nf_lt (hrng j hj).2)) (by omega))
    rw [canArr_list] at hNw
    have HP1 := hidq (fun w2 b g d (hb2 : wr.heap.size ≤ b) (hg2 : wr.heap.size ≤ g) (hH2 : HeapAt w2 b g d) (hp2 : d.toList.Perm ((List.range i).map (kiOf K V))) (hB2 : Below wr.heap.size wr w2) => (show P2 w w2 b g d g6 0 (rsrt K V i) from by
      obtain ⟨t1, t2, t3, t4, t5, t6⟩ := hT.out
      have hs := t6.size
      have hl6 := t3.lt
      have hl := hB2.size
      refine ⟨hH2, by omega, by omega, hp2.trans (rsrt_perm K V i).symm, rsrt_order K V i, RdR.of_flat (by rw [rsrt_length]; exact t3.but (S := fun _ => False) (But.of_below hB2) id), by omega, t4, by omega, by omega, t6.trans (hB2.mono hs)⟩))
    have hc6 := hT.out.2.2.1.le
    have hrl := rsrt_length K V i
    obtain ⟨RL, hRL⟩ : ∃ RL, rsrt K V i = RL := ⟨_, rfl⟩
    rw [hRL] at HP1 hrl
    clear hrng hT hRL
    subst hrl
    go_wp2_with fail
    refine hNw.out.mono ?_
    rintro e w2 ⟨b, g, d, rfl, hb2, hg2, hH2, hp2, hB2⟩
    have HP := hidq (HP1.out w2 b g d hb2 hg2 hH2 hp2 hB2)
    clear hNw hH2 hp2 hB2 hb2 hg2 HP1
    go_wp2_with fail
    go_loopw [6, 9] (fun s6 s9 wr => ∃ (j gx ox cx g : Nat) (d : Array KI) (L : List KI), s6 = .slice (some ⟨gx, ox, none⟩) L.length cx ∧ s9 = .int .i64 (j : Int) ∧ j ≤ n2 ∧ j ≤ 60 ∧ L.length ≤ 20 + j ∧ L.length ≤ cx ∧ Hid (P2 w wr b g d gx ox L)) (fun _ s9 _ => 60 - (intOf s9).toNat)
    case atStart => exact ⟨0, g6, 0, c6, g, d, RL, rfl, rfl, Nat.zero_le _, Nat.zero_le _, by omega, hc6, HP⟩
    case round =>
      clear hc6 HP hi1 hi20
      obtain ⟨j, gx, ox, cx, g, d, L, rfl, rfl, hj1, hj2, hL1, hL2, HP⟩ := hrel
      by_cases hlt : j < n2 ∧ j < 60
      · obtain ⟨hlt1, hlt2⟩ := hlt
        have hltI1 : (j : Int) < (n2 : Int) := by omega
        have hltI2 : (j : Int) < 60 := by omega
        obtain ⟨ab, ao, k, p, v, rfl, hal, ck, cp, cv, hp0, hp18⟩ := HA2.out j hlt1
        have HZ := hidq (And.intro hal (And.intro ck (And.intro cp (And.intro cv (And.intro hp0 hp18)))))
        have m0 : wr.cell? ⟨ab, ao + j * 3, none⟩ = some (.int .i64 k) := (HP.out.2.2.2.2.2.2.2.2.2.2.cell (p := ⟨ab, ao + j * 3, none⟩) hal).trans ck
        clear ck cp cv hp0 hp18 hal
        go_upto_if 61 with fail
        go_cut [6] from 45 to 152 (fun s6 wx => ∃ (gy oy cy nm gq : Nat) (dq : Array KI) (LQ : List KI), s6 = .slice (some ⟨gy, oy, none⟩) nm cy ∧ nm ≤ cy ∧ nm ≤ 20 + (j + 1) ∧ Hid (LQ.length = nm) ∧ Hid (P2 w wx b gq dq gy oy LQ))
        case first =>
         cases hkk : (bits .and .i64 k 1 == 0)
         · rcases Nat.eq_zero_or_pos d.size with hd0 | hd0
           · have hTk := hidq (take_none b g d wr HP.out.1 hd0)
             have hL0 : L = [] := by
               have := HP.out.2.2.2.1.length_eq
               simp at this
               exact List.length_eq_zero_iff.1 (by omega)
             subst hL0
             have hL1' : ([] : List KI).length ≤ 20 + (j + 1) := by simp
             go_wp2_with fail
             refine hTk.out.mono ?_
             rintro e w3 ⟨rfl, hb3⟩
             have hb4 : Below wr.heap.size wr (w3.alloc (.cells #[.float .f64 0, .int .i64 0] 29)) := hb3.alloc hb3.size _
             obtain ⟨bk, hbk⟩ : ∃ bk, w3.heap.size = bk := ⟨_, rfl⟩
             have HB3 := hidq hb4
             have hk0 : (w3.alloc (.cells #[.float .f64 0, .int .i64 0] 29)).cell? ⟨bk, 0, none⟩ = some (.float .f64 0) := by rw [← hbk, World.cell?_alloc_new]; rfl
             have hk1 : (w3.alloc (.cells #[.float .f64 0, .int .i64 0] 29)).cell? ⟨bk, 1, none⟩ = some (.int .i64 0) := by rw [← hbk, World.cell?_alloc_new]; rfl
             have hkl : bk < (w3.alloc (.cells #[.float .f64 0, .int .i64 0] 29)).heap.size := by rw [World.size_alloc, hbk]; omega
             have HK := hidq (And.intro hk0 (And.intro hk1 hkl))
             clear hb3 hb4 hk0 hk1 hkl m0
             go_wp2_with fail
             try rw [hbk]
             generalize w3.alloc (.cells #[.float .f64 0, .int .i64 0] 29) = w4 at *
             have FC1 := hidq (fun W (hW : Reg.Keeps w4 W) => And.intro ((hW.cell (p := ⟨bk, 0, none⟩) HK.out.2.2).trans HK.out.1) ((hW.cell (p := ⟨bk, 1, none⟩) HK.out.2.2).trans HK.out.2.1))
             clear hbk
             have hrefl : ∀ w : World, Reg.Keeps w w := Reg.Keeps.refl
             refine Reg.wp_region_props (Reg.ofList (pp18Rnone gx ox cx)) Reg.Keeps (fun _ w => Reg.Keeps w4 w) (by kernel_rfl) (by kernel_rfl) (Reg.AllKept.at _ (pp18Rnone_kept gx ox cx)) hrefl (Reg.Keeps.drewN (Reg.Keeps.refl _) 1) ⟨?_, ?_, ?_, ?_, ?_, ?_, ?_, ?_, ?_, ?_, ?_, ?_, ?_, ?_, ?_, ?_, ?_, ?_, ?_, ?_, ?_, ?_, ?_, ?_, ?_, trivial⟩ ?_
             · refine Reg.StepAt.plain (i := 0) rfl ?_
               intro L ev w hI hk hp hA
               have e11 : ev (.tmp 11) = .bool false := hA.oldNone 11 (by kernel_rfl)
               have hcc := hA.const
               clear hA hp
               refine Reg.out_value (v := .bool false) ?_ ⟨rfl, hrefl _, hI⟩
               go_simp
             · refine Reg.StepAt.plain (i := 1) rfl ?_
               intro L ev w hI hk hp hA
               have e6 : ev (.tmp 6) = .slice (some ⟨gx, ox, none⟩) 0 cx := hA.oldNone 6 (by kernel_rfl)
               have hcc := hA.const
               clear hA hp
               refine Reg.out_value (v := .slice (some ⟨gx, ox, none⟩) 0 cx) ?_ ⟨rfl, hrefl _, hI⟩
               go_simp
             · refine Reg.StepAt.plain (i := 2) rfl ?_
               intro L ev w hI hk hp hA
               have e84 : ev (.tmp 84) = .slice (some ⟨gx, ox, none⟩) 0 cx := hA.val 1 _ 84 rfl (hp ⟨1, .data⟩ (by simp) rfl) rfl
               have hcc := hA.const
               clear hA hp
               refine Reg.out_value (v := .int .i64 0) ?_ ⟨rfl, hrefl _, hI⟩
               go_simp
             · refine Reg.StepAt.plain (i := 3) rfl ?_
               intro L ev w hI hk hp hA
               have e85 : ev (.tmp 85) = .int .i64 0 := hA.val 2 _ 85 rfl (hp ⟨2, .data⟩ (by simp) rfl) rfl
               have hcc := hA.const
               clear hA hp
               refine Reg.out_value (v := .bool false) ?_ ⟨rfl, hrefl _, hI⟩
               go_simp
             · refine Reg.StepAt.plain (i := 4) rfl ?_
               intro L ev w hI hk hp hA
               have e83 : ev (.tmp 83) = .bool false := hA.val 0 _ 83 rfl (hp ⟨0, .data⟩ (by simp) rfl) rfl
               have e86 : ev (.tmp 86) = .bool false := hA.val 3 _ 86 rfl (hp ⟨3, .data⟩ (by simp) rfl) rfl
               have hcc := hA.const
               clear hA hp
               refine Reg.out_value (v := .bool false) ?_ ⟨rfl, hrefl _, hI⟩
               go_simp
             · refine Reg.StepAt.plain (i := 5) rfl ?_
               intro L ev w hI hk hp hA
               have e87 : ev (.tmp 87) = .bool false := hA.val 4 _ 87 rfl (hp ⟨4, .data⟩ (by simp) rfl) rfl
               have hcc := hA.const
               clear hA hp
               refine Reg.out_value (v := .bool false) ?_ ⟨rfl, hrefl _, hI⟩
               go_simp
             · refine Reg.StepAt.guarded (i := 6) rfl ?_
               intro L ev w hI hk hp hA
               have e11 : ev (.tmp 11) = .bool false := hA.oldNone 11 (by kernel_rfl)
               have eg : ev (.tmp 88) = .bool false := hA.val 5 _ 88 rfl (hp ⟨5, .guard⟩ (by simp) rfl) rfl
               refine ⟨_, 88, false, rfl, rfl, eg, ?_⟩
               rw [if_pos rfl]
               have hcc := hA.const
               clear hA hp
               refine Reg.out_value (v := .bool false) ?_ ⟨rfl, hrefl _, hI⟩
               go_simp
             · refine Reg.StepAt.guarded (i := 7) rfl ?_
               intro L ev w hI hk hp hA
               have e89 : ev (.tmp 89) = .bool false := hA.val 6 _ 89 rfl (hp ⟨6, .data⟩ (by simp) rfl) rfl
               have eg : ev (.tmp 88) = .bool false := hA.val 5 _ 88 rfl (hp ⟨5, .guard⟩ (by simp) rfl) rfl
               refine ⟨_, 88, false, rfl, rfl, eg, ?_⟩
               rw [if_pos rfl]
               have hcc := hA.const
               clear hA hp
               refine Reg.out_value (v := .bool true) ?_ ⟨rfl, hrefl _, hI⟩
               go_simp
             · refine Reg.StepAt.guarded (i := 8) rfl ?_
               intro L ev w hI hk hp hA
               have e90 : ev (.tmp 90) = .bool true := hA.val 7 _ 90 rfl (hp ⟨7, .data⟩ (by simp) rfl) rfl
               have eg : ev (.tmp 88) = .bool false := hA.val 5 _ 88 rfl (hp ⟨5, .chain⟩ (by simp) rfl) rfl
               refine ⟨_, 88, false, rfl, rfl, eg, ?_⟩
               rw [if_pos rfl]
               have hcc := hA.const
               clear hA hp
               refine Reg.out_value (v := .bool true) ?_ ⟨rfl, hrefl _, hI⟩
               go_simp
             · refine Reg.StepAt.guarded (i := 9) rfl ?_
               intro L ev w hI hk hp hA
               have e10 : ev (.tmp 10) = .pointer (some ⟨bk, 0, none⟩) := hA.oldNone 10 (by kernel_rfl)
               have eg : ev (.tmp 91) = .bool true := hA.val 8 _ 91 rfl (hp ⟨8, .guard⟩ (by simp) rfl) rfl
               refine ⟨_, 91, true, rfl, rfl, eg, ?_⟩
               rw [if_pos rfl]
               have hcc := hA.const
               clear hA hp
               obtain ⟨f0, f1⟩ := FC1.out w hI
               refine Reg.out_value (v := .agg #[.float .f64 0, .int .i64 0]) ?_ ⟨rfl, hrefl _, hI⟩
               go_simp
             · refine Reg.StepAt.guarded (i := 10) rfl ?_
               intro L ev w hI hk hp hA
               have eg : ev (.tmp 91) = .bool true := hA.val 8 _ 91 rfl (hp ⟨8, .guard⟩ (by simp) rfl) rfl
               refine ⟨_, 91, true, rfl, rfl, eg, ?_⟩
               rw [if_pos rfl]
               have hcc := hA.const
               clear hA hp
               refine Reg.out_value (v := .agg #[.float .f64 0, .int .i64 0]) ?_ ⟨rfl, hrefl _, hI⟩
               go_simp
             · refine Reg.StepAt.guarded (i := 11) rfl ?_
               intro L ev w hI hk hp hA
               have e92 : ev (.tmp 92) = .agg #[.float .f64 0, .int .i64 0] := hA.val 9 _ 92 rfl (hp ⟨9, .data⟩ (by simp) rfl) rfl
               have e93 : ev (.tmp 93) = .agg #[.float .f64 0, .int .i64 0] := hA.val 10 _ 93 rfl (hp ⟨10, .data⟩ (by simp) rfl) rfl
               have eg : ev (.tmp 91) = .bool true := hA.val 8 _ 91 rfl (hp ⟨8, .guard⟩ (by simp) rfl) rfl
               refine ⟨_, 91, true, rfl, rfl, eg, ?_⟩
               rw [if_pos rfl]
               have hcc := hA.const
               clear hA hp
               refine Reg.out_value (v := .bool false) ?_ ⟨rfl, hrefl _, hI⟩
               (have hEQ := eq_zero4 w; go_simp)
             · refine Reg.StepAt.guarded (i := 12) rfl ?_
               intro L ev w hI hk hp hA
               have e91 : ev (.tmp 91) = .bool true := hA.val 8 _ 91 rfl (hp ⟨8, .data⟩ (by simp) rfl) rfl
               have e94 : ev (.tmp 94) = .bool false := hA.val 11 _ 94 rfl (hp ⟨11, .data⟩ (by simp) rfl) rfl
               have eg : ev (.tmp 88) = .bool false := hA.val 5 _ 88 rfl (hp ⟨5, .guard⟩ (by simp) rfl) rfl
               refine ⟨_, 88, false, rfl, rfl, eg, ?_⟩
               rw [if_pos rfl]
               have hcc := hA.const
               clear hA hp
               refine Reg.out_value (v := .bool false) ?_ ⟨rfl, hrefl _, hI⟩
               go_simp
             · refine Reg.StepAt.plain (i := 13) rfl ?_
               intro L ev w hI hk hp hA
               have e88 : ev (.tmp 88) = .bool false := hA.val 5 _ 88 rfl (hp ⟨5, .data⟩ (by simp) rfl) rfl
               have e95 : ev (.tmp 95) = .bool false := hA.val 12 _ 95 rfl (hp ⟨12, .data⟩ (by simp) rfl) rfl
               have hcc := hA.const
               clear hA hp
               refine Reg.out_value (v := .bool false) ?_ ⟨rfl, hrefl _, hI⟩
               go_simp
             · refine Reg.StepAt.plain (i := 14) rfl ?_
               intro L ev w hI hk hp hA
               have e96 : ev (.tmp 96) = .bool false := hA.val 13 _ 96 rfl (hp ⟨13, .data⟩ (by simp) rfl) rfl
               have hcc := hA.const
               clear hA hp
               refine Reg.out_value (v := .bool false) ?_ ⟨rfl, hrefl _, hI⟩
               go_simp
             · refine Reg.StepAt.guarded (i := 15) rfl ?_
               intro L ev w hI hk hp hA
               have e11 : ev (.tmp 11) = .bool false := hA.oldNone 11 (by kernel_rfl)
               have eg : ev (.tmp 97) = .bool false := hA.val 14 _ 97 rfl (hp ⟨14, .guard⟩ (by simp) rfl) rfl
               refine ⟨_, 97, false, rfl, rfl, eg, ?_⟩
               rw [if_pos rfl]
               have hcc := hA.const
               clear hA hp
               refine Reg.out_value (v := .bool false) ?_ ⟨rfl, hrefl _, hI⟩
               go_simp
             · refine Reg.StepAt.guarded (i := 16) rfl ?_
               intro L ev w hI hk hp hA
               have e98 : ev (.tmp 98) = .bool false := hA.val 15 _ 98 rfl (hp ⟨15, .data⟩ (by simp) rfl) rfl
               have eg : ev (.tmp 97) = .bool false := hA.val 14 _ 97 rfl (hp ⟨14, .chain⟩ (by simp) rfl) rfl
               refine ⟨_, 97, false, rfl, rfl, eg, ?_⟩
               rw [if_pos rfl]
               have hcc := hA.const
               clear hA hp
               refine Reg.out_value (v := .bool false) ?_ ⟨rfl, hrefl _, hI⟩
               go_simp
             · refine Reg.StepAt.guarded (i := 17) rfl ?_
               intro L ev w hI hk hp hA
               have e10 : ev (.tmp 10) = .pointer (some ⟨bk, 0, none⟩) := hA.oldNone 10 (by kernel_rfl)
               have eg : ev (.tmp 99) = .bool false := hA.val 16 _ 99 rfl (hp ⟨16, .guard⟩ (by simp) rfl) rfl
               refine ⟨_, 99, false, rfl, rfl, eg, ?_⟩
               rw [if_neg (by decide)]
               have hcc := hA.const
               clear hA hp
               exact ⟨rfl, hI⟩
             · refine Reg.StepAt.guarded (i := 18) rfl ?_
               intro L ev w hI hk hp hA
               have e6 : ev (.tmp 6) = .slice (some ⟨gx, ox, none⟩) 0 cx := hA.oldNone 6 (by kernel_rfl)
               have eg : ev (.tmp 99) = .bool false := hA.val 16 _ 99 rfl (hp ⟨16, .guard⟩ (by simp) rfl) rfl
               refine ⟨_, 99, false, rfl, rfl, eg, ?_⟩
               rw [if_neg (by decide)]
               have hcc := hA.const
               clear hA hp
               exact ⟨rfl, hI⟩
             · refine Reg.StepAt.guarded (i := 19) rfl ?_
               intro L ev w hI hk hp hA
               have e101 : (fun v _ => v = undef) (ev (.tmp 101)) w := hA.val 18 _ 101 rfl (hp ⟨18, .data⟩ (by simp) rfl) rfl
               have eg : ev (.tmp 99) = .bool false := hA.val 16 _ 99 rfl (hp ⟨16, .guard⟩ (by simp) rfl) rfl
               refine ⟨_, 99, false, rfl, rfl, eg, ?_⟩
               rw [if_neg (by decide)]
               have hcc := hA.const
               clear hA hp
               exact ⟨rfl, hI⟩
             · refine Reg.StepAt.guarded (i := 20) rfl ?_
               intro L ev w hI hk hp hA
               have e102 : (fun v _ => v = undef) (ev (.tmp 102)) w := hA.val 19 _ 102 rfl (hp ⟨19, .data⟩ (by simp) rfl) rfl
               have eg : ev (.tmp 99) = .bool false := hA.val 16 _ 99 rfl (hp ⟨16, .guard⟩ (by simp) rfl) rfl
               refine ⟨_, 99, false, rfl, rfl, eg, ?_⟩
               rw [if_neg (by decide)]
               have hcc := hA.const
               clear hA hp
               exact ⟨rfl, hI⟩
             · refine Reg.StepAt.guarded (i := 21) rfl ?_
               intro L ev w hI hk hp hA
               have e100 : (fun v _ => v = undef) (ev (.tmp 100)) w := hA.val 17 _ 100 rfl (hp ⟨17, .data⟩ (by simp) rfl) rfl
               have e103 : (fun v _ => v = undef) (ev (.tmp 103)) w := hA.val 20 _ 103 rfl (hp ⟨20, .data⟩ (by simp) rfl) rfl
               have eg : ev (.tmp 99) = .bool false := hA.val 16 _ 99 rfl (hp ⟨16, .chain⟩ (by simp) rfl) rfl
               refine ⟨_, 99, false, rfl, rfl, eg, ?_⟩
               rw [if_neg (by decide)]
               have hcc := hA.const
               have hcf := hA.func
               clear hA hp
               exact ⟨rfl, hI⟩
             · refine Reg.StepAt.guarded (i := 22) rfl ?_
               intro L ev w hI hk hp hA
               have e104 : (fun v _ => v = undef) (ev (.tmp 104)) w := hA.val 21 _ 104 rfl (hp ⟨21, .data⟩ (by simp) rfl) rfl
               have eg : ev (.tmp 99) = .bool false := hA.val 16 _ 99 rfl (hp ⟨16, .guard⟩ (by simp) rfl) rfl
               refine ⟨_, 99, false, rfl, rfl, eg, ?_⟩
               rw [if_neg (by decide)]
               have hcc := hA.const
               clear hA hp
               exact ⟨rfl, hI⟩
             · refine Reg.StepAt.guarded (i := 23) rfl ?_
               intro L ev w hI hk hp hA
               have e99 : ev (.tmp 99) = .bool false := hA.val 16 _ 99 rfl (hp ⟨16, .data⟩ (by simp) rfl) rfl
               have e105 : (fun v _ => v = undef) (ev (.tmp 105)) w := hA.val 22 _ 105 rfl (hp ⟨22, .data⟩ (by simp) rfl) rfl
               have eg : ev (.tmp 97) = .bool false := hA.val 14 _ 97 rfl (hp ⟨14, .guard⟩ (by simp) rfl) rfl
               refine ⟨_, 97, false, rfl, rfl, eg, ?_⟩
               rw [if_pos rfl]
               have hcc := hA.const
               clear hA hp
               refine Reg.out_value (v := .bool false) ?_ ⟨rfl, hrefl _, hI⟩
               go_simp
             · refine Reg.StepAt.plain (i := 24) rfl ?_
               intro L ev w hI hk hp hA
               have e97 : ev (.tmp 97) = .bool false := hA.val 14 _ 97 rfl (hp ⟨14, .data⟩ (by simp) rfl) rfl
               have e106 : ev (.tmp 106) = .bool false := hA.val 23 _ 106 rfl (hp ⟨23, .data⟩ (by simp) rfl) rfl
               have hcc := hA.const
               clear hA hp
               refine Reg.out_value (v := .bool false) ?_ ⟨rfl, hrefl _, hI⟩
               go_simp
             intro L act wq hall hI hF
             have g83 : act.eval (.tmp 83) = .bool false := hF.val 0 _ 83 rfl (hall 0 (by simp)) rfl
             have g84 : act.eval (.tmp 84) = .slice (some ⟨gx, ox, none⟩) 0 cx := hF.val 1 _ 84 rfl (hall 1 (by simp)) rfl
             have g85 : act.eval (.tmp 85) = .int .i64 0 := hF.val 2 _ 85 rfl (hall 2 (by simp)) rfl
             have g86 : act.eval (.tmp 86) = .bool false := hF.val 3 _ 86 rfl (hall 3 (by simp)) rfl
             have g87 : act.eval (.tmp 87) = .bool false := hF.val 4 _ 87 rfl (hall 4 (by simp)) rfl
             have g88 : act.eval (.tmp 88) = .bool false := hF.val 5 _ 88 rfl (hall 5 (by simp)) rfl
             have g89 : act.eval (.tmp 89) = .bool false := hF.val 6 _ 89 rfl (hall 6 (by simp)) rfl
             have g90 : act.eval (.tmp 90) = .bool true := hF.val 7 _ 90 rfl (hall 7 (by simp)) rfl
             have g91 : act.eval (.tmp 91) = .bool true := hF.val 8 _ 91 rfl (hall 8 (by simp)) rfl
             have g92 : act.eval (.tmp 92) = .agg #[.float .f64 0, .int .i64 0] := hF.val 9 _ 92 rfl (hall 9 (by simp)) rfl
             have g93 : act.eval (.tmp 93) = .agg #[.float .f64 0, .int .i64 0] := hF.val 10 _ 93 rfl (hall 10 (by simp)) rfl
             have g94 : act.eval (.tmp 94) = .bool false := hF.val 11 _ 94 rfl (hall 11 (by simp)) rfl
             have g95 : act.eval (.tmp 95) = .bool false := hF.val 12 _ 95 rfl (hall 12 (by simp)) rfl
             have g96 : act.eval (.tmp 96) = .bool false := hF.val 13 _ 96 rfl (hall 13 (by simp)) rfl
             have g97 : act.eval (.tmp 97) = .bool false := hF.val 14 _ 97 rfl (hall 14 (by simp)) rfl
             have g98 : act.eval (.tmp 98) = .bool false := hF.val 15 _ 98 rfl (hall 15 (by simp)) rfl
             have g99 : act.eval (.tmp 99) = .bool false := hF.val 16 _ 99 rfl (hall 16 (by simp)) rfl
             have g100 : (fun v _ => v = undef) (act.eval (.tmp 100)) wq := hF.val 17 _ 100 rfl (hall 17 (by simp)) rfl
             have g101 : (fun v _ => v = undef) (act.eval (.tmp 101)) wq := hF.val 18 _ 101 rfl (hall 18 (by simp)) rfl
             have g102 : (fun v _ => v = undef) (act.eval (.tmp 102)) wq := hF.val 19 _ 102 rfl (hall 19 (by simp)) rfl
             have g103 : (fun v _ => v = undef) (act.eval (.tmp 103)) wq := hF.val 20 _ 103 rfl (hall 20 (by simp)) rfl
             have g104 : (fun v _ => v = undef) (act.eval (.tmp 104)) wq := hF.val 21 _ 104 rfl (hall 21 (by simp)) rfl
             have g105 : (fun v _ => v = undef) (act.eval (.tmp 105)) wq := hF.val 22 _ 105 rfl (hall 22 (by simp)) rfl
             have g106 : act.eval (.tmp 106) = .bool false := hF.val 23 _ 106 rfl (hall 23 (by simp)) rfl
             have g107 : act.eval (.tmp 107) = .bool false := hF.val 24 _ 107 rfl (hall 24 (by simp)) rfl
             have hact := hF.act [83, 84, 85, 86, 87, 88, 89, 90, 91, 92, 93, 94, 95, 96, 97, 98, 99, 100, 101, 102, 103, 104, 105, 106, 107] (by kernel_rfl)
             clear hF hall
             simp only [List.foldl_cons, List.foldl_nil] at hact
             rw [g83, g84, g85, g86, g87, g88, g89, g90, g91, g92, g93, g94, g95, g96, g97, g98, g99, g106, g107] at hact
             clear g83 g84 g85 g86 g87 g88 g89 g90 g91 g92 g93 g94 g95 g96 g97 g98 g99 g106 g107
             generalize act.eval (.tmp 100) = u100 at hact g100
             generalize act.eval (.tmp 101) = u101 at hact g101
             generalize act.eval (.tmp 102) = u102 at hact g102
             generalize act.eval (.tmp 103) = u103 at hact g103
             generalize act.eval (.tmp 104) = u104 at hact g104
             generalize act.eval (.tmp 105) = u105 at hact g105
             simp only [List.setIfInBounds_toArray, List.set_cons_succ, List.set_cons_zero] at hact
             subst hact
             have HQ := hidq (show P2 w wq b g d gx ox [] from by
               obtain ⟨t1, t2, t3, t4, t5, t6, t7, t8, t9, t10, t11⟩ := HP.out
               have hz : Below wr.heap.size wr wq := HB3.out.trans ((show Below w4.heap.size w4 wq from hI).mono HB3.out.size)
               have hbz : But (fun _ => False) wr wq := But.of_below hz
               exact ⟨t1.but hbz id id, t2, t3, t4, t5, t6.below hz, Nat.lt_of_lt_of_le t7 hz.size, t8, t9, t10, t11.trans (hz.mono t11.size)⟩)
             clear hI HB3 HK FC1 hTk HP
             go_wp2_with fail
             all_goals (try rw [show (min (0 : Int) 1).toNat = 0 from rfl])
             all_goals (try rw [Nat.zero_mul, Nat.add_zero, Nat.sub_zero])
             · go_meet
               case rel => exact ⟨gx, ox, 0, 0, g, d, [], rfl, Nat.le_refl _, by omega, hidq rfl, HQ⟩
             · go_meet
               case rel => exact ⟨gx, ox, cx, 0, g, d, [], rfl, Nat.zero_le _, by omega, hidq rfl, HQ⟩
           · have hTk := hidq (take_some b g d wr HP.out.1 hd0)
             obtain ⟨y, L', rfl⟩ : ∃ y L', L = y :: L' := by
               have := HP.out.2.2.2.1.length_eq
               match L with
               | [] => rw [Array.length_toList] at this; simp only [List.length_nil] at this; omega
               | y :: L' => exact ⟨y, L', rfl⟩
             have hyd : d[0]! = y := by
               obtain ⟨_, _, _, t4, t5, _⟩ := HP.out
               obtain ⟨a1, a2⟩ := List.pairwise_cons.1 t5
               rcases List.mem_cons.1 (t4.mem_iff.1 (first_mem hd0)) with e | e
               · exact e
               · exact KI.total _ _ (a1 _ e) (HP.out.1.first y (t4.mem_iff.2 List.mem_cons_self))
             rw [hyd] at hTk
             go_wp2_with fail
             refine hTk.out.mono ?_
             rintro e w3 ⟨rfl, d', hH3, hp3, hb3⟩
             obtain ⟨yq, hyq⟩ : ∃ yq, ni y.b = yq := ⟨_, rfl⟩
             have HIs := hidq (fun W => (show Calls Try.prog 15 #[.agg #[.float .f64 y.b, .int .i64 y.v], .agg #[.int .u64 yq, .int .i64 y.v]] W fun e w' => e = .returned (.int .i64 0) ∧ Below W.heap.size W w' from by
               have := is_any y.b y.v yq y.v W
               rw [← hyq, isV_same y] at this
               rw [← hyq]
               exact this))
             have hR3 : RdR (w3.alloc (.cells #[.float .f64 y.b, .int .i64 y.v] 29)) (some ⟨gx, ox, none⟩) (y :: L') := by
               obtain ⟨t1, t2, t3, t4, t5, t6, t7, t8, t9, t10, t11⟩ := HP.out
               exact (t6.but hb3 (fun i hi => by obtain ⟨z, hz, rfl⟩ := hi; cases hz; intro e2; rcases e2 with e2 | e2; exact t9 e2; exact t10 e2)).below ((Below.refl _ _).alloc (Nat.le_refl _) _)
             have hb4 : But (fun k => k = b ∨ k = g) wr (w3.alloc (.cells #[.float .f64 y.b, .int .i64 y.v] 29)) := hb3.trans (((But.refl _ _).alloc _).mono (fun _ _ e => e))
             have hb4' : But (fun _ => False) w3 (w3.alloc (.cells #[.float .f64 y.b, .int .i64 y.v] 29)) := (But.refl _ _).alloc _
             have hH4 := hH3.but hb4' id id
             obtain ⟨bk, hbk⟩ : ∃ bk, w3.heap.size = bk := ⟨_, rfl⟩
             have hk0 : (w3.alloc (.cells #[.float .f64 y.b, .int .i64 y.v] 29)).cell? ⟨bk, 0, none⟩ = some (.float .f64 y.b) := by rw [← hbk, World.cell?_alloc_new]; rfl
             have hk1 : (w3.alloc (.cells #[.float .f64 y.b, .int .i64 y.v] 29)).cell? ⟨bk, 1, none⟩ = some (.int .i64 y.v) := by rw [← hbk, World.cell?_alloc_new]; rfl
             have hkl : bk < (w3.alloc (.cells #[.float .f64 y.b, .int .i64 y.v] 29)).heap.size := by rw [World.size_alloc, hbk]; omega
             have HK := hidq (And.intro hk0 (And.intro hk1 hkl))
             have HT4 := hidq (And.intro hH4 (And.intro hp3 (And.intro hb4 hR3)))
             clear hH3 hp3 hb3 hyd hH4 hb4 hb4' hk0 hk1 hkl m0 hR3 hTk
             have hnl1 : (1 : Int) ≤ (L'.length : Int) + 1 := by omega
             have hnl0 : (0 : Int) < (L'.length : Int) + 1 := by omega
             go_wp2_with fail
             try rw [hbk]
             generalize w3.alloc (.cells #[.float .f64 y.b, .int .i64 y.v] 29) = w4 at *
             have FC1 := hidq (fun W (hW : Reg.Keeps w4 W) => (show W.cell? ⟨bk, 0, none⟩ = some (.float .f64 y.b) ∧ W.cell? ⟨bk, 1, none⟩ = some (.int .i64 y.v) ∧ W.cell? ⟨gx, ox, none⟩ = some (.int .u64 yq) ∧ W.cell? ⟨gx, ox + 1, none⟩ = some (.int .i64 y.v) from by
               obtain ⟨g0, o0, e1, e2, e3, e4, _⟩ := HT4.out.2.2.2.head4
               cases e1
               rw [hyq] at e3
               exact ⟨(hW.cell (p := ⟨bk, 0, none⟩) HK.out.2.2).trans HK.out.1, (hW.cell (p := ⟨bk, 1, none⟩) HK.out.2.2).trans HK.out.2.1, (hW.cell (p := ⟨gx, ox, none⟩) e2).trans e3, (hW.cell (p := ⟨gx, ox + 1, none⟩) e2).trans e4⟩))
             clear hbk hyq
             obtain ⟨nl, hnl⟩ : ∃ nl, L'.length + 1 = nl := ⟨_, rfl⟩
             have hnlI : ((L'.length : Int) + 1) = (nl : Int) := by omega
             try rw [hnlI] at hnl0 hnl1
             have HNL := hidq hnl
             have hcx1 : nl ≤ cx := by rw [← hnl]; exact hL2
             rw [hnl]
             have hnlN : 0 < nl := by omega
             have hnlZ : ¬ nl = 0 := by omega
             clear hnl hnlI
             have hrefl : ∀ w : World, Reg.Keeps w w := Reg.Keeps.refl
             refine Reg.wp_region_props (Reg.ofList (pp18Rsome gx ox nl cx y.b yq y.v)) Reg.Keeps (fun _ w => Reg.Keeps w4 w) (by kernel_rfl) (by kernel_rfl) (Reg.AllKept.at _ (pp18Rsome_kept gx ox nl cx y.b yq y.v)) hrefl (Reg.Keeps.drewN (Reg.Keeps.refl _) 1) ⟨?_, ?_, ?_, ?_, ?_, ?_, ?_, ?_, ?_, ?_, ?_, ?_, ?_, ?_, ?_, ?_, ?_, ?_, ?_, ?_, ?_, ?_, ?_, ?_, ?_, trivial⟩ ?_
             · refine Reg.StepAt.plain (i := 0) rfl ?_
               intro L ev w hI hk hp hA
               have e11 : ev (.tmp 11) = .bool true := hA.oldNone 11 (by kernel_rfl)
               have hcc := hA.const
               clear hA hp
               refine Reg.out_value (v := .bool true) ?_ ⟨rfl, hrefl _, hI⟩
               go_simp
             · refine Reg.StepAt.plain (i := 1) rfl ?_
               intro L ev w hI hk hp hA
               have e6 : ev (.tmp 6) = .slice (some ⟨gx, ox, none⟩) nl cx := hA.oldNone 6 (by kernel_rfl)
               have hcc := hA.const
               clear hA hp
               refine Reg.out_value (v := .slice (some ⟨gx, ox, none⟩) nl cx) ?_ ⟨rfl, hrefl _, hI⟩
               go_simp
             · refine Reg.StepAt.plain (i := 2) rfl ?_
               intro L ev w hI hk hp hA
               have e84 : ev (.tmp 84) = .slice (some ⟨gx, ox, none⟩) nl cx := hA.val 1 _ 84 rfl (hp ⟨1, .data⟩ (by simp) rfl) rfl
               have hcc := hA.const
               clear hA hp
               refine Reg.out_value (v := .int .i64 (nl : Int)) ?_ ⟨rfl, hrefl _, hI⟩
               go_simp
             · refine Reg.StepAt.plain (i := 3) rfl ?_
               intro L ev w hI hk hp hA
               have e85 : ev (.tmp 85) = .int .i64 (nl : Int) := hA.val 2 _ 85 rfl (hp ⟨2, .data⟩ (by simp) rfl) rfl
               have hcc := hA.const
               clear hA hp
               refine Reg.out_value (v := .bool true) ?_ ⟨rfl, hrefl _, hI⟩
               (go_simp; try omega)
             · refine Reg.StepAt.plain (i := 4) rfl ?_
               intro L ev w hI hk hp hA
               have e83 : ev (.tmp 83) = .bool true := hA.val 0 _ 83 rfl (hp ⟨0, .data⟩ (by simp) rfl) rfl
               have e86 : ev (.tmp 86) = .bool true := hA.val 3 _ 86 rfl (hp ⟨3, .data⟩ (by simp) rfl) rfl
               have hcc := hA.const
               clear hA hp
               refine Reg.out_value (v := .bool false) ?_ ⟨rfl, hrefl _, hI⟩
               go_simp
             · refine Reg.StepAt.plain (i := 5) rfl ?_
               intro L ev w hI hk hp hA
               have e87 : ev (.tmp 87) = .bool false := hA.val 4 _ 87 rfl (hp ⟨4, .data⟩ (by simp) rfl) rfl
               have hcc := hA.const
               clear hA hp
               refine Reg.out_value (v := .bool false) ?_ ⟨rfl, hrefl _, hI⟩
               go_simp
             · refine Reg.StepAt.guarded (i := 6) rfl ?_
               intro L ev w hI hk hp hA
               have e11 : ev (.tmp 11) = .bool true := hA.oldNone 11 (by kernel_rfl)
               have eg : ev (.tmp 88) = .bool false := hA.val 5 _ 88 rfl (hp ⟨5, .guard⟩ (by simp) rfl) rfl
               refine ⟨_, 88, false, rfl, rfl, eg, ?_⟩
               rw [if_pos rfl]
               have hcc := hA.const
               clear hA hp
               refine Reg.out_value (v := .bool true) ?_ ⟨rfl, hrefl _, hI⟩
               go_simp
             · refine Reg.StepAt.guarded (i := 7) rfl ?_
               intro L ev w hI hk hp hA
               have e89 : ev (.tmp 89) = .bool true := hA.val 6 _ 89 rfl (hp ⟨6, .data⟩ (by simp) rfl) rfl
               have eg : ev (.tmp 88) = .bool false := hA.val 5 _ 88 rfl (hp ⟨5, .guard⟩ (by simp) rfl) rfl
               refine ⟨_, 88, false, rfl, rfl, eg, ?_⟩
               rw [if_pos rfl]
               have hcc := hA.const
               clear hA hp
               refine Reg.out_value (v := .bool false) ?_ ⟨rfl, hrefl _, hI⟩
               go_simp
             · refine Reg.StepAt.guarded (i := 8) rfl ?_
               intro L ev w hI hk hp hA
               have e90 : ev (.tmp 90) = .bool false := hA.val 7 _ 90 rfl (hp ⟨7, .data⟩ (by simp) rfl) rfl
               have eg : ev (.tmp 88) = .bool false := hA.val 5 _ 88 rfl (hp ⟨5, .chain⟩ (by simp) rfl) rfl
               refine ⟨_, 88, false, rfl, rfl, eg, ?_⟩
               rw [if_pos rfl]
               have hcc := hA.const
               clear hA hp
               refine Reg.out_value (v := .bool false) ?_ ⟨rfl, hrefl _, hI⟩
               go_simp
             · refine Reg.StepAt.guarded (i := 9) rfl ?_
               intro L ev w hI hk hp hA
               have e10 : ev (.tmp 10) = .pointer (some ⟨bk, 0, none⟩) := hA.oldNone 10 (by kernel_rfl)
               have eg : ev (.tmp 91) = .bool false := hA.val 8 _ 91 rfl (hp ⟨8, .guard⟩ (by simp) rfl) rfl
               refine ⟨_, 91, false, rfl, rfl, eg, ?_⟩
               rw [if_neg (by decide)]
               have hcc := hA.const
               clear hA hp
               exact ⟨rfl, hI⟩
             · refine Reg.StepAt.guarded (i := 10) rfl ?_
               intro L ev w hI hk hp hA
               have eg : ev (.tmp 91) = .bool false := hA.val 8 _ 91 rfl (hp ⟨8, .guard⟩ (by simp) rfl) rfl
               refine ⟨_, 91, false, rfl, rfl, eg, ?_⟩
               rw [if_neg (by decide)]
               have hcc := hA.const
               clear hA hp
               exact ⟨rfl, hI⟩
             · refine Reg.StepAt.guarded (i := 11) rfl ?_
               intro L ev w hI hk hp hA
               have e92 : (fun v _ => v = undef) (ev (.tmp 92)) w := hA.val 9 _ 92 rfl (hp ⟨9, .data⟩ (by simp) rfl) rfl
               have e93 : (fun v _ => v = undef) (ev (.tmp 93)) w := hA.val 10 _ 93 rfl (hp ⟨10, .data⟩ (by simp) rfl) rfl
               have eg : ev (.tmp 91) = .bool false := hA.val 8 _ 91 rfl (hp ⟨8, .guard⟩ (by simp) rfl) rfl
               refine ⟨_, 91, false, rfl, rfl, eg, ?_⟩
               rw [if_neg (by decide)]
               have hcc := hA.const
               clear hA hp
               exact ⟨rfl, hI⟩
             · refine Reg.StepAt.guarded (i := 12) rfl ?_
               intro L ev w hI hk hp hA
               have e91 : ev (.tmp 91) = .bool false := hA.val 8 _ 91 rfl (hp ⟨8, .data⟩ (by simp) rfl) rfl
               have e94 : (fun v _ => v = undef) (ev (.tmp 94)) w := hA.val 11 _ 94 rfl (hp ⟨11, .data⟩ (by simp) rfl) rfl
               have eg : ev (.tmp 88) = .bool false := hA.val 5 _ 88 rfl (hp ⟨5, .guard⟩ (by simp) rfl) rfl
               refine ⟨_, 88, false, rfl, rfl, eg, ?_⟩
               rw [if_pos rfl]
               have hcc := hA.const
               clear hA hp
               refine Reg.out_value (v := .bool false) ?_ ⟨rfl, hrefl _, hI⟩
               go_simp
             · refine Reg.StepAt.plain (i := 13) rfl ?_
               intro L ev w hI hk hp hA
               have e88 : ev (.tmp 88) = .bool false := hA.val 5 _ 88 rfl (hp ⟨5, .data⟩ (by simp) rfl) rfl
               have e95 : ev (.tmp 95) = .bool false := hA.val 12 _ 95 rfl (hp ⟨12, .data⟩ (by simp) rfl) rfl
               have hcc := hA.const
               clear hA hp
               refine Reg.out_value (v := .bool false) ?_ ⟨rfl, hrefl _, hI⟩
               go_simp
             · refine Reg.StepAt.plain (i := 14) rfl ?_
               intro L ev w hI hk hp hA
               have e96 : ev (.tmp 96) = .bool false := hA.val 13 _ 96 rfl (hp ⟨13, .data⟩ (by simp) rfl) rfl
               have hcc := hA.const
               clear hA hp
               refine Reg.out_value (v := .bool false) ?_ ⟨rfl, hrefl _, hI⟩
               go_simp
             · refine Reg.StepAt.guarded (i := 15) rfl ?_
               intro L ev w hI hk hp hA
               have e11 : ev (.tmp 11) = .bool true := hA.oldNone 11 (by kernel_rfl)
               have eg : ev (.tmp 97) = .bool false := hA.val 14 _ 97 rfl (hp ⟨14, .guard⟩ (by simp) rfl) rfl
               refine ⟨_, 97, false, rfl, rfl, eg, ?_⟩
               rw [if_pos rfl]
               have hcc := hA.const
               clear hA hp
               refine Reg.out_value (v := .bool true) ?_ ⟨rfl, hrefl _, hI⟩
               go_simp
             · refine Reg.StepAt.guarded (i := 16) rfl ?_
               intro L ev w hI hk hp hA
               have e98 : ev (.tmp 98) = .bool true := hA.val 15 _ 98 rfl (hp ⟨15, .data⟩ (by simp) rfl) rfl
               have eg : ev (.tmp 97) = .bool false := hA.val 14 _ 97 rfl (hp ⟨14, .chain⟩ (by simp) rfl) rfl
               refine ⟨_, 97, false, rfl, rfl, eg, ?_⟩
               rw [if_pos rfl]
               have hcc := hA.const
               clear hA hp
               refine Reg.out_value (v := .bool true) ?_ ⟨rfl, hrefl _, hI⟩
               go_simp
             · refine Reg.StepAt.guarded (i := 17) rfl ?_
               intro L ev w hI hk hp hA
               have e10 : ev (.tmp 10) = .pointer (some ⟨bk, 0, none⟩) := hA.oldNone 10 (by kernel_rfl)
               have eg : ev (.tmp 99) = .bool true := hA.val 16 _ 99 rfl (hp ⟨16, .guard⟩ (by simp) rfl) rfl
               refine ⟨_, 99, true, rfl, rfl, eg, ?_⟩
               rw [if_pos rfl]
               have hcc := hA.const
               clear hA hp
               obtain ⟨f0, f1, f2, f3⟩ := FC1.out w hI
               refine Reg.out_value (v := .agg #[.float .f64 y.b, .int .i64 y.v]) ?_ ⟨rfl, hrefl _, hI⟩
               go_simp
             · refine Reg.StepAt.guarded (i := 18) rfl ?_
               intro L ev w hI hk hp hA
               have e6 : ev (.tmp 6) = .slice (some ⟨gx, ox, none⟩) nl cx := hA.oldNone 6 (by kernel_rfl)
               have eg : ev (.tmp 99) = .bool true := hA.val 16 _ 99 rfl (hp ⟨16, .guard⟩ (by simp) rfl) rfl
               refine ⟨_, 99, true, rfl, rfl, eg, ?_⟩
               rw [if_pos rfl]
               have hcc := hA.const
               clear hA hp
               refine Reg.out_value (v := .slice (some ⟨gx, ox, none⟩) nl cx) ?_ ⟨rfl, hrefl _, hI⟩
               go_simp
             · refine Reg.StepAt.guarded (i := 19) rfl ?_
               intro L ev w hI hk hp hA
               have e101 : ev (.tmp 101) = .slice (some ⟨gx, ox, none⟩) nl cx := hA.val 18 _ 101 rfl (hp ⟨18, .data⟩ (by simp) rfl) rfl
               have eg : ev (.tmp 99) = .bool true := hA.val 16 _ 99 rfl (hp ⟨16, .guard⟩ (by simp) rfl) rfl
               refine ⟨_, 99, true, rfl, rfl, eg, ?_⟩
               rw [if_pos rfl]
               have hcc := hA.const
               clear hA hp
               refine Reg.out_value (v := .pointer (some ⟨gx, ox, none⟩)) ?_ ⟨rfl, hrefl _, hI⟩
               (go_simp; try (intro hz; omega))
             · refine Reg.StepAt.guarded (i := 20) rfl ?_
               intro L ev w hI hk hp hA
               have e102 : ev (.tmp 102) = .pointer (some ⟨gx, ox, none⟩) := hA.val 19 _ 102 rfl (hp ⟨19, .data⟩ (by simp) rfl) rfl
               have eg : ev (.tmp 99) = .bool true := hA.val 16 _ 99 rfl (hp ⟨16, .guard⟩ (by simp) rfl) rfl
               refine ⟨_, 99, true, rfl, rfl, eg, ?_⟩
               rw [if_pos rfl]
               have hcc := hA.const
               clear hA hp
               obtain ⟨f0, f1, f2, f3⟩ := FC1.out w hI
               refine Reg.out_value (v := .agg #[.int .u64 yq, .int .i64 y.v]) ?_ ⟨rfl, hrefl _, hI⟩
               go_simp
             · refine Reg.StepAt.guarded (i := 21) rfl ?_
               intro L ev w hI hk hp hA
               have e100 : ev (.tmp 100) = .agg #[.float .f64 y.b, .int .i64 y.v] := hA.val 17 _ 100 rfl (hp ⟨17, .data⟩ (by simp) rfl) rfl
               have e103 : ev (.tmp 103) = .agg #[.int .u64 yq, .int .i64 y.v] := hA.val 20 _ 103 rfl (hp ⟨20, .data⟩ (by simp) rfl) rfl
               have eg : ev (.tmp 99) = .bool true := hA.val 16 _ 99 rfl (hp ⟨16, .chain⟩ (by simp) rfl) rfl
               refine ⟨_, 99, true, rfl, rfl, eg, ?_⟩
               rw [if_pos rfl]
               have hcc := hA.const
               have hcf := hA.func
               clear hA hp
               refine Reg.out_call (f := 15) (args := #[.agg #[.float .f64 y.b, .int .i64 y.v], .agg #[.int .u64 yq, .int .i64 y.v]]) (w0 := w) ?_ ?_
               · go_simp
               refine (HIs.out w).mono ?_
               rintro e w' ⟨rfl, hb'⟩
               exact ⟨_, rfl, rfl, hb', Reg.Keeps.trans hI hb'⟩
             · refine Reg.StepAt.guarded (i := 22) rfl ?_
               intro L ev w hI hk hp hA
               have e104 : ev (.tmp 104) = .int .i64 0 := hA.val 21 _ 104 rfl (hp ⟨21, .data⟩ (by simp) rfl) rfl
               have eg : ev (.tmp 99) = .bool true := hA.val 16 _ 99 rfl (hp ⟨16, .guard⟩ (by simp) rfl) rfl
               refine ⟨_, 99, true, rfl, rfl, eg, ?_⟩
               rw [if_pos rfl]
               have hcc := hA.const
               clear hA hp
               refine Reg.out_value (v := .bool false) ?_ ⟨rfl, hrefl _, hI⟩
               go_simp
             · refine Reg.StepAt.guarded (i := 23) rfl ?_
               intro L ev w hI hk hp hA
               have e99 : ev (.tmp 99) = .bool true := hA.val 16 _ 99 rfl (hp ⟨16, .data⟩ (by simp) rfl) rfl
               have e105 : ev (.tmp 105) = .bool false := hA.val 22 _ 105 rfl (hp ⟨22, .data⟩ (by simp) rfl) rfl
               have eg : ev (.tmp 97) = .bool false := hA.val 14 _ 97 rfl (hp ⟨14, .guard⟩ (by simp) rfl) rfl
               refine ⟨_, 97, false, rfl, rfl, eg, ?_⟩
               rw [if_pos rfl]
               have hcc := hA.const
               clear hA hp
               refine Reg.out_value (v := .bool false) ?_ ⟨rfl, hrefl _, hI⟩
               go_simp
             · refine Reg.StepAt.plain (i := 24) rfl ?_
               intro L ev w hI hk hp hA
               have e97 : ev (.tmp 97) = .bool false := hA.val 14 _ 97 rfl (hp ⟨14, .data⟩ (by simp) rfl) rfl
               have e106 : ev (.tmp 106) = .bool false := hA.val 23 _ 106 rfl (hp ⟨23, .data⟩ (by simp) rfl) rfl
               have hcc := hA.const
               clear hA hp
               refine Reg.out_value (v := .bool false) ?_ ⟨rfl, hrefl _, hI⟩
               go_simp
             intro L act wq hall hI hF
             have g83 : act.eval (.tmp 83) = .bool true := hF.val 0 _ 83 rfl (hall 0 (by simp)) rfl
             have g84 : act.eval (.tmp 84) = .slice (some ⟨gx, ox, none⟩) nl cx := hF.val 1 _ 84 rfl (hall 1 (by simp)) rfl
             have g85 : act.eval (.tmp 85) = .int .i64 (nl : Int) := hF.val 2 _ 85 rfl (hall 2 (by simp)) rfl
             have g86 : act.eval (.tmp 86) = .bool true := hF.val 3 _ 86 rfl (hall 3 (by simp)) rfl
             have g87 : act.eval (.tmp 87) = .bool false := hF.val 4 _ 87 rfl (hall 4 (by simp)) rfl
             have g88 : act.eval (.tmp 88) = .bool false := hF.val 5 _ 88 rfl (hall 5 (by simp)) rfl
             have g89 : act.eval (.tmp 89) = .bool true := hF.val 6 _ 89 rfl (hall 6 (by simp)) rfl
             have g90 : act.eval (.tmp 90) = .bool false := hF.val 7 _ 90 rfl (hall 7 (by simp)) rfl
             have g91 : act.eval (.tmp 91) = .bool false := hF.val 8 _ 91 rfl (hall 8 (by simp)) rfl
             have g92 : (fun v _ => v = undef) (act.eval (.tmp 92)) wq := hF.val 9 _ 92 rfl (hall 9 (by simp)) rfl
             have g93 : (fun v _ => v = undef) (act.eval (.tmp 93)) wq := hF.val 10 _ 93 rfl (hall 10 (by simp)) rfl
             have g94 : (fun v _ => v = undef) (act.eval (.tmp 94)) wq := hF.val 11 _ 94 rfl (hall 11 (by simp)) rfl
             have g95 : act.eval (.tmp 95) = .bool false := hF.val 12 _ 95 rfl (hall 12 (by simp)) rfl
             have g96 : act.eval (.tmp 96) = .bool false := hF.val 13 _ 96 rfl (hall 13 (by simp)) rfl
             have g97 : act.eval (.tmp 97) = .bool false := hF.val 14 _ 97 rfl (hall 14 (by simp)) rfl
             have g98 : act.eval (.tmp 98) = .bool true := hF.val 15 _ 98 rfl (hall 15 (by simp)) rfl
             have g99 : act.eval (.tmp 99) = .bool true := hF.val 16 _ 99 rfl (hall 16 (by simp)) rfl
             have g100 : act.eval (.tmp 100) = .agg #[.float .f64 y.b, .int .i64 y.v] := hF.val 17 _ 100 rfl (hall 17 (by simp)) rfl
             have g101 : act.eval (.tmp 101) = .slice (some ⟨gx, ox, none⟩) nl cx := hF.val 18 _ 101 rfl (hall 18 (by simp)) rfl
             have g102 : act.eval (.tmp 102) = .pointer (some ⟨gx, ox, none⟩) := hF.val 19 _ 102 rfl (hall 19 (by simp)) rfl
             have g103 : act.eval (.tmp 103) = .agg #[.int .u64 yq, .int .i64 y.v] := hF.val 20 _ 103 rfl (hall 20 (by simp)) rfl
             have g104 : act.eval (.tmp 104) = .int .i64 0 := hF.val 21 _ 104 rfl (hall 21 (by simp)) rfl
             have g105 : act.eval (.tmp 105) = .bool false := hF.val 22 _ 105 rfl (hall 22 (by simp)) rfl
             have g106 : act.eval (.tmp 106) = .bool false := hF.val 23 _ 106 rfl (hall 23 (by simp)) rfl
             have g107 : act.eval (.tmp 107) = .bool false := hF.val 24 _ 107 rfl (hall 24 (by simp)) rfl
             have hact := hF.act [83, 84, 85, 86, 87, 88, 89, 90, 91, 92, 93, 94, 95, 96, 97, 98, 99, 100, 101, 102, 103, 104, 105, 106, 107] (by kernel_rfl)
             clear hF hall
             simp only [List.foldl_cons, List.foldl_nil] at hact
             rw [g83, g84, g85, g86, g87, g88, g89, g90, g91, g95, g96, g97, g98, g99, g100, g101, g102, g103, g104, g105, g106, g107] at hact
             clear g83 g84 g85 g86 g87 g88 g89 g90 g91 g95 g96 g97 g98 g99 g100 g101 g102 g103 g104 g105 g106 g107
             generalize act.eval (.tmp 92) = u92 at hact g92
             generalize act.eval (.tmp 93) = u93 at hact g93
             generalize act.eval (.tmp 94) = u94 at hact g94
             simp only [List.setIfInBounds_toArray, List.set_cons_succ, List.set_cons_zero] at hact
             subst hact
             have hmn : (min (nl : Int) 1).toNat = 1 := by omega
             have HQO := hidq (fun o9 (ho : L' = [] ∨ o9 = ox + 2) => (show P2 w wq b g d' gx o9 L' from by
               obtain ⟨t1, t2, t3, t4, t5, t6, t7, t8, t9, t10, t11⟩ := HP.out
               obtain ⟨q1, q2, q3, q4⟩ := HT4.out
               have hz : Below w4.heap.size w4 wq := hI
               have hbz : But (fun _ => False) w4 wq := But.of_below hz
               obtain ⟨g0, o0, e1, _, _, _, hr⟩ := q4.head4
               cases e1
               refine ⟨q1.but hbz id id, t2, t3, (List.Perm.cons_inv (t4.symm.trans q2)).symm, (List.pairwise_cons.1 t5).2, (hr o9 ho).below hz, by have := q3.size; have := hz.size; omega, t8, t9, t10, ?_⟩
               exact (t11.trans (q3.below t11.size (fun i e => by rcases e with e | e; (rw [e]; exact t2); (rw [e]; exact t3)))).trans (hz.mono (by have := t11.size; have := q3.size; omega))))
             have hlj : nl ≤ 20 + j := by have h1 := hL1; have h2 := HNL.out; rw [List.length_cons] at h1; omega
             clear hI HK FC1 HT4 HIs HP hL1 hL2 hd0
             go_wp2_with fail
             · go_meet
               case rel => exact ⟨gx, ox, 0, nl - 1, g, d', L', rfl, by omega, by omega, hidq (by have := HNL.out; omega), hidq (HQO.out ox (.inl (List.length_eq_zero_iff.1 (by have := HNL.out; omega))))⟩
             · go_meet
               case rel => exact ⟨gx, ox + 2, cx - 1, nl - 1, g, d', L', rfl, by omega, by omega, hidq (by have := HNL.out; omega), hidq (HQO.out (ox + 2) (.inr rfl))⟩
         · have c1 := (HP.out.2.2.2.2.2.2.2.2.2.2.cell (p := ⟨ab, ao + j * 3 + 1, none⟩) HZ.out.1).trans HZ.out.2.2.1
           have c2 := (HP.out.2.2.2.2.2.2.2.2.2.2.cell (p := ⟨ab, ao + j * 3 + 2, none⟩) HZ.out.1).trans HZ.out.2.2.2.1
           have hp18 := HZ.out.2.2.2.2.2
           have hOw := hidq (fun W => own_any p v W)
           have HTo := hidq (fun W => told_any p v W HZ.out.2.2.2.2.1 hp18)
           have hpi : nf p < 18446744073709551616 := nf_lt hp18
           have hpu := hidq (fun W (hW : Below wr.heap.size wr W) => put_any b g (nf p) v d W (HP.out.1.but (S := fun _ => False) (But.of_below hW) id id) hpi (by have := HP.out.2.2.2.1.length_eq; simp at this; omega))
           obtain ⟨x, hx⟩ : ∃ x, mkKI (nf p) v = x := ⟨_, rfl⟩
           have hxb : x.b = cbits (nf p) := by rw [← hx]; exact mkKI_b (nf_lt hp18) v
           have hxv : x.v = v := by rw [← hx]; exact mkKI_v (nf_lt hp18) v
           rw [← hxb] at HTo
           rw [hx] at hpu
           clear hp18 hpi hxb hx
           go_wp2_with fail
           refine (hOw.out _).mono ?_
           rintro e w3 ⟨rfl, hb3⟩
           have HB3 := hidq hb3
           clear hOw hb3 m0 c1 c2
           go_wp2_with fail
           refine (hpu.out _ HB3.out).mono ?_
           rintro e w4 ⟨rfl, g', d', hH4, hp4, hb4, hg4⟩
           have HM := hidq (show HeapAt w4 b g' d' ∧ d'.toList.Perm (x :: L) ∧ w.heap.size ≤ g' ∧ g' ≠ gx ∧ Below w.heap.size w w4 ∧ RdR w4 (some ⟨gx, ox, none⟩) L ∧ gx < w4.heap.size from by
             obtain ⟨t1, t2, t3, t4, t5, t6, t7, t8, t9, t10, t11⟩ := HP.out
             have z1 := t11.size
             have z2 := HB3.out.size
             have z3 := hb4.size
             refine ⟨hH4, hp4.trans (t4.cons x), by rcases hg4 with e | e <;> omega, by rcases hg4 with e | e <;> omega, ?_, ?_, by omega⟩
             · exact (t11.trans (HB3.out.mono z1)).trans (hb4.below (by omega) (fun i e => by rcases e with e | e; (rw [e]; exact t2); (rw [e]; exact t3)))
             · exact (t6.below HB3.out).but hb4 (fun j hj => by obtain ⟨y, hy, rfl⟩ := hj; cases hy; intro e2; rcases e2 with e2 | e2; exact t9 e2; exact t10 e2))
           clear hpu hH4 hp4 hb4 hg4
           have c1 := (HM.out.2.2.2.2.1.cell (p := ⟨ab, ao + j * 3 + 1, none⟩) HZ.out.1).trans HZ.out.2.2.1
           have c2 := (HM.out.2.2.2.2.1.cell (p := ⟨ab, ao + j * 3 + 2, none⟩) HZ.out.1).trans HZ.out.2.2.2.1
           go_wp2_with fail
           refine (HTo.out _).mono ?_
           rintro e w5 ⟨rfl, hb5⟩
           have HB5 := hidq hb5
           have HW := hidq (withR_any (some ⟨gx, ox, none⟩) cx L x w5 (HM.out.2.2.2.2.2.1.below hb5) (by omega))
           rw [hxv] at HW
           clear HTo hb5 c1 c2 hxv
           go_wp2_with fail
           refine HW.out.mono ?_
           rintro e w6 ⟨g8, c8, rfl, hg8, hF8, hb6⟩
           have HQ := hidq (show P2 w w6 b g' d' g8 0 (wth x L) from by
             obtain ⟨t1, t2, t3, t4, t5, t6, t7⟩ := HM.out
             have hB5 : But (fun _ => False) w4 w6 := (But.of_below HB5.out).trans (But.of_below hb6)
             have z1 := t5.size
             have z2 := HB5.out.size
             have z3 := hF8.lt
             have hbl := HP.out.2.1
             obtain ⟨_, hPl⟩ := t1.pile
             have zb := hPl.blt
             have zg := hPl.row.lt
             refine ⟨t1.but hB5 id id, hbl, t3, ?_, ?_, RdR.of_flat (by rw [wth_length]; exact hF8), z3, by omega, by omega, by omega, (t5.trans (HB5.out.mono z1)).trans (hb6.mono (by omega))⟩
             · rw [wth_ins]; exact t2.trans (ins_perm x L).symm
             · rw [wth_ins]; exact ins_order x L HP.out.2.2.2.2.1)
           have hlw := wth_length x L
           have hc8 := hF8.le
           obtain ⟨L', hL'⟩ : ∃ L', wth x L = L' := ⟨_, rfl⟩
           rw [hL'] at HQ hlw
           rw [← hlw] at hc8 ⊢
           have hL1' : L'.length ≤ 20 + (j + 1) := by omega
           clear HW hg8 hF8 hb6 hlw hL' HM HB5 HB3 HP
           go_wp2_with fail
           go_meet
           case rel => exact ⟨g8, 0, c8, L'.length, g', d', L', rfl, by omega, by omega, hidq rfl, HQ⟩
        case rest =>
         clear m0 HP HZ
         obtain ⟨gy, oy, cy, nm, gq, dq, LQ, rfl, hcnm, hlnm, HNM, HQ⟩ := hcut
         obtain ⟨wq, hwq⟩ : ∃ wq, wq = wc := ⟨_, rfl⟩
         subst hwq
         go_wp2_with fail
         rcases Nat.eq_zero_or_pos dq.size with he | he
         · have hn0 : nm = 0 := by have := HQ.out.2.2.2.1.length_eq; rw [Array.length_toList, HNM.out] at this; omega
           subst hn0
           have hFi := hidq (first_none b gq dq wq HQ.out.1 he)
           have HDN := hidq he
           refine hFi.out.mono ?_
           rintro e wf ⟨rfl, hbf⟩
           clear hFi he
           have hq : Below wq.heap.size wq (wf.alloc (.cells #[.float .f64 0, .int .i64 0] 29)) := hbf.alloc hbf.size _
           obtain ⟨bf, hbk⟩ : ∃ bf, wf.heap.size = bf := ⟨_, rfl⟩
           have HB9 := hidq hq
           have hk0 : (wf.alloc (.cells #[.float .f64 0, .int .i64 0] 29)).cell? ⟨bf, 0, none⟩ = some (.float .f64 0) := by rw [← hbk, World.cell?_alloc_new]; rfl
           have hk1 : (wf.alloc (.cells #[.float .f64 0, .int .i64 0] 29)).cell? ⟨bf, 1, none⟩ = some (.int .i64 0) := by rw [← hbk, World.cell?_alloc_new]; rfl
           have hkl : bf < (wf.alloc (.cells #[.float .f64 0, .int .i64 0] 29)).heap.size := by rw [World.size_alloc, hbk]; omega
           have HK := hidq (And.intro hk0 (And.intro hk1 hkl))
           clear hbf hq hk0 hk1 hkl
           go_wp2_with fail
           try rw [hbk]
           generalize wf.alloc (.cells #[.float .f64 0, .int .i64 0] 29) = w9 at *
           have FC2 := hidq (fun W (hW : Reg.Keeps w9 W) => And.intro ((hW.cell (p := ⟨bf, 0, none⟩) HK.out.2.2).trans HK.out.1) ((hW.cell (p := ⟨bf, 1, none⟩) HK.out.2.2).trans HK.out.2.1))
           have HCn := hidq (fun V (hV : Reg.Keeps w9 V) => (show Calls Try.prog 17 #[.pointer (some ⟨b, 0, none⟩)] V fun e w' => e = .returned (.int .i64 (0)) ∧ w' = V from by
             have := count_any b gq dq V (HQ.out.1.but (S := fun _ => False) (But.of_below (HB9.out.trans ((show Below w9.heap.size w9 V from hV).mono HB9.out.size))) id id)
             rw [HDN.out] at this
             exact this))
           have HAl := hidq (fun V (hV : Reg.Keeps w9 V) => (show Calls Try.prog 19 #[.pointer (some ⟨b, 0, none⟩)] V fun e w' => ∃ g9, e = .returned (.slice (some ⟨g9, 0, none⟩) 0 0) ∧ Row w' g9 0 LQ.toArray ∧ Below V.heap.size V w' from by
             have := all_any b gq dq V (HQ.out.1.but (S := fun _ => False) (But.of_below (HB9.out.trans ((show Below w9.heap.size w9 V from hV).mono HB9.out.size))) id id)
             rw [HDN.out, order_eq (srt dq.toList) LQ ((srt_perm _).trans HQ.out.2.2.2.1) (srt_order _) HQ.out.2.2.2.2.1] at this
             refine this.mono ?_
             rintro e w' ⟨g9, h1, _, h2, h3⟩
             exact ⟨g9, h1, h2, h3⟩))
           have HRd := hidq (fun V (hV : Reg.Keeps w9 V) => HQ.out.2.2.2.2.2.1.below (HB9.out.trans ((show Below w9.heap.size w9 V from hV).mono HB9.out.size)))
           obtain ⟨jm, hjm⟩ : ∃ jm : Int, (j : Int).tmod 4 = jm := ⟨_, rfl⟩
           clear hbk
           cases hj3 : (jm == 3)
           · have hrefl : ∀ w : World, Reg.Keeps w w := Reg.Keeps.refl
             refine Reg.wp_region_props (Reg.ofList (pp22Rnonefalse b gy oy cy j jm)) Reg.Keeps (fun _ w => Reg.Keeps w9 w) (by kernel_rfl) (by kernel_rfl) (Reg.AllKept.at _ (pp22Rnonefalse_kept b gy oy cy j jm)) hrefl (Reg.Keeps.drewN (Reg.Keeps.refl _) 1) ⟨?_, ?_, ?_, ?_, ?_, ?_, ?_, ?_, ?_, ?_, ?_, ?_, ?_, ?_, ?_, ?_, ?_, ?_, ?_, ?_, ?_, ?_, ?_, ?_, ?_, ?_, ?_, ?_, ?_, ?_, ?_, ?_, ?_, ?_, ?_, trivial⟩ ?_
             · refine Reg.StepAt.plain (i := 0) rfl ?_
               intro L ev w hI hk hp hA
               have e8 : ev (.tmp 8) = .pointer (some ⟨b, 0, none⟩) := hA.oldNone 8 (by kernel_rfl)
               have hcc := hA.const
               clear hA hp
               refine Reg.out_value (v := .pointer (some ⟨b, 0, none⟩)) ?_ ⟨rfl, hrefl _, hI⟩
               go_simp
             · refine Reg.StepAt.plain (i := 1) rfl ?_
               intro L ev w hI hk hp hA
               have e118 : ev (.tmp 118) = .pointer (some ⟨b, 0, none⟩) := hA.val 0 _ 118 rfl (hp ⟨0, .data⟩ (by simp) rfl) rfl
               have hcc := hA.const
               have hcf := hA.func
               clear hA hp
               refine Reg.out_call (f := 17) (args := #[.pointer (some ⟨b, 0, none⟩)]) (w0 := w) ?_ ?_
               · go_simp
               refine (HCn.out w hI).mono ?_
               rintro e w' ⟨rfl, hw'⟩
               exact ⟨_, rfl, rfl, by rw [hw']; exact hrefl _, by rw [hw']; exact hI⟩
             · refine Reg.StepAt.plain (i := 2) rfl ?_
               intro L ev w hI hk hp hA
               have e6 : ev (.tmp 6) = .slice (some ⟨gy, oy, none⟩) 0 cy := hA.oldNone 6 (by kernel_rfl)
               have hcc := hA.const
               clear hA hp
               refine Reg.out_value (v := .slice (some ⟨gy, oy, none⟩) 0 cy) ?_ ⟨rfl, hrefl _, hI⟩
               go_simp
             · refine Reg.StepAt.plain (i := 3) rfl ?_
               intro L ev w hI hk hp hA
               have e120 : ev (.tmp 120) = .slice (some ⟨gy, oy, none⟩) 0 cy := hA.val 2 _ 120 rfl (hp ⟨2, .data⟩ (by simp) rfl) rfl
               have hcc := hA.const
               clear hA hp
               refine Reg.out_value (v := .int .i64 0) ?_ ⟨rfl, hrefl _, hI⟩
               go_simp
             · refine Reg.StepAt.plain (i := 4) rfl ?_
               intro L ev w hI hk hp hA
               have e119 : ev (.tmp 119) = .int .i64 0 := hA.val 1 _ 119 rfl (hp ⟨1, .data⟩ (by simp) rfl) rfl
               have e121 : ev (.tmp 121) = .int .i64 0 := hA.val 3 _ 121 rfl (hp ⟨3, .data⟩ (by simp) rfl) rfl
               have hcc := hA.const
               clear hA hp
               refine Reg.out_value (v := .bool false) ?_ ⟨rfl, hrefl _, hI⟩
               go_simp
             · refine Reg.StepAt.plain (i := 5) rfl ?_
               intro L ev w hI hk hp hA
               have e122 : ev (.tmp 122) = .bool false := hA.val 4 _ 122 rfl (hp ⟨4, .data⟩ (by simp) rfl) rfl
               have hcc := hA.const
               clear hA hp
               refine Reg.out_value (v := .bool false) ?_ ⟨rfl, hrefl _, hI⟩
               go_simp
             · refine Reg.StepAt.guarded (i := 6) rfl ?_
               intro L ev w hI hk hp hA
               have e13 : ev (.tmp 13) = .bool false := hA.oldNone 13 (by kernel_rfl)
               have eg : ev (.tmp 123) = .bool false := hA.val 5 _ 123 rfl (hp ⟨5, .guard⟩ (by simp) rfl) rfl
               refine ⟨_, 123, false, rfl, rfl, eg, ?_⟩
               rw [if_pos rfl]
               have hcc := hA.const
               clear hA hp
               refine Reg.out_value (v := .bool false) ?_ ⟨rfl, hrefl _, hI⟩
               go_simp
             · refine Reg.StepAt.guarded (i := 7) rfl ?_
               intro L ev w hI hk hp hA
               have e6 : ev (.tmp 6) = .slice (some ⟨gy, oy, none⟩) 0 cy := hA.oldNone 6 (by kernel_rfl)
               have eg : ev (.tmp 123) = .bool false := hA.val 5 _ 123 rfl (hp ⟨5, .guard⟩ (by simp) rfl) rfl
               refine ⟨_, 123, false, rfl, rfl, eg, ?_⟩
               rw [if_pos rfl]
               have hcc := hA.const
               clear hA hp
               refine Reg.out_value (v := .slice (some ⟨gy, oy, none⟩) 0 cy) ?_ ⟨rfl, hrefl _, hI⟩
               go_simp
             · refine Reg.StepAt.guarded (i := 8) rfl ?_
               intro L ev w hI hk hp hA
               have e125 : ev (.tmp 125) = .slice (some ⟨gy, oy, none⟩) 0 cy := hA.val 7 _ 125 rfl (hp ⟨7, .data⟩ (by simp) rfl) rfl
               have eg : ev (.tmp 123) = .bool false := hA.val 5 _ 123 rfl (hp ⟨5, .guard⟩ (by simp) rfl) rfl
               refine ⟨_, 123, false, rfl, rfl, eg, ?_⟩
               rw [if_pos rfl]
               have hcc := hA.const
               clear hA hp
               refine Reg.out_value (v := .int .i64 0) ?_ ⟨rfl, hrefl _, hI⟩
               go_simp
             · refine Reg.StepAt.guarded (i := 9) rfl ?_
               intro L ev w hI hk hp hA
               have e126 : ev (.tmp 126) = .int .i64 0 := hA.val 8 _ 126 rfl (hp ⟨8, .data⟩ (by simp) rfl) rfl
               have eg : ev (.tmp 123) = .bool false := hA.val 5 _ 123 rfl (hp ⟨5, .guard⟩ (by simp) rfl) rfl
               refine ⟨_, 123, false, rfl, rfl, eg, ?_⟩
               rw [if_pos rfl]
               have hcc := hA.const
               clear hA hp
               refine Reg.out_value (v := .bool false) ?_ ⟨rfl, hrefl _, hI⟩
               (go_simp; try omega)
             · refine Reg.StepAt.guarded (i := 10) rfl ?_
               intro L ev w hI hk hp hA
               have e124 : ev (.tmp 124) = .bool false := hA.val 6 _ 124 rfl (hp ⟨6, .data⟩ (by simp) rfl) rfl
               have e127 : ev (.tmp 127) = .bool false := hA.val 9 _ 127 rfl (hp ⟨9, .data⟩ (by simp) rfl) rfl
               have eg : ev (.tmp 123) = .bool false := hA.val 5 _ 123 rfl (hp ⟨5, .guard⟩ (by simp) rfl) rfl
               refine ⟨_, 123, false, rfl, rfl, eg, ?_⟩
               rw [if_pos rfl]
               have hcc := hA.const
               clear hA hp
               refine Reg.out_value (v := .bool false) ?_ ⟨rfl, hrefl _, hI⟩
               go_simp
             · refine Reg.StepAt.plain (i := 11) rfl ?_
               intro L ev w hI hk hp hA
               have e123 : ev (.tmp 123) = .bool false := hA.val 5 _ 123 rfl (hp ⟨5, .data⟩ (by simp) rfl) rfl
               have e128 : ev (.tmp 128) = .bool false := hA.val 10 _ 128 rfl (hp ⟨10, .data⟩ (by simp) rfl) rfl
               have hcc := hA.const
               clear hA hp
               refine Reg.out_value (v := .bool false) ?_ ⟨rfl, hrefl _, hI⟩
               go_simp
             · refine Reg.StepAt.plain (i := 12) rfl ?_
               intro L ev w hI hk hp hA
               have e129 : ev (.tmp 129) = .bool false := hA.val 11 _ 129 rfl (hp ⟨11, .data⟩ (by simp) rfl) rfl
               have hcc := hA.const
               clear hA hp
               refine Reg.out_value (v := .bool false) ?_ ⟨rfl, hrefl _, hI⟩
               go_simp
             · refine Reg.StepAt.guarded (i := 13) rfl ?_
               intro L ev w hI hk hp hA
               have e13 : ev (.tmp 13) = .bool false := hA.oldNone 13 (by kernel_rfl)
               have eg : ev (.tmp 130) = .bool false := hA.val 12 _ 130 rfl (hp ⟨12, .guard⟩ (by simp) rfl) rfl
               refine ⟨_, 130, false, rfl, rfl, eg, ?_⟩
               rw [if_pos rfl]
               have hcc := hA.const
               clear hA hp
               refine Reg.out_value (v := .bool false) ?_ ⟨rfl, hrefl _, hI⟩
               go_simp
             · refine Reg.StepAt.guarded (i := 14) rfl ?_
               intro L ev w hI hk hp hA
               have e131 : ev (.tmp 131) = .bool false := hA.val 13 _ 131 rfl (hp ⟨13, .data⟩ (by simp) rfl) rfl
               have eg : ev (.tmp 130) = .bool false := hA.val 12 _ 130 rfl (hp ⟨12, .chain⟩ (by simp) rfl) rfl
               refine ⟨_, 130, false, rfl, rfl, eg, ?_⟩
               rw [if_pos rfl]
               have hcc := hA.const
               clear hA hp
               refine Reg.out_value (v := .bool false) ?_ ⟨rfl, hrefl _, hI⟩
               go_simp
             · refine Reg.StepAt.guarded (i := 15) rfl ?_
               intro L ev w hI hk hp hA
               have e12 : ev (.tmp 12) = .pointer (some ⟨bf, 0, none⟩) := hA.oldNone 12 (by kernel_rfl)
               have eg : ev (.tmp 132) = .bool false := hA.val 14 _ 132 rfl (hp ⟨14, .guard⟩ (by simp) rfl) rfl
               refine ⟨_, 132, false, rfl, rfl, eg, ?_⟩
               rw [if_neg (by decide)]
               have hcc := hA.const
               clear hA hp
               exact ⟨rfl, hI⟩
             · refine Reg.StepAt.guarded (i := 16) rfl ?_
               intro L ev w hI hk hp hA
               have e6 : ev (.tmp 6) = .slice (some ⟨gy, oy, none⟩) 0 cy := hA.oldNone 6 (by kernel_rfl)
               have eg : ev (.tmp 132) = .bool false := hA.val 14 _ 132 rfl (hp ⟨14, .guard⟩ (by simp) rfl) rfl
               refine ⟨_, 132, false, rfl, rfl, eg, ?_⟩
               rw [if_neg (by decide)]
               have hcc := hA.const
               clear hA hp
               exact ⟨rfl, hI⟩
             · refine Reg.StepAt.guarded (i := 17) rfl ?_
               intro L ev w hI hk hp hA
               have e134 : (fun v _ => v = undef) (ev (.tmp 134)) w := hA.val 16 _ 134 rfl (hp ⟨16, .data⟩ (by simp) rfl) rfl
               have eg : ev (.tmp 132) = .bool false := hA.val 14 _ 132 rfl (hp ⟨14, .guard⟩ (by simp) rfl) rfl
               refine ⟨_, 132, false, rfl, rfl, eg, ?_⟩
               rw [if_neg (by decide)]
               have hcc := hA.const
               clear hA hp
               exact ⟨rfl, hI⟩
             · refine Reg.StepAt.guarded (i := 18) rfl ?_
               intro L ev w hI hk hp hA
               have e135 : (fun v _ => v = undef) (ev (.tmp 135)) w := hA.val 17 _ 135 rfl (hp ⟨17, .data⟩ (by simp) rfl) rfl
               have eg : ev (.tmp 132) = .bool false := hA.val 14 _ 132 rfl (hp ⟨14, .guard⟩ (by simp) rfl) rfl
               refine ⟨_, 132, false, rfl, rfl, eg, ?_⟩
               rw [if_neg (by decide)]
               have hcc := hA.const
               clear hA hp
               exact ⟨rfl, hI⟩
             · refine Reg.StepAt.guarded (i := 19) rfl ?_
               intro L ev w hI hk hp hA
               have e133 : (fun v _ => v = undef) (ev (.tmp 133)) w := hA.val 15 _ 133 rfl (hp ⟨15, .data⟩ (by simp) rfl) rfl
               have e136 : (fun v _ => v = undef) (ev (.tmp 136)) w := hA.val 18 _ 136 rfl (hp ⟨18, .data⟩ (by simp) rfl) rfl
               have eg : ev (.tmp 132) = .bool false := hA.val 14 _ 132 rfl (hp ⟨14, .chain⟩ (by simp) rfl) rfl
               refine ⟨_, 132, false, rfl, rfl, eg, ?_⟩
               rw [if_neg (by decide)]
               have hcc := hA.const
               have hcf := hA.func
               clear hA hp
               exact ⟨rfl, hI⟩
             · refine Reg.StepAt.guarded (i := 20) rfl ?_
               intro L ev w hI hk hp hA
               have e137 : (fun v _ => v = undef) (ev (.tmp 137)) w := hA.val 19 _ 137 rfl (hp ⟨19, .data⟩ (by simp) rfl) rfl
               have eg : ev (.tmp 132) = .bool false := hA.val 14 _ 132 rfl (hp ⟨14, .guard⟩ (by simp) rfl) rfl
               refine ⟨_, 132, false, rfl, rfl, eg, ?_⟩
               rw [if_neg (by decide)]
               have hcc := hA.const
               clear hA hp
               exact ⟨rfl, hI⟩
             · refine Reg.StepAt.guarded (i := 21) rfl ?_
               intro L ev w hI hk hp hA
               have e132 : ev (.tmp 132) = .bool false := hA.val 14 _ 132 rfl (hp ⟨14, .data⟩ (by simp) rfl) rfl
               have e138 : (fun v _ => v = undef) (ev (.tmp 138)) w := hA.val 20 _ 138 rfl (hp ⟨20, .data⟩ (by simp) rfl) rfl
               have eg : ev (.tmp 130) = .bool false := hA.val 12 _ 130 rfl (hp ⟨12, .guard⟩ (by simp) rfl) rfl
               refine ⟨_, 130, false, rfl, rfl, eg, ?_⟩
               rw [if_pos rfl]
               have hcc := hA.const
               clear hA hp
               refine Reg.out_value (v := .bool false) ?_ ⟨rfl, hrefl _, hI⟩
               go_simp
             · refine Reg.StepAt.plain (i := 22) rfl ?_
               intro L ev w hI hk hp hA
               have e130 : ev (.tmp 130) = .bool false := hA.val 12 _ 130 rfl (hp ⟨12, .data⟩ (by simp) rfl) rfl
               have e139 : ev (.tmp 139) = .bool false := hA.val 21 _ 139 rfl (hp ⟨21, .data⟩ (by simp) rfl) rfl
               have hcc := hA.const
               clear hA hp
               refine Reg.out_value (v := .bool false) ?_ ⟨rfl, hrefl _, hI⟩
               go_simp
             · refine Reg.StepAt.plain (i := 23) rfl ?_
               intro L ev w hI hk hp hA
               have e140 : ev (.tmp 140) = .bool false := hA.val 22 _ 140 rfl (hp ⟨22, .data⟩ (by simp) rfl) rfl
               have hcc := hA.const
               clear hA hp
               refine Reg.out_value (v := .bool false) ?_ ⟨rfl, hrefl _, hI⟩
               go_simp
             · refine Reg.StepAt.guarded (i := 24) rfl ?_
               intro L ev w hI hk hp hA
               have e9 : ev (.tmp 9) = .int .i64 (j : Int) := hA.oldNone 9 (by kernel_rfl)
               have eg : ev (.tmp 141) = .bool false := hA.val 23 _ 141 rfl (hp ⟨23, .guard⟩ (by simp) rfl) rfl
               refine ⟨_, 141, false, rfl, rfl, eg, ?_⟩
               rw [if_pos rfl]
               have hcc := hA.const
               clear hA hp
               refine Reg.out_value (v := .int .i64 (j : Int)) ?_ ⟨rfl, hrefl _, hI⟩
               go_simp
             · refine Reg.StepAt.guarded (i := 25) rfl ?_
               intro L ev w hI hk hp hA
               have e142 : ev (.tmp 142) = .int .i64 (j : Int) := hA.val 24 _ 142 rfl (hp ⟨24, .data⟩ (by simp) rfl) rfl
               have eg : ev (.tmp 141) = .bool false := hA.val 23 _ 141 rfl (hp ⟨23, .guard⟩ (by simp) rfl) rfl
               refine ⟨_, 141, false, rfl, rfl, eg, ?_⟩
               rw [if_pos rfl]
               have hcc := hA.const
               clear hA hp
               refine Reg.out_value (v := .int .i64 jm) ?_ ⟨rfl, hrefl _, hI⟩
               go_simp
             · refine Reg.StepAt.guarded (i := 26) rfl ?_
               intro L ev w hI hk hp hA
               have e143 : ev (.tmp 143) = .int .i64 jm := hA.val 25 _ 143 rfl (hp ⟨25, .data⟩ (by simp) rfl) rfl
               have eg : ev (.tmp 141) = .bool false := hA.val 23 _ 141 rfl (hp ⟨23, .guard⟩ (by simp) rfl) rfl
               refine ⟨_, 141, false, rfl, rfl, eg, ?_⟩
               rw [if_pos rfl]
               have hcc := hA.const
               clear hA hp
               refine Reg.out_value (v := .bool false) ?_ ⟨rfl, hrefl _, hI⟩
               go_simp
             · refine Reg.StepAt.guarded (i := 27) rfl ?_
               intro L ev w hI hk hp hA
               have e144 : ev (.tmp 144) = .bool false := hA.val 26 _ 144 rfl (hp ⟨26, .data⟩ (by simp) rfl) rfl
               have eg : ev (.tmp 141) = .bool false := hA.val 23 _ 141 rfl (hp ⟨23, .chain⟩ (by simp) rfl) rfl
               refine ⟨_, 141, false, rfl, rfl, eg, ?_⟩
               rw [if_pos rfl]
               have hcc := hA.const
               clear hA hp
               refine Reg.out_value (v := .bool false) ?_ ⟨rfl, hrefl _, hI⟩
               go_simp
             · refine Reg.StepAt.guarded (i := 28) rfl ?_
               intro L ev w hI hk hp hA
               have e8 : ev (.tmp 8) = .pointer (some ⟨b, 0, none⟩) := hA.oldNone 8 (by kernel_rfl)
               have eg : ev (.tmp 145) = .bool false := hA.val 27 _ 145 rfl (hp ⟨27, .guard⟩ (by simp) rfl) rfl
               refine ⟨_, 145, false, rfl, rfl, eg, ?_⟩
               rw [if_neg (by decide)]
               have hcc := hA.const
               clear hA hp
               exact ⟨rfl, hI⟩
             · refine Reg.StepAt.guarded (i := 29) rfl ?_
               intro L ev w hI hk hp hA
               have e146 : (fun v _ => v = undef) (ev (.tmp 146)) w := hA.val 28 _ 146 rfl (hp ⟨28, .data⟩ (by simp) rfl) rfl
               have eg : ev (.tmp 145) = .bool false := hA.val 27 _ 145 rfl (hp ⟨27, .chain⟩ (by simp) rfl) rfl
               refine ⟨_, 145, false, rfl, rfl, eg, ?_⟩
               rw [if_neg (by decide)]
               have hcc := hA.const
               have hcf := hA.func
               clear hA hp
               exact ⟨rfl, hI⟩
             · refine Reg.StepAt.guarded (i := 30) rfl ?_
               intro L ev w hI hk hp hA
               have e6 : ev (.tmp 6) = .slice (some ⟨gy, oy, none⟩) 0 cy := hA.oldNone 6 (by kernel_rfl)
               have eg : ev (.tmp 145) = .bool false := hA.val 27 _ 145 rfl (hp ⟨27, .guard⟩ (by simp) rfl) rfl
               refine ⟨_, 145, false, rfl, rfl, eg, ?_⟩
               rw [if_neg (by decide)]
               have hcc := hA.const
               clear hA hp
               exact ⟨rfl, hI⟩
             · refine Reg.StepAt.guarded (i := 31) rfl ?_
               intro L ev w hI hk hp hA
               have e147 : (fun v _ => v = undef) (ev (.tmp 147)) w := hA.val 29 _ 147 rfl (hp ⟨29, .data⟩ (by simp) rfl) rfl
               have e148 : (fun v _ => v = undef) (ev (.tmp 148)) w := hA.val 30 _ 148 rfl (hp ⟨30, .data⟩ (by simp) rfl) rfl
               have eg : ev (.tmp 145) = .bool false := hA.val 27 _ 145 rfl (hp ⟨27, .guard⟩ (by simp) rfl) rfl
               refine ⟨_, 145, false, rfl, rfl, eg, ?_⟩
               rw [if_neg (by decide)]
               have hcc := hA.const
               have hcf := hA.func
               clear hA hp
               exact ⟨rfl, hI⟩
             · refine Reg.StepAt.guarded (i := 32) rfl ?_
               intro L ev w hI hk hp hA
               have e149 : (fun v _ => v = undef) (ev (.tmp 149)) w := hA.val 31 _ 149 rfl (hp ⟨31, .data⟩ (by simp) rfl) rfl
               have eg : ev (.tmp 145) = .bool false := hA.val 27 _ 145 rfl (hp ⟨27, .guard⟩ (by simp) rfl) rfl
               refine ⟨_, 145, false, rfl, rfl, eg, ?_⟩
               rw [if_neg (by decide)]
               have hcc := hA.const
               clear hA hp
               exact ⟨rfl, hI⟩
             · refine Reg.StepAt.guarded (i := 33) rfl ?_
               intro L ev w hI hk hp hA
               have e145 : ev (.tmp 145) = .bool false := hA.val 27 _ 145 rfl (hp ⟨27, .data⟩ (by simp) rfl) rfl
               have e150 : (fun v _ => v = undef) (ev (.tmp 150)) w := hA.val 32 _ 150 rfl (hp ⟨32, .data⟩ (by simp) rfl) rfl
               have eg : ev (.tmp 141) = .bool false := hA.val 23 _ 141 rfl (hp ⟨23, .guard⟩ (by simp) rfl) rfl
               refine ⟨_, 141, false, rfl, rfl, eg, ?_⟩
               rw [if_pos rfl]
               have hcc := hA.const
               clear hA hp
               refine Reg.out_value (v := .bool false) ?_ ⟨rfl, hrefl _, hI⟩
               go_simp
             · refine Reg.StepAt.plain (i := 34) rfl ?_
               intro L ev w hI hk hp hA
               have e141 : ev (.tmp 141) = .bool false := hA.val 23 _ 141 rfl (hp ⟨23, .data⟩ (by simp) rfl) rfl
               have e151 : ev (.tmp 151) = .bool false := hA.val 33 _ 151 rfl (hp ⟨33, .data⟩ (by simp) rfl) rfl
               have hcc := hA.const
               clear hA hp
               refine Reg.out_value (v := .bool false) ?_ ⟨rfl, hrefl _, hI⟩
               go_simp
             intro L act wz hall hI hF
             have g118 : act.eval (.tmp 118) = .pointer (some ⟨b, 0, none⟩) := hF.val 0 _ 118 rfl (hall 0 (by simp)) rfl
             have g119 : act.eval (.tmp 119) = .int .i64 0 := hF.val 1 _ 119 rfl (hall 1 (by simp)) rfl
             have g120 : act.eval (.tmp 120) = .slice (some ⟨gy, oy, none⟩) 0 cy := hF.val 2 _ 120 rfl (hall 2 (by simp)) rfl
             have g121 : act.eval (.tmp 121) = .int .i64 0 := hF.val 3 _ 121 rfl (hall 3 (by simp)) rfl
             have g122 : act.eval (.tmp 122) = .bool false := hF.val 4 _ 122 rfl (hall 4 (by simp)) rfl
             have g123 : act.eval (.tmp 123) = .bool false := hF.val 5 _ 123 rfl (hall 5 (by simp)) rfl
             have g124 : act.eval (.tmp 124) = .bool false := hF.val 6 _ 124 rfl (hall 6 (by simp)) rfl
             have g125 : act.eval (.tmp 125) = .slice (some ⟨gy, oy, none⟩) 0 cy := hF.val 7 _ 125 rfl (hall 7 (by simp)) rfl
             have g126 : act.eval (.tmp 126) = .int .i64 0 := hF.val 8 _ 126 rfl (hall 8 (by simp)) rfl
             have g127 : act.eval (.tmp 127) = .bool false := hF.val 9 _ 127 rfl (hall 9 (by simp)) rfl
             have g128 : act.eval (.tmp 128) = .bool false := hF.val 10 _ 128 rfl (hall 10 (by simp)) rfl
             have g129 : act.eval (.tmp 129) = .bool false := hF.val 11 _ 129 rfl (hall 11 (by simp)) rfl
             have g130 : act.eval (.tmp 130) = .bool false := hF.val 12 _ 130 rfl (hall 12 (by simp)) rfl
             have g131 : act.eval (.tmp 131) = .bool false := hF.val 13 _ 131 rfl (hall 13 (by simp)) rfl
             have g132 : act.eval (.tmp 132) = .bool false := hF.val 14 _ 132 rfl (hall 14 (by simp)) rfl
             have g133 : (fun v _ => v = undef) (act.eval (.tmp 133)) wz := hF.val 15 _ 133 rfl (hall 15 (by simp)) rfl
             have g134 : (fun v _ => v = undef) (act.eval (.tmp 134)) wz := hF.val 16 _ 134 rfl (hall 16 (by simp)) rfl
             have g135 : (fun v _ => v = undef) (act.eval (.tmp 135)) wz := hF.val 17 _ 135 rfl (hall 17 (by simp)) rfl
             have g136 : (fun v _ => v = undef) (act.eval (.tmp 136)) wz := hF.val 18 _ 136 rfl (hall 18 (by simp)) rfl
             have g137 : (fun v _ => v = undef) (act.eval (.tmp 137)) wz := hF.val 19 _ 137 rfl (hall 19 (by simp)) rfl
             have g138 : (fun v _ => v = undef) (act.eval (.tmp 138)) wz := hF.val 20 _ 138 rfl (hall 20 (by simp)) rfl
             have g139 : act.eval (.tmp 139) = .bool false := hF.val 21 _ 139 rfl (hall 21 (by simp)) rfl
             have g140 : act.eval (.tmp 140) = .bool false := hF.val 22 _ 140 rfl (hall 22 (by simp)) rfl
             have g141 : act.eval (.tmp 141) = .bool false := hF.val 23 _ 141 rfl (hall 23 (by simp)) rfl
             have g142 : act.eval (.tmp 142) = .int .i64 (j : Int) := hF.val 24 _ 142 rfl (hall 24 (by simp)) rfl
             have g143 : act.eval (.tmp 143) = .int .i64 jm := hF.val 25 _ 143 rfl (hall 25 (by simp)) rfl
             have g144 : act.eval (.tmp 144) = .bool false := hF.val 26 _ 144 rfl (hall 26 (by simp)) rfl
             have g145 : act.eval (.tmp 145) = .bool false := hF.val 27 _ 145 rfl (hall 27 (by simp)) rfl
             have g146 : (fun v _ => v = undef) (act.eval (.tmp 146)) wz := hF.val 28 _ 146 rfl (hall 28 (by simp)) rfl
             have g147 : (fun v _ => v = undef) (act.eval (.tmp 147)) wz := hF.val 29 _ 147 rfl (hall 29 (by simp)) rfl
             have g148 : (fun v _ => v = undef) (act.eval (.tmp 148)) wz := hF.val 30 _ 148 rfl (hall 30 (by simp)) rfl
             have g149 : (fun v _ => v = undef) (act.eval (.tmp 149)) wz := hF.val 31 _ 149 rfl (hall 31 (by simp)) rfl
             have g150 : (fun v _ => v = undef) (act.eval (.tmp 150)) wz := hF.val 32 _ 150 rfl (hall 32 (by simp)) rfl
             have g151 : act.eval (.tmp 151) = .bool false := hF.val 33 _ 151 rfl (hall 33 (by simp)) rfl
             have g152 : act.eval (.tmp 152) = .bool false := hF.val 34 _ 152 rfl (hall 34 (by simp)) rfl
             have hact := hF.act [118, 119, 120, 121, 122, 123, 124, 125, 126, 127, 128, 129, 130, 131, 132, 133, 134, 135, 136, 137, 138, 139, 140, 141, 142, 143, 144, 145, 146, 147, 148, 149, 150, 151, 152] (by kernel_rfl)
             clear hF hall
             simp only [List.foldl_cons, List.foldl_nil] at hact
             rw [g118, g119, g120, g121, g122, g123, g124, g125, g126, g127, g128, g129, g130, g131, g132, g139, g140, g141, g142, g143, g144, g145, g151, g152] at hact
             clear g118 g119 g120 g121 g122 g123 g124 g125 g126 g127 g128 g129 g130 g131 g132 g139 g140 g141 g142 g143 g144 g145 g151 g152
             generalize act.eval (.tmp 133) = u133 at hact g133
             generalize act.eval (.tmp 134) = u134 at hact g134
             generalize act.eval (.tmp 135) = u135 at hact g135
             generalize act.eval (.tmp 136) = u136 at hact g136
             generalize act.eval (.tmp 137) = u137 at hact g137
             generalize act.eval (.tmp 138) = u138 at hact g138
             generalize act.eval (.tmp 146) = u146 at hact g146
             generalize act.eval (.tmp 147) = u147 at hact g147
             generalize act.eval (.tmp 148) = u148 at hact g148
             generalize act.eval (.tmp 149) = u149 at hact g149
             generalize act.eval (.tmp 150) = u150 at hact g150
             simp only [List.setIfInBounds_toArray, List.set_cons_succ, List.set_cons_zero] at hact
             subst hact
             have HN := hidq (show P2 w wz b gq dq gy oy LQ from by
               obtain ⟨t1, t2, t3, t4, t5, t6, t7, t8, t9, t10, t11⟩ := HQ.out
               have hz : Below wq.heap.size wq wz := HB9.out.trans ((show Below w9.heap.size w9 wz from hI).mono HB9.out.size)
               have hbz : But (fun _ => False) wq wz := But.of_below hz
               exact ⟨t1.but hbz id id, t2, t3, t4, t5, t6.below hz, Nat.lt_of_lt_of_le t7 hz.size, t8, t9, t10, t11.trans (hz.mono t11.size)⟩)
             clear hI HQ HB9 HK FC2 HCn HAl HRd
             go_wp2_with fail
             exact ⟨⟨j + 1, gy, oy, cy, gq, dq, LQ, by rw [HNM.out], by push_cast; rfl, by omega, by omega, by rw [HNM.out]; omega, by rw [HNM.out]; omega, HN⟩, by simp [intOf]; omega⟩
           · have hrefl : ∀ w : World, Reg.Keeps w w := Reg.Keeps.refl
             refine Reg.wp_region_props (Reg.ofList (pp22Rnonetrue b gy oy cy j jm LQ)) Reg.Keeps (fun _ w => Reg.Keeps w9 w) (by kernel_rfl) (by kernel_rfl) (Reg.AllKept.at _ (pp22Rnonetrue_kept b gy oy cy j jm LQ)) hrefl (Reg.Keeps.drewN (Reg.Keeps.refl _) 1) ⟨?_, ?_, ?_, ?_, ?_, ?_, ?_, ?_, ?_, ?_, ?_, ?_, ?_, ?_, ?_, ?_, ?_, ?_, ?_, ?_, ?_, ?_, ?_, ?_, ?_, ?_, ?_, ?_, ?_, ?_, ?_, ?_, ?_, ?_, ?_, trivial⟩ ?_
             · refine Reg.StepAt.plain (i := 0) rfl ?_
               intro L ev w hI hk hp hA
               have e8 : ev (.tmp 8) = .pointer (some ⟨b, 0, none⟩) := hA.oldNone 8 (by kernel_rfl)
               have hcc := hA.const
               clear hA hp
               refine Reg.out_value (v := .pointer (some ⟨b, 0, none⟩)) ?_ ⟨rfl, hrefl _, hI⟩
               go_simp
             · refine Reg.StepAt.plain (i := 1) rfl ?_
               intro L ev w hI hk hp hA
               have e118 : ev (.tmp 118) = .pointer (some ⟨b, 0, none⟩) := hA.val 0 _ 118 rfl (hp ⟨0, .data⟩ (by simp) rfl) rfl
               have hcc := hA.const
               have hcf := hA.func
               clear hA hp
               refine Reg.out_call (f := 17) (args := #[.pointer (some ⟨b, 0, none⟩)]) (w0 := w) ?_ ?_
               · go_simp
               refine (HCn.out w hI).mono ?_
               rintro e w' ⟨rfl, hw'⟩
               exact ⟨_, rfl, rfl, by rw [hw']; exact hrefl _, by rw [hw']; exact hI⟩
             · refine Reg.StepAt.plain (i := 2) rfl ?_
               intro L ev w hI hk hp hA
               have e6 : ev (.tmp 6) = .slice (some ⟨gy, oy, none⟩) 0 cy := hA.oldNone 6 (by kernel_rfl)
               have hcc := hA.const
               clear hA hp
               refine Reg.out_value (v := .slice (some ⟨gy, oy, none⟩) 0 cy) ?_ ⟨rfl, hrefl _, hI⟩
               go_simp
             · refine Reg.StepAt.plain (i := 3) rfl ?_
               intro L ev w hI hk hp hA
               have e120 : ev (.tmp 120) = .slice (some ⟨gy, oy, none⟩) 0 cy := hA.val 2 _ 120 rfl (hp ⟨2, .data⟩ (by simp) rfl) rfl
               have hcc := hA.const
               clear hA hp
               refine Reg.out_value (v := .int .i64 0) ?_ ⟨rfl, hrefl _, hI⟩
               go_simp
             · refine Reg.StepAt.plain (i := 4) rfl ?_
               intro L ev w hI hk hp hA
               have e119 : ev (.tmp 119) = .int .i64 0 := hA.val 1 _ 119 rfl (hp ⟨1, .data⟩ (by simp) rfl) rfl
               have e121 : ev (.tmp 121) = .int .i64 0 := hA.val 3 _ 121 rfl (hp ⟨3, .data⟩ (by simp) rfl) rfl
               have hcc := hA.const
               clear hA hp
               refine Reg.out_value (v := .bool false) ?_ ⟨rfl, hrefl _, hI⟩
               go_simp
             · refine Reg.StepAt.plain (i := 5) rfl ?_
               intro L ev w hI hk hp hA
               have e122 : ev (.tmp 122) = .bool false := hA.val 4 _ 122 rfl (hp ⟨4, .data⟩ (by simp) rfl) rfl
               have hcc := hA.const
               clear hA hp
               refine Reg.out_value (v := .bool false) ?_ ⟨rfl, hrefl _, hI⟩
               go_simp
             · refine Reg.StepAt.guarded (i := 6) rfl ?_
               intro L ev w hI hk hp hA
               have e13 : ev (.tmp 13) = .bool false := hA.oldNone 13 (by kernel_rfl)
               have eg : ev (.tmp 123) = .bool false := hA.val 5 _ 123 rfl (hp ⟨5, .guard⟩ (by simp) rfl) rfl
               refine ⟨_, 123, false, rfl, rfl, eg, ?_⟩
               rw [if_pos rfl]
               have hcc := hA.const
               clear hA hp
               refine Reg.out_value (v := .bool false) ?_ ⟨rfl, hrefl _, hI⟩
               go_simp
             · refine Reg.StepAt.guarded (i := 7) rfl ?_
               intro L ev w hI hk hp hA
               have e6 : ev (.tmp 6) = .slice (some ⟨gy, oy, none⟩) 0 cy := hA.oldNone 6 (by kernel_rfl)
               have eg : ev (.tmp 123) = .bool false := hA.val 5 _ 123 rfl (hp ⟨5, .guard⟩ (by simp) rfl) rfl
               refine ⟨_, 123, false, rfl, rfl, eg, ?_⟩
               rw [if_pos rfl]
               have hcc := hA.const
               clear hA hp
               refine Reg.out_value (v := .slice (some ⟨gy, oy, none⟩) 0 cy) ?_ ⟨rfl, hrefl _, hI⟩
               go_simp
             · refine Reg.StepAt.guarded (i := 8) rfl ?_
               intro L ev w hI hk hp hA
               have e125 : ev (.tmp 125) = .slice (some ⟨gy, oy, none⟩) 0 cy := hA.val 7 _ 125 rfl (hp ⟨7, .data⟩ (by simp) rfl) rfl
               have eg : ev (.tmp 123) = .bool false := hA.val 5 _ 123 rfl (hp ⟨5, .guard⟩ (by simp) rfl) rfl
               refine ⟨_, 123, false, rfl, rfl, eg, ?_⟩
               rw [if_pos rfl]
               have hcc := hA.const
               clear hA hp
               refine Reg.out_value (v := .int .i64 0) ?_ ⟨rfl, hrefl _, hI⟩
               go_simp
             · refine Reg.StepAt.guarded (i := 9) rfl ?_
               intro L ev w hI hk hp hA
               have e126 : ev (.tmp 126) = .int .i64 0 := hA.val 8 _ 126 rfl (hp ⟨8, .data⟩ (by simp) rfl) rfl
               have eg : ev (.tmp 123) = .bool false := hA.val 5 _ 123 rfl (hp ⟨5, .guard⟩ (by simp) rfl) rfl
               refine ⟨_, 123, false, rfl, rfl, eg, ?_⟩
               rw [if_pos rfl]
               have hcc := hA.const
               clear hA hp
               refine Reg.out_value (v := .bool false) ?_ ⟨rfl, hrefl _, hI⟩
               (go_simp; try omega)
             · refine Reg.StepAt.guarded (i := 10) rfl ?_
               intro L ev w hI hk hp hA
               have e124 : ev (.tmp 124) = .bool false := hA.val 6 _ 124 rfl (hp ⟨6, .data⟩ (by simp) rfl) rfl
               have e127 : ev (.tmp 127) = .bool false := hA.val 9 _ 127 rfl (hp ⟨9, .data⟩ (by simp) rfl) rfl
               have eg : ev (.tmp 123) = .bool false := hA.val 5 _ 123 rfl (hp ⟨5, .guard⟩ (by simp) rfl) rfl
               refine ⟨_, 123, false, rfl, rfl, eg, ?_⟩
               rw [if_pos rfl]
               have hcc := hA.const
               clear hA hp
               refine Reg.out_value (v := .bool false) ?_ ⟨rfl, hrefl _, hI⟩
               go_simp
             · refine Reg.StepAt.plain (i := 11) rfl ?_
               intro L ev w hI hk hp hA
               have e123 : ev (.tmp 123) = .bool false := hA.val 5 _ 123 rfl (hp ⟨5, .data⟩ (by simp) rfl) rfl
               have e128 : ev (.tmp 128) = .bool false := hA.val 10 _ 128 rfl (hp ⟨10, .data⟩ (by simp) rfl) rfl
               have hcc := hA.const
               clear hA hp
               refine Reg.out_value (v := .bool false) ?_ ⟨rfl, hrefl _, hI⟩
               go_simp
             · refine Reg.StepAt.plain (i := 12) rfl ?_
               intro L ev w hI hk hp hA
               have e129 : ev (.tmp 129) = .bool false := hA.val 11 _ 129 rfl (hp ⟨11, .data⟩ (by simp) rfl) rfl
               have hcc := hA.const
               clear hA hp
               refine Reg.out_value (v := .bool false) ?_ ⟨rfl, hrefl _, hI⟩
               go_simp
             · refine Reg.StepAt.guarded (i := 13) rfl ?_
               intro L ev w hI hk hp hA
               have e13 : ev (.tmp 13) = .bool false := hA.oldNone 13 (by kernel_rfl)
               have eg : ev (.tmp 130) = .bool false := hA.val 12 _ 130 rfl (hp ⟨12, .guard⟩ (by simp) rfl) rfl
               refine ⟨_, 130, false, rfl, rfl, eg, ?_⟩
               rw [if_pos rfl]
               have hcc := hA.const
               clear hA hp
               refine Reg.out_value (v := .bool false) ?_ ⟨rfl, hrefl _, hI⟩
               go_simp
             · refine Reg.StepAt.guarded (i := 14) rfl ?_
               intro L ev w hI hk hp hA
               have e131 : ev (.tmp 131) = .bool false := hA.val 13 _ 131 rfl (hp ⟨13, .data⟩ (by simp) rfl) rfl
               have eg : ev (.tmp 130) = .bool false := hA.val 12 _ 130 rfl (hp ⟨12, .chain⟩ (by simp) rfl) rfl
               refine ⟨_, 130, false, rfl, rfl, eg, ?_⟩
               rw [if_pos rfl]
               have hcc := hA.const
               clear hA hp
               refine Reg.out_value (v := .bool false) ?_ ⟨rfl, hrefl _, hI⟩
               go_simp
             · refine Reg.StepAt.guarded (i := 15) rfl ?_
               intro L ev w hI hk hp hA
               have e12 : ev (.tmp 12) = .pointer (some ⟨bf, 0, none⟩) := hA.oldNone 12 (by kernel_rfl)
               have eg : ev (.tmp 132) = .bool false := hA.val 14 _ 132 rfl (hp ⟨14, .guard⟩ (by simp) rfl) rfl
               refine ⟨_, 132, false, rfl, rfl, eg, ?_⟩
               rw [if_neg (by decide)]
               have hcc := hA.const
               clear hA hp
               exact ⟨rfl, hI⟩
             · refine Reg.StepAt.guarded (i := 16) rfl ?_
               intro L ev w hI hk hp hA
               have e6 : ev (.tmp 6) = .slice (some ⟨gy, oy, none⟩) 0 cy := hA.oldNone 6 (by kernel_rfl)
               have eg : ev (.tmp 132) = .bool false := hA.val 14 _ 132 rfl (hp ⟨14, .guard⟩ (by simp) rfl) rfl
               refine ⟨_, 132, false, rfl, rfl, eg, ?_⟩
               rw [if_neg (by decide)]
               have hcc := hA.const
               clear hA hp
               exact ⟨rfl, hI⟩
             · refine Reg.StepAt.guarded (i := 17) rfl ?_
               intro L ev w hI hk hp hA
               have e134 : (fun v _ => v = undef) (ev (.tmp 134)) w := hA.val 16 _ 134 rfl (hp ⟨16, .data⟩ (by simp) rfl) rfl
               have eg : ev (.tmp 132) = .bool false := hA.val 14 _ 132 rfl (hp ⟨14, .guard⟩ (by simp) rfl) rfl
               refine ⟨_, 132, false, rfl, rfl, eg, ?_⟩
               rw [if_neg (by decide)]
               have hcc := hA.const
               clear hA hp
               exact ⟨rfl, hI⟩
             · refine Reg.StepAt.guarded (i := 18) rfl ?_
               intro L ev w hI hk hp hA
               have e135 : (fun v _ => v = undef) (ev (.tmp 135)) w := hA.val 17 _ 135 rfl (hp ⟨17, .data⟩ (by simp) rfl) rfl
               have eg : ev (.tmp 132) = .bool false := hA.val 14 _ 132 rfl (hp ⟨14, .guard⟩ (by simp) rfl) rfl
               refine ⟨_, 132, false, rfl, rfl, eg, ?_⟩
               rw [if_neg (by decide)]
               have hcc := hA.const
               clear hA hp
               exact ⟨rfl, hI⟩
             · refine Reg.StepAt.guarded (i := 19) rfl ?_
               intro L ev w hI hk hp hA
               have e133 : (fun v _ => v = undef) (ev (.tmp 133)) w := hA.val 15 _ 133 rfl (hp ⟨15, .data⟩ (by simp) rfl) rfl
               have e136 : (fun v _ => v = undef) (ev (.tmp 136)) w := hA.val 18 _ 136 rfl (hp ⟨18, .data⟩ (by simp) rfl) rfl
               have eg : ev (.tmp 132) = .bool false := hA.val 14 _ 132 rfl (hp ⟨14, .chain⟩ (by simp) rfl) rfl
               refine ⟨_, 132, false, rfl, rfl, eg, ?_⟩
               rw [if_neg (by decide)]
               have hcc := hA.const
               have hcf := hA.func
               clear hA hp
               exact ⟨rfl, hI⟩
             · refine Reg.StepAt.guarded (i := 20) rfl ?_
               intro L ev w hI hk hp hA
               have e137 : (fun v _ => v = undef) (ev (.tmp 137)) w := hA.val 19 _ 137 rfl (hp ⟨19, .data⟩ (by simp) rfl) rfl
               have eg : ev (.tmp 132) = .bool false := hA.val 14 _ 132 rfl (hp ⟨14, .guard⟩ (by simp) rfl) rfl
               refine ⟨_, 132, false, rfl, rfl, eg, ?_⟩
               rw [if_neg (by decide)]
               have hcc := hA.const
               clear hA hp
               exact ⟨rfl, hI⟩
             · refine Reg.StepAt.guarded (i := 21) rfl ?_
               intro L ev w hI hk hp hA
               have e132 : ev (.tmp 132) = .bool false := hA.val 14 _ 132 rfl (hp ⟨14, .data⟩ (by simp) rfl) rfl
               have e138 : (fun v _ => v = undef) (ev (.tmp 138)) w := hA.val 20 _ 138 rfl (hp ⟨20, .data⟩ (by simp) rfl) rfl
               have eg : ev (.tmp 130) = .bool false := hA.val 12 _ 130 rfl (hp ⟨12, .guard⟩ (by simp) rfl) rfl
               refine ⟨_, 130, false, rfl, rfl, eg, ?_⟩
               rw [if_pos rfl]
               have hcc := hA.const
               clear hA hp
               refine Reg.out_value (v := .bool false) ?_ ⟨rfl, hrefl _, hI⟩
               go_simp
             · refine Reg.StepAt.plain (i := 22) rfl ?_
               intro L ev w hI hk hp hA
               have e130 : ev (.tmp 130) = .bool false := hA.val 12 _ 130 rfl (hp ⟨12, .data⟩ (by simp) rfl) rfl
               have e139 : ev (.tmp 139) = .bool false := hA.val 21 _ 139 rfl (hp ⟨21, .data⟩ (by simp) rfl) rfl
               have hcc := hA.const
               clear hA hp
               refine Reg.out_value (v := .bool false) ?_ ⟨rfl, hrefl _, hI⟩
               go_simp
             · refine Reg.StepAt.plain (i := 23) rfl ?_
               intro L ev w hI hk hp hA
               have e140 : ev (.tmp 140) = .bool false := hA.val 22 _ 140 rfl (hp ⟨22, .data⟩ (by simp) rfl) rfl
               have hcc := hA.const
               clear hA hp
               refine Reg.out_value (v := .bool false) ?_ ⟨rfl, hrefl _, hI⟩
               go_simp
             · refine Reg.StepAt.guarded (i := 24) rfl ?_
               intro L ev w hI hk hp hA
               have e9 : ev (.tmp 9) = .int .i64 (j : Int) := hA.oldNone 9 (by kernel_rfl)
               have eg : ev (.tmp 141) = .bool false := hA.val 23 _ 141 rfl (hp ⟨23, .guard⟩ (by simp) rfl) rfl
               refine ⟨_, 141, false, rfl, rfl, eg, ?_⟩
               rw [if_pos rfl]
               have hcc := hA.const
               clear hA hp
               refine Reg.out_value (v := .int .i64 (j : Int)) ?_ ⟨rfl, hrefl _, hI⟩
               go_simp
             · refine Reg.StepAt.guarded (i := 25) rfl ?_
               intro L ev w hI hk hp hA
               have e142 : ev (.tmp 142) = .int .i64 (j : Int) := hA.val 24 _ 142 rfl (hp ⟨24, .data⟩ (by simp) rfl) rfl
               have eg : ev (.tmp 141) = .bool false := hA.val 23 _ 141 rfl (hp ⟨23, .guard⟩ (by simp) rfl) rfl
               refine ⟨_, 141, false, rfl, rfl, eg, ?_⟩
               rw [if_pos rfl]
               have hcc := hA.const
               clear hA hp
               refine Reg.out_value (v := .int .i64 jm) ?_ ⟨rfl, hrefl _, hI⟩
               go_simp
             · refine Reg.StepAt.guarded (i := 26) rfl ?_
               intro L ev w hI hk hp hA
               have e143 : ev (.tmp 143) = .int .i64 jm := hA.val 25 _ 143 rfl (hp ⟨25, .data⟩ (by simp) rfl) rfl
               have eg : ev (.tmp 141) = .bool false := hA.val 23 _ 141 rfl (hp ⟨23, .guard⟩ (by simp) rfl) rfl
               refine ⟨_, 141, false, rfl, rfl, eg, ?_⟩
               rw [if_pos rfl]
               have hcc := hA.const
               clear hA hp
               refine Reg.out_value (v := .bool true) ?_ ⟨rfl, hrefl _, hI⟩
               go_simp
             · refine Reg.StepAt.guarded (i := 27) rfl ?_
               intro L ev w hI hk hp hA
               have e144 : ev (.tmp 144) = .bool true := hA.val 26 _ 144 rfl (hp ⟨26, .data⟩ (by simp) rfl) rfl
               have eg : ev (.tmp 141) = .bool false := hA.val 23 _ 141 rfl (hp ⟨23, .chain⟩ (by simp) rfl) rfl
               refine ⟨_, 141, false, rfl, rfl, eg, ?_⟩
               rw [if_pos rfl]
               have hcc := hA.const
               clear hA hp
               refine Reg.out_value (v := .bool true) ?_ ⟨rfl, hrefl _, hI⟩
               go_simp
             · refine Reg.StepAt.guarded (i := 28) rfl ?_
               intro L ev w hI hk hp hA
               have e8 : ev (.tmp 8) = .pointer (some ⟨b, 0, none⟩) := hA.oldNone 8 (by kernel_rfl)
               have eg : ev (.tmp 145) = .bool true := hA.val 27 _ 145 rfl (hp ⟨27, .guard⟩ (by simp) rfl) rfl
               refine ⟨_, 145, true, rfl, rfl, eg, ?_⟩
               rw [if_pos rfl]
               have hcc := hA.const
               clear hA hp
               refine Reg.out_value (v := .pointer (some ⟨b, 0, none⟩)) ?_ ⟨rfl, hrefl _, hI⟩
               go_simp
             · refine Reg.StepAt.guarded (i := 29) rfl ?_
               intro L ev w hI hk hp hA
               have e146 : ev (.tmp 146) = .pointer (some ⟨b, 0, none⟩) := hA.val 28 _ 146 rfl (hp ⟨28, .data⟩ (by simp) rfl) rfl
               have eg : ev (.tmp 145) = .bool true := hA.val 27 _ 145 rfl (hp ⟨27, .chain⟩ (by simp) rfl) rfl
               refine ⟨_, 145, true, rfl, rfl, eg, ?_⟩
               rw [if_pos rfl]
               have hcc := hA.const
               have hcf := hA.func
               clear hA hp
               refine Reg.out_call (f := 19) (args := #[.pointer (some ⟨b, 0, none⟩)]) (w0 := w) ?_ ?_
               · go_simp
               refine (HAl.out w hI).mono ?_
               rintro e w' ⟨g9, rfl, hr', hb'⟩
               exact ⟨_, rfl, ⟨g9, rfl, hr'⟩, hb', Reg.Keeps.trans hI hb'⟩
             · refine Reg.StepAt.guarded (i := 30) rfl ?_
               intro L ev w hI hk hp hA
               have e6 : ev (.tmp 6) = .slice (some ⟨gy, oy, none⟩) 0 cy := hA.oldNone 6 (by kernel_rfl)
               have eg : ev (.tmp 145) = .bool true := hA.val 27 _ 145 rfl (hp ⟨27, .guard⟩ (by simp) rfl) rfl
               refine ⟨_, 145, true, rfl, rfl, eg, ?_⟩
               rw [if_pos rfl]
               have hcc := hA.const
               clear hA hp
               refine Reg.out_value (v := .slice (some ⟨gy, oy, none⟩) 0 cy) ?_ ⟨rfl, hrefl _, hI⟩
               go_simp
             · refine Reg.StepAt.guarded (i := 31) rfl ?_
               intro L ev w hI hk hp hA
               have e147 : (fun v w => ∃ g9, v = .slice (some ⟨g9, 0, none⟩) 0 0 ∧ Row w g9 0 (LQ : List KI).toArray) (ev (.tmp 147)) w := hA.val 29 _ 147 rfl (hp ⟨29, .data⟩ (by simp) rfl) rfl
               have e148 : ev (.tmp 148) = .slice (some ⟨gy, oy, none⟩) 0 cy := hA.val 30 _ 148 rfl (hp ⟨30, .data⟩ (by simp) rfl) rfl
               have eg : ev (.tmp 145) = .bool true := hA.val 27 _ 145 rfl (hp ⟨27, .guard⟩ (by simp) rfl) rfl
               refine ⟨_, 145, true, rfl, rfl, eg, ?_⟩
               rw [if_pos rfl]
               have hcc := hA.const
               have hcf := hA.func
               clear hA hp
               obtain ⟨g9, e147, hr9⟩ := e147
               refine Reg.out_call (f := 18) (args := #[.slice (some ⟨g9, 0, none⟩) 0 0, .slice (some ⟨gy, oy, none⟩) 0 cy]) (w0 := w) ?_ ?_
               · go_simp
               refine (areR_any g9 0 (some ⟨gy, oy, none⟩) cy 0 LQ w hr9 (HRd.out w hI) HNM.out).mono ?_
               rintro e w' ⟨rfl, hb'⟩
               exact ⟨_, rfl, rfl, hb', Reg.Keeps.trans hI hb'⟩
             · refine Reg.StepAt.guarded (i := 32) rfl ?_
               intro L ev w hI hk hp hA
               have e149 : ev (.tmp 149) = .int .i64 0 := hA.val 31 _ 149 rfl (hp ⟨31, .data⟩ (by simp) rfl) rfl
               have eg : ev (.tmp 145) = .bool true := hA.val 27 _ 145 rfl (hp ⟨27, .guard⟩ (by simp) rfl) rfl
               refine ⟨_, 145, true, rfl, rfl, eg, ?_⟩
               rw [if_pos rfl]
               have hcc := hA.const
               clear hA hp
               refine Reg.out_value (v := .bool false) ?_ ⟨rfl, hrefl _, hI⟩
               go_simp
             · refine Reg.StepAt.guarded (i := 33) rfl ?_
               intro L ev w hI hk hp hA
               have e145 : ev (.tmp 145) = .bool true := hA.val 27 _ 145 rfl (hp ⟨27, .data⟩ (by simp) rfl) rfl
               have e150 : ev (.tmp 150) = .bool false := hA.val 32 _ 150 rfl (hp ⟨32, .data⟩ (by simp) rfl) rfl
               have eg : ev (.tmp 141) = .bool false := hA.val 23 _ 141 rfl (hp ⟨23, .guard⟩ (by simp) rfl) rfl
               refine ⟨_, 141, false, rfl, rfl, eg, ?_⟩
               rw [if_pos rfl]
               have hcc := hA.const
               clear hA hp
               refine Reg.out_value (v := .bool false) ?_ ⟨rfl, hrefl _, hI⟩
               go_simp
             · refine Reg.StepAt.plain (i := 34) rfl ?_
               intro L ev w hI hk hp hA
               have e141 : ev (.tmp 141) = .bool false := hA.val 23 _ 141 rfl (hp ⟨23, .data⟩ (by simp) rfl) rfl
               have e151 : ev (.tmp 151) = .bool false := hA.val 33 _ 151 rfl (hp ⟨33, .data⟩ (by simp) rfl) rfl
               have hcc := hA.const
               clear hA hp
               refine Reg.out_value (v := .bool false) ?_ ⟨rfl, hrefl _, hI⟩
               go_simp
             intro L act wz hall hI hF
             have g118 : act.eval (.tmp 118) = .pointer (some ⟨b, 0, none⟩) := hF.val 0 _ 118 rfl (hall 0 (by simp)) rfl
             have g119 : act.eval (.tmp 119) = .int .i64 0 := hF.val 1 _ 119 rfl (hall 1 (by simp)) rfl
             have g120 : act.eval (.tmp 120) = .slice (some ⟨gy, oy, none⟩) 0 cy := hF.val 2 _ 120 rfl (hall 2 (by simp)) rfl
             have g121 : act.eval (.tmp 121) = .int .i64 0 := hF.val 3 _ 121 rfl (hall 3 (by simp)) rfl
             have g122 : act.eval (.tmp 122) = .bool false := hF.val 4 _ 122 rfl (hall 4 (by simp)) rfl
             have g123 : act.eval (.tmp 123) = .bool false := hF.val 5 _ 123 rfl (hall 5 (by simp)) rfl
             have g124 : act.eval (.tmp 124) = .bool false := hF.val 6 _ 124 rfl (hall 6 (by simp)) rfl
             have g125 : act.eval (.tmp 125) = .slice (some ⟨gy, oy, none⟩) 0 cy := hF.val 7 _ 125 rfl (hall 7 (by simp)) rfl
             have g126 : act.eval (.tmp 126) = .int .i64 0 := hF.val 8 _ 126 rfl (hall 8 (by simp)) rfl
             have g127 : act.eval (.tmp 127) = .bool false := hF.val 9 _ 127 rfl (hall 9 (by simp)) rfl
             have g128 : act.eval (.tmp 128) = .bool false := hF.val 10 _ 128 rfl (hall 10 (by simp)) rfl
             have g129 : act.eval (.tmp 129) = .bool false := hF.val 11 _ 129 rfl (hall 11 (by simp)) rfl
             have g130 : act.eval (.tmp 130) = .bool false := hF.val 12 _ 130 rfl (hall 12 (by simp)) rfl
             have g131 : act.eval (.tmp 131) = .bool false := hF.val 13 _ 131 rfl (hall 13 (by simp)) rfl
             have g132 : act.eval (.tmp 132) = .bool false := hF.val 14 _ 132 rfl (hall 14 (by simp)) rfl
             have g133 : (fun v _ => v = undef) (act.eval (.tmp 133)) wz := hF.val 15 _ 133 rfl (hall 15 (by simp)) rfl
             have g134 : (fun v _ => v = undef) (act.eval (.tmp 134)) wz := hF.val 16 _ 134 rfl (hall 16 (by simp)) rfl
             have g135 : (fun v _ => v = undef) (act.eval (.tmp 135)) wz := hF.val 17 _ 135 rfl (hall 17 (by simp)) rfl
             have g136 : (fun v _ => v = undef) (act.eval (.tmp 136)) wz := hF.val 18 _ 136 rfl (hall 18 (by simp)) rfl
             have g137 : (fun v _ => v = undef) (act.eval (.tmp 137)) wz := hF.val 19 _ 137 rfl (hall 19 (by simp)) rfl
             have g138 : (fun v _ => v = undef) (act.eval (.tmp 138)) wz := hF.val 20 _ 138 rfl (hall 20 (by simp)) rfl
             have g139 : act.eval (.tmp 139) = .bool false := hF.val 21 _ 139 rfl (hall 21 (by simp)) rfl
             have g140 : act.eval (.tmp 140) = .bool false := hF.val 22 _ 140 rfl (hall 22 (by simp)) rfl
             have g141 : act.eval (.tmp 141) = .bool false := hF.val 23 _ 141 rfl (hall 23 (by simp)) rfl
             have g142 : act.eval (.tmp 142) = .int .i64 (j : Int) := hF.val 24 _ 142 rfl (hall 24 (by simp)) rfl
             have g143 : act.eval (.tmp 143) = .int .i64 jm := hF.val 25 _ 143 rfl (hall 25 (by simp)) rfl
             have g144 : act.eval (.tmp 144) = .bool true := hF.val 26 _ 144 rfl (hall 26 (by simp)) rfl
             have g145 : act.eval (.tmp 145) = .bool true := hF.val 27 _ 145 rfl (hall 27 (by simp)) rfl
             have g146 : act.eval (.tmp 146) = .pointer (some ⟨b, 0, none⟩) := hF.val 28 _ 146 rfl (hall 28 (by simp)) rfl
             have g147 : (fun v w => ∃ g9, v = .slice (some ⟨g9, 0, none⟩) 0 0 ∧ Row w g9 0 (LQ : List KI).toArray) (act.eval (.tmp 147)) wz := hF.val 29 _ 147 rfl (hall 29 (by simp)) rfl
             have g148 : act.eval (.tmp 148) = .slice (some ⟨gy, oy, none⟩) 0 cy := hF.val 30 _ 148 rfl (hall 30 (by simp)) rfl
             have g149 : act.eval (.tmp 149) = .int .i64 0 := hF.val 31 _ 149 rfl (hall 31 (by simp)) rfl
             have g150 : act.eval (.tmp 150) = .bool false := hF.val 32 _ 150 rfl (hall 32 (by simp)) rfl
             have g151 : act.eval (.tmp 151) = .bool false := hF.val 33 _ 151 rfl (hall 33 (by simp)) rfl
             have g152 : act.eval (.tmp 152) = .bool false := hF.val 34 _ 152 rfl (hall 34 (by simp)) rfl
             have hact := hF.act [118, 119, 120, 121, 122, 123, 124, 125, 126, 127, 128, 129, 130, 131, 132, 133, 134, 135, 136, 137, 138, 139, 140, 141, 142, 143, 144, 145, 146, 147, 148, 149, 150, 151, 152] (by kernel_rfl)
             clear hF hall
             simp only [List.foldl_cons, List.foldl_nil] at hact
             rw [g118, g119, g120, g121, g122, g123, g124, g125, g126, g127, g128, g129, g130, g131, g132, g139, g140, g141, g142, g143, g144, g145, g146, g148, g149, g150, g151, g152] at hact
             clear g118 g119 g120 g121 g122 g123 g124 g125 g126 g127 g128 g129 g130 g131 g132 g139 g140 g141 g142 g143 g144 g145 g146 g148 g149 g150 g151 g152
             generalize act.eval (.tmp 133) = u133 at hact g133
             generalize act.eval (.tmp 134) = u134 at hact g134
             generalize act.eval (.tmp 135) = u135 at hact g135
             generalize act.eval (.tmp 136) = u136 at hact g136
             generalize act.eval (.tmp 137) = u137 at hact g137
             generalize act.eval (.tmp 138) = u138 at hact g138
             generalize act.eval (.tmp 147) = u147 at hact g147
             simp only [List.setIfInBounds_toArray, List.set_cons_succ, List.set_cons_zero] at hact
             subst hact
             have HN := hidq (show P2 w wz b gq dq gy oy LQ from by
               obtain ⟨t1, t2, t3, t4, t5, t6, t7, t8, t9, t10, t11⟩ := HQ.out
               have hz : Below wq.heap.size wq wz := HB9.out.trans ((show Below w9.heap.size w9 wz from hI).mono HB9.out.size)
               have hbz : But (fun _ => False) wq wz := But.of_below hz
               exact ⟨t1.but hbz id id, t2, t3, t4, t5, t6.below hz, Nat.lt_of_lt_of_le t7 hz.size, t8, t9, t10, t11.trans (hz.mono t11.size)⟩)
             clear hI HQ HB9 HK FC2 HCn HAl HRd
             go_wp2_with fail
             exact ⟨⟨j + 1, gy, oy, cy, gq, dq, LQ, by rw [HNM.out], by push_cast; rfl, by omega, by omega, by rw [HNM.out]; omega, by rw [HNM.out]; omega, HN⟩, by simp [intOf]; omega⟩
         · have hFi := hidq (first_some b gq dq wq HQ.out.1 he)
           have HDN := hidq (show dq.size = nm from by have := HQ.out.2.2.2.1.length_eq; rw [Array.length_toList, HNM.out] at this; exact this)
           obtain ⟨y, M, hLM⟩ : ∃ y M, LQ = y :: M := by
             have h1 := HDN.out
             have h2 := HNM.out
             cases LQ with
             | nil => simp at h2; omega
             | cons y M => exact ⟨y, M, rfl⟩
           have hnm0 : 0 < nm := by have := HDN.out; omega
           have hnmI : (0 : Int) < (nm : Int) := by omega
           have hnmZ : ¬ nm = 0 := by omega
           have hyd : dq[0]! = y := by
             obtain ⟨_, _, _, t4, t5, _⟩ := HQ.out
             rw [hLM] at t4 t5
             obtain ⟨a1, a2⟩ := List.pairwise_cons.1 t5
             rcases List.mem_cons.1 (t4.mem_iff.1 (first_mem he)) with e | e
             · exact e
             · exact KI.total _ _ (a1 _ e) (HQ.out.1.first y (t4.mem_iff.2 List.mem_cons_self))
           rw [hyd] at hFi
           obtain ⟨yq, hyq⟩ : ∃ yq, ni y.b = yq := ⟨_, rfl⟩
           have HYQ := hidq hyq
           have HIs := hidq (fun W => (show Calls Try.prog 15 #[.agg #[.float .f64 y.b, .int .i64 y.v], .agg #[.int .u64 yq, .int .i64 y.v]] W fun e w' => e = .returned (.int .i64 0) ∧ Below W.heap.size W w' from by
             have := is_any y.b y.v yq y.v W
             rw [← hyq, isV_same y] at this
             rw [← hyq]
             exact this))
           subst hLM
           refine hFi.out.mono ?_
           rintro e wf ⟨rfl, hbf⟩
           clear hFi he hyd hyq
           have hq : Below wq.heap.size wq (wf.alloc (.cells #[.float .f64 y.b, .int .i64 y.v] 29)) := hbf.alloc hbf.size _
           obtain ⟨bf, hbk⟩ : ∃ bf, wf.heap.size = bf := ⟨_, rfl⟩
           have HB9 := hidq hq
           have hk0 : (wf.alloc (.cells #[.float .f64 y.b, .int .i64 y.v] 29)).cell? ⟨bf, 0, none⟩ = some (.float .f64 y.b) := by rw [← hbk, World.cell?_alloc_new]; rfl
           have hk1 : (wf.alloc (.cells #[.float .f64 y.b, .int .i64 y.v] 29)).cell? ⟨bf, 1, none⟩ = some (.int .i64 y.v) := by rw [← hbk, World.cell?_alloc_new]; rfl
           have hkl : bf < (wf.alloc (.cells #[.float .f64 y.b, .int .i64 y.v] 29)).heap.size := by rw [World.size_alloc, hbk]; omega
           have HK := hidq (And.intro hk0 (And.intro hk1 hkl))
           clear hbf hq hk0 hk1 hkl
           go_wp2_with fail
           try rw [hbk]
           generalize wf.alloc (.cells #[.float .f64 y.b, .int .i64 y.v] 29) = w9 at *
           have FC2 := hidq (fun W (hW : Reg.Keeps w9 W) => (show W.cell? ⟨bf, 0, none⟩ = some (.float .f64 y.b) ∧ W.cell? ⟨bf, 1, none⟩ = some (.int .i64 y.v) ∧ W.cell? ⟨gy, oy, none⟩ = some (.int .u64 yq) ∧ W.cell? ⟨gy, oy + 1, none⟩ = some (.int .i64 y.v) from by
             obtain ⟨g0, o0, e1, e2, e3, e4, _⟩ := HQ.out.2.2.2.2.2.1.head4
             cases e1
             rw [HYQ.out] at e3
             have hz : Below wq.heap.size wq W := HB9.out.trans ((show Below w9.heap.size w9 W from hW).mono HB9.out.size)
             exact ⟨(hW.cell (p := ⟨bf, 0, none⟩) HK.out.2.2).trans HK.out.1, (hW.cell (p := ⟨bf, 1, none⟩) HK.out.2.2).trans HK.out.2.1, (hz.cell (p := ⟨gy, oy, none⟩) e2).trans e3, (hz.cell (p := ⟨gy, oy + 1, none⟩) e2).trans e4⟩))
           have HCn := hidq (fun V (hV : Reg.Keeps w9 V) => (show Calls Try.prog 17 #[.pointer (some ⟨b, 0, none⟩)] V fun e w' => e = .returned (.int .i64 ((nm : Int))) ∧ w' = V from by
             have := count_any b gq dq V (HQ.out.1.but (S := fun _ => False) (But.of_below (HB9.out.trans ((show Below w9.heap.size w9 V from hV).mono HB9.out.size))) id id)
             rw [HDN.out] at this
             exact this))
           have HAl := hidq (fun V (hV : Reg.Keeps w9 V) => (show Calls Try.prog 19 #[.pointer (some ⟨b, 0, none⟩)] V fun e w' => ∃ g9, e = .returned (.slice (some ⟨g9, 0, none⟩) nm nm) ∧ Row w' g9 nm (y :: M).toArray ∧ Below V.heap.size V w' from by
             have := all_any b gq dq V (HQ.out.1.but (S := fun _ => False) (But.of_below (HB9.out.trans ((show Below w9.heap.size w9 V from hV).mono HB9.out.size))) id id)
             rw [HDN.out, order_eq (srt dq.toList) (y :: M) ((srt_perm _).trans HQ.out.2.2.2.1) (srt_order _) HQ.out.2.2.2.2.1] at this
             refine this.mono ?_
             rintro e w' ⟨g9, h1, _, h2, h3⟩
             exact ⟨g9, h1, h2, h3⟩))
           have HRd := hidq (fun V (hV : Reg.Keeps w9 V) => HQ.out.2.2.2.2.2.1.below (HB9.out.trans ((show Below w9.heap.size w9 V from hV).mono HB9.out.size)))
           obtain ⟨jm, hjm⟩ : ∃ jm : Int, (j : Int).tmod 4 = jm := ⟨_, rfl⟩
           clear hbk
           cases hj3 : (jm == 3)
           · have hrefl : ∀ w : World, Reg.Keeps w w := Reg.Keeps.refl
             refine Reg.wp_region_props (Reg.ofList (pp22Rsomefalse b gy oy nm cy y.b j yq y.v jm)) Reg.Keeps (fun _ w => Reg.Keeps w9 w) (by kernel_rfl) (by kernel_rfl) (Reg.AllKept.at _ (pp22Rsomefalse_kept b gy oy nm cy y.b j yq y.v jm)) hrefl (Reg.Keeps.drewN (Reg.Keeps.refl _) 1) ⟨?_, ?_, ?_, ?_, ?_, ?_, ?_, ?_, ?_, ?_, ?_, ?_, ?_, ?_, ?_, ?_, ?_, ?_, ?_, ?_, ?_, ?_, ?_, ?_, ?_, ?_, ?_, ?_, ?_, ?_, ?_, ?_, ?_, ?_, ?_, trivial⟩ ?_
             · refine Reg.StepAt.plain (i := 0) rfl ?_
               intro L ev w hI hk hp hA
               have e8 : ev (.tmp 8) = .pointer (some ⟨b, 0, none⟩) := hA.oldNone 8 (by kernel_rfl)
               have hcc := hA.const
               clear hA hp
               refine Reg.out_value (v := .pointer (some ⟨b, 0, none⟩)) ?_ ⟨rfl, hrefl _, hI⟩
               go_simp
             · refine Reg.StepAt.plain (i := 1) rfl ?_
               intro L ev w hI hk hp hA
               have e118 : ev (.tmp 118) = .pointer (some ⟨b, 0, none⟩) := hA.val 0 _ 118 rfl (hp ⟨0, .data⟩ (by simp) rfl) rfl
               have hcc := hA.const
               have hcf := hA.func
               clear hA hp
               refine Reg.out_call (f := 17) (args := #[.pointer (some ⟨b, 0, none⟩)]) (w0 := w) ?_ ?_
               · go_simp
               refine (HCn.out w hI).mono ?_
               rintro e w' ⟨rfl, hw'⟩
               exact ⟨_, rfl, rfl, by rw [hw']; exact hrefl _, by rw [hw']; exact hI⟩
             · refine Reg.StepAt.plain (i := 2) rfl ?_
               intro L ev w hI hk hp hA
               have e6 : ev (.tmp 6) = .slice (some ⟨gy, oy, none⟩) nm cy := hA.oldNone 6 (by kernel_rfl)
               have hcc := hA.const
               clear hA hp
               refine Reg.out_value (v := .slice (some ⟨gy, oy, none⟩) nm cy) ?_ ⟨rfl, hrefl _, hI⟩
               go_simp
             · refine Reg.StepAt.plain (i := 3) rfl ?_
               intro L ev w hI hk hp hA
               have e120 : ev (.tmp 120) = .slice (some ⟨gy, oy, none⟩) nm cy := hA.val 2 _ 120 rfl (hp ⟨2, .data⟩ (by simp) rfl) rfl
               have hcc := hA.const
               clear hA hp
               refine Reg.out_value (v := .int .i64 (nm : Int)) ?_ ⟨rfl, hrefl _, hI⟩
               go_simp
             · refine Reg.StepAt.plain (i := 4) rfl ?_
               intro L ev w hI hk hp hA
               have e119 : ev (.tmp 119) = .int .i64 (nm : Int) := hA.val 1 _ 119 rfl (hp ⟨1, .data⟩ (by simp) rfl) rfl
               have e121 : ev (.tmp 121) = .int .i64 (nm : Int) := hA.val 3 _ 121 rfl (hp ⟨3, .data⟩ (by simp) rfl) rfl
               have hcc := hA.const
               clear hA hp
               refine Reg.out_value (v := .bool false) ?_ ⟨rfl, hrefl _, hI⟩
               go_simp
             · refine Reg.StepAt.plain (i := 5) rfl ?_
               intro L ev w hI hk hp hA
               have e122 : ev (.tmp 122) = .bool false := hA.val 4 _ 122 rfl (hp ⟨4, .data⟩ (by simp) rfl) rfl
               have hcc := hA.const
               clear hA hp
               refine Reg.out_value (v := .bool false) ?_ ⟨rfl, hrefl _, hI⟩
               go_simp
             · refine Reg.StepAt.guarded (i := 6) rfl ?_
               intro L ev w hI hk hp hA
               have e13 : ev (.tmp 13) = .bool true := hA.oldNone 13 (by kernel_rfl)
               have eg : ev (.tmp 123) = .bool false := hA.val 5 _ 123 rfl (hp ⟨5, .guard⟩ (by simp) rfl) rfl
               refine ⟨_, 123, false, rfl, rfl, eg, ?_⟩
               rw [if_pos rfl]
               have hcc := hA.const
               clear hA hp
               refine Reg.out_value (v := .bool true) ?_ ⟨rfl, hrefl _, hI⟩
               go_simp
             · refine Reg.StepAt.guarded (i := 7) rfl ?_
               intro L ev w hI hk hp hA
               have e6 : ev (.tmp 6) = .slice (some ⟨gy, oy, none⟩) nm cy := hA.oldNone 6 (by kernel_rfl)
               have eg : ev (.tmp 123) = .bool false := hA.val 5 _ 123 rfl (hp ⟨5, .guard⟩ (by simp) rfl) rfl
               refine ⟨_, 123, false, rfl, rfl, eg, ?_⟩
               rw [if_pos rfl]
               have hcc := hA.const
               clear hA hp
               refine Reg.out_value (v := .slice (some ⟨gy, oy, none⟩) nm cy) ?_ ⟨rfl, hrefl _, hI⟩
               go_simp
             · refine Reg.StepAt.guarded (i := 8) rfl ?_
               intro L ev w hI hk hp hA
               have e125 : ev (.tmp 125) = .slice (some ⟨gy, oy, none⟩) nm cy := hA.val 7 _ 125 rfl (hp ⟨7, .data⟩ (by simp) rfl) rfl
               have eg : ev (.tmp 123) = .bool false := hA.val 5 _ 123 rfl (hp ⟨5, .guard⟩ (by simp) rfl) rfl
               refine ⟨_, 123, false, rfl, rfl, eg, ?_⟩
               rw [if_pos rfl]
               have hcc := hA.const
               clear hA hp
               refine Reg.out_value (v := .int .i64 (nm : Int)) ?_ ⟨rfl, hrefl _, hI⟩
               go_simp
             · refine Reg.StepAt.guarded (i := 9) rfl ?_
               intro L ev w hI hk hp hA
               have e126 : ev (.tmp 126) = .int .i64 (nm : Int) := hA.val 8 _ 126 rfl (hp ⟨8, .data⟩ (by simp) rfl) rfl
               have eg : ev (.tmp 123) = .bool false := hA.val 5 _ 123 rfl (hp ⟨5, .guard⟩ (by simp) rfl) rfl
               refine ⟨_, 123, false, rfl, rfl, eg, ?_⟩
               rw [if_pos rfl]
               have hcc := hA.const
               clear hA hp
               refine Reg.out_value (v := .bool true) ?_ ⟨rfl, hrefl _, hI⟩
               (go_simp; try omega)
             · refine Reg.StepAt.guarded (i := 10) rfl ?_
               intro L ev w hI hk hp hA
               have e124 : ev (.tmp 124) = .bool true := hA.val 6 _ 124 rfl (hp ⟨6, .data⟩ (by simp) rfl) rfl
               have e127 : ev (.tmp 127) = .bool true := hA.val 9 _ 127 rfl (hp ⟨9, .data⟩ (by simp) rfl) rfl
               have eg : ev (.tmp 123) = .bool false := hA.val 5 _ 123 rfl (hp ⟨5, .guard⟩ (by simp) rfl) rfl
               refine ⟨_, 123, false, rfl, rfl, eg, ?_⟩
               rw [if_pos rfl]
               have hcc := hA.const
               clear hA hp
               refine Reg.out_value (v := .bool false) ?_ ⟨rfl, hrefl _, hI⟩
               go_simp
             · refine Reg.StepAt.plain (i := 11) rfl ?_
               intro L ev w hI hk hp hA
               have e123 : ev (.tmp 123) = .bool false := hA.val 5 _ 123 rfl (hp ⟨5, .data⟩ (by simp) rfl) rfl
               have e128 : ev (.tmp 128) = .bool false := hA.val 10 _ 128 rfl (hp ⟨10, .data⟩ (by simp) rfl) rfl
               have hcc := hA.const
               clear hA hp
               refine Reg.out_value (v := .bool false) ?_ ⟨rfl, hrefl _, hI⟩
               go_simp
             · refine Reg.StepAt.plain (i := 12) rfl ?_
               intro L ev w hI hk hp hA
               have e129 : ev (.tmp 129) = .bool false := hA.val 11 _ 129 rfl (hp ⟨11, .data⟩ (by simp) rfl) rfl
               have hcc := hA.const
               clear hA hp
               refine Reg.out_value (v := .bool false) ?_ ⟨rfl, hrefl _, hI⟩
               go_simp
             · refine Reg.StepAt.guarded (i := 13) rfl ?_
               intro L ev w hI hk hp hA
               have e13 : ev (.tmp 13) = .bool true := hA.oldNone 13 (by kernel_rfl)
               have eg : ev (.tmp 130) = .bool false := hA.val 12 _ 130 rfl (hp ⟨12, .guard⟩ (by simp) rfl) rfl
               refine ⟨_, 130, false, rfl, rfl, eg, ?_⟩
               rw [if_pos rfl]
               have hcc := hA.const
               clear hA hp
               refine Reg.out_value (v := .bool true) ?_ ⟨rfl, hrefl _, hI⟩
               go_simp
             · refine Reg.StepAt.guarded (i := 14) rfl ?_
               intro L ev w hI hk hp hA
               have e131 : ev (.tmp 131) = .bool true := hA.val 13 _ 131 rfl (hp ⟨13, .data⟩ (by simp) rfl) rfl
               have eg : ev (.tmp 130) = .bool false := hA.val 12 _ 130 rfl (hp ⟨12, .chain⟩ (by simp) rfl) rfl
               refine ⟨_, 130, false, rfl, rfl, eg, ?_⟩
               rw [if_pos rfl]
               have hcc := hA.const
               clear hA hp
               refine Reg.out_value (v := .bool true) ?_ ⟨rfl, hrefl _, hI⟩
               go_simp
             · refine Reg.StepAt.guarded (i := 15) rfl ?_
               intro L ev w hI hk hp hA
               have e12 : ev (.tmp 12) = .pointer (some ⟨bf, 0, none⟩) := hA.oldNone 12 (by kernel_rfl)
               have eg : ev (.tmp 132) = .bool true := hA.val 14 _ 132 rfl (hp ⟨14, .guard⟩ (by simp) rfl) rfl
               refine ⟨_, 132, true, rfl, rfl, eg, ?_⟩
               rw [if_pos rfl]
               have hcc := hA.const
               clear hA hp
               obtain ⟨f0, f1, f2, f3⟩ := FC2.out w hI
               refine Reg.out_value (v := .agg #[.float .f64 y.b, .int .i64 y.v]) ?_ ⟨rfl, hrefl _, hI⟩
               go_simp
             · refine Reg.StepAt.guarded (i := 16) rfl ?_
               intro L ev w hI hk hp hA
               have e6 : ev (.tmp 6) = .slice (some ⟨gy, oy, none⟩) nm cy := hA.oldNone 6 (by kernel_rfl)
               have eg : ev (.tmp 132) = .bool true := hA.val 14 _ 132 rfl (hp ⟨14, .guard⟩ (by simp) rfl) rfl
               refine ⟨_, 132, true, rfl, rfl, eg, ?_⟩
               rw [if_pos rfl]
               have hcc := hA.const
               clear hA hp
               refine Reg.out_value (v := .slice (some ⟨gy, oy, none⟩) nm cy) ?_ ⟨rfl, hrefl _, hI⟩
               go_simp
             · refine Reg.StepAt.guarded (i := 17) rfl ?_
               intro L ev w hI hk hp hA
               have e134 : ev (.tmp 134) = .slice (some ⟨gy, oy, none⟩) nm cy := hA.val 16 _ 134 rfl (hp ⟨16, .data⟩ (by simp) rfl) rfl
               have eg : ev (.tmp 132) = .bool true := hA.val 14 _ 132 rfl (hp ⟨14, .guard⟩ (by simp) rfl) rfl
               refine ⟨_, 132, true, rfl, rfl, eg, ?_⟩
               rw [if_pos rfl]
               have hcc := hA.const
               clear hA hp
               refine Reg.out_value (v := .pointer (some ⟨gy, oy, none⟩)) ?_ ⟨rfl, hrefl _, hI⟩
               (go_simp; try (intro hz; omega))
             · refine Reg.StepAt.guarded (i := 18) rfl ?_
               intro L ev w hI hk hp hA
               have e135 : ev (.tmp 135) = .pointer (some ⟨gy, oy, none⟩) := hA.val 17 _ 135 rfl (hp ⟨17, .data⟩ (by simp) rfl) rfl
               have eg : ev (.tmp 132) = .bool true := hA.val 14 _ 132 rfl (hp ⟨14, .guard⟩ (by simp) rfl) rfl
               refine ⟨_, 132, true, rfl, rfl, eg, ?_⟩
               rw [if_pos rfl]
               have hcc := hA.const
               clear hA hp
               obtain ⟨f0, f1, f2, f3⟩ := FC2.out w hI
               refine Reg.out_value (v := .agg #[.int .u64 yq, .int .i64 y.v]) ?_ ⟨rfl, hrefl _, hI⟩
               go_simp
             · refine Reg.StepAt.guarded (i := 19) rfl ?_
               intro L ev w hI hk hp hA
               have e133 : ev (.tmp 133) = .agg #[.float .f64 y.b, .int .i64 y.v] := hA.val 15 _ 133 rfl (hp ⟨15, .data⟩ (by simp) rfl) rfl
               have e136 : ev (.tmp 136) = .agg #[.int .u64 yq, .int .i64 y.v] := hA.val 18 _ 136 rfl (hp ⟨18, .data⟩ (by simp) rfl) rfl
               have eg : ev (.tmp 132) = .bool true := hA.val 14 _ 132 rfl (hp ⟨14, .chain⟩ (by simp) rfl) rfl
               refine ⟨_, 132, true, rfl, rfl, eg, ?_⟩
               rw [if_pos rfl]
               have hcc := hA.const
               have hcf := hA.func
               clear hA hp
               refine Reg.out_call (f := 15) (args := #[.agg #[.float .f64 y.b, .int .i64 y.v], .agg #[.int .u64 yq, .int .i64 y.v]]) (w0 := w) ?_ ?_
               · go_simp
               refine (HIs.out w).mono ?_
               rintro e w' ⟨rfl, hb'⟩
               exact ⟨_, rfl, rfl, hb', Reg.Keeps.trans hI hb'⟩
             · refine Reg.StepAt.guarded (i := 20) rfl ?_
               intro L ev w hI hk hp hA
               have e137 : ev (.tmp 137) = .int .i64 0 := hA.val 19 _ 137 rfl (hp ⟨19, .data⟩ (by simp) rfl) rfl
               have eg : ev (.tmp 132) = .bool true := hA.val 14 _ 132 rfl (hp ⟨14, .guard⟩ (by simp) rfl) rfl
               refine ⟨_, 132, true, rfl, rfl, eg, ?_⟩
               rw [if_pos rfl]
               have hcc := hA.const
               clear hA hp
               refine Reg.out_value (v := .bool false) ?_ ⟨rfl, hrefl _, hI⟩
               go_simp
             · refine Reg.StepAt.guarded (i := 21) rfl ?_
               intro L ev w hI hk hp hA
               have e132 : ev (.tmp 132) = .bool true := hA.val 14 _ 132 rfl (hp ⟨14, .data⟩ (by simp) rfl) rfl
               have e138 : ev (.tmp 138) = .bool false := hA.val 20 _ 138 rfl (hp ⟨20, .data⟩ (by simp) rfl) rfl
               have eg : ev (.tmp 130) = .bool false := hA.val 12 _ 130 rfl (hp ⟨12, .guard⟩ (by simp) rfl) rfl
               refine ⟨_, 130, false, rfl, rfl, eg, ?_⟩
               rw [if_pos rfl]
               have hcc := hA.const
               clear hA hp
               refine Reg.out_value (v := .bool false) ?_ ⟨rfl, hrefl _, hI⟩
               go_simp
             · refine Reg.StepAt.plain (i := 22) rfl ?_
               intro L ev w hI hk hp hA
               have e130 : ev (.tmp 130) = .bool false := hA.val 12 _ 130 rfl (hp ⟨12, .data⟩ (by simp) rfl) rfl
               have e139 : ev (.tmp 139) = .bool false := hA.val 21 _ 139 rfl (hp ⟨21, .data⟩ (by simp) rfl) rfl
               have hcc := hA.const
               clear hA hp
               refine Reg.out_value (v := .bool false) ?_ ⟨rfl, hrefl _, hI⟩
               go_simp
             · refine Reg.StepAt.plain (i := 23) rfl ?_
               intro L ev w hI hk hp hA
               have e140 : ev (.tmp 140) = .bool false := hA.val 22 _ 140 rfl (hp ⟨22, .data⟩ (by simp) rfl) rfl
               have hcc := hA.const
               clear hA hp
               refine Reg.out_value (v := .bool false) ?_ ⟨rfl, hrefl _, hI⟩
               go_simp
             · refine Reg.StepAt.guarded (i := 24) rfl ?_
               intro L ev w hI hk hp hA
               have e9 : ev (.tmp 9) = .int .i64 (j : Int) := hA.oldNone 9 (by kernel_rfl)
               have eg : ev (.tmp 141) = .bool false := hA.val 23 _ 141 rfl (hp ⟨23, .guard⟩ (by simp) rfl) rfl
               refine ⟨_, 141, false, rfl, rfl, eg, ?_⟩
               rw [if_pos rfl]
               have hcc := hA.const
               clear hA hp
               refine Reg.out_value (v := .int .i64 (j : Int)) ?_ ⟨rfl, hrefl _, hI⟩
               go_simp
             · refine Reg.StepAt.guarded (i := 25) rfl ?_
               intro L ev w hI hk hp hA
               have e142 : ev (.tmp 142) = .int .i64 (j : Int) := hA.val 24 _ 142 rfl (hp ⟨24, .data⟩ (by simp) rfl) rfl
               have eg : ev (.tmp 141) = .bool false := hA.val 23 _ 141 rfl (hp ⟨23, .guard⟩ (by simp) rfl) rfl
               refine ⟨_, 141, false, rfl, rfl, eg, ?_⟩
               rw [if_pos rfl]
               have hcc := hA.const
               clear hA hp
               refine Reg.out_value (v := .int .i64 jm) ?_ ⟨rfl, hrefl _, hI⟩
               go_simp
             · refine Reg.StepAt.guarded (i := 26) rfl ?_
               intro L ev w hI hk hp hA
               have e143 : ev (.tmp 143) = .int .i64 jm := hA.val 25 _ 143 rfl (hp ⟨25, .data⟩ (by simp) rfl) rfl
               have eg : ev (.tmp 141) = .bool false := hA.val 23 _ 141 rfl (hp ⟨23, .guard⟩ (by simp) rfl) rfl
               refine ⟨_, 141, false, rfl, rfl, eg, ?_⟩
               rw [if_pos rfl]
               have hcc := hA.const
               clear hA hp
               refine Reg.out_value (v := .bool false) ?_ ⟨rfl, hrefl _, hI⟩
               go_simp
             · refine Reg.StepAt.guarded (i := 27) rfl ?_
               intro L ev w hI hk hp hA
               have e144 : ev (.tmp 144) = .bool false := hA.val 26 _ 144 rfl (hp ⟨26, .data⟩ (by simp) rfl) rfl
               have eg : ev (.tmp 141) = .bool false := hA.val 23 _ 141 rfl (hp ⟨23, .chain⟩ (by simp) rfl) rfl
               refine ⟨_, 141, false, rfl, rfl, eg, ?_⟩
               rw [if_pos rfl]
               have hcc := hA.const
               clear hA hp
               refine Reg.out_value (v := .bool false) ?_ ⟨rfl, hrefl _, hI⟩
               go_simp
             · refine Reg.StepAt.guarded (i := 28) rfl ?_
               intro L ev w hI hk hp hA
               have e8 : ev (.tmp 8) = .pointer (some ⟨b, 0, none⟩) := hA.oldNone 8 (by kernel_rfl)
               have eg : ev (.tmp 145) = .bool false := hA.val 27 _ 145 rfl (hp ⟨27, .guard⟩ (by simp) rfl) rfl
               refine ⟨_, 145, false, rfl, rfl, eg, ?_⟩
               rw [if_neg (by decide)]
               have hcc := hA.const
               clear hA hp
               exact ⟨rfl, hI⟩
             · refine Reg.StepAt.guarded (i := 29) rfl ?_
               intro L ev w hI hk hp hA
               have e146 : (fun v _ => v = undef) (ev (.tmp 146)) w := hA.val 28 _ 146 rfl (hp ⟨28, .data⟩ (by simp) rfl) rfl
               have eg : ev (.tmp 145) = .bool false := hA.val 27 _ 145 rfl (hp ⟨27, .chain⟩ (by simp) rfl) rfl
               refine ⟨_, 145, false, rfl, rfl, eg, ?_⟩
               rw [if_neg (by decide)]
               have hcc := hA.const
               have hcf := hA.func
               clear hA hp
               exact ⟨rfl, hI⟩
             · refine Reg.StepAt.guarded (i := 30) rfl ?_
               intro L ev w hI hk hp hA
               have e6 : ev (.tmp 6) = .slice (some ⟨gy, oy, none⟩) nm cy := hA.oldNone 6 (by kernel_rfl)
               have eg : ev (.tmp 145) = .bool false := hA.val 27 _ 145 rfl (hp ⟨27, .guard⟩ (by simp) rfl) rfl
               refine ⟨_, 145, false, rfl, rfl, eg, ?_⟩
               rw [if_neg (by decide)]
               have hcc := hA.const
               clear hA hp
               exact ⟨rfl, hI⟩
             · refine Reg.StepAt.guarded (i := 31) rfl ?_
               intro L ev w hI hk hp hA
               have e147 : (fun v _ => v = undef) (ev (.tmp 147)) w := hA.val 29 _ 147 rfl (hp ⟨29, .data⟩ (by simp) rfl) rfl
               have e148 : (fun v _ => v = undef) (ev (.tmp 148)) w := hA.val 30 _ 148 rfl (hp ⟨30, .data⟩ (by simp) rfl) rfl
               have eg : ev (.tmp 145) = .bool false := hA.val 27 _ 145 rfl (hp ⟨27, .guard⟩ (by simp) rfl) rfl
               refine ⟨_, 145, false, rfl, rfl, eg, ?_⟩
               rw [if_neg (by decide)]
               have hcc := hA.const
               have hcf := hA.func
               clear hA hp
               exact ⟨rfl, hI⟩
             · refine Reg.StepAt.guarded (i := 32) rfl ?_
               intro L ev w hI hk hp hA
               have e149 : (fun v _ => v = undef) (ev (.tmp 149)) w := hA.val 31 _ 149 rfl (hp ⟨31, .data⟩ (by simp) rfl) rfl
               have eg : ev (.tmp 145) = .bool false := hA.val 27 _ 145 rfl (hp ⟨27, .guard⟩ (by simp) rfl) rfl
               refine ⟨_, 145, false, rfl, rfl, eg, ?_⟩
               rw [if_neg (by decide)]
               have hcc := hA.const
               clear hA hp
               exact ⟨rfl, hI⟩
             · refine Reg.StepAt.guarded (i := 33) rfl ?_
               intro L ev w hI hk hp hA
               have e145 : ev (.tmp 145) = .bool false := hA.val 27 _ 145 rfl (hp ⟨27, .data⟩ (by simp) rfl) rfl
               have e150 : (fun v _ => v = undef) (ev (.tmp 150)) w := hA.val 32 _ 150 rfl (hp ⟨32, .data⟩ (by simp) rfl) rfl
               have eg : ev (.tmp 141) = .bool false := hA.val 23 _ 141 rfl (hp ⟨23, .guard⟩ (by simp) rfl) rfl
               refine ⟨_, 141, false, rfl, rfl, eg, ?_⟩
               rw [if_pos rfl]
               have hcc := hA.const
               clear hA hp
               refine Reg.out_value (v := .bool false) ?_ ⟨rfl, hrefl _, hI⟩
               go_simp
             · refine Reg.StepAt.plain (i := 34) rfl ?_
               intro L ev w hI hk hp hA
               have e141 : ev (.tmp 141) = .bool false := hA.val 23 _ 141 rfl (hp ⟨23, .data⟩ (by simp) rfl) rfl
               have e151 : ev (.tmp 151) = .bool false := hA.val 33 _ 151 rfl (hp ⟨33, .data⟩ (by simp) rfl) rfl
               have hcc := hA.const
               clear hA hp
               refine Reg.out_value (v := .bool false) ?_ ⟨rfl, hrefl _, hI⟩
               go_simp
             intro L act wz hall hI hF
             have g118 : act.eval (.tmp 118) = .pointer (some ⟨b, 0, none⟩) := hF.val 0 _ 118 rfl (hall 0 (by simp)) rfl
             have g119 : act.eval (.tmp 119) = .int .i64 (nm : Int) := hF.val 1 _ 119 rfl (hall 1 (by simp)) rfl
             have g120 : act.eval (.tmp 120) = .slice (some ⟨gy, oy, none⟩) nm cy := hF.val 2 _ 120 rfl (hall 2 (by simp)) rfl
             have g121 : act.eval (.tmp 121) = .int .i64 (nm : Int) := hF.val 3 _ 121 rfl (hall 3 (by simp)) rfl
             have g122 : act.eval (.tmp 122) = .bool false := hF.val 4 _ 122 rfl (hall 4 (by simp)) rfl
             have g123 : act.eval (.tmp 123) = .bool false := hF.val 5 _ 123 rfl (hall 5 (by simp)) rfl
             have g124 : act.eval (.tmp 124) = .bool true := hF.val 6 _ 124 rfl (hall 6 (by simp)) rfl
             have g125 : act.eval (.tmp 125) = .slice (some ⟨gy, oy, none⟩) nm cy := hF.val 7 _ 125 rfl (hall 7 (by simp)) rfl
             have g126 : act.eval (.tmp 126) = .int .i64 (nm : Int) := hF.val 8 _ 126 rfl (hall 8 (by simp)) rfl
             have g127 : act.eval (.tmp 127) = .bool true := hF.val 9 _ 127 rfl (hall 9 (by simp)) rfl
             have g128 : act.eval (.tmp 128) = .bool false := hF.val 10 _ 128 rfl (hall 10 (by simp)) rfl
             have g129 : act.eval (.tmp 129) = .bool false := hF.val 11 _ 129 rfl (hall 11 (by simp)) rfl
             have g130 : act.eval (.tmp 130) = .bool false := hF.val 12 _ 130 rfl (hall 12 (by simp)) rfl
             have g131 : act.eval (.tmp 131) = .bool true := hF.val 13 _ 131 rfl (hall 13 (by simp)) rfl
             have g132 : act.eval (.tmp 132) = .bool true := hF.val 14 _ 132 rfl (hall 14 (by simp)) rfl
             have g133 : act.eval (.tmp 133) = .agg #[.float .f64 y.b, .int .i64 y.v] := hF.val 15 _ 133 rfl (hall 15 (by simp)) rfl
             have g134 : act.eval (.tmp 134) = .slice (some ⟨gy, oy, none⟩) nm cy := hF.val 16 _ 134 rfl (hall 16 (by simp)) rfl
             have g135 : act.eval (.tmp 135) = .pointer (some ⟨gy, oy, none⟩) := hF.val 17 _ 135 rfl (hall 17 (by simp)) rfl
             have g136 : act.eval (.tmp 136) = .agg #[.int .u64 yq, .int .i64 y.v] := hF.val 18 _ 136 rfl (hall 18 (by simp)) rfl
             have g137 : act.eval (.tmp 137) = .int .i64 0 := hF.val 19 _ 137 rfl (hall 19 (by simp)) rfl
             have g138 : act.eval (.tmp 138) = .bool false := hF.val 20 _ 138 rfl (hall 20 (by simp)) rfl
             have g139 : act.eval (.tmp 139) = .bool false := hF.val 21 _ 139 rfl (hall 21 (by simp)) rfl
             have g140 : act.eval (.tmp 140) = .bool false := hF.val 22 _ 140 rfl (hall 22 (by simp)) rfl
             have g141 : act.eval (.tmp 141) = .bool false := hF.val 23 _ 141 rfl (hall 23 (by simp)) rfl
             have g142 : act.eval (.tmp 142) = .int .i64 (j : Int) := hF.val 24 _ 142 rfl (hall 24 (by simp)) rfl
             have g143 : act.eval (.tmp 143) = .int .i64 jm := hF.val 25 _ 143 rfl (hall 25 (by simp)) rfl
             have g144 : act.eval (.tmp 144) = .bool false := hF.val 26 _ 144 rfl (hall 26 (by simp)) rfl
             have g145 : act.eval (.tmp 145) = .bool false := hF.val 27 _ 145 rfl (hall 27 (by simp)) rfl
             have g146 : (fun v _ => v = undef) (act.eval (.tmp 146)) wz := hF.val 28 _ 146 rfl (hall 28 (by simp)) rfl
             have g147 : (fun v _ => v = undef) (act.eval (.tmp 147)) wz := hF.val 29 _ 147 rfl (hall 29 (by simp)) rfl
             have g148 : (fun v _ => v = undef) (act.eval (.tmp 148)) wz := hF.val 30 _ 148 rfl (hall 30 (by simp)) rfl
             have g149 : (fun v _ => v = undef) (act.eval (.tmp 149)) wz := hF.val 31 _ 149 rfl (hall 31 (by simp)) rfl
             have g150 : (fun v _ => v = undef) (act.eval (.tmp 150)) wz := hF.val 32 _ 150 rfl (hall 32 (by simp)) rfl
             have g151 : act.eval (.tmp 151) = .bool false := hF.val 33 _ 151 rfl (hall 33 (by simp)) rfl
             have g152 : act.eval (.tmp 152) = .bool false := hF.val 34 _ 152 rfl (hall 34 (by simp)) rfl
             have hact := hF.act [118, 119, 120, 121, 122, 123, 124, 125, 126, 127, 128, 129, 130, 131, 132, 133, 134, 135, 136, 137, 138, 139, 140, 141, 142, 143, 144, 145, 146, 147, 148, 149, 150, 151, 152] (by kernel_rfl)
             clear hF hall
             simp only [List.foldl_cons, List.foldl_nil] at hact
             rw [g118, g119, g120, g121, g122, g123, g124, g125, g126, g127, g128, g129, g130, g131, g132, g133, g134, g135, g136, g137, g138, g139, g140, g141, g142, g143, g144, g145, g151, g152] at hact
             clear g118 g119 g120 g121 g122 g123 g124 g125 g126 g127 g128 g129 g130 g131 g132 g133 g134 g135 g136 g137 g138 g139 g140 g141 g142 g143 g144 g145 g151 g152
             generalize act.eval (.tmp 146) = u146 at hact g146
             generalize act.eval (.tmp 147) = u147 at hact g147
             generalize act.eval (.tmp 148) = u148 at hact g148
             generalize act.eval (.tmp 149) = u149 at hact g149
             generalize act.eval (.tmp 150) = u150 at hact g150
             simp only [List.setIfInBounds_toArray, List.set_cons_succ, List.set_cons_zero] at hact
             subst hact
             have HN := hidq (show P2 w wz b gq dq gy oy (y :: M) from by
               obtain ⟨t1, t2, t3, t4, t5, t6, t7, t8, t9, t10, t11⟩ := HQ.out
               have hz : Below wq.heap.size wq wz := HB9.out.trans ((show Below w9.heap.size w9 wz from hI).mono HB9.out.size)
               have hbz : But (fun _ => False) wq wz := But.of_below hz
               exact ⟨t1.but hbz id id, t2, t3, t4, t5, t6.below hz, Nat.lt_of_lt_of_le t7 hz.size, t8, t9, t10, t11.trans (hz.mono t11.size)⟩)
             clear hI HQ HB9 HK FC2 HCn HAl HRd
             go_wp2_with fail
             exact ⟨⟨j + 1, gy, oy, cy, gq, dq, (y :: M), by rw [HNM.out], by push_cast; rfl, by omega, by omega, by rw [HNM.out]; omega, by rw [HNM.out]; omega, HN⟩, by simp [intOf]; omega⟩
           · have hrefl : ∀ w : World, Reg.Keeps w w := Reg.Keeps.refl
             refine Reg.wp_region_props (Reg.ofList (pp22Rsometrue b gy oy nm cy y.b j yq y.v jm (y :: M))) Reg.Keeps (fun _ w => Reg.Keeps w9 w) (by kernel_rfl) (by kernel_rfl) (Reg.AllKept.at _ (pp22Rsometrue_kept b gy oy nm cy y.b j yq y.v jm (y :: M))) hrefl (Reg.Keeps.drewN (Reg.Keeps.refl _) 1) ⟨?_, ?_, ?_, ?_, ?_, ?_, ?_, ?_, ?_, ?_, ?_, ?_, ?_, ?_, ?_, ?_, ?_, ?_, ?_, ?_, ?_, ?_, ?_, ?_, ?_, ?_, ?_, ?_, ?_, ?_, ?_, ?_, ?_, ?_, ?_, trivial⟩ ?_
             · refine Reg.StepAt.plain (i := 0) rfl ?_
               intro L ev w hI hk hp hA
               have e8 : ev (.tmp 8) = .pointer (some ⟨b, 0, none⟩) := hA.oldNone 8 (by kernel_rfl)
               have hcc := hA.const
               clear hA hp
               refine Reg.out_value (v := .pointer (some ⟨b, 0, none⟩)) ?_ ⟨rfl, hrefl _, hI⟩
               go_simp
             · refine Reg.StepAt.plain (i := 1) rfl ?_
               intro L ev w hI hk hp hA
               have e118 : ev (.tmp 118) = .pointer (some ⟨b, 0, none⟩) := hA.val 0 _ 118 rfl (hp ⟨0, .data⟩ (by simp) rfl) rfl
               have hcc := hA.const
               have hcf := hA.func
               clear hA hp
               refine Reg.out_call (f := 17) (args := #[.pointer (some ⟨b, 0, none⟩)]) (w0 := w) ?_ ?_
               · go_simp
               refine (HCn.out w hI).mono ?_
               rintro e w' ⟨rfl, hw'⟩
               exact ⟨_, rfl, rfl, by rw [hw']; exact hrefl _, by rw [hw']; exact hI⟩
             · refine Reg.StepAt.plain (i := 2) rfl ?_
               intro L ev w hI hk hp hA
               have e6 : ev (.tmp 6) = .slice (some ⟨gy, oy, none⟩) nm cy := hA.oldNone 6 (by kernel_rfl)
               have hcc := hA.const
               clear hA hp
               refine Reg.out_value (v := .slice (some ⟨gy, oy, none⟩) nm cy) ?_ ⟨rfl, hrefl _, hI⟩
               go_simp
             · refine Reg.StepAt.plain (i := 3) rfl ?_
               intro L ev w hI hk hp hA
               have e120 : ev (.tmp 120) = .slice (some ⟨gy, oy, none⟩) nm cy := hA.val 2 _ 120 rfl (hp ⟨2, .data⟩ (by simp) rfl) rfl
               have hcc := hA.const
               clear hA hp
               refine Reg.out_value (v := .int .i64 (nm : Int)) ?_ ⟨rfl, hrefl _, hI⟩
               go_simp
             · refine Reg.StepAt.plain (i := 4) rfl ?_
               intro L ev w hI hk hp hA
               have e119 : ev (.tmp 119) = .int .i64 (nm : Int) := hA.val 1 _ 119 rfl (hp ⟨1, .data⟩ (by simp) rfl) rfl
               have e121 : ev (.tmp 121) = .int .i64 (nm : Int) := hA.val 3 _ 121 rfl (hp ⟨3, .data⟩ (by simp) rfl) rfl
               have hcc := hA.const
               clear hA hp
               refine Reg.out_value (v := .bool false) ?_ ⟨rfl, hrefl _, hI⟩
               go_simp
             · refine Reg.StepAt.plain (i := 5) rfl ?_
               intro L ev w hI hk hp hA
               have e122 : ev (.tmp 122) = .bool false := hA.val 4 _ 122 rfl (hp ⟨4, .data⟩ (by simp) rfl) rfl
               have hcc := hA.const
               clear hA hp
               refine Reg.out_value (v := .bool false) ?_ ⟨rfl, hrefl _, hI⟩
               go_simp
             · refine Reg.StepAt.guarded (i := 6) rfl ?_
               intro L ev w hI hk hp hA
               have e13 : ev (.tmp 13) = .bool true := hA.oldNone 13 (by kernel_rfl)
               have eg : ev (.tmp 123) = .bool false := hA.val 5 _ 123 rfl (hp ⟨5, .guard⟩ (by simp) rfl) rfl
               refine ⟨_, 123, false, rfl, rfl, eg, ?_⟩
               rw [if_pos rfl]
               have hcc := hA.const
               clear hA hp
               refine Reg.out_value (v := .bool true) ?_ ⟨rfl, hrefl _, hI⟩
               go_simp
             · refine Reg.StepAt.guarded (i := 7) rfl ?_
               intro L ev w hI hk hp hA
               have e6 : ev (.tmp 6) = .slice (some ⟨gy, oy, none⟩) nm cy := hA.oldNone 6 (by kernel_rfl)
               have eg : ev (.tmp 123) = .bool false := hA.val 5 _ 123 rfl (hp ⟨5, .guard⟩ (by simp) rfl) rfl
               refine ⟨_, 123, false, rfl, rfl, eg, ?_⟩
               rw [if_pos rfl]
               have hcc := hA.const
               clear hA hp
               refine Reg.out_value (v := .slice (some ⟨gy, oy, none⟩) nm cy) ?_ ⟨rfl, hrefl _, hI⟩
               go_simp
             · refine Reg.StepAt.guarded (i := 8) rfl ?_
               intro L ev w hI hk hp hA
               have e125 : ev (.tmp 125) = .slice (some ⟨gy, oy, none⟩) nm cy := hA.val 7 _ 125 rfl (hp ⟨7, .data⟩ (by simp) rfl) rfl
               have eg : ev (.tmp 123) = .bool false := hA.val 5 _ 123 rfl (hp ⟨5, .guard⟩ (by simp) rfl) rfl
               refine ⟨_, 123, false, rfl, rfl, eg, ?_⟩
               rw [if_pos rfl]
               have hcc := hA.const
               clear hA hp
               refine Reg.out_value (v := .int .i64 (nm : Int)) ?_ ⟨rfl, hrefl _, hI⟩
               go_simp
             · refine Reg.StepAt.guarded (i := 9) rfl ?_
               intro L ev w hI hk hp hA
               have e126 : ev (.tmp 126) = .int .i64 (nm : Int) := hA.val 8 _ 126 rfl (hp ⟨8, .data⟩ (by simp) rfl) rfl
               have eg : ev (.tmp 123) = .bool false := hA.val 5 _ 123 rfl (hp ⟨5, .guard⟩ (by simp) rfl) rfl
               refine ⟨_, 123, false, rfl, rfl, eg, ?_⟩
               rw [if_pos rfl]
               have hcc := hA.const
               clear hA hp
               refine Reg.out_value (v := .bool true) ?_ ⟨rfl, hrefl _, hI⟩
               (go_simp; try omega)
             · refine Reg.StepAt.guarded (i := 10) rfl ?_
               intro L ev w hI hk hp hA
               have e124 : ev (.tmp 124) = .bool true := hA.val 6 _ 124 rfl (hp ⟨6, .data⟩ (by simp) rfl) rfl
               have e127 : ev (.tmp 127) = .bool true := hA.val 9 _ 127 rfl (hp ⟨9, .data⟩ (by simp) rfl) rfl
               have eg : ev (.tmp 123) = .bool false := hA.val 5 _ 123 rfl (hp ⟨5, .guard⟩ (by simp) rfl) rfl
               refine ⟨_, 123, false, rfl, rfl, eg, ?_⟩
               rw [if_pos rfl]
               have hcc := hA.const
               clear hA hp
               refine Reg.out_value (v := .bool false) ?_ ⟨rfl, hrefl _, hI⟩
               go_simp
             · refine Reg.StepAt.plain (i := 11) rfl ?_
               intro L ev w hI hk hp hA
               have e123 : ev (.tmp 123) = .bool false := hA.val 5 _ 123 rfl (hp ⟨5, .data⟩ (by simp) rfl) rfl
               have e128 : ev (.tmp 128) = .bool false := hA.val 10 _ 128 rfl (hp ⟨10, .data⟩ (by simp) rfl) rfl
               have hcc := hA.const
               clear hA hp
               refine Reg.out_value (v := .bool false) ?_ ⟨rfl, hrefl _, hI⟩
               go_simp
             · refine Reg.StepAt.plain (i := 12) rfl ?_
               intro L ev w hI hk hp hA
               have e129 : ev (.tmp 129) = .bool false := hA.val 11 _ 129 rfl (hp ⟨11, .data⟩ (by simp) rfl) rfl
               have hcc := hA.const
               clear hA hp
               refine Reg.out_value (v := .bool false) ?_ ⟨rfl, hrefl _, hI⟩
               go_simp
             · refine Reg.StepAt.guarded (i := 13) rfl ?_
               intro L ev w hI hk hp hA
               have e13 : ev (.tmp 13) = .bool true := hA.oldNone 13 (by kernel_rfl)
               have eg : ev (.tmp 130) = .bool false := hA.val 12 _ 130 rfl (hp ⟨12, .guard⟩ (by simp) rfl) rfl
               refine ⟨_, 130, false, rfl, rfl, eg, ?_⟩
               rw [if_pos rfl]
               have hcc := hA.const
               clear hA hp
               refine Reg.out_value (v := .bool true) ?_ ⟨rfl, hrefl _, hI⟩
               go_simp
             · refine Reg.StepAt.guarded (i := 14) rfl ?_
               intro L ev w hI hk hp hA
               have e131 : ev (.tmp 131) = .bool true := hA.val 13 _ 131 rfl (hp ⟨13, .data⟩ (by simp) rfl) rfl
               have eg : ev (.tmp 130) = .bool false := hA.val 12 _ 130 rfl (hp ⟨12, .chain⟩ (by simp) rfl) rfl
               refine ⟨_, 130, false, rfl, rfl, eg, ?_⟩
               rw [if_pos rfl]
               have hcc := hA.const
               clear hA hp
               refine Reg.out_value (v := .bool true) ?_ ⟨rfl, hrefl _, hI⟩
               go_simp
             · refine Reg.StepAt.guarded (i := 15) rfl ?_
               intro L ev w hI hk hp hA
               have e12 : ev (.tmp 12) = .pointer (some ⟨bf, 0, none⟩) := hA.oldNone 12 (by kernel_rfl)
               have eg : ev (.tmp 132) = .bool true := hA.val 14 _ 132 rfl (hp ⟨14, .guard⟩ (by simp) rfl) rfl
               refine ⟨_, 132, true, rfl, rfl, eg, ?_⟩
               rw [if_pos rfl]
               have hcc := hA.const
               clear hA hp
               obtain ⟨f0, f1, f2, f3⟩ := FC2.out w hI
               refine Reg.out_value (v := .agg #[.float .f64 y.b, .int .i64 y.v]) ?_ ⟨rfl, hrefl _, hI⟩
               go_simp
             · refine Reg.StepAt.guarded (i := 16) rfl ?_
               intro L ev w hI hk hp hA
               have e6 : ev (.tmp 6) = .slice (some ⟨gy, oy, none⟩) nm cy := hA.oldNone 6 (by kernel_rfl)
               have eg : ev (.tmp 132) = .bool true := hA.val 14 _ 132 rfl (hp ⟨14, .guard⟩ (by simp) rfl) rfl
               refine ⟨_, 132, true, rfl, rfl, eg, ?_⟩
               rw [if_pos rfl]
               have hcc := hA.const
               clear hA hp
               refine Reg.out_value (v := .slice (some ⟨gy, oy, none⟩) nm cy) ?_ ⟨rfl, hrefl _, hI⟩
               go_simp
             · refine Reg.StepAt.guarded (i := 17) rfl ?_
               intro L ev w hI hk hp hA
               have e134 : ev (.tmp 134) = .slice (some ⟨gy, oy, none⟩) nm cy := hA.val 16 _ 134 rfl (hp ⟨16, .data⟩ (by simp) rfl) rfl
               have eg : ev (.tmp 132) = .bool true := hA.val 14 _ 132 rfl (hp ⟨14, .guard⟩ (by simp) rfl) rfl
               refine ⟨_, 132, true, rfl, rfl, eg, ?_⟩
               rw [if_pos rfl]
               have hcc := hA.const
               clear hA hp
               refine Reg.out_value (v := .pointer (some ⟨gy, oy, none⟩)) ?_ ⟨rfl, hrefl _, hI⟩
               (go_simp; try (intro hz; omega))
             · refine Reg.StepAt.guarded (i := 18) rfl ?_
               intro L ev w hI hk hp hA
               have e135 : ev (.tmp 135) = .pointer (some ⟨gy, oy, none⟩) := hA.val 17 _ 135 rfl (hp ⟨17, .data⟩ (by simp) rfl) rfl
               have eg : ev (.tmp 132) = .bool true := hA.val 14 _ 132 rfl (hp ⟨14, .guard⟩ (by simp) rfl) rfl
               refine ⟨_, 132, true, rfl, rfl, eg, ?_⟩
               rw [if_pos rfl]
               have hcc := hA.const
               clear hA hp
               obtain ⟨f0, f1, f2, f3⟩ := FC2.out w hI
               refine Reg.out_value (v := .agg #[.int .u64 yq, .int .i64 y.v]) ?_ ⟨rfl, hrefl _, hI⟩
               go_simp
             · refine Reg.StepAt.guarded (i := 19) rfl ?_
               intro L ev w hI hk hp hA
               have e133 : ev (.tmp 133) = .agg #[.float .f64 y.b, .int .i64 y.v] := hA.val 15 _ 133 rfl (hp ⟨15, .data⟩ (by simp) rfl) rfl
               have e136 : ev (.tmp 136) = .agg #[.int .u64 yq, .int .i64 y.v] := hA.val 18 _ 136 rfl (hp ⟨18, .data⟩ (by simp) rfl) rfl
               have eg : ev (.tmp 132) = .bool true := hA.val 14 _ 132 rfl (hp ⟨14, .chain⟩ (by simp) rfl) rfl
               refine ⟨_, 132, true, rfl, rfl, eg, ?_⟩
               rw [if_pos rfl]
               have hcc := hA.const
               have hcf := hA.func
               clear hA hp
               refine Reg.out_call (f := 15) (args := #[.agg #[.float .f64 y.b, .int .i64 y.v], .agg #[.int .u64 yq, .int .i64 y.v]]) (w0 := w) ?_ ?_
               · go_simp
               refine (HIs.out w).mono ?_
               rintro e w' ⟨rfl, hb'⟩
               exact ⟨_, rfl, rfl, hb', Reg.Keeps.trans hI hb'⟩
             · refine Reg.StepAt.guarded (i := 20) rfl ?_
               intro L ev w hI hk hp hA
               have e137 : ev (.tmp 137) = .int .i64 0 := hA.val 19 _ 137 rfl (hp ⟨19, .data⟩ (by simp) rfl) rfl
               have eg : ev (.tmp 132) = .bool true := hA.val 14 _ 132 rfl (hp ⟨14, .guard⟩ (by simp) rfl) rfl
               refine ⟨_, 132, true, rfl, rfl, eg, ?_⟩
               rw [if_pos rfl]
               have hcc := hA.const
               clear hA hp
               refine Reg.out_value (v := .bool false) ?_ ⟨rfl, hrefl _, hI⟩
               go_simp
             · refine Reg.StepAt.guarded (i := 21) rfl ?_
               intro L ev w hI hk hp hA
               have e132 : ev (.tmp 132) = .bool true := hA.val 14 _ 132 rfl (hp ⟨14, .data⟩ (by simp) rfl) rfl
               have e138 : ev (.tmp 138) = .bool false := hA.val 20 _ 138 rfl (hp ⟨20, .data⟩ (by simp) rfl) rfl
               have eg : ev (.tmp 130) = .bool false := hA.val 12 _ 130 rfl (hp ⟨12, .guard⟩ (by simp) rfl) rfl
               refine ⟨_, 130, false, rfl, rfl, eg, ?_⟩
               rw [if_pos rfl]
               have hcc := hA.const
               clear hA hp
               refine Reg.out_value (v := .bool false) ?_ ⟨rfl, hrefl _, hI⟩
               go_simp
             · refine Reg.StepAt.plain (i := 22) rfl ?_
               intro L ev w hI hk hp hA
               have e130 : ev (.tmp 130) = .bool false := hA.val 12 _ 130 rfl (hp ⟨12, .data⟩ (by simp) rfl) rfl
               have e139 : ev (.tmp 139) = .bool false := hA.val 21 _ 139 rfl (hp ⟨21, .data⟩ (by simp) rfl) rfl
               have hcc := hA.const
               clear hA hp
               refine Reg.out_value (v := .bool false) ?_ ⟨rfl, hrefl _, hI⟩
               go_simp
             · refine Reg.StepAt.plain (i := 23) rfl ?_
               intro L ev w hI hk hp hA
               have e140 : ev (.tmp 140) = .bool false := hA.val 22 _ 140 rfl (hp ⟨22, .data⟩ (by simp) rfl) rfl
               have hcc := hA.const
               clear hA hp
               refine Reg.out_value (v := .bool false) ?_ ⟨rfl, hrefl _, hI⟩
               go_simp
             · refine Reg.StepAt.guarded (i := 24) rfl ?_
               intro L ev w hI hk hp hA
               have e9 : ev (.tmp 9) = .int .i64 (j : Int) := hA.oldNone 9 (by kernel_rfl)
               have eg : ev (.tmp 141) = .bool false := hA.val 23 _ 141 rfl (hp ⟨23, .guard⟩ (by simp) rfl) rfl
               refine ⟨_, 141, false, rfl, rfl, eg, ?_⟩
               rw [if_pos rfl]
               have hcc := hA.const
               clear hA hp
               refine Reg.out_value (v := .int .i64 (j : Int)) ?_ ⟨rfl, hrefl _, hI⟩
               go_simp
             · refine Reg.StepAt.guarded (i := 25) rfl ?_
               intro L ev w hI hk hp hA
               have e142 : ev (.tmp 142) = .int .i64 (j : Int) := hA.val 24 _ 142 rfl (hp ⟨24, .data⟩ (by simp) rfl) rfl
               have eg : ev (.tmp 141) = .bool false := hA.val 23 _ 141 rfl (hp ⟨23, .guard⟩ (by simp) rfl) rfl
               refine ⟨_, 141, false, rfl, rfl, eg, ?_⟩
               rw [if_pos rfl]
               have hcc := hA.const
               clear hA hp
               refine Reg.out_value (v := .int .i64 jm) ?_ ⟨rfl, hrefl _, hI⟩
               go_simp
             · refine Reg.StepAt.guarded (i := 26) rfl ?_
               intro L ev w hI hk hp hA
               have e143 : ev (.tmp 143) = .int .i64 jm := hA.val 25 _ 143 rfl (hp ⟨25, .data⟩ (by simp) rfl) rfl
               have eg : ev (.tmp 141) = .bool false := hA.val 23 _ 141 rfl (hp ⟨23, .guard⟩ (by simp) rfl) rfl
               refine ⟨_, 141, false, rfl, rfl, eg, ?_⟩
               rw [if_pos rfl]
               have hcc := hA.const
               clear hA hp
               refine Reg.out_value (v := .bool true) ?_ ⟨rfl, hrefl _, hI⟩
               go_simp
             · refine Reg.StepAt.guarded (i := 27) rfl ?_
               intro L ev w hI hk hp hA
               have e144 : ev (.tmp 144) = .bool true := hA.val 26 _ 144 rfl (hp ⟨26, .data⟩ (by simp) rfl) rfl
               have eg : ev (.tmp 141) = .bool false := hA.val 23 _ 141 rfl (hp ⟨23, .chain⟩ (by simp) rfl) rfl
               refine ⟨_, 141, false, rfl, rfl, eg, ?_⟩
               rw [if_pos rfl]
               have hcc := hA.const
               clear hA hp
               refine Reg.out_value (v := .bool true) ?_ ⟨rfl, hrefl _, hI⟩
               go_simp
             · refine Reg.StepAt.guarded (i := 28) rfl ?_
               intro L ev w hI hk hp hA
               have e8 : ev (.tmp 8) = .pointer (some ⟨b, 0, none⟩) := hA.oldNone 8 (by kernel_rfl)
               have eg : ev (.tmp 145) = .bool true := hA.val 27 _ 145 rfl (hp ⟨27, .guard⟩ (by simp) rfl) rfl
               refine ⟨_, 145, true, rfl, rfl, eg, ?_⟩
               rw [if_pos rfl]
               have hcc := hA.const
               clear hA hp
               refine Reg.out_value (v := .pointer (some ⟨b, 0, none⟩)) ?_ ⟨rfl, hrefl _, hI⟩
               go_simp
             · refine Reg.StepAt.guarded (i := 29) rfl ?_
               intro L ev w hI hk hp hA
               have e146 : ev (.tmp 146) = .pointer (some ⟨b, 0, none⟩) := hA.val 28 _ 146 rfl (hp ⟨28, .data⟩ (by simp) rfl) rfl
               have eg : ev (.tmp 145) = .bool true := hA.val 27 _ 145 rfl (hp ⟨27, .chain⟩ (by simp) rfl) rfl
               refine ⟨_, 145, true, rfl, rfl, eg, ?_⟩
               rw [if_pos rfl]
               have hcc := hA.const
               have hcf := hA.func
               clear hA hp
               refine Reg.out_call (f := 19) (args := #[.pointer (some ⟨b, 0, none⟩)]) (w0 := w) ?_ ?_
               · go_simp
               refine (HAl.out w hI).mono ?_
               rintro e w' ⟨g9, rfl, hr', hb'⟩
               exact ⟨_, rfl, ⟨g9, rfl, hr'⟩, hb', Reg.Keeps.trans hI hb'⟩
             · refine Reg.StepAt.guarded (i := 30) rfl ?_
               intro L ev w hI hk hp hA
               have e6 : ev (.tmp 6) = .slice (some ⟨gy, oy, none⟩) nm cy := hA.oldNone 6 (by kernel_rfl)
               have eg : ev (.tmp 145) = .bool true := hA.val 27 _ 145 rfl (hp ⟨27, .guard⟩ (by simp) rfl) rfl
               refine ⟨_, 145, true, rfl, rfl, eg, ?_⟩
               rw [if_pos rfl]
               have hcc := hA.const
               clear hA hp
               refine Reg.out_value (v := .slice (some ⟨gy, oy, none⟩) nm cy) ?_ ⟨rfl, hrefl _, hI⟩
               go_simp
             · refine Reg.StepAt.guarded (i := 31) rfl ?_
               intro L ev w hI hk hp hA
               have e147 : (fun v w => ∃ g9, v = .slice (some ⟨g9, 0, none⟩) nm nm ∧ Row w g9 nm ((y :: M) : List KI).toArray) (ev (.tmp 147)) w := hA.val 29 _ 147 rfl (hp ⟨29, .data⟩ (by simp) rfl) rfl
               have e148 : ev (.tmp 148) = .slice (some ⟨gy, oy, none⟩) nm cy := hA.val 30 _ 148 rfl (hp ⟨30, .data⟩ (by simp) rfl) rfl
               have eg : ev (.tmp 145) = .bool true := hA.val 27 _ 145 rfl (hp ⟨27, .guard⟩ (by simp) rfl) rfl
               refine ⟨_, 145, true, rfl, rfl, eg, ?_⟩
               rw [if_pos rfl]
               have hcc := hA.const
               have hcf := hA.func
               clear hA hp
               obtain ⟨g9, e147, hr9⟩ := e147
               refine Reg.out_call (f := 18) (args := #[.slice (some ⟨g9, 0, none⟩) nm nm, .slice (some ⟨gy, oy, none⟩) nm cy]) (w0 := w) ?_ ?_
               · go_simp
               refine (areR_any g9 nm (some ⟨gy, oy, none⟩) cy nm (y :: M) w hr9 (HRd.out w hI) HNM.out).mono ?_
               rintro e w' ⟨rfl, hb'⟩
               exact ⟨_, rfl, rfl, hb', Reg.Keeps.trans hI hb'⟩
             · refine Reg.StepAt.guarded (i := 32) rfl ?_
               intro L ev w hI hk hp hA
               have e149 : ev (.tmp 149) = .int .i64 0 := hA.val 31 _ 149 rfl (hp ⟨31, .data⟩ (by simp) rfl) rfl
               have eg : ev (.tmp 145) = .bool true := hA.val 27 _ 145 rfl (hp ⟨27, .guard⟩ (by simp) rfl) rfl
               refine ⟨_, 145, true, rfl, rfl, eg, ?_⟩
               rw [if_pos rfl]
               have hcc := hA.const
               clear hA hp
               refine Reg.out_value (v := .bool false) ?_ ⟨rfl, hrefl _, hI⟩
               go_simp
             · refine Reg.StepAt.guarded (i := 33) rfl ?_
               intro L ev w hI hk hp hA
               have e145 : ev (.tmp 145) = .bool true := hA.val 27 _ 145 rfl (hp ⟨27, .data⟩ (by simp) rfl) rfl
               have e150 : ev (.tmp 150) = .bool false := hA.val 32 _ 150 rfl (hp ⟨32, .data⟩ (by simp) rfl) rfl
               have eg : ev (.tmp 141) = .bool false := hA.val 23 _ 141 rfl (hp ⟨23, .guard⟩ (by simp) rfl) rfl
               refine ⟨_, 141, false, rfl, rfl, eg, ?_⟩
               rw [if_pos rfl]
               have hcc := hA.const
               clear hA hp
               refine Reg.out_value (v := .bool false) ?_ ⟨rfl, hrefl _, hI⟩
               go_simp
             · refine Reg.StepAt.plain (i := 34) rfl ?_
               intro L ev w hI hk hp hA
               have e141 : ev (.tmp 141) = .bool false := hA.val 23 _ 141 rfl (hp ⟨23, .data⟩ (by simp) rfl) rfl
               have e151 : ev (.tmp 151) = .bool false := hA.val 33 _ 151 rfl (hp ⟨33, .data⟩ (by simp) rfl) rfl
               have hcc := hA.const
               clear hA hp
               refine Reg.out_value (v := .bool false) ?_ ⟨rfl, hrefl _, hI⟩
               go_simp
             intro L act wz hall hI hF
             have g118 : act.eval (.tmp 118) = .pointer (some ⟨b, 0, none⟩) := hF.val 0 _ 118 rfl (hall 0 (by simp)) rfl
             have g119 : act.eval (.tmp 119) = .int .i64 (nm : Int) := hF.val 1 _ 119 rfl (hall 1 (by simp)) rfl
             have g120 : act.eval (.tmp 120) = .slice (some ⟨gy, oy, none⟩) nm cy := hF.val 2 _ 120 rfl (hall 2 (by simp)) rfl
             have g121 : act.eval (.tmp 121) = .int .i64 (nm : Int) := hF.val 3 _ 121 rfl (hall 3 (by simp)) rfl
             have g122 : act.eval (.tmp 122) = .bool false := hF.val 4 _ 122 rfl (hall 4 (by simp)) rfl
             have g123 : act.eval (.tmp 123) = .bool false := hF.val 5 _ 123 rfl (hall 5 (by simp)) rfl
             have g124 : act.eval (.tmp 124) = .bool true := hF.val 6 _ 124 rfl (hall 6 (by simp)) rfl
             have g125 : act.eval (.tmp 125) = .slice (some ⟨gy, oy, none⟩) nm cy := hF.val 7 _ 125 rfl (hall 7 (by simp)) rfl
             have g126 : act.eval (.tmp 126) = .int .i64 (nm : Int) := hF.val 8 _ 126 rfl (hall 8 (by simp)) rfl
             have g127 : act.eval (.tmp 127) = .bool true := hF.val 9 _ 127 rfl (hall 9 (by simp)) rfl
             have g128 : act.eval (.tmp 128) = .bool false := hF.val 10 _ 128 rfl (hall 10 (by simp)) rfl
             have g129 : act.eval (.tmp 129) = .bool false := hF.val 11 _ 129 rfl (hall 11 (by simp)) rfl
             have g130 : act.eval (.tmp 130) = .bool false := hF.val 12 _ 130 rfl (hall 12 (by simp)) rfl
             have g131 : act.eval (.tmp 131) = .bool true := hF.val 13 _ 131 rfl (hall 13 (by simp)) rfl
             have g132 : act.eval (.tmp 132) = .bool true := hF.val 14 _ 132 rfl (hall 14 (by simp)) rfl
             have g133 : act.eval (.tmp 133) = .agg #[.float .f64 y.b, .int .i64 y.v] := hF.val 15 _ 133 rfl (hall 15 (by simp)) rfl
             have g134 : act.eval (.tmp 134) = .slice (some ⟨gy, oy, none⟩) nm cy := hF.val 16 _ 134 rfl (hall 16 (by simp)) rfl
             have g135 : act.eval (.tmp 135) = .pointer (some ⟨gy, oy, none⟩) := hF.val 17 _ 135 rfl (hall 17 (by simp)) rfl
             have g136 : act.eval (.tmp 136) = .agg #[.int .u64 yq, .int .i64 y.v] := hF.val 18 _ 136 rfl (hall 18 (by simp)) rfl
             have g137 : act.eval (.tmp 137) = .int .i64 0 := hF.val 19 _ 137 rfl (hall 19 (by simp)) rfl
             have g138 : act.eval (.tmp 138) = .bool false := hF.val 20 _ 138 rfl (hall 20 (by simp)) rfl
             have g139 : act.eval (.tmp 139) = .bool false := hF.val 21 _ 139 rfl (hall 21 (by simp)) rfl
             have g140 : act.eval (.tmp 140) = .bool false := hF.val 22 _ 140 rfl (hall 22 (by simp)) rfl
             have g141 : act.eval (.tmp 141) = .bool false := hF.val 23 _ 141 rfl (hall 23 (by simp)) rfl
             have g142 : act.eval (.tmp 142) = .int .i64 (j : Int) := hF.val 24 _ 142 rfl (hall 24 (by simp)) rfl
             have g143 : act.eval (.tmp 143) = .int .i64 jm := hF.val 25 _ 143 rfl (hall 25 (by simp)) rfl
             have g144 : act.eval (.tmp 144) = .bool true := hF.val 26 _ 144 rfl (hall 26 (by simp)) rfl
             have g145 : act.eval (.tmp 145) = .bool true := hF.val 27 _ 145 rfl (hall 27 (by simp)) rfl
             have g146 : act.eval (.tmp 146) = .pointer (some ⟨b, 0, none⟩) := hF.val 28 _ 146 rfl (hall 28 (by simp)) rfl
             have g147 : (fun v w => ∃ g9, v = .slice (some ⟨g9, 0, none⟩) nm nm ∧ Row w g9 nm ((y :: M) : List KI).toArray) (act.eval (.tmp 147)) wz := hF.val 29 _ 147 rfl (hall 29 (by simp)) rfl
             have g148 : act.eval (.tmp 148) = .slice (some ⟨gy, oy, none⟩) nm cy := hF.val 30 _ 148 rfl (hall 30 (by simp)) rfl
             have g149 : act.eval (.tmp 149) = .int .i64 0 := hF.val 31 _ 149 rfl (hall 31 (by simp)) rfl
             have g150 : act.eval (.tmp 150) = .bool false := hF.val 32 _ 150 rfl (hall 32 (by simp)) rfl
             have g151 : act.eval (.tmp 151) = .bool false := hF.val 33 _ 151 rfl (hall 33 (by simp)) rfl
             have g152 : act.eval (.tmp 152) = .bool false := hF.val 34 _ 152 rfl (hall 34 (by simp)) rfl
             have hact := hF.act [118, 119, 120, 121, 122, 123, 124, 125, 126, 127, 128, 129, 130, 131, 132, 133, 134, 135, 136, 137, 138, 139, 140, 141, 142, 143, 144, 145, 146, 147, 148, 149, 150, 151, 152] (by kernel_rfl)
             clear hF hall
             simp only [List.foldl_cons, List.foldl_nil] at hact
             rw [g118, g119, g120, g121, g122, g123, g124, g125, g126, g127, g128, g129, g130, g131, g132, g133, g134, g135, g136, g137, g138, g139, g140, g141, g142, g143, g144, g145, g146, g148, g149, g150, g151, g152] at hact
             clear g118 g119 g120 g121 g122 g123 g124 g125 g126 g127 g128 g129 g130 g131 g132 g133 g134 g135 g136 g137 g138 g139 g140 g141 g142 g143 g144 g145 g146 g148 g149 g150 g151 g152
             generalize act.eval (.tmp 147) = u147 at hact g147
             simp only [List.setIfInBounds_toArray, List.set_cons_succ, List.set_cons_zero] at hact
             subst hact
             have HN := hidq (show P2 w wz b gq dq gy oy (y :: M) from by
               obtain ⟨t1, t2, t3, t4, t5, t6, t7, t8, t9, t10, t11⟩ := HQ.out
               have hz : Below wq.heap.size wq wz := HB9.out.trans ((show Below w9.heap.size w9 wz from hI).mono HB9.out.size)
               have hbz : But (fun _ => False) wq wz := But.of_below hz
               exact ⟨t1.but hbz id id, t2, t3, t4, t5, t6.below hz, Nat.lt_of_lt_of_le t7 hz.size, t8, t9, t10, t11.trans (hz.mono t11.size)⟩)
             clear hI HQ HB9 HK FC2 HCn HAl HRd
             go_wp2_with fail
             exact ⟨⟨j + 1, gy, oy, cy, gq, dq, (y :: M), by rw [HNM.out], by push_cast; rfl, by omega, by omega, by rw [HNM.out]; omega, by rw [HNM.out]; omega, HN⟩, by simp [intOf]; omega⟩
      · have hnx : ∀ (Q : Prop), (¬ ((j : Int) < 60) → (j : Int) < (n2 : Int) → Q) → (¬ ((j : Int) < (n2 : Int)) → Q) → Q := fun Q h1 h2 => by
          rcases Nat.lt_or_ge j n2 with e | e
          · exact h1 (by omega) (by omega)
          · exact h2 (by omega)
        obtain ⟨nl, hnl⟩ : ∃ nl, L.length = nl := ⟨_, rfl⟩
        have hdn : d.size = nl := by have := HP.out.2.2.2.1.length_eq; rw [Array.length_toList, hnl] at this; exact this
        have hAl := hidq (all_any b g d wr HP.out.1)
        rw [hdn, order_eq (srt d.toList) L ((srt_perm _).trans HP.out.2.2.2.1) (srt_order _) HP.out.2.2.2.2.1] at hAl
        have HX := hidq (And.intro HP.out.2.2.2.2.2.1 (And.intro HP.out.2.2.2.2.2.2.2.2.2.2 hnl))
        rw [hnl]
        clear HP hlt hnl hdn hL1 hL2
        apply hnx
        · intro q0 q1
          clear hnx
          go_wp2_with fail
          refine hAl.out.mono ?_
          rintro e w3 ⟨g9, rfl, _, hr3, hb3⟩
          have hAr := hidq (areR_any g9 nl (some ⟨gx, ox, none⟩) cx nl L w3 hr3 (HX.out.1.below hb3) HX.out.2.2)
          have HL3 := hidq (HX.out.2.1.trans (hb3.mono HX.out.2.1.size))
          clear hr3 hb3 hAl HX
          go_wp2_with fail
          refine hAr.out.mono ?_
          rintro e w4 ⟨rfl, hb4⟩
          have HL4 := hidq (HL3.out.trans (hb4.mono HL3.out.size))
          clear hAr hb4 HL3
          go_wp2_with fail
          go_ret
          exact ⟨rfl, HL4.out⟩
        · intro q0
          clear hnx
          go_wp2_with fail
          refine hAl.out.mono ?_
          rintro e w3 ⟨g9, rfl, _, hr3, hb3⟩
          have hAr := hidq (areR_any g9 nl (some ⟨gx, ox, none⟩) cx nl L w3 hr3 (HX.out.1.below hb3) HX.out.2.2)
          have HL3 := hidq (HX.out.2.1.trans (hb3.mono HX.out.2.1.size))
          clear hr3 hb3 hAl HX
          go_wp2_with fail
          refine hAr.out.mono ?_
          rintro e w4 ⟨rfl, hb4⟩
          have HL4 := hidq (HL3.out.trans (hb4.mono HL3.out.size))
          clear hAr hb4 HL3
          go_wp2_with fail
          go_ret
          exact ⟨rfl, HL4.out⟩
end Go.Proofs.Ytepigofpcjmddaa
