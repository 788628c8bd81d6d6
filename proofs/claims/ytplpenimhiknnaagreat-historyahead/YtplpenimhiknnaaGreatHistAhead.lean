/-
  Layer 14's law of calls ahead of one another: the call returns true.
-/
import Derived.Test.YtplpenimhiknnaaGreatCalls14All
namespace Go.Proofs.YtplpenimhiknnaaGreat
open Go.RowKit Go.Sort

def ah10fR (g : Nat) (cp : Nat) (l0 : Cl) (l1 : Cl) : List (Value → World → Prop) :=
  [fun v _ => v = .slice (some ⟨g, 0, none⟩) 3 cp,
   fun v _ => v = .pointer (some ⟨g, 0, none⟩),
   fun v _ => v = .agg #[.int .i64 l0.thread, .int .i64 l0.kind, .float .f64 l0.pri, .int .i64 l0.val, .int .i64 l0.d0, .int .i64 l0.d1, .int .i64 l0.beg, .int .i64 l0.fin, .bool l0.ans.ok, .float .f64 l0.ans.pri, .int .i64 l0.ans.val, .int .i64 l0.ans.n],
   fun v _ => v = .slice (some ⟨g, 0, none⟩) 3 cp,
   fun v _ => v = .pointer (some ⟨g, 12, none⟩),
   fun v _ => v = .agg #[.int .i64 l1.thread, .int .i64 l1.kind, .float .f64 l1.pri, .int .i64 l1.val, .int .i64 l1.d0, .int .i64 l1.d1, .int .i64 l1.beg, .int .i64 l1.fin, .bool l1.ans.ok, .float .f64 l1.ans.pri, .int .i64 l1.ans.val, .int .i64 l1.ans.n],
   fun v _ => v = .bool false,
   fun v _ => v = .bool false,
   fun v _ => v = undef,
   fun v _ => v = undef,
   fun v _ => v = undef,
   fun v _ => v = undef,
   fun v _ => v = undef,
   fun v _ => v = undef,
   fun v _ => v = undef,
   fun v _ => v = .bool false,
   fun v _ => v = .bool false,
   fun v _ => v = undef,
   fun v _ => v = undef,
   fun v _ => v = undef,
   fun v _ => v = undef,
   fun v _ => v = undef,
   fun v _ => v = undef,
   fun v _ => v = undef,
   fun v _ => v = undef,
   fun v _ => v = .bool false]
theorem ah10fR_kept (g : Nat) (cp : Nat) (l0 : Cl) (l1 : Cl) : Reg.AllKept Reg.Keeps (ah10fR g cp l0 l1) :=
  ⟨(fun _ _ _ _ h => h), (fun _ _ _ _ h => h), (fun _ _ _ _ h => h), (fun _ _ _ _ h => h), (fun _ _ _ _ h => h), (fun _ _ _ _ h => h), (fun _ _ _ _ h => h), (fun _ _ _ _ h => h), (fun _ _ _ _ h => h), (fun _ _ _ _ h => h), (fun _ _ _ _ h => h), (fun _ _ _ _ h => h), (fun _ _ _ _ h => h), (fun _ _ _ _ h => h), (fun _ _ _ _ h => h), (fun _ _ _ _ h => h), (fun _ _ _ _ h => h), (fun _ _ _ _ h => h), (fun _ _ _ _ h => h), (fun _ _ _ _ h => h), (fun _ _ _ _ h => h), (fun _ _ _ _ h => h), (fun _ _ _ _ h => h), (fun _ _ _ _ h => h), (fun _ _ _ _ h => h), (fun _ _ _ _ h => h), trivial⟩

def ah10tfR (g : Nat) (cp : Nat) (l0 : Cl) (l1 : Cl) (l2 : Cl) : List (Value → World → Prop) :=
  [fun v _ => v = .slice (some ⟨g, 0, none⟩) 3 cp,
   fun v _ => v = .pointer (some ⟨g, 0, none⟩),
   fun v _ => v = .agg #[.int .i64 l0.thread, .int .i64 l0.kind, .float .f64 l0.pri, .int .i64 l0.val, .int .i64 l0.d0, .int .i64 l0.d1, .int .i64 l0.beg, .int .i64 l0.fin, .bool l0.ans.ok, .float .f64 l0.ans.pri, .int .i64 l0.ans.val, .int .i64 l0.ans.n],
   fun v _ => v = .slice (some ⟨g, 0, none⟩) 3 cp,
   fun v _ => v = .pointer (some ⟨g, 12, none⟩),
   fun v _ => v = .agg #[.int .i64 l1.thread, .int .i64 l1.kind, .float .f64 l1.pri, .int .i64 l1.val, .int .i64 l1.d0, .int .i64 l1.d1, .int .i64 l1.beg, .int .i64 l1.fin, .bool l1.ans.ok, .float .f64 l1.ans.pri, .int .i64 l1.ans.val, .int .i64 l1.ans.n],
   fun v _ => v = .bool true,
   fun v _ => v = .bool true,
   fun v _ => v = .slice (some ⟨g, 0, none⟩) 3 cp,
   fun v _ => v = .pointer (some ⟨g, 12, none⟩),
   fun v _ => v = .agg #[.int .i64 l1.thread, .int .i64 l1.kind, .float .f64 l1.pri, .int .i64 l1.val, .int .i64 l1.d0, .int .i64 l1.d1, .int .i64 l1.beg, .int .i64 l1.fin, .bool l1.ans.ok, .float .f64 l1.ans.pri, .int .i64 l1.ans.val, .int .i64 l1.ans.n],
   fun v _ => v = .slice (some ⟨g, 0, none⟩) 3 cp,
   fun v _ => v = .pointer (some ⟨g, 24, none⟩),
   fun v _ => v = .agg #[.int .i64 l2.thread, .int .i64 l2.kind, .float .f64 l2.pri, .int .i64 l2.val, .int .i64 l2.d0, .int .i64 l2.d1, .int .i64 l2.beg, .int .i64 l2.fin, .bool l2.ans.ok, .float .f64 l2.ans.pri, .int .i64 l2.ans.val, .int .i64 l2.ans.n],
   fun v _ => v = .bool false,
   fun v _ => v = .bool false,
   fun v _ => v = .bool false,
   fun v _ => v = undef,
   fun v _ => v = undef,
   fun v _ => v = undef,
   fun v _ => v = undef,
   fun v _ => v = undef,
   fun v _ => v = undef,
   fun v _ => v = undef,
   fun v _ => v = undef,
   fun v _ => v = .bool false]
theorem ah10tfR_kept (g : Nat) (cp : Nat) (l0 : Cl) (l1 : Cl) (l2 : Cl) : Reg.AllKept Reg.Keeps (ah10tfR g cp l0 l1 l2) :=
  ⟨(fun _ _ _ _ h => h), (fun _ _ _ _ h => h), (fun _ _ _ _ h => h), (fun _ _ _ _ h => h), (fun _ _ _ _ h => h), (fun _ _ _ _ h => h), (fun _ _ _ _ h => h), (fun _ _ _ _ h => h), (fun _ _ _ _ h => h), (fun _ _ _ _ h => h), (fun _ _ _ _ h => h), (fun _ _ _ _ h => h), (fun _ _ _ _ h => h), (fun _ _ _ _ h => h), (fun _ _ _ _ h => h), (fun _ _ _ _ h => h), (fun _ _ _ _ h => h), (fun _ _ _ _ h => h), (fun _ _ _ _ h => h), (fun _ _ _ _ h => h), (fun _ _ _ _ h => h), (fun _ _ _ _ h => h), (fun _ _ _ _ h => h), (fun _ _ _ _ h => h), (fun _ _ _ _ h => h), (fun _ _ _ _ h => h), trivial⟩

def ah10ttR (g : Nat) (cp : Nat) (l0 : Cl) (l1 : Cl) (l2 : Cl) : List (Value → World → Prop) :=
  [fun v _ => v = .slice (some ⟨g, 0, none⟩) 3 cp,
   fun v _ => v = .pointer (some ⟨g, 0, none⟩),
   fun v _ => v = .agg #[.int .i64 l0.thread, .int .i64 l0.kind, .float .f64 l0.pri, .int .i64 l0.val, .int .i64 l0.d0, .int .i64 l0.d1, .int .i64 l0.beg, .int .i64 l0.fin, .bool l0.ans.ok, .float .f64 l0.ans.pri, .int .i64 l0.ans.val, .int .i64 l0.ans.n],
   fun v _ => v = .slice (some ⟨g, 0, none⟩) 3 cp,
   fun v _ => v = .pointer (some ⟨g, 12, none⟩),
   fun v _ => v = .agg #[.int .i64 l1.thread, .int .i64 l1.kind, .float .f64 l1.pri, .int .i64 l1.val, .int .i64 l1.d0, .int .i64 l1.d1, .int .i64 l1.beg, .int .i64 l1.fin, .bool l1.ans.ok, .float .f64 l1.ans.pri, .int .i64 l1.ans.val, .int .i64 l1.ans.n],
   fun v _ => v = .bool true,
   fun v _ => v = .bool true,
   fun v _ => v = .slice (some ⟨g, 0, none⟩) 3 cp,
   fun v _ => v = .pointer (some ⟨g, 12, none⟩),
   fun v _ => v = .agg #[.int .i64 l1.thread, .int .i64 l1.kind, .float .f64 l1.pri, .int .i64 l1.val, .int .i64 l1.d0, .int .i64 l1.d1, .int .i64 l1.beg, .int .i64 l1.fin, .bool l1.ans.ok, .float .f64 l1.ans.pri, .int .i64 l1.ans.val, .int .i64 l1.ans.n],
   fun v _ => v = .slice (some ⟨g, 0, none⟩) 3 cp,
   fun v _ => v = .pointer (some ⟨g, 24, none⟩),
   fun v _ => v = .agg #[.int .i64 l2.thread, .int .i64 l2.kind, .float .f64 l2.pri, .int .i64 l2.val, .int .i64 l2.d0, .int .i64 l2.d1, .int .i64 l2.beg, .int .i64 l2.fin, .bool l2.ans.ok, .float .f64 l2.ans.pri, .int .i64 l2.ans.val, .int .i64 l2.ans.n],
   fun v _ => v = .bool true,
   fun v _ => v = .bool true,
   fun v _ => v = .bool true,
   fun v _ => v = .slice (some ⟨g, 0, none⟩) 3 cp,
   fun v _ => v = .pointer (some ⟨g, 0, none⟩),
   fun v _ => v = .agg #[.int .i64 l0.thread, .int .i64 l0.kind, .float .f64 l0.pri, .int .i64 l0.val, .int .i64 l0.d0, .int .i64 l0.d1, .int .i64 l0.beg, .int .i64 l0.fin, .bool l0.ans.ok, .float .f64 l0.ans.pri, .int .i64 l0.ans.val, .int .i64 l0.ans.n],
   fun v _ => v = .slice (some ⟨g, 0, none⟩) 3 cp,
   fun v _ => v = .pointer (some ⟨g, 24, none⟩),
   fun v _ => v = .agg #[.int .i64 l2.thread, .int .i64 l2.kind, .float .f64 l2.pri, .int .i64 l2.val, .int .i64 l2.d0, .int .i64 l2.d1, .int .i64 l2.beg, .int .i64 l2.fin, .bool l2.ans.ok, .float .f64 l2.ans.pri, .int .i64 l2.ans.val, .int .i64 l2.ans.n],
   fun v _ => v = .bool true,
   fun v _ => v = .bool false,
   fun v _ => v = .bool false]
theorem ah10ttR_kept (g : Nat) (cp : Nat) (l0 : Cl) (l1 : Cl) (l2 : Cl) : Reg.AllKept Reg.Keeps (ah10ttR g cp l0 l1 l2) :=
  ⟨(fun _ _ _ _ h => h), (fun _ _ _ _ h => h), (fun _ _ _ _ h => h), (fun _ _ _ _ h => h), (fun _ _ _ _ h => h), (fun _ _ _ _ h => h), (fun _ _ _ _ h => h), (fun _ _ _ _ h => h), (fun _ _ _ _ h => h), (fun _ _ _ _ h => h), (fun _ _ _ _ h => h), (fun _ _ _ _ h => h), (fun _ _ _ _ h => h), (fun _ _ _ _ h => h), (fun _ _ _ _ h => h), (fun _ _ _ _ h => h), (fun _ _ _ _ h => h), (fun _ _ _ _ h => h), (fun _ _ _ _ h => h), (fun _ _ _ _ h => h), (fun _ _ _ _ h => h), (fun _ _ _ _ h => h), (fun _ _ _ _ h => h), (fun _ _ _ _ h => h), (fun _ _ _ _ h => h), (fun _ _ _ _ h => h), trivial⟩

def ah12fR (g : Nat) (cp : Nat) (l0 : Cl) (l1 : Cl) : List (Value → World → Prop) :=
  [fun v _ => v = .slice (some ⟨g, 0, none⟩) 3 cp,
   fun v _ => v = .pointer (some ⟨g, 0, none⟩),
   fun v _ => v = .agg #[.int .i64 l0.thread, .int .i64 l0.kind, .float .f64 l0.pri, .int .i64 l0.val, .int .i64 l0.d0, .int .i64 l0.d1, .int .i64 l0.beg, .int .i64 l0.fin, .bool l0.ans.ok, .float .f64 l0.ans.pri, .int .i64 l0.ans.val, .int .i64 l0.ans.n],
   fun v _ => v = .slice (some ⟨g, 0, none⟩) 3 cp,
   fun v _ => v = .pointer (some ⟨g, 12, none⟩),
   fun v _ => v = .agg #[.int .i64 l1.thread, .int .i64 l1.kind, .float .f64 l1.pri, .int .i64 l1.val, .int .i64 l1.d0, .int .i64 l1.d1, .int .i64 l1.beg, .int .i64 l1.fin, .bool l1.ans.ok, .float .f64 l1.ans.pri, .int .i64 l1.ans.val, .int .i64 l1.ans.n],
   fun v _ => v = .bool false,
   fun v _ => v = .bool false,
   fun v _ => v = undef,
   fun v _ => v = undef,
   fun v _ => v = undef,
   fun v _ => v = undef,
   fun v _ => v = undef,
   fun v _ => v = undef,
   fun v _ => v = undef,
   fun v _ => v = .bool false,
   fun v _ => v = .bool true,
   fun v _ => v = .bool true,
   fun v _ => v = .slice (some ⟨g, 0, none⟩) 3 cp,
   fun v _ => v = .pointer (some ⟨g, 0, none⟩),
   fun v _ => v = .agg #[.int .i64 l0.thread, .int .i64 l0.kind, .float .f64 l0.pri, .int .i64 l0.val, .int .i64 l0.d0, .int .i64 l0.d1, .int .i64 l0.beg, .int .i64 l0.fin, .bool l0.ans.ok, .float .f64 l0.ans.pri, .int .i64 l0.ans.val, .int .i64 l0.ans.n],
   fun v _ => v = .slice (some ⟨g, 0, none⟩) 3 cp,
   fun v _ => v = .pointer (some ⟨g, 0, none⟩),
   fun v _ => v = .agg #[.int .i64 l0.thread, .int .i64 l0.kind, .float .f64 l0.pri, .int .i64 l0.val, .int .i64 l0.d0, .int .i64 l0.d1, .int .i64 l0.beg, .int .i64 l0.fin, .bool l0.ans.ok, .float .f64 l0.ans.pri, .int .i64 l0.ans.val, .int .i64 l0.ans.n],
   fun v _ => v = .bool false,
   fun v _ => v = .bool true,
   fun v _ => v = .bool true,
   fun v _ => v = .bool true]
theorem ah12fR_kept (g : Nat) (cp : Nat) (l0 : Cl) (l1 : Cl) : Reg.AllKept Reg.Keeps (ah12fR g cp l0 l1) :=
  ⟨(fun _ _ _ _ h => h), (fun _ _ _ _ h => h), (fun _ _ _ _ h => h), (fun _ _ _ _ h => h), (fun _ _ _ _ h => h), (fun _ _ _ _ h => h), (fun _ _ _ _ h => h), (fun _ _ _ _ h => h), (fun _ _ _ _ h => h), (fun _ _ _ _ h => h), (fun _ _ _ _ h => h), (fun _ _ _ _ h => h), (fun _ _ _ _ h => h), (fun _ _ _ _ h => h), (fun _ _ _ _ h => h), (fun _ _ _ _ h => h), (fun _ _ _ _ h => h), (fun _ _ _ _ h => h), (fun _ _ _ _ h => h), (fun _ _ _ _ h => h), (fun _ _ _ _ h => h), (fun _ _ _ _ h => h), (fun _ _ _ _ h => h), (fun _ _ _ _ h => h), (fun _ _ _ _ h => h), (fun _ _ _ _ h => h), (fun _ _ _ _ h => h), (fun _ _ _ _ h => h), trivial⟩

def ah12tR (g : Nat) (cp : Nat) (l0 : Cl) (l1 : Cl) : List (Value → World → Prop) :=
  [fun v _ => v = .slice (some ⟨g, 0, none⟩) 3 cp,
   fun v _ => v = .pointer (some ⟨g, 0, none⟩),
   fun v _ => v = .agg #[.int .i64 l0.thread, .int .i64 l0.kind, .float .f64 l0.pri, .int .i64 l0.val, .int .i64 l0.d0, .int .i64 l0.d1, .int .i64 l0.beg, .int .i64 l0.fin, .bool l0.ans.ok, .float .f64 l0.ans.pri, .int .i64 l0.ans.val, .int .i64 l0.ans.n],
   fun v _ => v = .slice (some ⟨g, 0, none⟩) 3 cp,
   fun v _ => v = .pointer (some ⟨g, 12, none⟩),
   fun v _ => v = .agg #[.int .i64 l1.thread, .int .i64 l1.kind, .float .f64 l1.pri, .int .i64 l1.val, .int .i64 l1.d0, .int .i64 l1.d1, .int .i64 l1.beg, .int .i64 l1.fin, .bool l1.ans.ok, .float .f64 l1.ans.pri, .int .i64 l1.ans.val, .int .i64 l1.ans.n],
   fun v _ => v = .bool true,
   fun v _ => v = .bool true,
   fun v _ => v = .slice (some ⟨g, 0, none⟩) 3 cp,
   fun v _ => v = .pointer (some ⟨g, 12, none⟩),
   fun v _ => v = .agg #[.int .i64 l1.thread, .int .i64 l1.kind, .float .f64 l1.pri, .int .i64 l1.val, .int .i64 l1.d0, .int .i64 l1.d1, .int .i64 l1.beg, .int .i64 l1.fin, .bool l1.ans.ok, .float .f64 l1.ans.pri, .int .i64 l1.ans.val, .int .i64 l1.ans.n],
   fun v _ => v = .slice (some ⟨g, 0, none⟩) 3 cp,
   fun v _ => v = .pointer (some ⟨g, 0, none⟩),
   fun v _ => v = .agg #[.int .i64 l0.thread, .int .i64 l0.kind, .float .f64 l0.pri, .int .i64 l0.val, .int .i64 l0.d0, .int .i64 l0.d1, .int .i64 l0.beg, .int .i64 l0.fin, .bool l0.ans.ok, .float .f64 l0.ans.pri, .int .i64 l0.ans.val, .int .i64 l0.ans.n],
   fun v _ => v = .bool false,
   fun v _ => v = .bool false,
   fun v _ => v = .bool true,
   fun v _ => v = .bool true,
   fun v _ => v = .slice (some ⟨g, 0, none⟩) 3 cp,
   fun v _ => v = .pointer (some ⟨g, 0, none⟩),
   fun v _ => v = .agg #[.int .i64 l0.thread, .int .i64 l0.kind, .float .f64 l0.pri, .int .i64 l0.val, .int .i64 l0.d0, .int .i64 l0.d1, .int .i64 l0.beg, .int .i64 l0.fin, .bool l0.ans.ok, .float .f64 l0.ans.pri, .int .i64 l0.ans.val, .int .i64 l0.ans.n],
   fun v _ => v = .slice (some ⟨g, 0, none⟩) 3 cp,
   fun v _ => v = .pointer (some ⟨g, 0, none⟩),
   fun v _ => v = .agg #[.int .i64 l0.thread, .int .i64 l0.kind, .float .f64 l0.pri, .int .i64 l0.val, .int .i64 l0.d0, .int .i64 l0.d1, .int .i64 l0.beg, .int .i64 l0.fin, .bool l0.ans.ok, .float .f64 l0.ans.pri, .int .i64 l0.ans.val, .int .i64 l0.ans.n],
   fun v _ => v = .bool false,
   fun v _ => v = .bool true,
   fun v _ => v = .bool true,
   fun v _ => v = .bool true]
theorem ah12tR_kept (g : Nat) (cp : Nat) (l0 : Cl) (l1 : Cl) : Reg.AllKept Reg.Keeps (ah12tR g cp l0 l1) :=
  ⟨(fun _ _ _ _ h => h), (fun _ _ _ _ h => h), (fun _ _ _ _ h => h), (fun _ _ _ _ h => h), (fun _ _ _ _ h => h), (fun _ _ _ _ h => h), (fun _ _ _ _ h => h), (fun _ _ _ _ h => h), (fun _ _ _ _ h => h), (fun _ _ _ _ h => h), (fun _ _ _ _ h => h), (fun _ _ _ _ h => h), (fun _ _ _ _ h => h), (fun _ _ _ _ h => h), (fun _ _ _ _ h => h), (fun _ _ _ _ h => h), (fun _ _ _ _ h => h), (fun _ _ _ _ h => h), (fun _ _ _ _ h => h), (fun _ _ _ _ h => h), (fun _ _ _ _ h => h), (fun _ _ _ _ h => h), (fun _ _ _ _ h => h), (fun _ _ _ _ h => h), (fun _ _ _ _ h => h), (fun _ _ _ _ h => h), (fun _ _ _ _ h => h), (fun _ _ _ _ h => h), trivial⟩

/-- May a call have been written down by itself? -/
def clOk (c : Cl) : Prop := ¬ c.beg < 0 ∧ ¬ c.fin < -1 ∧ ¬ (0 ≤ c.fin ∧ c.fin < c.beg)
theorem ahead_through {a b c : Cl} (hb : clOk b) (h1 : a.ahead b = true) (h2 : b.ahead c = true) : a.ahead c = true := by
  have h1' := of_decide_eq_true h1
  have h2' := of_decide_eq_true h2
  obtain ⟨_, _, h3⟩ := hb
  exact decide_eq_true (by omega)
theorem ahead_one {a b : Cl} (ha : clOk a) (hb : clOk b) (h1 : a.ahead b = true) : b.ahead a = false := by
  have h1' := of_decide_eq_true h1
  obtain ⟨_, _, h3⟩ := ha
  obtain ⟨_, _, h4⟩ := hb
  exact decide_eq_false (by omega)
theorem ahead_self {a : Cl} (ha : clOk a) : a.ahead a = false := by
  obtain ⟨_, _, h3⟩ := ha
  exact decide_eq_false h3
def raw3 (x0 x1 x2 y0 y1 y2 z0 z1 z2 : Int) : Nat → Int × Int × Int := fun i => if i = 0 then (x0, x1, x2) else if i = 1 then (y0, y1, y2) else (z0, z1, z2)

set_option maxRecDepth 20000 in
set_option maxHeartbeats 16000000 in
theorem historyAhead_any (x0 x1 x2 y0 y1 y2 z0 z1 z2 : Int) (w : World) : Calls Tryz.prog 10 #[.agg #[.int .i64 x0, .int .i64 x1, .int .i64 x2], .agg #[.int .i64 y0, .int .i64 y1, .int .i64 y2], .agg #[.int .i64 z0, .int .i64 z1, .int .i64 z2]] w fun e w' => e = .returned (.bool true) ∧ Below w.heap.size w w' := by
  have hsf := run_store_flt (P := Tryz.prog)
  obtain ⟨xb, hxb⟩ : ∃ xb, w.heap.size = xb := ⟨_, rfl⟩
  obtain ⟨W0, hW0⟩ : ∃ W0, ((w.alloc (.cells #[.int .i64 x0, .int .i64 x1, .int .i64 x2] 126)).alloc (.cells #[.int .i64 y0, .int .i64 y1, .int .i64 y2] 126)).alloc (.cells #[.int .i64 z0, .int .i64 z1, .int .i64 z2] 126) = W0 := ⟨_, rfl⟩
  have hX := BoxAt.new w [.int .i64 x0, .int .i64 x1, .int .i64 x2] 126
  have hY := BoxAt.new (w.alloc (.cells #[.int .i64 x0, .int .i64 x1, .int .i64 x2] 126)) [.int .i64 y0, .int .i64 y1, .int .i64 y2] 126
  have hZ := BoxAt.new ((w.alloc (.cells #[.int .i64 x0, .int .i64 x1, .int .i64 x2] 126)).alloc (.cells #[.int .i64 y0, .int .i64 y1, .int .i64 y2] 126)) [.int .i64 z0, .int .i64 z1, .int .i64 z2] 126
  rw [show ((w.alloc (.cells #[.int .i64 x0, .int .i64 x1, .int .i64 x2] 126)).alloc (.cells #[.int .i64 y0, .int .i64 y1, .int .i64 y2] 126)).alloc (.cells [.int .i64 z0, .int .i64 z1, .int .i64 z2].toArray 126) = W0 from hW0] at hZ
  have hb1 : ∀ (o : Obj) (v : World), Below v.heap.size v (v.alloc o) := fun o v => (Below.refl _ _).alloc (Nat.le_refl _) o
  have hY0 : BoxAt W0 (xb + 1) [.int .i64 y0, .int .i64 y1, .int .i64 y2] := by
    have := hY.below (hb1 (.cells #[.int .i64 z0, .int .i64 z1, .int .i64 z2] 126) _)
    rw [show ((w.alloc (.cells #[.int .i64 x0, .int .i64 x1, .int .i64 x2] 126)).alloc (.cells [.int .i64 y0, .int .i64 y1, .int .i64 y2].toArray 126)).alloc (.cells #[.int .i64 z0, .int .i64 z1, .int .i64 z2] 126) = W0 from hW0, World.size_alloc, hxb] at this
    exact this
  have hX0 : BoxAt W0 xb [.int .i64 x0, .int .i64 x1, .int .i64 x2] := by
    have := (hX.below (hb1 (.cells #[.int .i64 y0, .int .i64 y1, .int .i64 y2] 126) _)).below (hb1 (.cells #[.int .i64 z0, .int .i64 z1, .int .i64 z2] 126) _)
    rw [show ((w.alloc (.cells [.int .i64 x0, .int .i64 x1, .int .i64 x2].toArray 126)).alloc (.cells #[.int .i64 y0, .int .i64 y1, .int .i64 y2] 126)).alloc (.cells #[.int .i64 z0, .int .i64 z1, .int .i64 z2] 126) = W0 from hW0, hxb] at this
    exact this
  have hZ0 : BoxAt W0 (xb + 1 + 1) [.int .i64 z0, .int .i64 z1, .int .i64 z2] := by
    simp only [World.size_alloc, hxb] at hZ; exact hZ
  have hbw : Below w.heap.size w W0 := by
    rw [← hW0]
    exact (((Below.refl _ _).alloc (Nat.le_refl _) _).alloc (by simp) _).alloc (by simp; omega) _
  have hA := hidq (awake14_any W0)
  have HX := hidq (And.intro hX0 (And.intro hY0 (And.intro hZ0 hbw)))
  clear hX hY hZ hX0 hY0 hZ0 hbw hb1
  go_enter Tryz.func10, Tryz.ntmps10
  go_wp2_with fail
  refine hA.out.mono ?_
  rintro e w1 ⟨rfl, hb01⟩
  clear hxb
  obtain ⟨hX0, hY0, hZ0, hbw⟩ := HX.out
  have hX1 := hX0.below hb01
  have hY1 := hY0.below hb01
  have hZ1 := hZ0.below hb01
  have p0 := (hX1.get 0 _ rfl).1
  have p1 := (hX1.get 1 _ rfl).1
  have p2 := (hX1.get 2 _ rfl).1
  have p3 := (hY1.get 0 _ rfl).1
  have p4 := (hY1.get 1 _ rfl).1
  have p5 := (hY1.get 2 _ rfl).1
  have p6 := (hZ1.get 0 _ rfl).1
  have p7 := (hZ1.get 1 _ rfl).1
  have p8 := (hZ1.get 2 _ rfl).1
  have hxl := hX1.lt
  have hyl := hY1.lt
  have hzl := hZ1.lt
  have H1 := hidq (hbw.trans (hb01.mono hbw.size))
  obtain ⟨qb, hqb⟩ : ∃ qb, w1.heap.size = qb := ⟨_, rfl⟩
  obtain ⟨W2, hW2⟩ : ∃ W2, w1.alloc (.cells #[.int .i64 x0, .int .i64 x1, .int .i64 x2, .int .i64 y0, .int .i64 y1, .int .i64 y2, .int .i64 z0, .int .i64 z1, .int .i64 z2] 126) = W2 := ⟨_, rfl⟩
  have hQ2 := BoxAt.new w1 [.int .i64 x0, .int .i64 x1, .int .i64 x2, .int .i64 y0, .int .i64 y1, .int .i64 y2, .int .i64 z0, .int .i64 z1, .int .i64 z2] 126
  rw [show w1.alloc (.cells [.int .i64 x0, .int .i64 x1, .int .i64 x2, .int .i64 y0, .int .i64 y1, .int .i64 y2, .int .i64 z0, .int .i64 z1, .int .i64 z2].toArray 126) = W2 from hW2, hqb] at hQ2
  have hb12 : Below w1.heap.size w1 W2 := by rw [← hW2]; exact (Below.refl _ _).alloc (Nat.le_refl _) _
  have hraw : RawIn W2 (some ⟨qb, 0, none⟩) 3 (raw3 x0 x1 x2 y0 y1 y2 z0 z1 z2) := fun i hi => by
    have : i = 0 ∨ i = 1 ∨ i = 2 := by omega
    rcases this with rfl | rfl | rfl
    · exact ⟨qb, 0, rfl, hQ2.lt, (hQ2.get 0 _ rfl).1, (hQ2.get 1 _ rfl).1, (hQ2.get 2 _ rfl).1⟩
    · exact ⟨qb, 0, rfl, hQ2.lt, (hQ2.get 3 _ rfl).1, (hQ2.get 4 _ rfl).1, (hQ2.get 5 _ rfl).1⟩
    · exact ⟨qb, 0, rfl, hQ2.lt, (hQ2.get 6 _ rfl).1, (hQ2.get 7 _ rfl).1, (hQ2.get 8 _ rfl).1⟩
  have hMC := hidq (mcalls_any (some ⟨qb, 0, none⟩) 3 3 3 (raw3 x0 x1 x2 y0 y1 y2 z0 z1 z2) W2 hraw rfl)
  have H2 := hidq (H1.out.trans (hb12.mono H1.out.size))
  clear hX0 hY0 hZ0 hbw hX1 hY1 hZ1 hb01 hQ2 hb12 hraw H1 hA HX
  go_wp2_with fail
  refine hMC.out.mono ?_
  clear hMC
  obtain ⟨l0, hl0⟩ : ∃ l0, mkCl (raw3 x0 x1 x2 y0 y1 y2 z0 z1 z2 0) = l0 := ⟨_, rfl⟩
  obtain ⟨l1, hl1⟩ : ∃ l1, mkCl (raw3 x0 x1 x2 y0 y1 y2 z0 z1 z2 1) = l1 := ⟨_, rfl⟩
  obtain ⟨l2, hl2⟩ : ∃ l2, mkCl (raw3 x0 x1 x2 y0 y1 y2 z0 z1 z2 2) = l2 := ⟨_, rfl⟩
  have hLL : mkCls (raw3 x0 x1 x2 y0 y1 y2 z0 z1 z2) 3 = [l0, l1, l2] := by
    show [mkCl (raw3 x0 x1 x2 y0 y1 y2 z0 z1 z2 0), mkCl (raw3 x0 x1 x2 y0 y1 y2 z0 z1 z2 1), mkCl (raw3 x0 x1 x2 y0 y1 y2 z0 z1 z2 2)] = _
    rw [hl0, hl1, hl2]
  rw [hLL]
  clear hLL hl0 hl1 hl2
  rintro e w3 ⟨a3, cp, rfl, hS, hin, hb3⟩
  have hS' : SlAt 12 w3 a3 cp 3 (flatCl [l0, l1, l2]) := hS
  obtain ⟨g, rfl, hgl, _⟩ := hS'.cell (t := 0) (u := .int .i64 l0.thread) rfl
  have hcell : ∀ t u, (flatCl [l0, l1, l2])[t]? = some u → w3.cell? ⟨g, t, none⟩ = some u := fun t u hu => by
    obtain ⟨g', e1, _, e3⟩ := hS'.cell hu
    cases e1
    exact e3
  have hcp : 3 ≤ cp := hS'.le
  have FC0 := hidq (fun W (hW : Below w3.heap.size w3 W) => (show _ from (And.intro (show W.cell? ⟨g, 0, none⟩ = some (.int .i64 l0.thread) from by rw [hW.cell (p := ⟨g, 0, none⟩) hgl]; exact hcell 0 _ rfl) (And.intro (show W.cell? ⟨g, 1, none⟩ = some (.int .i64 l0.kind) from by rw [hW.cell (p := ⟨g, 1, none⟩) hgl]; exact hcell 1 _ rfl) (And.intro (show W.cell? ⟨g, 2, none⟩ = some (.float .f64 l0.pri) from by rw [hW.cell (p := ⟨g, 2, none⟩) hgl]; exact hcell 2 _ rfl) (And.intro (show W.cell? ⟨g, 3, none⟩ = some (.int .i64 l0.val) from by rw [hW.cell (p := ⟨g, 3, none⟩) hgl]; exact hcell 3 _ rfl) (And.intro (show W.cell? ⟨g, 4, none⟩ = some (.int .i64 l0.d0) from by rw [hW.cell (p := ⟨g, 4, none⟩) hgl]; exact hcell 4 _ rfl) (And.intro (show W.cell? ⟨g, 5, none⟩ = some (.int .i64 l0.d1) from by rw [hW.cell (p := ⟨g, 5, none⟩) hgl]; exact hcell 5 _ rfl) (And.intro (show W.cell? ⟨g, 6, none⟩ = some (.int .i64 l0.beg) from by rw [hW.cell (p := ⟨g, 6, none⟩) hgl]; exact hcell 6 _ rfl) (And.intro (show W.cell? ⟨g, 7, none⟩ = some (.int .i64 l0.fin) from by rw [hW.cell (p := ⟨g, 7, none⟩) hgl]; exact hcell 7 _ rfl) (And.intro (show W.cell? ⟨g, 8, none⟩ = some (.bool l0.ans.ok) from by rw [hW.cell (p := ⟨g, 8, none⟩) hgl]; exact hcell 8 _ rfl) (And.intro (show W.cell? ⟨g, 9, none⟩ = some (.float .f64 l0.ans.pri) from by rw [hW.cell (p := ⟨g, 9, none⟩) hgl]; exact hcell 9 _ rfl) (And.intro (show W.cell? ⟨g, 10, none⟩ = some (.int .i64 l0.ans.val) from by rw [hW.cell (p := ⟨g, 10, none⟩) hgl]; exact hcell 10 _ rfl) (And.intro (show W.cell? ⟨g, 11, none⟩ = some (.int .i64 l0.ans.n) from by rw [hW.cell (p := ⟨g, 11, none⟩) hgl]; exact hcell 11 _ rfl) (And.intro (show W.cell? ⟨g, 12, none⟩ = some (.int .i64 l1.thread) from by rw [hW.cell (p := ⟨g, 12, none⟩) hgl]; exact hcell 12 _ rfl) (And.intro (show W.cell? ⟨g, 13, none⟩ = some (.int .i64 l1.kind) from by rw [hW.cell (p := ⟨g, 13, none⟩) hgl]; exact hcell 13 _ rfl) (And.intro (show W.cell? ⟨g, 14, none⟩ = some (.float .f64 l1.pri) from by rw [hW.cell (p := ⟨g, 14, none⟩) hgl]; exact hcell 14 _ rfl) (And.intro (show W.cell? ⟨g, 15, none⟩ = some (.int .i64 l1.val) from by rw [hW.cell (p := ⟨g, 15, none⟩) hgl]; exact hcell 15 _ rfl) (And.intro (show W.cell? ⟨g, 16, none⟩ = some (.int .i64 l1.d0) from by rw [hW.cell (p := ⟨g, 16, none⟩) hgl]; exact hcell 16 _ rfl) (And.intro (show W.cell? ⟨g, 17, none⟩ = some (.int .i64 l1.d1) from by rw [hW.cell (p := ⟨g, 17, none⟩) hgl]; exact hcell 17 _ rfl) (And.intro (show W.cell? ⟨g, 18, none⟩ = some (.int .i64 l1.beg) from by rw [hW.cell (p := ⟨g, 18, none⟩) hgl]; exact hcell 18 _ rfl) (And.intro (show W.cell? ⟨g, 19, none⟩ = some (.int .i64 l1.fin) from by rw [hW.cell (p := ⟨g, 19, none⟩) hgl]; exact hcell 19 _ rfl) (And.intro (show W.cell? ⟨g, 20, none⟩ = some (.bool l1.ans.ok) from by rw [hW.cell (p := ⟨g, 20, none⟩) hgl]; exact hcell 20 _ rfl) (And.intro (show W.cell? ⟨g, 21, none⟩ = some (.float .f64 l1.ans.pri) from by rw [hW.cell (p := ⟨g, 21, none⟩) hgl]; exact hcell 21 _ rfl) (And.intro (show W.cell? ⟨g, 22, none⟩ = some (.int .i64 l1.ans.val) from by rw [hW.cell (p := ⟨g, 22, none⟩) hgl]; exact hcell 22 _ rfl) (And.intro (show W.cell? ⟨g, 23, none⟩ = some (.int .i64 l1.ans.n) from by rw [hW.cell (p := ⟨g, 23, none⟩) hgl]; exact hcell 23 _ rfl) (And.intro (show W.cell? ⟨g, 24, none⟩ = some (.int .i64 l2.thread) from by rw [hW.cell (p := ⟨g, 24, none⟩) hgl]; exact hcell 24 _ rfl) (And.intro (show W.cell? ⟨g, 25, none⟩ = some (.int .i64 l2.kind) from by rw [hW.cell (p := ⟨g, 25, none⟩) hgl]; exact hcell 25 _ rfl) (And.intro (show W.cell? ⟨g, 26, none⟩ = some (.float .f64 l2.pri) from by rw [hW.cell (p := ⟨g, 26, none⟩) hgl]; exact hcell 26 _ rfl) (And.intro (show W.cell? ⟨g, 27, none⟩ = some (.int .i64 l2.val) from by rw [hW.cell (p := ⟨g, 27, none⟩) hgl]; exact hcell 27 _ rfl) (And.intro (show W.cell? ⟨g, 28, none⟩ = some (.int .i64 l2.d0) from by rw [hW.cell (p := ⟨g, 28, none⟩) hgl]; exact hcell 28 _ rfl) (And.intro (show W.cell? ⟨g, 29, none⟩ = some (.int .i64 l2.d1) from by rw [hW.cell (p := ⟨g, 29, none⟩) hgl]; exact hcell 29 _ rfl) (And.intro (show W.cell? ⟨g, 30, none⟩ = some (.int .i64 l2.beg) from by rw [hW.cell (p := ⟨g, 30, none⟩) hgl]; exact hcell 30 _ rfl) (And.intro (show W.cell? ⟨g, 31, none⟩ = some (.int .i64 l2.fin) from by rw [hW.cell (p := ⟨g, 31, none⟩) hgl]; exact hcell 31 _ rfl) (And.intro (show W.cell? ⟨g, 32, none⟩ = some (.bool l2.ans.ok) from by rw [hW.cell (p := ⟨g, 32, none⟩) hgl]; exact hcell 32 _ rfl) (And.intro (show W.cell? ⟨g, 33, none⟩ = some (.float .f64 l2.ans.pri) from by rw [hW.cell (p := ⟨g, 33, none⟩) hgl]; exact hcell 33 _ rfl) (And.intro (show W.cell? ⟨g, 34, none⟩ = some (.int .i64 l2.ans.val) from by rw [hW.cell (p := ⟨g, 34, none⟩) hgl]; exact hcell 34 _ rfl) (And.intro (show W.cell? ⟨g, 35, none⟩ = some (.int .i64 l2.ans.n) from by rw [hW.cell (p := ⟨g, 35, none⟩) hgl]; exact hcell 35 _ rfl) (Nat.lt_of_lt_of_le hgl hW.size)))))))))))))))))))))))))))))))))))))))
  have HCL := hidq (And.intro hcell hgl)
  have H3 := hidq (H2.out.trans (hb3.mono H2.out.size))
  clear hS hS' hin hb3 hcell H2
  go_wp2_with fail
  go_loopw [19] (fun s19 wr => ∃ k : Nat, s19 = .int .i64 (k : Int) ∧ k ≤ 3 ∧ Hid ((∀ j c, j < k → [l0, l1, l2][j]? = some c → clOk c) ∧ Below w3.heap.size w3 wr)) (fun s19 _ => 3 - (intOf s19).toNat)
  case atStart => exact ⟨0, rfl, by omega, (fun j c hj => absurd hj (Nat.not_lt_zero _)), Below.refl _ _⟩
  case round =>
    obtain ⟨k, rfl, hk, hR⟩ := hrel
    by_cases hlt : k < 3
    · have hltI : (k : Int) < 3 := by omega
      obtain ⟨c, hc⟩ : ∃ c, [l0, l1, l2][k]? = some c := ⟨_, List.getElem?_eq_getElem hlt⟩
      have hrr : ∀ j u, c.l[j]? = some u → wr.cell? ⟨g, k * 12 + j, none⟩ = some u := fun j u hu => by
        have hj : j < 12 := (List.getElem?_eq_some_iff.1 hu).1
        rw [hR.out.2.cell (p := ⟨g, k * 12 + j, none⟩) HCL.out.2]
        exact HCL.out.1 _ _ (by rw [flatCl_get [l0, l1, l2] k j c hc hj]; exact hu)
      have m0 : wr.cell? ⟨g, k * 12, none⟩ = some (.int .i64 c.thread) := hrr 0 _ rfl
      have m1 := hrr 1 _ rfl
      have m2 := hrr 2 _ rfl
      have m3 := hrr 3 _ rfl
      have m4 := hrr 4 _ rfl
      have m5 := hrr 5 _ rfl
      have m6 := hrr 6 _ rfl
      have m7 := hrr 7 _ rfl
      have m8 := hrr 8 _ rfl
      have m9 := hrr 9 _ rfl
      have m10 := hrr 10 _ rfl
      have m11 := hrr 11 _ rfl
      have hgr : g < wr.heap.size := Nat.lt_of_lt_of_le HCL.out.2 hR.out.2.size
      obtain ⟨yb, hyb⟩ : ∃ yb, wr.heap.size = yb := ⟨_, rfl⟩
      obtain ⟨W1, hW1⟩ : ∃ W1, wr.alloc (.cells #[.int .i64 c.thread, .int .i64 c.kind, .float .f64 c.pri, .int .i64 c.val, .int .i64 c.d0, .int .i64 c.d1, .int .i64 c.beg, .int .i64 c.fin, .bool c.ans.ok, .float .f64 c.ans.pri, .int .i64 c.ans.val, .int .i64 c.ans.n] 106) = W1 := ⟨_, rfl⟩
      have hC1 := BoxAt.new wr c.l 106
      rw [show wr.alloc (.cells c.l.toArray 106) = W1 from hW1, hyb] at hC1
      have hbr1 : Below wr.heap.size wr W1 := by rw [← hW1]; exact (Below.refl _ _).alloc (Nat.le_refl _) _
      have q6 := (hC1.get 6 _ rfl).1
      have q7 := (hC1.get 7 _ rfl).1
      have hyl2 := hC1.lt
      have HB1 := hidq (And.intro (hR.out.2.trans (hbr1.mono hR.out.2.size)) (show Below w.heap.size w W1 from (H3.out.trans (hR.out.2.mono H3.out.size)).trans (hbr1.mono (by have := H3.out.size; have := hR.out.2.size; omega))))
      have HNX := hidq (fun (h : clOk c) => (show (∀ j d, j < k + 1 → [l0, l1, l2][j]? = some d → clOk d) from fun j d hj hd => by
        by_cases e : j = k
        · subst e
          rw [hc] at hd
          cases hd
          exact h
        · exact hR.out.1 j d (by omega) hd))
      clear hc hrr hC1 hbr1 hR
      by_cases hA : c.beg < 0
      · go_wp2_with fail
        go_ret
        exact ⟨rfl, HB1.out.2⟩
      have dA : decide (c.beg < 0) = false := decide_eq_false hA
      by_cases hB : c.fin < -1
      · go_wp2_with fail
        go_ret
        exact ⟨rfl, HB1.out.2⟩
      have dB : decide (c.fin < -1) = false := decide_eq_false hB
      by_cases h0 : 0 ≤ c.fin
      · by_cases hD : c.fin < c.beg
        · go_wp2_with fail
          go_ret
          exact ⟨rfl, HB1.out.2⟩
        · have dD : decide (c.fin < c.beg) = false := decide_eq_false hD
          have HOK := hidq (HNX.out ⟨hA, hB, fun e => hD e.2⟩)
          clear hA hB hD
          go_wp2_with fail
          go_roundw
          case rel => exact ⟨k + 1, by go_num, by omega, HOK.out, HB1.out.1⟩
          case measure => simp [intOf]; omega
      · have d0 : decide (0 ≤ c.fin) = false := decide_eq_false h0
        have HOK := hidq (HNX.out ⟨hA, hB, fun e => h0 e.1⟩)
        clear hA hB h0
        go_wp2_with fail
        go_roundw
        case rel => exact ⟨k + 1, by go_num, by omega, HOK.out, HB1.out.1⟩
        case measure => simp [intOf]; omega
    have hk3 : k = 3 := by omega
    subst hk3
    have ho0 : clOk l0 := hR.out.1 0 l0 (by omega) rfl
    have ho1 : clOk l1 := hR.out.1 1 l1 (by omega) rfl
    have ho2 : clOk l2 := hR.out.1 2 l2 (by omega) rfl
    have FC := hidq (fun W (hW : Below wr.heap.size wr W) => FC0.out W (hR.out.2.trans (hW.mono hR.out.2.size)))
    have HLO := hidq (H3.out.trans (hR.out.2.mono H3.out.size))
    have hrefl : ∀ w : World, Reg.Keeps w w := Reg.Keeps.refl
    have H00 := hidq (fun w => cahead_any l0 l0 w)
    rw [ahead_self ho0] at H00
    have H01 := hidq (fun w => cahead_any l0 l1 w)
    have H10 := hidq (fun w => cahead_any l1 l0 w)
    have H12 := hidq (fun w => cahead_any l1 l2 w)
    have H02 := hidq (fun w => cahead_any l0 l2 w)
    have HT1 := hidq (fun (h1 : l0.ahead l1 = true) (h2 : l1.ahead l2 = true) => ahead_through ho1 h1 h2)
    have HT2 := hidq (fun (h1 : l0.ahead l1 = true) => ahead_one ho0 ho1 h1)
    clear hR ho0 ho1 ho2
    cases h01 : l0.ahead l1 with
    | false =>
      rw [h01] at H01
      clear h01
      go_wp2_with fail
      have hrefl : ∀ w : World, Reg.Keeps w w := Reg.Keeps.refl
      refine Reg.wp_region_props (Reg.ofList (ah10fR g cp l0 l1)) Reg.Keeps (fun _ w => Reg.Keeps wr w) (by kernel_rfl) (by kernel_rfl) (Reg.AllKept.at _ (ah10fR_kept g cp l0 l1)) hrefl (Reg.Keeps.drewN (Reg.Keeps.refl _) 1) ⟨?_, ?_, ?_, ?_, ?_, ?_, ?_, ?_, ?_, ?_, ?_, ?_, ?_, ?_, ?_, ?_, ?_, ?_, ?_, ?_, ?_, ?_, ?_, ?_, ?_, ?_, trivial⟩ ?_
      · refine Reg.StepAt.plain (i := 0) rfl ?_
        intro L ev w hI hk hp hA
        have e7 : ev (.tmp 7) = .slice (some ⟨g, 0, none⟩) 3 cp := hA.oldNone 7 (by kernel_rfl)
        have hcc := hA.const
        clear hA hp
        refine Reg.out_value (v := .slice (some ⟨g, 0, none⟩) 3 cp) ?_ ⟨rfl, hrefl _, hI⟩
        go_simp
      · refine Reg.StepAt.plain (i := 1) rfl ?_
        intro L ev w hI hk hp hA
        have e44 : ev (.tmp 44) = .slice (some ⟨g, 0, none⟩) 3 cp := hA.val 0 _ 44 rfl (hp ⟨0, .data⟩ (by simp) rfl) rfl
        have hcc := hA.const
        clear hA hp
        refine Reg.out_value (v := .pointer (some ⟨g, 0, none⟩)) ?_ ⟨rfl, hrefl _, hI⟩
        go_simp
      · refine Reg.StepAt.plain (i := 2) rfl ?_
        intro L ev w hI hk hp hA
        have e45 : ev (.tmp 45) = .pointer (some ⟨g, 0, none⟩) := hA.val 1 _ 45 rfl (hp ⟨1, .data⟩ (by simp) rfl) rfl
        have hcc := hA.const
        clear hA hp
        obtain ⟨m0, m1, m2, m3, m4, m5, m6, m7, m8, m9, m10, m11, m12, m13, m14, m15, m16, m17, m18, m19, m20, m21, m22, m23, m24, m25, m26, m27, m28, m29, m30, m31, m32, m33, m34, m35, ml⟩ := FC.out w hI
        refine Reg.out_value (v := .agg #[.int .i64 l0.thread, .int .i64 l0.kind, .float .f64 l0.pri, .int .i64 l0.val, .int .i64 l0.d0, .int .i64 l0.d1, .int .i64 l0.beg, .int .i64 l0.fin, .bool l0.ans.ok, .float .f64 l0.ans.pri, .int .i64 l0.ans.val, .int .i64 l0.ans.n]) ?_ ⟨rfl, hrefl _, hI⟩
        go_simp
      · refine Reg.StepAt.plain (i := 3) rfl ?_
        intro L ev w hI hk hp hA
        have e7 : ev (.tmp 7) = .slice (some ⟨g, 0, none⟩) 3 cp := hA.oldNone 7 (by kernel_rfl)
        have hcc := hA.const
        clear hA hp
        refine Reg.out_value (v := .slice (some ⟨g, 0, none⟩) 3 cp) ?_ ⟨rfl, hrefl _, hI⟩
        go_simp
      · refine Reg.StepAt.plain (i := 4) rfl ?_
        intro L ev w hI hk hp hA
        have e47 : ev (.tmp 47) = .slice (some ⟨g, 0, none⟩) 3 cp := hA.val 3 _ 47 rfl (hp ⟨3, .data⟩ (by simp) rfl) rfl
        have hcc := hA.const
        clear hA hp
        refine Reg.out_value (v := .pointer (some ⟨g, 12, none⟩)) ?_ ⟨rfl, hrefl _, hI⟩
        go_simp
      · refine Reg.StepAt.plain (i := 5) rfl ?_
        intro L ev w hI hk hp hA
        have e48 : ev (.tmp 48) = .pointer (some ⟨g, 12, none⟩) := hA.val 4 _ 48 rfl (hp ⟨4, .data⟩ (by simp) rfl) rfl
        have hcc := hA.const
        clear hA hp
        obtain ⟨m0, m1, m2, m3, m4, m5, m6, m7, m8, m9, m10, m11, m12, m13, m14, m15, m16, m17, m18, m19, m20, m21, m22, m23, m24, m25, m26, m27, m28, m29, m30, m31, m32, m33, m34, m35, ml⟩ := FC.out w hI
        refine Reg.out_value (v := .agg #[.int .i64 l1.thread, .int .i64 l1.kind, .float .f64 l1.pri, .int .i64 l1.val, .int .i64 l1.d0, .int .i64 l1.d1, .int .i64 l1.beg, .int .i64 l1.fin, .bool l1.ans.ok, .float .f64 l1.ans.pri, .int .i64 l1.ans.val, .int .i64 l1.ans.n]) ?_ ⟨rfl, hrefl _, hI⟩
        go_simp
      · refine Reg.StepAt.plain (i := 6) rfl ?_
        intro L ev w hI hk hp hA
        have e46 : ev (.tmp 46) = .agg #[.int .i64 l0.thread, .int .i64 l0.kind, .float .f64 l0.pri, .int .i64 l0.val, .int .i64 l0.d0, .int .i64 l0.d1, .int .i64 l0.beg, .int .i64 l0.fin, .bool l0.ans.ok, .float .f64 l0.ans.pri, .int .i64 l0.ans.val, .int .i64 l0.ans.n] := hA.val 2 _ 46 rfl (hp ⟨2, .data⟩ (by simp) rfl) rfl
        have e49 : ev (.tmp 49) = .agg #[.int .i64 l1.thread, .int .i64 l1.kind, .float .f64 l1.pri, .int .i64 l1.val, .int .i64 l1.d0, .int .i64 l1.d1, .int .i64 l1.beg, .int .i64 l1.fin, .bool l1.ans.ok, .float .f64 l1.ans.pri, .int .i64 l1.ans.val, .int .i64 l1.ans.n] := hA.val 5 _ 49 rfl (hp ⟨5, .data⟩ (by simp) rfl) rfl
        have hcc := hA.const
        have hcf := hA.func
        clear hA hp
        refine Reg.out_call (f := 56) (args := #[.agg #[.int .i64 l0.thread, .int .i64 l0.kind, .float .f64 l0.pri, .int .i64 l0.val, .int .i64 l0.d0, .int .i64 l0.d1, .int .i64 l0.beg, .int .i64 l0.fin, .bool l0.ans.ok, .float .f64 l0.ans.pri, .int .i64 l0.ans.val, .int .i64 l0.ans.n], .agg #[.int .i64 l1.thread, .int .i64 l1.kind, .float .f64 l1.pri, .int .i64 l1.val, .int .i64 l1.d0, .int .i64 l1.d1, .int .i64 l1.beg, .int .i64 l1.fin, .bool l1.ans.ok, .float .f64 l1.ans.pri, .int .i64 l1.ans.val, .int .i64 l1.ans.n]]) (w0 := w) ?_ ?_
        · go_simp
        refine (H01.out w).mono ?_
        rintro e w' ⟨rfl, hb'⟩
        exact ⟨_, rfl, rfl, hb', Reg.Keeps.trans hI hb'⟩
      · refine Reg.StepAt.plain (i := 7) rfl ?_
        intro L ev w hI hk hp hA
        have e50 : ev (.tmp 50) = .bool false := hA.val 6 _ 50 rfl (hp ⟨6, .data⟩ (by simp) rfl) rfl
        have hcc := hA.const
        clear hA hp
        refine Reg.out_value (v := .bool false) ?_ ⟨rfl, hrefl _, hI⟩
        go_simp
      · refine Reg.StepAt.guarded (i := 8) rfl ?_
        intro L ev w hI hk hp hA
        have e7 : ev (.tmp 7) = .slice (some ⟨g, 0, none⟩) 3 cp := hA.oldNone 7 (by kernel_rfl)
        have eg : ev (.tmp 51) = .bool false := hA.val 7 _ 51 rfl (hp ⟨7, .guard⟩ (by simp) rfl) rfl
        refine ⟨_, 51, false, rfl, rfl, eg, ?_⟩
        rw [if_neg (by decide)]
        have hcc := hA.const
        clear hA hp
        exact ⟨rfl, hI⟩
      · refine Reg.StepAt.guarded (i := 9) rfl ?_
        intro L ev w hI hk hp hA
        have e52 : (fun v _ => v = undef) (ev (.tmp 52)) w := hA.val 8 _ 52 rfl (hp ⟨8, .data⟩ (by simp) rfl) rfl
        have eg : ev (.tmp 51) = .bool false := hA.val 7 _ 51 rfl (hp ⟨7, .guard⟩ (by simp) rfl) rfl
        refine ⟨_, 51, false, rfl, rfl, eg, ?_⟩
        rw [if_neg (by decide)]
        have hcc := hA.const
        clear hA hp
        exact ⟨rfl, hI⟩
      · refine Reg.StepAt.guarded (i := 10) rfl ?_
        intro L ev w hI hk hp hA
        have e53 : (fun v _ => v = undef) (ev (.tmp 53)) w := hA.val 9 _ 53 rfl (hp ⟨9, .data⟩ (by simp) rfl) rfl
        have eg : ev (.tmp 51) = .bool false := hA.val 7 _ 51 rfl (hp ⟨7, .guard⟩ (by simp) rfl) rfl
        refine ⟨_, 51, false, rfl, rfl, eg, ?_⟩
        rw [if_neg (by decide)]
        have hcc := hA.const
        clear hA hp
        exact ⟨rfl, hI⟩
      · refine Reg.StepAt.guarded (i := 11) rfl ?_
        intro L ev w hI hk hp hA
        have e7 : ev (.tmp 7) = .slice (some ⟨g, 0, none⟩) 3 cp := hA.oldNone 7 (by kernel_rfl)
        have eg : ev (.tmp 51) = .bool false := hA.val 7 _ 51 rfl (hp ⟨7, .guard⟩ (by simp) rfl) rfl
        refine ⟨_, 51, false, rfl, rfl, eg, ?_⟩
        rw [if_neg (by decide)]
        have hcc := hA.const
        clear hA hp
        exact ⟨rfl, hI⟩
      · refine Reg.StepAt.guarded (i := 12) rfl ?_
        intro L ev w hI hk hp hA
        have e55 : (fun v _ => v = undef) (ev (.tmp 55)) w := hA.val 11 _ 55 rfl (hp ⟨11, .data⟩ (by simp) rfl) rfl
        have eg : ev (.tmp 51) = .bool false := hA.val 7 _ 51 rfl (hp ⟨7, .guard⟩ (by simp) rfl) rfl
        refine ⟨_, 51, false, rfl, rfl, eg, ?_⟩
        rw [if_neg (by decide)]
        have hcc := hA.const
        clear hA hp
        exact ⟨rfl, hI⟩
      · refine Reg.StepAt.guarded (i := 13) rfl ?_
        intro L ev w hI hk hp hA
        have e56 : (fun v _ => v = undef) (ev (.tmp 56)) w := hA.val 12 _ 56 rfl (hp ⟨12, .data⟩ (by simp) rfl) rfl
        have eg : ev (.tmp 51) = .bool false := hA.val 7 _ 51 rfl (hp ⟨7, .guard⟩ (by simp) rfl) rfl
        refine ⟨_, 51, false, rfl, rfl, eg, ?_⟩
        rw [if_neg (by decide)]
        have hcc := hA.const
        clear hA hp
        exact ⟨rfl, hI⟩
      · refine Reg.StepAt.guarded (i := 14) rfl ?_
        intro L ev w hI hk hp hA
        have e54 : (fun v _ => v = undef) (ev (.tmp 54)) w := hA.val 10 _ 54 rfl (hp ⟨10, .data⟩ (by simp) rfl) rfl
        have e57 : (fun v _ => v = undef) (ev (.tmp 57)) w := hA.val 13 _ 57 rfl (hp ⟨13, .data⟩ (by simp) rfl) rfl
        have eg : ev (.tmp 51) = .bool false := hA.val 7 _ 51 rfl (hp ⟨7, .chain⟩ (by simp) rfl) rfl
        refine ⟨_, 51, false, rfl, rfl, eg, ?_⟩
        rw [if_neg (by decide)]
        have hcc := hA.const
        have hcf := hA.func
        clear hA hp
        exact ⟨rfl, hI⟩
      · refine Reg.StepAt.plain (i := 15) rfl ?_
        intro L ev w hI hk hp hA
        have e51 : ev (.tmp 51) = .bool false := hA.val 7 _ 51 rfl (hp ⟨7, .data⟩ (by simp) rfl) rfl
        have e58 : (fun v _ => v = undef) (ev (.tmp 58)) w := hA.val 14 _ 58 rfl (hp ⟨14, .data⟩ (by simp) rfl) rfl
        have hcc := hA.const
        clear hA hp
        refine Reg.out_value (v := .bool false) ?_ ⟨rfl, hrefl _, hI⟩
        go_simp
      · refine Reg.StepAt.plain (i := 16) rfl ?_
        intro L ev w hI hk hp hA
        have e59 : ev (.tmp 59) = .bool false := hA.val 15 _ 59 rfl (hp ⟨15, .data⟩ (by simp) rfl) rfl
        have hcc := hA.const
        clear hA hp
        refine Reg.out_value (v := .bool false) ?_ ⟨rfl, hrefl _, hI⟩
        go_simp
      · refine Reg.StepAt.guarded (i := 17) rfl ?_
        intro L ev w hI hk hp hA
        have e7 : ev (.tmp 7) = .slice (some ⟨g, 0, none⟩) 3 cp := hA.oldNone 7 (by kernel_rfl)
        have eg : ev (.tmp 60) = .bool false := hA.val 16 _ 60 rfl (hp ⟨16, .guard⟩ (by simp) rfl) rfl
        refine ⟨_, 60, false, rfl, rfl, eg, ?_⟩
        rw [if_neg (by decide)]
        have hcc := hA.const
        clear hA hp
        exact ⟨rfl, hI⟩
      · refine Reg.StepAt.guarded (i := 18) rfl ?_
        intro L ev w hI hk hp hA
        have e61 : (fun v _ => v = undef) (ev (.tmp 61)) w := hA.val 17 _ 61 rfl (hp ⟨17, .data⟩ (by simp) rfl) rfl
        have eg : ev (.tmp 60) = .bool false := hA.val 16 _ 60 rfl (hp ⟨16, .guard⟩ (by simp) rfl) rfl
        refine ⟨_, 60, false, rfl, rfl, eg, ?_⟩
        rw [if_neg (by decide)]
        have hcc := hA.const
        clear hA hp
        exact ⟨rfl, hI⟩
      · refine Reg.StepAt.guarded (i := 19) rfl ?_
        intro L ev w hI hk hp hA
        have e62 : (fun v _ => v = undef) (ev (.tmp 62)) w := hA.val 18 _ 62 rfl (hp ⟨18, .data⟩ (by simp) rfl) rfl
        have eg : ev (.tmp 60) = .bool false := hA.val 16 _ 60 rfl (hp ⟨16, .guard⟩ (by simp) rfl) rfl
        refine ⟨_, 60, false, rfl, rfl, eg, ?_⟩
        rw [if_neg (by decide)]
        have hcc := hA.const
        clear hA hp
        exact ⟨rfl, hI⟩
      · refine Reg.StepAt.guarded (i := 20) rfl ?_
        intro L ev w hI hk hp hA
        have e7 : ev (.tmp 7) = .slice (some ⟨g, 0, none⟩) 3 cp := hA.oldNone 7 (by kernel_rfl)
        have eg : ev (.tmp 60) = .bool false := hA.val 16 _ 60 rfl (hp ⟨16, .guard⟩ (by simp) rfl) rfl
        refine ⟨_, 60, false, rfl, rfl, eg, ?_⟩
        rw [if_neg (by decide)]
        have hcc := hA.const
        clear hA hp
        exact ⟨rfl, hI⟩
      · refine Reg.StepAt.guarded (i := 21) rfl ?_
        intro L ev w hI hk hp hA
        have e64 : (fun v _ => v = undef) (ev (.tmp 64)) w := hA.val 20 _ 64 rfl (hp ⟨20, .data⟩ (by simp) rfl) rfl
        have eg : ev (.tmp 60) = .bool false := hA.val 16 _ 60 rfl (hp ⟨16, .guard⟩ (by simp) rfl) rfl
        refine ⟨_, 60, false, rfl, rfl, eg, ?_⟩
        rw [if_neg (by decide)]
        have hcc := hA.const
        clear hA hp
        exact ⟨rfl, hI⟩
      · refine Reg.StepAt.guarded (i := 22) rfl ?_
        intro L ev w hI hk hp hA
        have e65 : (fun v _ => v = undef) (ev (.tmp 65)) w := hA.val 21 _ 65 rfl (hp ⟨21, .data⟩ (by simp) rfl) rfl
        have eg : ev (.tmp 60) = .bool false := hA.val 16 _ 60 rfl (hp ⟨16, .guard⟩ (by simp) rfl) rfl
        refine ⟨_, 60, false, rfl, rfl, eg, ?_⟩
        rw [if_neg (by decide)]
        have hcc := hA.const
        clear hA hp
        exact ⟨rfl, hI⟩
      · refine Reg.StepAt.guarded (i := 23) rfl ?_
        intro L ev w hI hk hp hA
        have e63 : (fun v _ => v = undef) (ev (.tmp 63)) w := hA.val 19 _ 63 rfl (hp ⟨19, .data⟩ (by simp) rfl) rfl
        have e66 : (fun v _ => v = undef) (ev (.tmp 66)) w := hA.val 22 _ 66 rfl (hp ⟨22, .data⟩ (by simp) rfl) rfl
        have eg : ev (.tmp 60) = .bool false := hA.val 16 _ 60 rfl (hp ⟨16, .chain⟩ (by simp) rfl) rfl
        refine ⟨_, 60, false, rfl, rfl, eg, ?_⟩
        rw [if_neg (by decide)]
        have hcc := hA.const
        have hcf := hA.func
        clear hA hp
        exact ⟨rfl, hI⟩
      · refine Reg.StepAt.guarded (i := 24) rfl ?_
        intro L ev w hI hk hp hA
        have e67 : (fun v _ => v = undef) (ev (.tmp 67)) w := hA.val 23 _ 67 rfl (hp ⟨23, .data⟩ (by simp) rfl) rfl
        have eg : ev (.tmp 60) = .bool false := hA.val 16 _ 60 rfl (hp ⟨16, .guard⟩ (by simp) rfl) rfl
        refine ⟨_, 60, false, rfl, rfl, eg, ?_⟩
        rw [if_neg (by decide)]
        have hcc := hA.const
        clear hA hp
        exact ⟨rfl, hI⟩
      · refine Reg.StepAt.plain (i := 25) rfl ?_
        intro L ev w hI hk hp hA
        have e60 : ev (.tmp 60) = .bool false := hA.val 16 _ 60 rfl (hp ⟨16, .data⟩ (by simp) rfl) rfl
        have e68 : (fun v _ => v = undef) (ev (.tmp 68)) w := hA.val 24 _ 68 rfl (hp ⟨24, .data⟩ (by simp) rfl) rfl
        have hcc := hA.const
        clear hA hp
        refine Reg.out_value (v := .bool false) ?_ ⟨rfl, hrefl _, hI⟩
        go_simp
      intro L act wz hall hI hF
      have g44 : act.eval (.tmp 44) = .slice (some ⟨g, 0, none⟩) 3 cp := hF.val 0 _ 44 rfl (hall 0 (by simp)) rfl
      have g45 : act.eval (.tmp 45) = .pointer (some ⟨g, 0, none⟩) := hF.val 1 _ 45 rfl (hall 1 (by simp)) rfl
      have g46 : act.eval (.tmp 46) = .agg #[.int .i64 l0.thread, .int .i64 l0.kind, .float .f64 l0.pri, .int .i64 l0.val, .int .i64 l0.d0, .int .i64 l0.d1, .int .i64 l0.beg, .int .i64 l0.fin, .bool l0.ans.ok, .float .f64 l0.ans.pri, .int .i64 l0.ans.val, .int .i64 l0.ans.n] := hF.val 2 _ 46 rfl (hall 2 (by simp)) rfl
      have g47 : act.eval (.tmp 47) = .slice (some ⟨g, 0, none⟩) 3 cp := hF.val 3 _ 47 rfl (hall 3 (by simp)) rfl
      have g48 : act.eval (.tmp 48) = .pointer (some ⟨g, 12, none⟩) := hF.val 4 _ 48 rfl (hall 4 (by simp)) rfl
      have g49 : act.eval (.tmp 49) = .agg #[.int .i64 l1.thread, .int .i64 l1.kind, .float .f64 l1.pri, .int .i64 l1.val, .int .i64 l1.d0, .int .i64 l1.d1, .int .i64 l1.beg, .int .i64 l1.fin, .bool l1.ans.ok, .float .f64 l1.ans.pri, .int .i64 l1.ans.val, .int .i64 l1.ans.n] := hF.val 5 _ 49 rfl (hall 5 (by simp)) rfl
      have g50 : act.eval (.tmp 50) = .bool false := hF.val 6 _ 50 rfl (hall 6 (by simp)) rfl
      have g51 : act.eval (.tmp 51) = .bool false := hF.val 7 _ 51 rfl (hall 7 (by simp)) rfl
      have g52 : (fun v _ => v = undef) (act.eval (.tmp 52)) wz := hF.val 8 _ 52 rfl (hall 8 (by simp)) rfl
      have g53 : (fun v _ => v = undef) (act.eval (.tmp 53)) wz := hF.val 9 _ 53 rfl (hall 9 (by simp)) rfl
      have g54 : (fun v _ => v = undef) (act.eval (.tmp 54)) wz := hF.val 10 _ 54 rfl (hall 10 (by simp)) rfl
      have g55 : (fun v _ => v = undef) (act.eval (.tmp 55)) wz := hF.val 11 _ 55 rfl (hall 11 (by simp)) rfl
      have g56 : (fun v _ => v = undef) (act.eval (.tmp 56)) wz := hF.val 12 _ 56 rfl (hall 12 (by simp)) rfl
      have g57 : (fun v _ => v = undef) (act.eval (.tmp 57)) wz := hF.val 13 _ 57 rfl (hall 13 (by simp)) rfl
      have g58 : (fun v _ => v = undef) (act.eval (.tmp 58)) wz := hF.val 14 _ 58 rfl (hall 14 (by simp)) rfl
      have g59 : act.eval (.tmp 59) = .bool false := hF.val 15 _ 59 rfl (hall 15 (by simp)) rfl
      have g60 : act.eval (.tmp 60) = .bool false := hF.val 16 _ 60 rfl (hall 16 (by simp)) rfl
      have g61 : (fun v _ => v = undef) (act.eval (.tmp 61)) wz := hF.val 17 _ 61 rfl (hall 17 (by simp)) rfl
      have g62 : (fun v _ => v = undef) (act.eval (.tmp 62)) wz := hF.val 18 _ 62 rfl (hall 18 (by simp)) rfl
      have g63 : (fun v _ => v = undef) (act.eval (.tmp 63)) wz := hF.val 19 _ 63 rfl (hall 19 (by simp)) rfl
      have g64 : (fun v _ => v = undef) (act.eval (.tmp 64)) wz := hF.val 20 _ 64 rfl (hall 20 (by simp)) rfl
      have g65 : (fun v _ => v = undef) (act.eval (.tmp 65)) wz := hF.val 21 _ 65 rfl (hall 21 (by simp)) rfl
      have g66 : (fun v _ => v = undef) (act.eval (.tmp 66)) wz := hF.val 22 _ 66 rfl (hall 22 (by simp)) rfl
      have g67 : (fun v _ => v = undef) (act.eval (.tmp 67)) wz := hF.val 23 _ 67 rfl (hall 23 (by simp)) rfl
      have g68 : (fun v _ => v = undef) (act.eval (.tmp 68)) wz := hF.val 24 _ 68 rfl (hall 24 (by simp)) rfl
      have g69 : act.eval (.tmp 69) = .bool false := hF.val 25 _ 69 rfl (hall 25 (by simp)) rfl
      have hact := hF.act [44, 45, 46, 47, 48, 49, 50, 51, 52, 53, 54, 55, 56, 57, 58, 59, 60, 61, 62, 63, 64, 65, 66, 67, 68, 69] (by kernel_rfl)
      clear hF hall
      simp only [List.foldl_cons, List.foldl_nil] at hact
      rw [g44, g45, g46, g47, g48, g49, g50, g51, g59, g60, g69] at hact
      clear g44 g45 g46 g47 g48 g49 g50 g51 g59 g60 g69
      generalize act.eval (.tmp 52) = u52 at hact g52
      generalize act.eval (.tmp 53) = u53 at hact g53
      generalize act.eval (.tmp 54) = u54 at hact g54
      generalize act.eval (.tmp 55) = u55 at hact g55
      generalize act.eval (.tmp 56) = u56 at hact g56
      generalize act.eval (.tmp 57) = u57 at hact g57
      generalize act.eval (.tmp 58) = u58 at hact g58
      generalize act.eval (.tmp 61) = u61 at hact g61
      generalize act.eval (.tmp 62) = u62 at hact g62
      generalize act.eval (.tmp 63) = u63 at hact g63
      generalize act.eval (.tmp 64) = u64 at hact g64
      generalize act.eval (.tmp 65) = u65 at hact g65
      generalize act.eval (.tmp 66) = u66 at hact g66
      generalize act.eval (.tmp 67) = u67 at hact g67
      generalize act.eval (.tmp 68) = u68 at hact g68
      simp only [List.setIfInBounds_toArray, List.set_cons_succ, List.set_cons_zero] at hact
      subst hact
      have hz1 : Below wr.heap.size wr wz := hI
      clear hI
      obtain ⟨wy, hwy⟩ : ∃ wy, wy = wz := ⟨wz, rfl⟩
      subst hwy
      have FC1 := FC
      clear FC
      have FC := hidq (fun W (hW : Below wy.heap.size wy W) => FC1.out W (hz1.trans (hW.mono hz1.size)))
      have HLO2 := hidq (HLO.out.trans (hz1.mono HLO.out.size))
      clear hz1 FC1 HLO
      go_wp2_with fail
      have hrefl : ∀ w : World, Reg.Keeps w w := Reg.Keeps.refl
      refine Reg.wp_region_props (Reg.ofList (ah12fR g cp l0 l1)) Reg.Keeps (fun _ w => Reg.Keeps wy w) (by kernel_rfl) (by kernel_rfl) (Reg.AllKept.at _ (ah12fR_kept g cp l0 l1)) hrefl (Reg.Keeps.drewN (Reg.Keeps.refl _) 1) ⟨?_, ?_, ?_, ?_, ?_, ?_, ?_, ?_, ?_, ?_, ?_, ?_, ?_, ?_, ?_, ?_, ?_, ?_, ?_, ?_, ?_, ?_, ?_, ?_, ?_, ?_, ?_, ?_, trivial⟩ ?_
      · refine Reg.StepAt.plain (i := 0) rfl ?_
        intro L ev w hI hk hp hA
        have e7 : ev (.tmp 7) = .slice (some ⟨g, 0, none⟩) 3 cp := hA.oldNone 7 (by kernel_rfl)
        have hcc := hA.const
        clear hA hp
        refine Reg.out_value (v := .slice (some ⟨g, 0, none⟩) 3 cp) ?_ ⟨rfl, hrefl _, hI⟩
        go_simp
      · refine Reg.StepAt.plain (i := 1) rfl ?_
        intro L ev w hI hk hp hA
        have e70 : ev (.tmp 70) = .slice (some ⟨g, 0, none⟩) 3 cp := hA.val 0 _ 70 rfl (hp ⟨0, .data⟩ (by simp) rfl) rfl
        have hcc := hA.const
        clear hA hp
        refine Reg.out_value (v := .pointer (some ⟨g, 0, none⟩)) ?_ ⟨rfl, hrefl _, hI⟩
        go_simp
      · refine Reg.StepAt.plain (i := 2) rfl ?_
        intro L ev w hI hk hp hA
        have e71 : ev (.tmp 71) = .pointer (some ⟨g, 0, none⟩) := hA.val 1 _ 71 rfl (hp ⟨1, .data⟩ (by simp) rfl) rfl
        have hcc := hA.const
        clear hA hp
        obtain ⟨m0, m1, m2, m3, m4, m5, m6, m7, m8, m9, m10, m11, m12, m13, m14, m15, m16, m17, m18, m19, m20, m21, m22, m23, m24, m25, m26, m27, m28, m29, m30, m31, m32, m33, m34, m35, ml⟩ := FC.out w hI
        refine Reg.out_value (v := .agg #[.int .i64 l0.thread, .int .i64 l0.kind, .float .f64 l0.pri, .int .i64 l0.val, .int .i64 l0.d0, .int .i64 l0.d1, .int .i64 l0.beg, .int .i64 l0.fin, .bool l0.ans.ok, .float .f64 l0.ans.pri, .int .i64 l0.ans.val, .int .i64 l0.ans.n]) ?_ ⟨rfl, hrefl _, hI⟩
        go_simp
      · refine Reg.StepAt.plain (i := 3) rfl ?_
        intro L ev w hI hk hp hA
        have e7 : ev (.tmp 7) = .slice (some ⟨g, 0, none⟩) 3 cp := hA.oldNone 7 (by kernel_rfl)
        have hcc := hA.const
        clear hA hp
        refine Reg.out_value (v := .slice (some ⟨g, 0, none⟩) 3 cp) ?_ ⟨rfl, hrefl _, hI⟩
        go_simp
      · refine Reg.StepAt.plain (i := 4) rfl ?_
        intro L ev w hI hk hp hA
        have e73 : ev (.tmp 73) = .slice (some ⟨g, 0, none⟩) 3 cp := hA.val 3 _ 73 rfl (hp ⟨3, .data⟩ (by simp) rfl) rfl
        have hcc := hA.const
        clear hA hp
        refine Reg.out_value (v := .pointer (some ⟨g, 12, none⟩)) ?_ ⟨rfl, hrefl _, hI⟩
        go_simp
      · refine Reg.StepAt.plain (i := 5) rfl ?_
        intro L ev w hI hk hp hA
        have e74 : ev (.tmp 74) = .pointer (some ⟨g, 12, none⟩) := hA.val 4 _ 74 rfl (hp ⟨4, .data⟩ (by simp) rfl) rfl
        have hcc := hA.const
        clear hA hp
        obtain ⟨m0, m1, m2, m3, m4, m5, m6, m7, m8, m9, m10, m11, m12, m13, m14, m15, m16, m17, m18, m19, m20, m21, m22, m23, m24, m25, m26, m27, m28, m29, m30, m31, m32, m33, m34, m35, ml⟩ := FC.out w hI
        refine Reg.out_value (v := .agg #[.int .i64 l1.thread, .int .i64 l1.kind, .float .f64 l1.pri, .int .i64 l1.val, .int .i64 l1.d0, .int .i64 l1.d1, .int .i64 l1.beg, .int .i64 l1.fin, .bool l1.ans.ok, .float .f64 l1.ans.pri, .int .i64 l1.ans.val, .int .i64 l1.ans.n]) ?_ ⟨rfl, hrefl _, hI⟩
        go_simp
      · refine Reg.StepAt.plain (i := 6) rfl ?_
        intro L ev w hI hk hp hA
        have e72 : ev (.tmp 72) = .agg #[.int .i64 l0.thread, .int .i64 l0.kind, .float .f64 l0.pri, .int .i64 l0.val, .int .i64 l0.d0, .int .i64 l0.d1, .int .i64 l0.beg, .int .i64 l0.fin, .bool l0.ans.ok, .float .f64 l0.ans.pri, .int .i64 l0.ans.val, .int .i64 l0.ans.n] := hA.val 2 _ 72 rfl (hp ⟨2, .data⟩ (by simp) rfl) rfl
        have e75 : ev (.tmp 75) = .agg #[.int .i64 l1.thread, .int .i64 l1.kind, .float .f64 l1.pri, .int .i64 l1.val, .int .i64 l1.d0, .int .i64 l1.d1, .int .i64 l1.beg, .int .i64 l1.fin, .bool l1.ans.ok, .float .f64 l1.ans.pri, .int .i64 l1.ans.val, .int .i64 l1.ans.n] := hA.val 5 _ 75 rfl (hp ⟨5, .data⟩ (by simp) rfl) rfl
        have hcc := hA.const
        have hcf := hA.func
        clear hA hp
        refine Reg.out_call (f := 56) (args := #[.agg #[.int .i64 l0.thread, .int .i64 l0.kind, .float .f64 l0.pri, .int .i64 l0.val, .int .i64 l0.d0, .int .i64 l0.d1, .int .i64 l0.beg, .int .i64 l0.fin, .bool l0.ans.ok, .float .f64 l0.ans.pri, .int .i64 l0.ans.val, .int .i64 l0.ans.n], .agg #[.int .i64 l1.thread, .int .i64 l1.kind, .float .f64 l1.pri, .int .i64 l1.val, .int .i64 l1.d0, .int .i64 l1.d1, .int .i64 l1.beg, .int .i64 l1.fin, .bool l1.ans.ok, .float .f64 l1.ans.pri, .int .i64 l1.ans.val, .int .i64 l1.ans.n]]) (w0 := w) ?_ ?_
        · go_simp
        refine (H01.out w).mono ?_
        rintro e w' ⟨rfl, hb'⟩
        exact ⟨_, rfl, rfl, hb', Reg.Keeps.trans hI hb'⟩
      · refine Reg.StepAt.plain (i := 7) rfl ?_
        intro L ev w hI hk hp hA
        have e76 : ev (.tmp 76) = .bool false := hA.val 6 _ 76 rfl (hp ⟨6, .data⟩ (by simp) rfl) rfl
        have hcc := hA.const
        clear hA hp
        refine Reg.out_value (v := .bool false) ?_ ⟨rfl, hrefl _, hI⟩
        go_simp
      · refine Reg.StepAt.guarded (i := 8) rfl ?_
        intro L ev w hI hk hp hA
        have e7 : ev (.tmp 7) = .slice (some ⟨g, 0, none⟩) 3 cp := hA.oldNone 7 (by kernel_rfl)
        have eg : ev (.tmp 77) = .bool false := hA.val 7 _ 77 rfl (hp ⟨7, .guard⟩ (by simp) rfl) rfl
        refine ⟨_, 77, false, rfl, rfl, eg, ?_⟩
        rw [if_neg (by decide)]
        have hcc := hA.const
        clear hA hp
        exact ⟨rfl, hI⟩
      · refine Reg.StepAt.guarded (i := 9) rfl ?_
        intro L ev w hI hk hp hA
        have e78 : (fun v _ => v = undef) (ev (.tmp 78)) w := hA.val 8 _ 78 rfl (hp ⟨8, .data⟩ (by simp) rfl) rfl
        have eg : ev (.tmp 77) = .bool false := hA.val 7 _ 77 rfl (hp ⟨7, .guard⟩ (by simp) rfl) rfl
        refine ⟨_, 77, false, rfl, rfl, eg, ?_⟩
        rw [if_neg (by decide)]
        have hcc := hA.const
        clear hA hp
        exact ⟨rfl, hI⟩
      · refine Reg.StepAt.guarded (i := 10) rfl ?_
        intro L ev w hI hk hp hA
        have e79 : (fun v _ => v = undef) (ev (.tmp 79)) w := hA.val 9 _ 79 rfl (hp ⟨9, .data⟩ (by simp) rfl) rfl
        have eg : ev (.tmp 77) = .bool false := hA.val 7 _ 77 rfl (hp ⟨7, .guard⟩ (by simp) rfl) rfl
        refine ⟨_, 77, false, rfl, rfl, eg, ?_⟩
        rw [if_neg (by decide)]
        have hcc := hA.const
        clear hA hp
        exact ⟨rfl, hI⟩
      · refine Reg.StepAt.guarded (i := 11) rfl ?_
        intro L ev w hI hk hp hA
        have e7 : ev (.tmp 7) = .slice (some ⟨g, 0, none⟩) 3 cp := hA.oldNone 7 (by kernel_rfl)
        have eg : ev (.tmp 77) = .bool false := hA.val 7 _ 77 rfl (hp ⟨7, .guard⟩ (by simp) rfl) rfl
        refine ⟨_, 77, false, rfl, rfl, eg, ?_⟩
        rw [if_neg (by decide)]
        have hcc := hA.const
        clear hA hp
        exact ⟨rfl, hI⟩
      · refine Reg.StepAt.guarded (i := 12) rfl ?_
        intro L ev w hI hk hp hA
        have e81 : (fun v _ => v = undef) (ev (.tmp 81)) w := hA.val 11 _ 81 rfl (hp ⟨11, .data⟩ (by simp) rfl) rfl
        have eg : ev (.tmp 77) = .bool false := hA.val 7 _ 77 rfl (hp ⟨7, .guard⟩ (by simp) rfl) rfl
        refine ⟨_, 77, false, rfl, rfl, eg, ?_⟩
        rw [if_neg (by decide)]
        have hcc := hA.const
        clear hA hp
        exact ⟨rfl, hI⟩
      · refine Reg.StepAt.guarded (i := 13) rfl ?_
        intro L ev w hI hk hp hA
        have e82 : (fun v _ => v = undef) (ev (.tmp 82)) w := hA.val 12 _ 82 rfl (hp ⟨12, .data⟩ (by simp) rfl) rfl
        have eg : ev (.tmp 77) = .bool false := hA.val 7 _ 77 rfl (hp ⟨7, .guard⟩ (by simp) rfl) rfl
        refine ⟨_, 77, false, rfl, rfl, eg, ?_⟩
        rw [if_neg (by decide)]
        have hcc := hA.const
        clear hA hp
        exact ⟨rfl, hI⟩
      · refine Reg.StepAt.guarded (i := 14) rfl ?_
        intro L ev w hI hk hp hA
        have e80 : (fun v _ => v = undef) (ev (.tmp 80)) w := hA.val 10 _ 80 rfl (hp ⟨10, .data⟩ (by simp) rfl) rfl
        have e83 : (fun v _ => v = undef) (ev (.tmp 83)) w := hA.val 13 _ 83 rfl (hp ⟨13, .data⟩ (by simp) rfl) rfl
        have eg : ev (.tmp 77) = .bool false := hA.val 7 _ 77 rfl (hp ⟨7, .chain⟩ (by simp) rfl) rfl
        refine ⟨_, 77, false, rfl, rfl, eg, ?_⟩
        rw [if_neg (by decide)]
        have hcc := hA.const
        have hcf := hA.func
        clear hA hp
        exact ⟨rfl, hI⟩
      · refine Reg.StepAt.plain (i := 15) rfl ?_
        intro L ev w hI hk hp hA
        have e77 : ev (.tmp 77) = .bool false := hA.val 7 _ 77 rfl (hp ⟨7, .data⟩ (by simp) rfl) rfl
        have e84 : (fun v _ => v = undef) (ev (.tmp 84)) w := hA.val 14 _ 84 rfl (hp ⟨14, .data⟩ (by simp) rfl) rfl
        have hcc := hA.const
        clear hA hp
        refine Reg.out_value (v := .bool false) ?_ ⟨rfl, hrefl _, hI⟩
        go_simp
      · refine Reg.StepAt.plain (i := 16) rfl ?_
        intro L ev w hI hk hp hA
        have e85 : ev (.tmp 85) = .bool false := hA.val 15 _ 85 rfl (hp ⟨15, .data⟩ (by simp) rfl) rfl
        have hcc := hA.const
        clear hA hp
        refine Reg.out_value (v := .bool true) ?_ ⟨rfl, hrefl _, hI⟩
        go_simp
      · refine Reg.StepAt.plain (i := 17) rfl ?_
        intro L ev w hI hk hp hA
        have e86 : ev (.tmp 86) = .bool true := hA.val 16 _ 86 rfl (hp ⟨16, .data⟩ (by simp) rfl) rfl
        have hcc := hA.const
        clear hA hp
        refine Reg.out_value (v := .bool true) ?_ ⟨rfl, hrefl _, hI⟩
        go_simp
      · refine Reg.StepAt.guarded (i := 18) rfl ?_
        intro L ev w hI hk hp hA
        have e7 : ev (.tmp 7) = .slice (some ⟨g, 0, none⟩) 3 cp := hA.oldNone 7 (by kernel_rfl)
        have eg : ev (.tmp 87) = .bool true := hA.val 17 _ 87 rfl (hp ⟨17, .guard⟩ (by simp) rfl) rfl
        refine ⟨_, 87, true, rfl, rfl, eg, ?_⟩
        rw [if_pos rfl]
        have hcc := hA.const
        clear hA hp
        refine Reg.out_value (v := .slice (some ⟨g, 0, none⟩) 3 cp) ?_ ⟨rfl, hrefl _, hI⟩
        go_simp
      · refine Reg.StepAt.guarded (i := 19) rfl ?_
        intro L ev w hI hk hp hA
        have e88 : ev (.tmp 88) = .slice (some ⟨g, 0, none⟩) 3 cp := hA.val 18 _ 88 rfl (hp ⟨18, .data⟩ (by simp) rfl) rfl
        have eg : ev (.tmp 87) = .bool true := hA.val 17 _ 87 rfl (hp ⟨17, .guard⟩ (by simp) rfl) rfl
        refine ⟨_, 87, true, rfl, rfl, eg, ?_⟩
        rw [if_pos rfl]
        have hcc := hA.const
        clear hA hp
        refine Reg.out_value (v := .pointer (some ⟨g, 0, none⟩)) ?_ ⟨rfl, hrefl _, hI⟩
        go_simp
      · refine Reg.StepAt.guarded (i := 20) rfl ?_
        intro L ev w hI hk hp hA
        have e89 : ev (.tmp 89) = .pointer (some ⟨g, 0, none⟩) := hA.val 19 _ 89 rfl (hp ⟨19, .data⟩ (by simp) rfl) rfl
        have eg : ev (.tmp 87) = .bool true := hA.val 17 _ 87 rfl (hp ⟨17, .guard⟩ (by simp) rfl) rfl
        refine ⟨_, 87, true, rfl, rfl, eg, ?_⟩
        rw [if_pos rfl]
        have hcc := hA.const
        clear hA hp
        obtain ⟨m0, m1, m2, m3, m4, m5, m6, m7, m8, m9, m10, m11, m12, m13, m14, m15, m16, m17, m18, m19, m20, m21, m22, m23, m24, m25, m26, m27, m28, m29, m30, m31, m32, m33, m34, m35, ml⟩ := FC.out w hI
        refine Reg.out_value (v := .agg #[.int .i64 l0.thread, .int .i64 l0.kind, .float .f64 l0.pri, .int .i64 l0.val, .int .i64 l0.d0, .int .i64 l0.d1, .int .i64 l0.beg, .int .i64 l0.fin, .bool l0.ans.ok, .float .f64 l0.ans.pri, .int .i64 l0.ans.val, .int .i64 l0.ans.n]) ?_ ⟨rfl, hrefl _, hI⟩
        go_simp
      · refine Reg.StepAt.guarded (i := 21) rfl ?_
        intro L ev w hI hk hp hA
        have e7 : ev (.tmp 7) = .slice (some ⟨g, 0, none⟩) 3 cp := hA.oldNone 7 (by kernel_rfl)
        have eg : ev (.tmp 87) = .bool true := hA.val 17 _ 87 rfl (hp ⟨17, .guard⟩ (by simp) rfl) rfl
        refine ⟨_, 87, true, rfl, rfl, eg, ?_⟩
        rw [if_pos rfl]
        have hcc := hA.const
        clear hA hp
        refine Reg.out_value (v := .slice (some ⟨g, 0, none⟩) 3 cp) ?_ ⟨rfl, hrefl _, hI⟩
        go_simp
      · refine Reg.StepAt.guarded (i := 22) rfl ?_
        intro L ev w hI hk hp hA
        have e91 : ev (.tmp 91) = .slice (some ⟨g, 0, none⟩) 3 cp := hA.val 21 _ 91 rfl (hp ⟨21, .data⟩ (by simp) rfl) rfl
        have eg : ev (.tmp 87) = .bool true := hA.val 17 _ 87 rfl (hp ⟨17, .guard⟩ (by simp) rfl) rfl
        refine ⟨_, 87, true, rfl, rfl, eg, ?_⟩
        rw [if_pos rfl]
        have hcc := hA.const
        clear hA hp
        refine Reg.out_value (v := .pointer (some ⟨g, 0, none⟩)) ?_ ⟨rfl, hrefl _, hI⟩
        go_simp
      · refine Reg.StepAt.guarded (i := 23) rfl ?_
        intro L ev w hI hk hp hA
        have e92 : ev (.tmp 92) = .pointer (some ⟨g, 0, none⟩) := hA.val 22 _ 92 rfl (hp ⟨22, .data⟩ (by simp) rfl) rfl
        have eg : ev (.tmp 87) = .bool true := hA.val 17 _ 87 rfl (hp ⟨17, .guard⟩ (by simp) rfl) rfl
        refine ⟨_, 87, true, rfl, rfl, eg, ?_⟩
        rw [if_pos rfl]
        have hcc := hA.const
        clear hA hp
        obtain ⟨m0, m1, m2, m3, m4, m5, m6, m7, m8, m9, m10, m11, m12, m13, m14, m15, m16, m17, m18, m19, m20, m21, m22, m23, m24, m25, m26, m27, m28, m29, m30, m31, m32, m33, m34, m35, ml⟩ := FC.out w hI
        refine Reg.out_value (v := .agg #[.int .i64 l0.thread, .int .i64 l0.kind, .float .f64 l0.pri, .int .i64 l0.val, .int .i64 l0.d0, .int .i64 l0.d1, .int .i64 l0.beg, .int .i64 l0.fin, .bool l0.ans.ok, .float .f64 l0.ans.pri, .int .i64 l0.ans.val, .int .i64 l0.ans.n]) ?_ ⟨rfl, hrefl _, hI⟩
        go_simp
      · refine Reg.StepAt.guarded (i := 24) rfl ?_
        intro L ev w hI hk hp hA
        have e90 : ev (.tmp 90) = .agg #[.int .i64 l0.thread, .int .i64 l0.kind, .float .f64 l0.pri, .int .i64 l0.val, .int .i64 l0.d0, .int .i64 l0.d1, .int .i64 l0.beg, .int .i64 l0.fin, .bool l0.ans.ok, .float .f64 l0.ans.pri, .int .i64 l0.ans.val, .int .i64 l0.ans.n] := hA.val 20 _ 90 rfl (hp ⟨20, .data⟩ (by simp) rfl) rfl
        have e93 : ev (.tmp 93) = .agg #[.int .i64 l0.thread, .int .i64 l0.kind, .float .f64 l0.pri, .int .i64 l0.val, .int .i64 l0.d0, .int .i64 l0.d1, .int .i64 l0.beg, .int .i64 l0.fin, .bool l0.ans.ok, .float .f64 l0.ans.pri, .int .i64 l0.ans.val, .int .i64 l0.ans.n] := hA.val 23 _ 93 rfl (hp ⟨23, .data⟩ (by simp) rfl) rfl
        have eg : ev (.tmp 87) = .bool true := hA.val 17 _ 87 rfl (hp ⟨17, .chain⟩ (by simp) rfl) rfl
        refine ⟨_, 87, true, rfl, rfl, eg, ?_⟩
        rw [if_pos rfl]
        have hcc := hA.const
        have hcf := hA.func
        clear hA hp
        refine Reg.out_call (f := 56) (args := #[.agg #[.int .i64 l0.thread, .int .i64 l0.kind, .float .f64 l0.pri, .int .i64 l0.val, .int .i64 l0.d0, .int .i64 l0.d1, .int .i64 l0.beg, .int .i64 l0.fin, .bool l0.ans.ok, .float .f64 l0.ans.pri, .int .i64 l0.ans.val, .int .i64 l0.ans.n], .agg #[.int .i64 l0.thread, .int .i64 l0.kind, .float .f64 l0.pri, .int .i64 l0.val, .int .i64 l0.d0, .int .i64 l0.d1, .int .i64 l0.beg, .int .i64 l0.fin, .bool l0.ans.ok, .float .f64 l0.ans.pri, .int .i64 l0.ans.val, .int .i64 l0.ans.n]]) (w0 := w) ?_ ?_
        · go_simp
        refine (H00.out w).mono ?_
        rintro e w' ⟨rfl, hb'⟩
        exact ⟨_, rfl, rfl, hb', Reg.Keeps.trans hI hb'⟩
      · refine Reg.StepAt.guarded (i := 25) rfl ?_
        intro L ev w hI hk hp hA
        have e94 : ev (.tmp 94) = .bool false := hA.val 24 _ 94 rfl (hp ⟨24, .data⟩ (by simp) rfl) rfl
        have eg : ev (.tmp 87) = .bool true := hA.val 17 _ 87 rfl (hp ⟨17, .guard⟩ (by simp) rfl) rfl
        refine ⟨_, 87, true, rfl, rfl, eg, ?_⟩
        rw [if_pos rfl]
        have hcc := hA.const
        clear hA hp
        refine Reg.out_value (v := .bool true) ?_ ⟨rfl, hrefl _, hI⟩
        go_simp
      · refine Reg.StepAt.plain (i := 26) rfl ?_
        intro L ev w hI hk hp hA
        have e87 : ev (.tmp 87) = .bool true := hA.val 17 _ 87 rfl (hp ⟨17, .data⟩ (by simp) rfl) rfl
        have e95 : ev (.tmp 95) = .bool true := hA.val 25 _ 95 rfl (hp ⟨25, .data⟩ (by simp) rfl) rfl
        have hcc := hA.const
        clear hA hp
        refine Reg.out_value (v := .bool true) ?_ ⟨rfl, hrefl _, hI⟩
        go_simp
      · refine Reg.StepAt.plain (i := 27) rfl ?_
        intro L ev w hI hk hp hA
        have e96 : ev (.tmp 96) = .bool true := hA.val 26 _ 96 rfl (hp ⟨26, .data⟩ (by simp) rfl) rfl
        have hcc := hA.const
        clear hA hp
        refine Reg.out_value (v := .bool true) ?_ ⟨rfl, hrefl _, hI⟩
        go_simp
      intro L act wz hall hI hF
      have g70 : act.eval (.tmp 70) = .slice (some ⟨g, 0, none⟩) 3 cp := hF.val 0 _ 70 rfl (hall 0 (by simp)) rfl
      have g71 : act.eval (.tmp 71) = .pointer (some ⟨g, 0, none⟩) := hF.val 1 _ 71 rfl (hall 1 (by simp)) rfl
      have g72 : act.eval (.tmp 72) = .agg #[.int .i64 l0.thread, .int .i64 l0.kind, .float .f64 l0.pri, .int .i64 l0.val, .int .i64 l0.d0, .int .i64 l0.d1, .int .i64 l0.beg, .int .i64 l0.fin, .bool l0.ans.ok, .float .f64 l0.ans.pri, .int .i64 l0.ans.val, .int .i64 l0.ans.n] := hF.val 2 _ 72 rfl (hall 2 (by simp)) rfl
      have g73 : act.eval (.tmp 73) = .slice (some ⟨g, 0, none⟩) 3 cp := hF.val 3 _ 73 rfl (hall 3 (by simp)) rfl
      have g74 : act.eval (.tmp 74) = .pointer (some ⟨g, 12, none⟩) := hF.val 4 _ 74 rfl (hall 4 (by simp)) rfl
      have g75 : act.eval (.tmp 75) = .agg #[.int .i64 l1.thread, .int .i64 l1.kind, .float .f64 l1.pri, .int .i64 l1.val, .int .i64 l1.d0, .int .i64 l1.d1, .int .i64 l1.beg, .int .i64 l1.fin, .bool l1.ans.ok, .float .f64 l1.ans.pri, .int .i64 l1.ans.val, .int .i64 l1.ans.n] := hF.val 5 _ 75 rfl (hall 5 (by simp)) rfl
      have g76 : act.eval (.tmp 76) = .bool false := hF.val 6 _ 76 rfl (hall 6 (by simp)) rfl
      have g77 : act.eval (.tmp 77) = .bool false := hF.val 7 _ 77 rfl (hall 7 (by simp)) rfl
      have g78 : (fun v _ => v = undef) (act.eval (.tmp 78)) wz := hF.val 8 _ 78 rfl (hall 8 (by simp)) rfl
      have g79 : (fun v _ => v = undef) (act.eval (.tmp 79)) wz := hF.val 9 _ 79 rfl (hall 9 (by simp)) rfl
      have g80 : (fun v _ => v = undef) (act.eval (.tmp 80)) wz := hF.val 10 _ 80 rfl (hall 10 (by simp)) rfl
      have g81 : (fun v _ => v = undef) (act.eval (.tmp 81)) wz := hF.val 11 _ 81 rfl (hall 11 (by simp)) rfl
      have g82 : (fun v _ => v = undef) (act.eval (.tmp 82)) wz := hF.val 12 _ 82 rfl (hall 12 (by simp)) rfl
      have g83 : (fun v _ => v = undef) (act.eval (.tmp 83)) wz := hF.val 13 _ 83 rfl (hall 13 (by simp)) rfl
      have g84 : (fun v _ => v = undef) (act.eval (.tmp 84)) wz := hF.val 14 _ 84 rfl (hall 14 (by simp)) rfl
      have g85 : act.eval (.tmp 85) = .bool false := hF.val 15 _ 85 rfl (hall 15 (by simp)) rfl
      have g86 : act.eval (.tmp 86) = .bool true := hF.val 16 _ 86 rfl (hall 16 (by simp)) rfl
      have g87 : act.eval (.tmp 87) = .bool true := hF.val 17 _ 87 rfl (hall 17 (by simp)) rfl
      have g88 : act.eval (.tmp 88) = .slice (some ⟨g, 0, none⟩) 3 cp := hF.val 18 _ 88 rfl (hall 18 (by simp)) rfl
      have g89 : act.eval (.tmp 89) = .pointer (some ⟨g, 0, none⟩) := hF.val 19 _ 89 rfl (hall 19 (by simp)) rfl
      have g90 : act.eval (.tmp 90) = .agg #[.int .i64 l0.thread, .int .i64 l0.kind, .float .f64 l0.pri, .int .i64 l0.val, .int .i64 l0.d0, .int .i64 l0.d1, .int .i64 l0.beg, .int .i64 l0.fin, .bool l0.ans.ok, .float .f64 l0.ans.pri, .int .i64 l0.ans.val, .int .i64 l0.ans.n] := hF.val 20 _ 90 rfl (hall 20 (by simp)) rfl
      have g91 : act.eval (.tmp 91) = .slice (some ⟨g, 0, none⟩) 3 cp := hF.val 21 _ 91 rfl (hall 21 (by simp)) rfl
      have g92 : act.eval (.tmp 92) = .pointer (some ⟨g, 0, none⟩) := hF.val 22 _ 92 rfl (hall 22 (by simp)) rfl
      have g93 : act.eval (.tmp 93) = .agg #[.int .i64 l0.thread, .int .i64 l0.kind, .float .f64 l0.pri, .int .i64 l0.val, .int .i64 l0.d0, .int .i64 l0.d1, .int .i64 l0.beg, .int .i64 l0.fin, .bool l0.ans.ok, .float .f64 l0.ans.pri, .int .i64 l0.ans.val, .int .i64 l0.ans.n] := hF.val 23 _ 93 rfl (hall 23 (by simp)) rfl
      have g94 : act.eval (.tmp 94) = .bool false := hF.val 24 _ 94 rfl (hall 24 (by simp)) rfl
      have g95 : act.eval (.tmp 95) = .bool true := hF.val 25 _ 95 rfl (hall 25 (by simp)) rfl
      have g96 : act.eval (.tmp 96) = .bool true := hF.val 26 _ 96 rfl (hall 26 (by simp)) rfl
      have g6 : act.eval (.tmp 6) = .bool true := hF.val 27 _ 6 rfl (hall 27 (by simp)) rfl
      have hact := hF.act [70, 71, 72, 73, 74, 75, 76, 77, 78, 79, 80, 81, 82, 83, 84, 85, 86, 87, 88, 89, 90, 91, 92, 93, 94, 95, 96, 6] (by kernel_rfl)
      clear hF hall
      simp only [List.foldl_cons, List.foldl_nil] at hact
      rw [g70, g71, g72, g73, g74, g75, g76, g77, g85, g86, g87, g88, g89, g90, g91, g92, g93, g94, g95, g96, g6] at hact
      clear g70 g71 g72 g73 g74 g75 g76 g77 g85 g86 g87 g88 g89 g90 g91 g92 g93 g94 g95 g96 g6
      generalize act.eval (.tmp 78) = u78 at hact g78
      generalize act.eval (.tmp 79) = u79 at hact g79
      generalize act.eval (.tmp 80) = u80 at hact g80
      generalize act.eval (.tmp 81) = u81 at hact g81
      generalize act.eval (.tmp 82) = u82 at hact g82
      generalize act.eval (.tmp 83) = u83 at hact g83
      generalize act.eval (.tmp 84) = u84 at hact g84
      simp only [List.setIfInBounds_toArray, List.set_cons_succ, List.set_cons_zero] at hact
      subst hact
      have hz2 : Below wy.heap.size wy wz := hI
      have HFIN := hidq (HLO2.out.trans (hz2.mono HLO2.out.size))
      clear hI hz2 HLO2 FC
      go_wp2_with fail
      go_ret
      exact ⟨rfl, HFIN.out⟩
    | true =>
      rw [h01] at H01
      rw [HT2.out h01] at H10
      cases h12 : l1.ahead l2 with
      | false =>
        rw [h12] at H12
        clear h01 h12
        go_wp2_with fail
        have hrefl : ∀ w : World, Reg.Keeps w w := Reg.Keeps.refl
        refine Reg.wp_region_props (Reg.ofList (ah10tfR g cp l0 l1 l2)) Reg.Keeps (fun _ w => Reg.Keeps wr w) (by kernel_rfl) (by kernel_rfl) (Reg.AllKept.at _ (ah10tfR_kept g cp l0 l1 l2)) hrefl (Reg.Keeps.drewN (Reg.Keeps.refl _) 1) ⟨?_, ?_, ?_, ?_, ?_, ?_, ?_, ?_, ?_, ?_, ?_, ?_, ?_, ?_, ?_, ?_, ?_, ?_, ?_, ?_, ?_, ?_, ?_, ?_, ?_, ?_, trivial⟩ ?_
        · refine Reg.StepAt.plain (i := 0) rfl ?_
          intro L ev w hI hk hp hA
          have e7 : ev (.tmp 7) = .slice (some ⟨g, 0, none⟩) 3 cp := hA.oldNone 7 (by kernel_rfl)
          have hcc := hA.const
          clear hA hp
          refine Reg.out_value (v := .slice (some ⟨g, 0, none⟩) 3 cp) ?_ ⟨rfl, hrefl _, hI⟩
          go_simp
        · refine Reg.StepAt.plain (i := 1) rfl ?_
          intro L ev w hI hk hp hA
          have e44 : ev (.tmp 44) = .slice (some ⟨g, 0, none⟩) 3 cp := hA.val 0 _ 44 rfl (hp ⟨0, .data⟩ (by simp) rfl) rfl
          have hcc := hA.const
          clear hA hp
          refine Reg.out_value (v := .pointer (some ⟨g, 0, none⟩)) ?_ ⟨rfl, hrefl _, hI⟩
          go_simp
        · refine Reg.StepAt.plain (i := 2) rfl ?_
          intro L ev w hI hk hp hA
          have e45 : ev (.tmp 45) = .pointer (some ⟨g, 0, none⟩) := hA.val 1 _ 45 rfl (hp ⟨1, .data⟩ (by simp) rfl) rfl
          have hcc := hA.const
          clear hA hp
          obtain ⟨m0, m1, m2, m3, m4, m5, m6, m7, m8, m9, m10, m11, m12, m13, m14, m15, m16, m17, m18, m19, m20, m21, m22, m23, m24, m25, m26, m27, m28, m29, m30, m31, m32, m33, m34, m35, ml⟩ := FC.out w hI
          refine Reg.out_value (v := .agg #[.int .i64 l0.thread, .int .i64 l0.kind, .float .f64 l0.pri, .int .i64 l0.val, .int .i64 l0.d0, .int .i64 l0.d1, .int .i64 l0.beg, .int .i64 l0.fin, .bool l0.ans.ok, .float .f64 l0.ans.pri, .int .i64 l0.ans.val, .int .i64 l0.ans.n]) ?_ ⟨rfl, hrefl _, hI⟩
          go_simp
        · refine Reg.StepAt.plain (i := 3) rfl ?_
          intro L ev w hI hk hp hA
          have e7 : ev (.tmp 7) = .slice (some ⟨g, 0, none⟩) 3 cp := hA.oldNone 7 (by kernel_rfl)
          have hcc := hA.const
          clear hA hp
          refine Reg.out_value (v := .slice (some ⟨g, 0, none⟩) 3 cp) ?_ ⟨rfl, hrefl _, hI⟩
          go_simp
        · refine Reg.StepAt.plain (i := 4) rfl ?_
          intro L ev w hI hk hp hA
          have e47 : ev (.tmp 47) = .slice (some ⟨g, 0, none⟩) 3 cp := hA.val 3 _ 47 rfl (hp ⟨3, .data⟩ (by simp) rfl) rfl
          have hcc := hA.const
          clear hA hp
          refine Reg.out_value (v := .pointer (some ⟨g, 12, none⟩)) ?_ ⟨rfl, hrefl _, hI⟩
          go_simp
        · refine Reg.StepAt.plain (i := 5) rfl ?_
          intro L ev w hI hk hp hA
          have e48 : ev (.tmp 48) = .pointer (some ⟨g, 12, none⟩) := hA.val 4 _ 48 rfl (hp ⟨4, .data⟩ (by simp) rfl) rfl
          have hcc := hA.const
          clear hA hp
          obtain ⟨m0, m1, m2, m3, m4, m5, m6, m7, m8, m9, m10, m11, m12, m13, m14, m15, m16, m17, m18, m19, m20, m21, m22, m23, m24, m25, m26, m27, m28, m29, m30, m31, m32, m33, m34, m35, ml⟩ := FC.out w hI
          refine Reg.out_value (v := .agg #[.int .i64 l1.thread, .int .i64 l1.kind, .float .f64 l1.pri, .int .i64 l1.val, .int .i64 l1.d0, .int .i64 l1.d1, .int .i64 l1.beg, .int .i64 l1.fin, .bool l1.ans.ok, .float .f64 l1.ans.pri, .int .i64 l1.ans.val, .int .i64 l1.ans.n]) ?_ ⟨rfl, hrefl _, hI⟩
          go_simp
        · refine Reg.StepAt.plain (i := 6) rfl ?_
          intro L ev w hI hk hp hA
          have e46 : ev (.tmp 46) = .agg #[.int .i64 l0.thread, .int .i64 l0.kind, .float .f64 l0.pri, .int .i64 l0.val, .int .i64 l0.d0, .int .i64 l0.d1, .int .i64 l0.beg, .int .i64 l0.fin, .bool l0.ans.ok, .float .f64 l0.ans.pri, .int .i64 l0.ans.val, .int .i64 l0.ans.n] := hA.val 2 _ 46 rfl (hp ⟨2, .data⟩ (by simp) rfl) rfl
          have e49 : ev (.tmp 49) = .agg #[.int .i64 l1.thread, .int .i64 l1.kind, .float .f64 l1.pri, .int .i64 l1.val, .int .i64 l1.d0, .int .i64 l1.d1, .int .i64 l1.beg, .int .i64 l1.fin, .bool l1.ans.ok, .float .f64 l1.ans.pri, .int .i64 l1.ans.val, .int .i64 l1.ans.n] := hA.val 5 _ 49 rfl (hp ⟨5, .data⟩ (by simp) rfl) rfl
          have hcc := hA.const
          have hcf := hA.func
          clear hA hp
          refine Reg.out_call (f := 56) (args := #[.agg #[.int .i64 l0.thread, .int .i64 l0.kind, .float .f64 l0.pri, .int .i64 l0.val, .int .i64 l0.d0, .int .i64 l0.d1, .int .i64 l0.beg, .int .i64 l0.fin, .bool l0.ans.ok, .float .f64 l0.ans.pri, .int .i64 l0.ans.val, .int .i64 l0.ans.n], .agg #[.int .i64 l1.thread, .int .i64 l1.kind, .float .f64 l1.pri, .int .i64 l1.val, .int .i64 l1.d0, .int .i64 l1.d1, .int .i64 l1.beg, .int .i64 l1.fin, .bool l1.ans.ok, .float .f64 l1.ans.pri, .int .i64 l1.ans.val, .int .i64 l1.ans.n]]) (w0 := w) ?_ ?_
          · go_simp
          refine (H01.out w).mono ?_
          rintro e w' ⟨rfl, hb'⟩
          exact ⟨_, rfl, rfl, hb', Reg.Keeps.trans hI hb'⟩
        · refine Reg.StepAt.plain (i := 7) rfl ?_
          intro L ev w hI hk hp hA
          have e50 : ev (.tmp 50) = .bool true := hA.val 6 _ 50 rfl (hp ⟨6, .data⟩ (by simp) rfl) rfl
          have hcc := hA.const
          clear hA hp
          refine Reg.out_value (v := .bool true) ?_ ⟨rfl, hrefl _, hI⟩
          go_simp
        · refine Reg.StepAt.guarded (i := 8) rfl ?_
          intro L ev w hI hk hp hA
          have e7 : ev (.tmp 7) = .slice (some ⟨g, 0, none⟩) 3 cp := hA.oldNone 7 (by kernel_rfl)
          have eg : ev (.tmp 51) = .bool true := hA.val 7 _ 51 rfl (hp ⟨7, .guard⟩ (by simp) rfl) rfl
          refine ⟨_, 51, true, rfl, rfl, eg, ?_⟩
          rw [if_pos rfl]
          have hcc := hA.const
          clear hA hp
          refine Reg.out_value (v := .slice (some ⟨g, 0, none⟩) 3 cp) ?_ ⟨rfl, hrefl _, hI⟩
          go_simp
        · refine Reg.StepAt.guarded (i := 9) rfl ?_
          intro L ev w hI hk hp hA
          have e52 : ev (.tmp 52) = .slice (some ⟨g, 0, none⟩) 3 cp := hA.val 8 _ 52 rfl (hp ⟨8, .data⟩ (by simp) rfl) rfl
          have eg : ev (.tmp 51) = .bool true := hA.val 7 _ 51 rfl (hp ⟨7, .guard⟩ (by simp) rfl) rfl
          refine ⟨_, 51, true, rfl, rfl, eg, ?_⟩
          rw [if_pos rfl]
          have hcc := hA.const
          clear hA hp
          refine Reg.out_value (v := .pointer (some ⟨g, 12, none⟩)) ?_ ⟨rfl, hrefl _, hI⟩
          go_simp
        · refine Reg.StepAt.guarded (i := 10) rfl ?_
          intro L ev w hI hk hp hA
          have e53 : ev (.tmp 53) = .pointer (some ⟨g, 12, none⟩) := hA.val 9 _ 53 rfl (hp ⟨9, .data⟩ (by simp) rfl) rfl
          have eg : ev (.tmp 51) = .bool true := hA.val 7 _ 51 rfl (hp ⟨7, .guard⟩ (by simp) rfl) rfl
          refine ⟨_, 51, true, rfl, rfl, eg, ?_⟩
          rw [if_pos rfl]
          have hcc := hA.const
          clear hA hp
          obtain ⟨m0, m1, m2, m3, m4, m5, m6, m7, m8, m9, m10, m11, m12, m13, m14, m15, m16, m17, m18, m19, m20, m21, m22, m23, m24, m25, m26, m27, m28, m29, m30, m31, m32, m33, m34, m35, ml⟩ := FC.out w hI
          refine Reg.out_value (v := .agg #[.int .i64 l1.thread, .int .i64 l1.kind, .float .f64 l1.pri, .int .i64 l1.val, .int .i64 l1.d0, .int .i64 l1.d1, .int .i64 l1.beg, .int .i64 l1.fin, .bool l1.ans.ok, .float .f64 l1.ans.pri, .int .i64 l1.ans.val, .int .i64 l1.ans.n]) ?_ ⟨rfl, hrefl _, hI⟩
          go_simp
        · refine Reg.StepAt.guarded (i := 11) rfl ?_
          intro L ev w hI hk hp hA
          have e7 : ev (.tmp 7) = .slice (some ⟨g, 0, none⟩) 3 cp := hA.oldNone 7 (by kernel_rfl)
          have eg : ev (.tmp 51) = .bool true := hA.val 7 _ 51 rfl (hp ⟨7, .guard⟩ (by simp) rfl) rfl
          refine ⟨_, 51, true, rfl, rfl, eg, ?_⟩
          rw [if_pos rfl]
          have hcc := hA.const
          clear hA hp
          refine Reg.out_value (v := .slice (some ⟨g, 0, none⟩) 3 cp) ?_ ⟨rfl, hrefl _, hI⟩
          go_simp
        · refine Reg.StepAt.guarded (i := 12) rfl ?_
          intro L ev w hI hk hp hA
          have e55 : ev (.tmp 55) = .slice (some ⟨g, 0, none⟩) 3 cp := hA.val 11 _ 55 rfl (hp ⟨11, .data⟩ (by simp) rfl) rfl
          have eg : ev (.tmp 51) = .bool true := hA.val 7 _ 51 rfl (hp ⟨7, .guard⟩ (by simp) rfl) rfl
          refine ⟨_, 51, true, rfl, rfl, eg, ?_⟩
          rw [if_pos rfl]
          have hcc := hA.const
          clear hA hp
          refine Reg.out_value (v := .pointer (some ⟨g, 24, none⟩)) ?_ ⟨rfl, hrefl _, hI⟩
          go_simp
        · refine Reg.StepAt.guarded (i := 13) rfl ?_
          intro L ev w hI hk hp hA
          have e56 : ev (.tmp 56) = .pointer (some ⟨g, 24, none⟩) := hA.val 12 _ 56 rfl (hp ⟨12, .data⟩ (by simp) rfl) rfl
          have eg : ev (.tmp 51) = .bool true := hA.val 7 _ 51 rfl (hp ⟨7, .guard⟩ (by simp) rfl) rfl
          refine ⟨_, 51, true, rfl, rfl, eg, ?_⟩
          rw [if_pos rfl]
          have hcc := hA.const
          clear hA hp
          obtain ⟨m0, m1, m2, m3, m4, m5, m6, m7, m8, m9, m10, m11, m12, m13, m14, m15, m16, m17, m18, m19, m20, m21, m22, m23, m24, m25, m26, m27, m28, m29, m30, m31, m32, m33, m34, m35, ml⟩ := FC.out w hI
          refine Reg.out_value (v := .agg #[.int .i64 l2.thread, .int .i64 l2.kind, .float .f64 l2.pri, .int .i64 l2.val, .int .i64 l2.d0, .int .i64 l2.d1, .int .i64 l2.beg, .int .i64 l2.fin, .bool l2.ans.ok, .float .f64 l2.ans.pri, .int .i64 l2.ans.val, .int .i64 l2.ans.n]) ?_ ⟨rfl, hrefl _, hI⟩
          go_simp
        · refine Reg.StepAt.guarded (i := 14) rfl ?_
          intro L ev w hI hk hp hA
          have e54 : ev (.tmp 54) = .agg #[.int .i64 l1.thread, .int .i64 l1.kind, .float .f64 l1.pri, .int .i64 l1.val, .int .i64 l1.d0, .int .i64 l1.d1, .int .i64 l1.beg, .int .i64 l1.fin, .bool l1.ans.ok, .float .f64 l1.ans.pri, .int .i64 l1.ans.val, .int .i64 l1.ans.n] := hA.val 10 _ 54 rfl (hp ⟨10, .data⟩ (by simp) rfl) rfl
          have e57 : ev (.tmp 57) = .agg #[.int .i64 l2.thread, .int .i64 l2.kind, .float .f64 l2.pri, .int .i64 l2.val, .int .i64 l2.d0, .int .i64 l2.d1, .int .i64 l2.beg, .int .i64 l2.fin, .bool l2.ans.ok, .float .f64 l2.ans.pri, .int .i64 l2.ans.val, .int .i64 l2.ans.n] := hA.val 13 _ 57 rfl (hp ⟨13, .data⟩ (by simp) rfl) rfl
          have eg : ev (.tmp 51) = .bool true := hA.val 7 _ 51 rfl (hp ⟨7, .chain⟩ (by simp) rfl) rfl
          refine ⟨_, 51, true, rfl, rfl, eg, ?_⟩
          rw [if_pos rfl]
          have hcc := hA.const
          have hcf := hA.func
          clear hA hp
          refine Reg.out_call (f := 56) (args := #[.agg #[.int .i64 l1.thread, .int .i64 l1.kind, .float .f64 l1.pri, .int .i64 l1.val, .int .i64 l1.d0, .int .i64 l1.d1, .int .i64 l1.beg, .int .i64 l1.fin, .bool l1.ans.ok, .float .f64 l1.ans.pri, .int .i64 l1.ans.val, .int .i64 l1.ans.n], .agg #[.int .i64 l2.thread, .int .i64 l2.kind, .float .f64 l2.pri, .int .i64 l2.val, .int .i64 l2.d0, .int .i64 l2.d1, .int .i64 l2.beg, .int .i64 l2.fin, .bool l2.ans.ok, .float .f64 l2.ans.pri, .int .i64 l2.ans.val, .int .i64 l2.ans.n]]) (w0 := w) ?_ ?_
          · go_simp
          refine (H12.out w).mono ?_
          rintro e w' ⟨rfl, hb'⟩
          exact ⟨_, rfl, rfl, hb', Reg.Keeps.trans hI hb'⟩
        · refine Reg.StepAt.plain (i := 15) rfl ?_
          intro L ev w hI hk hp hA
          have e51 : ev (.tmp 51) = .bool true := hA.val 7 _ 51 rfl (hp ⟨7, .data⟩ (by simp) rfl) rfl
          have e58 : ev (.tmp 58) = .bool false := hA.val 14 _ 58 rfl (hp ⟨14, .data⟩ (by simp) rfl) rfl
          have hcc := hA.const
          clear hA hp
          refine Reg.out_value (v := .bool false) ?_ ⟨rfl, hrefl _, hI⟩
          go_simp
        · refine Reg.StepAt.plain (i := 16) rfl ?_
          intro L ev w hI hk hp hA
          have e59 : ev (.tmp 59) = .bool false := hA.val 15 _ 59 rfl (hp ⟨15, .data⟩ (by simp) rfl) rfl
          have hcc := hA.const
          clear hA hp
          refine Reg.out_value (v := .bool false) ?_ ⟨rfl, hrefl _, hI⟩
          go_simp
        · refine Reg.StepAt.guarded (i := 17) rfl ?_
          intro L ev w hI hk hp hA
          have e7 : ev (.tmp 7) = .slice (some ⟨g, 0, none⟩) 3 cp := hA.oldNone 7 (by kernel_rfl)
          have eg : ev (.tmp 60) = .bool false := hA.val 16 _ 60 rfl (hp ⟨16, .guard⟩ (by simp) rfl) rfl
          refine ⟨_, 60, false, rfl, rfl, eg, ?_⟩
          rw [if_neg (by decide)]
          have hcc := hA.const
          clear hA hp
          exact ⟨rfl, hI⟩
        · refine Reg.StepAt.guarded (i := 18) rfl ?_
          intro L ev w hI hk hp hA
          have e61 : (fun v _ => v = undef) (ev (.tmp 61)) w := hA.val 17 _ 61 rfl (hp ⟨17, .data⟩ (by simp) rfl) rfl
          have eg : ev (.tmp 60) = .bool false := hA.val 16 _ 60 rfl (hp ⟨16, .guard⟩ (by simp) rfl) rfl
          refine ⟨_, 60, false, rfl, rfl, eg, ?_⟩
          rw [if_neg (by decide)]
          have hcc := hA.const
          clear hA hp
          exact ⟨rfl, hI⟩
        · refine Reg.StepAt.guarded (i := 19) rfl ?_
          intro L ev w hI hk hp hA
          have e62 : (fun v _ => v = undef) (ev (.tmp 62)) w := hA.val 18 _ 62 rfl (hp ⟨18, .data⟩ (by simp) rfl) rfl
          have eg : ev (.tmp 60) = .bool false := hA.val 16 _ 60 rfl (hp ⟨16, .guard⟩ (by simp) rfl) rfl
          refine ⟨_, 60, false, rfl, rfl, eg, ?_⟩
          rw [if_neg (by decide)]
          have hcc := hA.const
          clear hA hp
          exact ⟨rfl, hI⟩
        · refine Reg.StepAt.guarded (i := 20) rfl ?_
          intro L ev w hI hk hp hA
          have e7 : ev (.tmp 7) = .slice (some ⟨g, 0, none⟩) 3 cp := hA.oldNone 7 (by kernel_rfl)
          have eg : ev (.tmp 60) = .bool false := hA.val 16 _ 60 rfl (hp ⟨16, .guard⟩ (by simp) rfl) rfl
          refine ⟨_, 60, false, rfl, rfl, eg, ?_⟩
          rw [if_neg (by decide)]
          have hcc := hA.const
          clear hA hp
          exact ⟨rfl, hI⟩
        · refine Reg.StepAt.guarded (i := 21) rfl ?_
          intro L ev w hI hk hp hA
          have e64 : (fun v _ => v = undef) (ev (.tmp 64)) w := hA.val 20 _ 64 rfl (hp ⟨20, .data⟩ (by simp) rfl) rfl
          have eg : ev (.tmp 60) = .bool false := hA.val 16 _ 60 rfl (hp ⟨16, .guard⟩ (by simp) rfl) rfl
          refine ⟨_, 60, false, rfl, rfl, eg, ?_⟩
          rw [if_neg (by decide)]
          have hcc := hA.const
          clear hA hp
          exact ⟨rfl, hI⟩
        · refine Reg.StepAt.guarded (i := 22) rfl ?_
          intro L ev w hI hk hp hA
          have e65 : (fun v _ => v = undef) (ev (.tmp 65)) w := hA.val 21 _ 65 rfl (hp ⟨21, .data⟩ (by simp) rfl) rfl
          have eg : ev (.tmp 60) = .bool false := hA.val 16 _ 60 rfl (hp ⟨16, .guard⟩ (by simp) rfl) rfl
          refine ⟨_, 60, false, rfl, rfl, eg, ?_⟩
          rw [if_neg (by decide)]
          have hcc := hA.const
          clear hA hp
          exact ⟨rfl, hI⟩
        · refine Reg.StepAt.guarded (i := 23) rfl ?_
          intro L ev w hI hk hp hA
          have e63 : (fun v _ => v = undef) (ev (.tmp 63)) w := hA.val 19 _ 63 rfl (hp ⟨19, .data⟩ (by simp) rfl) rfl
          have e66 : (fun v _ => v = undef) (ev (.tmp 66)) w := hA.val 22 _ 66 rfl (hp ⟨22, .data⟩ (by simp) rfl) rfl
          have eg : ev (.tmp 60) = .bool false := hA.val 16 _ 60 rfl (hp ⟨16, .chain⟩ (by simp) rfl) rfl
          refine ⟨_, 60, false, rfl, rfl, eg, ?_⟩
          rw [if_neg (by decide)]
          have hcc := hA.const
          have hcf := hA.func
          clear hA hp
          exact ⟨rfl, hI⟩
        · refine Reg.StepAt.guarded (i := 24) rfl ?_
          intro L ev w hI hk hp hA
          have e67 : (fun v _ => v = undef) (ev (.tmp 67)) w := hA.val 23 _ 67 rfl (hp ⟨23, .data⟩ (by simp) rfl) rfl
          have eg : ev (.tmp 60) = .bool false := hA.val 16 _ 60 rfl (hp ⟨16, .guard⟩ (by simp) rfl) rfl
          refine ⟨_, 60, false, rfl, rfl, eg, ?_⟩
          rw [if_neg (by decide)]
          have hcc := hA.const
          clear hA hp
          exact ⟨rfl, hI⟩
        · refine Reg.StepAt.plain (i := 25) rfl ?_
          intro L ev w hI hk hp hA
          have e60 : ev (.tmp 60) = .bool false := hA.val 16 _ 60 rfl (hp ⟨16, .data⟩ (by simp) rfl) rfl
          have e68 : (fun v _ => v = undef) (ev (.tmp 68)) w := hA.val 24 _ 68 rfl (hp ⟨24, .data⟩ (by simp) rfl) rfl
          have hcc := hA.const
          clear hA hp
          refine Reg.out_value (v := .bool false) ?_ ⟨rfl, hrefl _, hI⟩
          go_simp
        intro L act wz hall hI hF
        have g44 : act.eval (.tmp 44) = .slice (some ⟨g, 0, none⟩) 3 cp := hF.val 0 _ 44 rfl (hall 0 (by simp)) rfl
        have g45 : act.eval (.tmp 45) = .pointer (some ⟨g, 0, none⟩) := hF.val 1 _ 45 rfl (hall 1 (by simp)) rfl
        have g46 : act.eval (.tmp 46) = .agg #[.int .i64 l0.thread, .int .i64 l0.kind, .float .f64 l0.pri, .int .i64 l0.val, .int .i64 l0.d0, .int .i64 l0.d1, .int .i64 l0.beg, .int .i64 l0.fin, .bool l0.ans.ok, .float .f64 l0.ans.pri, .int .i64 l0.ans.val, .int .i64 l0.ans.n] := hF.val 2 _ 46 rfl (hall 2 (by simp)) rfl
        have g47 : act.eval (.tmp 47) = .slice (some ⟨g, 0, none⟩) 3 cp := hF.val 3 _ 47 rfl (hall 3 (by simp)) rfl
        have g48 : act.eval (.tmp 48) = .pointer (some ⟨g, 12, none⟩) := hF.val 4 _ 48 rfl (hall 4 (by simp)) rfl
        have g49 : act.eval (.tmp 49) = .agg #[.int .i64 l1.thread, .int .i64 l1.kind, .float .f64 l1.pri, .int .i64 l1.val, .int .i64 l1.d0, .int .i64 l1.d1, .int .i64 l1.beg, .int .i64 l1.fin, .bool l1.ans.ok, .float .f64 l1.ans.pri, .int .i64 l1.ans.val, .int .i64 l1.ans.n] := hF.val 5 _ 49 rfl (hall 5 (by simp)) rfl
        have g50 : act.eval (.tmp 50) = .bool true := hF.val 6 _ 50 rfl (hall 6 (by simp)) rfl
        have g51 : act.eval (.tmp 51) = .bool true := hF.val 7 _ 51 rfl (hall 7 (by simp)) rfl
        have g52 : act.eval (.tmp 52) = .slice (some ⟨g, 0, none⟩) 3 cp := hF.val 8 _ 52 rfl (hall 8 (by simp)) rfl
        have g53 : act.eval (.tmp 53) = .pointer (some ⟨g, 12, none⟩) := hF.val 9 _ 53 rfl (hall 9 (by simp)) rfl
        have g54 : act.eval (.tmp 54) = .agg #[.int .i64 l1.thread, .int .i64 l1.kind, .float .f64 l1.pri, .int .i64 l1.val, .int .i64 l1.d0, .int .i64 l1.d1, .int .i64 l1.beg, .int .i64 l1.fin, .bool l1.ans.ok, .float .f64 l1.ans.pri, .int .i64 l1.ans.val, .int .i64 l1.ans.n] := hF.val 10 _ 54 rfl (hall 10 (by simp)) rfl
        have g55 : act.eval (.tmp 55) = .slice (some ⟨g, 0, none⟩) 3 cp := hF.val 11 _ 55 rfl (hall 11 (by simp)) rfl
        have g56 : act.eval (.tmp 56) = .pointer (some ⟨g, 24, none⟩) := hF.val 12 _ 56 rfl (hall 12 (by simp)) rfl
        have g57 : act.eval (.tmp 57) = .agg #[.int .i64 l2.thread, .int .i64 l2.kind, .float .f64 l2.pri, .int .i64 l2.val, .int .i64 l2.d0, .int .i64 l2.d1, .int .i64 l2.beg, .int .i64 l2.fin, .bool l2.ans.ok, .float .f64 l2.ans.pri, .int .i64 l2.ans.val, .int .i64 l2.ans.n] := hF.val 13 _ 57 rfl (hall 13 (by simp)) rfl
        have g58 : act.eval (.tmp 58) = .bool false := hF.val 14 _ 58 rfl (hall 14 (by simp)) rfl
        have g59 : act.eval (.tmp 59) = .bool false := hF.val 15 _ 59 rfl (hall 15 (by simp)) rfl
        have g60 : act.eval (.tmp 60) = .bool false := hF.val 16 _ 60 rfl (hall 16 (by simp)) rfl
        have g61 : (fun v _ => v = undef) (act.eval (.tmp 61)) wz := hF.val 17 _ 61 rfl (hall 17 (by simp)) rfl
        have g62 : (fun v _ => v = undef) (act.eval (.tmp 62)) wz := hF.val 18 _ 62 rfl (hall 18 (by simp)) rfl
        have g63 : (fun v _ => v = undef) (act.eval (.tmp 63)) wz := hF.val 19 _ 63 rfl (hall 19 (by simp)) rfl
        have g64 : (fun v _ => v = undef) (act.eval (.tmp 64)) wz := hF.val 20 _ 64 rfl (hall 20 (by simp)) rfl
        have g65 : (fun v _ => v = undef) (act.eval (.tmp 65)) wz := hF.val 21 _ 65 rfl (hall 21 (by simp)) rfl
        have g66 : (fun v _ => v = undef) (act.eval (.tmp 66)) wz := hF.val 22 _ 66 rfl (hall 22 (by simp)) rfl
        have g67 : (fun v _ => v = undef) (act.eval (.tmp 67)) wz := hF.val 23 _ 67 rfl (hall 23 (by simp)) rfl
        have g68 : (fun v _ => v = undef) (act.eval (.tmp 68)) wz := hF.val 24 _ 68 rfl (hall 24 (by simp)) rfl
        have g69 : act.eval (.tmp 69) = .bool false := hF.val 25 _ 69 rfl (hall 25 (by simp)) rfl
        have hact := hF.act [44, 45, 46, 47, 48, 49, 50, 51, 52, 53, 54, 55, 56, 57, 58, 59, 60, 61, 62, 63, 64, 65, 66, 67, 68, 69] (by kernel_rfl)
        clear hF hall
        simp only [List.foldl_cons, List.foldl_nil] at hact
        rw [g44, g45, g46, g47, g48, g49, g50, g51, g52, g53, g54, g55, g56, g57, g58, g59, g60, g69] at hact
        clear g44 g45 g46 g47 g48 g49 g50 g51 g52 g53 g54 g55 g56 g57 g58 g59 g60 g69
        generalize act.eval (.tmp 61) = u61 at hact g61
        generalize act.eval (.tmp 62) = u62 at hact g62
        generalize act.eval (.tmp 63) = u63 at hact g63
        generalize act.eval (.tmp 64) = u64 at hact g64
        generalize act.eval (.tmp 65) = u65 at hact g65
        generalize act.eval (.tmp 66) = u66 at hact g66
        generalize act.eval (.tmp 67) = u67 at hact g67
        generalize act.eval (.tmp 68) = u68 at hact g68
        simp only [List.setIfInBounds_toArray, List.set_cons_succ, List.set_cons_zero] at hact
        subst hact
        have hz1 : Below wr.heap.size wr wz := hI
        clear hI
        obtain ⟨wy, hwy⟩ : ∃ wy, wy = wz := ⟨wz, rfl⟩
        subst hwy
        have FC1 := FC
        clear FC
        have FC := hidq (fun W (hW : Below wy.heap.size wy W) => FC1.out W (hz1.trans (hW.mono hz1.size)))
        have HLO2 := hidq (HLO.out.trans (hz1.mono HLO.out.size))
        clear hz1 FC1 HLO
        go_wp2_with fail
        have hrefl : ∀ w : World, Reg.Keeps w w := Reg.Keeps.refl
        refine Reg.wp_region_props (Reg.ofList (ah12tR g cp l0 l1)) Reg.Keeps (fun _ w => Reg.Keeps wy w) (by kernel_rfl) (by kernel_rfl) (Reg.AllKept.at _ (ah12tR_kept g cp l0 l1)) hrefl (Reg.Keeps.drewN (Reg.Keeps.refl _) 1) ⟨?_, ?_, ?_, ?_, ?_, ?_, ?_, ?_, ?_, ?_, ?_, ?_, ?_, ?_, ?_, ?_, ?_, ?_, ?_, ?_, ?_, ?_, ?_, ?_, ?_, ?_, ?_, ?_, trivial⟩ ?_
        · refine Reg.StepAt.plain (i := 0) rfl ?_
          intro L ev w hI hk hp hA
          have e7 : ev (.tmp 7) = .slice (some ⟨g, 0, none⟩) 3 cp := hA.oldNone 7 (by kernel_rfl)
          have hcc := hA.const
          clear hA hp
          refine Reg.out_value (v := .slice (some ⟨g, 0, none⟩) 3 cp) ?_ ⟨rfl, hrefl _, hI⟩
          go_simp
        · refine Reg.StepAt.plain (i := 1) rfl ?_
          intro L ev w hI hk hp hA
          have e70 : ev (.tmp 70) = .slice (some ⟨g, 0, none⟩) 3 cp := hA.val 0 _ 70 rfl (hp ⟨0, .data⟩ (by simp) rfl) rfl
          have hcc := hA.const
          clear hA hp
          refine Reg.out_value (v := .pointer (some ⟨g, 0, none⟩)) ?_ ⟨rfl, hrefl _, hI⟩
          go_simp
        · refine Reg.StepAt.plain (i := 2) rfl ?_
          intro L ev w hI hk hp hA
          have e71 : ev (.tmp 71) = .pointer (some ⟨g, 0, none⟩) := hA.val 1 _ 71 rfl (hp ⟨1, .data⟩ (by simp) rfl) rfl
          have hcc := hA.const
          clear hA hp
          obtain ⟨m0, m1, m2, m3, m4, m5, m6, m7, m8, m9, m10, m11, m12, m13, m14, m15, m16, m17, m18, m19, m20, m21, m22, m23, m24, m25, m26, m27, m28, m29, m30, m31, m32, m33, m34, m35, ml⟩ := FC.out w hI
          refine Reg.out_value (v := .agg #[.int .i64 l0.thread, .int .i64 l0.kind, .float .f64 l0.pri, .int .i64 l0.val, .int .i64 l0.d0, .int .i64 l0.d1, .int .i64 l0.beg, .int .i64 l0.fin, .bool l0.ans.ok, .float .f64 l0.ans.pri, .int .i64 l0.ans.val, .int .i64 l0.ans.n]) ?_ ⟨rfl, hrefl _, hI⟩
          go_simp
        · refine Reg.StepAt.plain (i := 3) rfl ?_
          intro L ev w hI hk hp hA
          have e7 : ev (.tmp 7) = .slice (some ⟨g, 0, none⟩) 3 cp := hA.oldNone 7 (by kernel_rfl)
          have hcc := hA.const
          clear hA hp
          refine Reg.out_value (v := .slice (some ⟨g, 0, none⟩) 3 cp) ?_ ⟨rfl, hrefl _, hI⟩
          go_simp
        · refine Reg.StepAt.plain (i := 4) rfl ?_
          intro L ev w hI hk hp hA
          have e73 : ev (.tmp 73) = .slice (some ⟨g, 0, none⟩) 3 cp := hA.val 3 _ 73 rfl (hp ⟨3, .data⟩ (by simp) rfl) rfl
          have hcc := hA.const
          clear hA hp
          refine Reg.out_value (v := .pointer (some ⟨g, 12, none⟩)) ?_ ⟨rfl, hrefl _, hI⟩
          go_simp
        · refine Reg.StepAt.plain (i := 5) rfl ?_
          intro L ev w hI hk hp hA
          have e74 : ev (.tmp 74) = .pointer (some ⟨g, 12, none⟩) := hA.val 4 _ 74 rfl (hp ⟨4, .data⟩ (by simp) rfl) rfl
          have hcc := hA.const
          clear hA hp
          obtain ⟨m0, m1, m2, m3, m4, m5, m6, m7, m8, m9, m10, m11, m12, m13, m14, m15, m16, m17, m18, m19, m20, m21, m22, m23, m24, m25, m26, m27, m28, m29, m30, m31, m32, m33, m34, m35, ml⟩ := FC.out w hI
          refine Reg.out_value (v := .agg #[.int .i64 l1.thread, .int .i64 l1.kind, .float .f64 l1.pri, .int .i64 l1.val, .int .i64 l1.d0, .int .i64 l1.d1, .int .i64 l1.beg, .int .i64 l1.fin, .bool l1.ans.ok, .float .f64 l1.ans.pri, .int .i64 l1.ans.val, .int .i64 l1.ans.n]) ?_ ⟨rfl, hrefl _, hI⟩
          go_simp
        · refine Reg.StepAt.plain (i := 6) rfl ?_
          intro L ev w hI hk hp hA
          have e72 : ev (.tmp 72) = .agg #[.int .i64 l0.thread, .int .i64 l0.kind, .float .f64 l0.pri, .int .i64 l0.val, .int .i64 l0.d0, .int .i64 l0.d1, .int .i64 l0.beg, .int .i64 l0.fin, .bool l0.ans.ok, .float .f64 l0.ans.pri, .int .i64 l0.ans.val, .int .i64 l0.ans.n] := hA.val 2 _ 72 rfl (hp ⟨2, .data⟩ (by simp) rfl) rfl
          have e75 : ev (.tmp 75) = .agg #[.int .i64 l1.thread, .int .i64 l1.kind, .float .f64 l1.pri, .int .i64 l1.val, .int .i64 l1.d0, .int .i64 l1.d1, .int .i64 l1.beg, .int .i64 l1.fin, .bool l1.ans.ok, .float .f64 l1.ans.pri, .int .i64 l1.ans.val, .int .i64 l1.ans.n] := hA.val 5 _ 75 rfl (hp ⟨5, .data⟩ (by simp) rfl) rfl
          have hcc := hA.const
          have hcf := hA.func
          clear hA hp
          refine Reg.out_call (f := 56) (args := #[.agg #[.int .i64 l0.thread, .int .i64 l0.kind, .float .f64 l0.pri, .int .i64 l0.val, .int .i64 l0.d0, .int .i64 l0.d1, .int .i64 l0.beg, .int .i64 l0.fin, .bool l0.ans.ok, .float .f64 l0.ans.pri, .int .i64 l0.ans.val, .int .i64 l0.ans.n], .agg #[.int .i64 l1.thread, .int .i64 l1.kind, .float .f64 l1.pri, .int .i64 l1.val, .int .i64 l1.d0, .int .i64 l1.d1, .int .i64 l1.beg, .int .i64 l1.fin, .bool l1.ans.ok, .float .f64 l1.ans.pri, .int .i64 l1.ans.val, .int .i64 l1.ans.n]]) (w0 := w) ?_ ?_
          · go_simp
          refine (H01.out w).mono ?_
          rintro e w' ⟨rfl, hb'⟩
          exact ⟨_, rfl, rfl, hb', Reg.Keeps.trans hI hb'⟩
        · refine Reg.StepAt.plain (i := 7) rfl ?_
          intro L ev w hI hk hp hA
          have e76 : ev (.tmp 76) = .bool true := hA.val 6 _ 76 rfl (hp ⟨6, .data⟩ (by simp) rfl) rfl
          have hcc := hA.const
          clear hA hp
          refine Reg.out_value (v := .bool true) ?_ ⟨rfl, hrefl _, hI⟩
          go_simp
        · refine Reg.StepAt.guarded (i := 8) rfl ?_
          intro L ev w hI hk hp hA
          have e7 : ev (.tmp 7) = .slice (some ⟨g, 0, none⟩) 3 cp := hA.oldNone 7 (by kernel_rfl)
          have eg : ev (.tmp 77) = .bool true := hA.val 7 _ 77 rfl (hp ⟨7, .guard⟩ (by simp) rfl) rfl
          refine ⟨_, 77, true, rfl, rfl, eg, ?_⟩
          rw [if_pos rfl]
          have hcc := hA.const
          clear hA hp
          refine Reg.out_value (v := .slice (some ⟨g, 0, none⟩) 3 cp) ?_ ⟨rfl, hrefl _, hI⟩
          go_simp
        · refine Reg.StepAt.guarded (i := 9) rfl ?_
          intro L ev w hI hk hp hA
          have e78 : ev (.tmp 78) = .slice (some ⟨g, 0, none⟩) 3 cp := hA.val 8 _ 78 rfl (hp ⟨8, .data⟩ (by simp) rfl) rfl
          have eg : ev (.tmp 77) = .bool true := hA.val 7 _ 77 rfl (hp ⟨7, .guard⟩ (by simp) rfl) rfl
          refine ⟨_, 77, true, rfl, rfl, eg, ?_⟩
          rw [if_pos rfl]
          have hcc := hA.const
          clear hA hp
          refine Reg.out_value (v := .pointer (some ⟨g, 12, none⟩)) ?_ ⟨rfl, hrefl _, hI⟩
          go_simp
        · refine Reg.StepAt.guarded (i := 10) rfl ?_
          intro L ev w hI hk hp hA
          have e79 : ev (.tmp 79) = .pointer (some ⟨g, 12, none⟩) := hA.val 9 _ 79 rfl (hp ⟨9, .data⟩ (by simp) rfl) rfl
          have eg : ev (.tmp 77) = .bool true := hA.val 7 _ 77 rfl (hp ⟨7, .guard⟩ (by simp) rfl) rfl
          refine ⟨_, 77, true, rfl, rfl, eg, ?_⟩
          rw [if_pos rfl]
          have hcc := hA.const
          clear hA hp
          obtain ⟨m0, m1, m2, m3, m4, m5, m6, m7, m8, m9, m10, m11, m12, m13, m14, m15, m16, m17, m18, m19, m20, m21, m22, m23, m24, m25, m26, m27, m28, m29, m30, m31, m32, m33, m34, m35, ml⟩ := FC.out w hI
          refine Reg.out_value (v := .agg #[.int .i64 l1.thread, .int .i64 l1.kind, .float .f64 l1.pri, .int .i64 l1.val, .int .i64 l1.d0, .int .i64 l1.d1, .int .i64 l1.beg, .int .i64 l1.fin, .bool l1.ans.ok, .float .f64 l1.ans.pri, .int .i64 l1.ans.val, .int .i64 l1.ans.n]) ?_ ⟨rfl, hrefl _, hI⟩
          go_simp
        · refine Reg.StepAt.guarded (i := 11) rfl ?_
          intro L ev w hI hk hp hA
          have e7 : ev (.tmp 7) = .slice (some ⟨g, 0, none⟩) 3 cp := hA.oldNone 7 (by kernel_rfl)
          have eg : ev (.tmp 77) = .bool true := hA.val 7 _ 77 rfl (hp ⟨7, .guard⟩ (by simp) rfl) rfl
          refine ⟨_, 77, true, rfl, rfl, eg, ?_⟩
          rw [if_pos rfl]
          have hcc := hA.const
          clear hA hp
          refine Reg.out_value (v := .slice (some ⟨g, 0, none⟩) 3 cp) ?_ ⟨rfl, hrefl _, hI⟩
          go_simp
        · refine Reg.StepAt.guarded (i := 12) rfl ?_
          intro L ev w hI hk hp hA
          have e81 : ev (.tmp 81) = .slice (some ⟨g, 0, none⟩) 3 cp := hA.val 11 _ 81 rfl (hp ⟨11, .data⟩ (by simp) rfl) rfl
          have eg : ev (.tmp 77) = .bool true := hA.val 7 _ 77 rfl (hp ⟨7, .guard⟩ (by simp) rfl) rfl
          refine ⟨_, 77, true, rfl, rfl, eg, ?_⟩
          rw [if_pos rfl]
          have hcc := hA.const
          clear hA hp
          refine Reg.out_value (v := .pointer (some ⟨g, 0, none⟩)) ?_ ⟨rfl, hrefl _, hI⟩
          go_simp
        · refine Reg.StepAt.guarded (i := 13) rfl ?_
          intro L ev w hI hk hp hA
          have e82 : ev (.tmp 82) = .pointer (some ⟨g, 0, none⟩) := hA.val 12 _ 82 rfl (hp ⟨12, .data⟩ (by simp) rfl) rfl
          have eg : ev (.tmp 77) = .bool true := hA.val 7 _ 77 rfl (hp ⟨7, .guard⟩ (by simp) rfl) rfl
          refine ⟨_, 77, true, rfl, rfl, eg, ?_⟩
          rw [if_pos rfl]
          have hcc := hA.const
          clear hA hp
          obtain ⟨m0, m1, m2, m3, m4, m5, m6, m7, m8, m9, m10, m11, m12, m13, m14, m15, m16, m17, m18, m19, m20, m21, m22, m23, m24, m25, m26, m27, m28, m29, m30, m31, m32, m33, m34, m35, ml⟩ := FC.out w hI
          refine Reg.out_value (v := .agg #[.int .i64 l0.thread, .int .i64 l0.kind, .float .f64 l0.pri, .int .i64 l0.val, .int .i64 l0.d0, .int .i64 l0.d1, .int .i64 l0.beg, .int .i64 l0.fin, .bool l0.ans.ok, .float .f64 l0.ans.pri, .int .i64 l0.ans.val, .int .i64 l0.ans.n]) ?_ ⟨rfl, hrefl _, hI⟩
          go_simp
        · refine Reg.StepAt.guarded (i := 14) rfl ?_
          intro L ev w hI hk hp hA
          have e80 : ev (.tmp 80) = .agg #[.int .i64 l1.thread, .int .i64 l1.kind, .float .f64 l1.pri, .int .i64 l1.val, .int .i64 l1.d0, .int .i64 l1.d1, .int .i64 l1.beg, .int .i64 l1.fin, .bool l1.ans.ok, .float .f64 l1.ans.pri, .int .i64 l1.ans.val, .int .i64 l1.ans.n] := hA.val 10 _ 80 rfl (hp ⟨10, .data⟩ (by simp) rfl) rfl
          have e83 : ev (.tmp 83) = .agg #[.int .i64 l0.thread, .int .i64 l0.kind, .float .f64 l0.pri, .int .i64 l0.val, .int .i64 l0.d0, .int .i64 l0.d1, .int .i64 l0.beg, .int .i64 l0.fin, .bool l0.ans.ok, .float .f64 l0.ans.pri, .int .i64 l0.ans.val, .int .i64 l0.ans.n] := hA.val 13 _ 83 rfl (hp ⟨13, .data⟩ (by simp) rfl) rfl
          have eg : ev (.tmp 77) = .bool true := hA.val 7 _ 77 rfl (hp ⟨7, .chain⟩ (by simp) rfl) rfl
          refine ⟨_, 77, true, rfl, rfl, eg, ?_⟩
          rw [if_pos rfl]
          have hcc := hA.const
          have hcf := hA.func
          clear hA hp
          refine Reg.out_call (f := 56) (args := #[.agg #[.int .i64 l1.thread, .int .i64 l1.kind, .float .f64 l1.pri, .int .i64 l1.val, .int .i64 l1.d0, .int .i64 l1.d1, .int .i64 l1.beg, .int .i64 l1.fin, .bool l1.ans.ok, .float .f64 l1.ans.pri, .int .i64 l1.ans.val, .int .i64 l1.ans.n], .agg #[.int .i64 l0.thread, .int .i64 l0.kind, .float .f64 l0.pri, .int .i64 l0.val, .int .i64 l0.d0, .int .i64 l0.d1, .int .i64 l0.beg, .int .i64 l0.fin, .bool l0.ans.ok, .float .f64 l0.ans.pri, .int .i64 l0.ans.val, .int .i64 l0.ans.n]]) (w0 := w) ?_ ?_
          · go_simp
          refine (H10.out w).mono ?_
          rintro e w' ⟨rfl, hb'⟩
          exact ⟨_, rfl, rfl, hb', Reg.Keeps.trans hI hb'⟩
        · refine Reg.StepAt.plain (i := 15) rfl ?_
          intro L ev w hI hk hp hA
          have e77 : ev (.tmp 77) = .bool true := hA.val 7 _ 77 rfl (hp ⟨7, .data⟩ (by simp) rfl) rfl
          have e84 : ev (.tmp 84) = .bool false := hA.val 14 _ 84 rfl (hp ⟨14, .data⟩ (by simp) rfl) rfl
          have hcc := hA.const
          clear hA hp
          refine Reg.out_value (v := .bool false) ?_ ⟨rfl, hrefl _, hI⟩
          go_simp
        · refine Reg.StepAt.plain (i := 16) rfl ?_
          intro L ev w hI hk hp hA
          have e85 : ev (.tmp 85) = .bool false := hA.val 15 _ 85 rfl (hp ⟨15, .data⟩ (by simp) rfl) rfl
          have hcc := hA.const
          clear hA hp
          refine Reg.out_value (v := .bool true) ?_ ⟨rfl, hrefl _, hI⟩
          go_simp
        · refine Reg.StepAt.plain (i := 17) rfl ?_
          intro L ev w hI hk hp hA
          have e86 : ev (.tmp 86) = .bool true := hA.val 16 _ 86 rfl (hp ⟨16, .data⟩ (by simp) rfl) rfl
          have hcc := hA.const
          clear hA hp
          refine Reg.out_value (v := .bool true) ?_ ⟨rfl, hrefl _, hI⟩
          go_simp
        · refine Reg.StepAt.guarded (i := 18) rfl ?_
          intro L ev w hI hk hp hA
          have e7 : ev (.tmp 7) = .slice (some ⟨g, 0, none⟩) 3 cp := hA.oldNone 7 (by kernel_rfl)
          have eg : ev (.tmp 87) = .bool true := hA.val 17 _ 87 rfl (hp ⟨17, .guard⟩ (by simp) rfl) rfl
          refine ⟨_, 87, true, rfl, rfl, eg, ?_⟩
          rw [if_pos rfl]
          have hcc := hA.const
          clear hA hp
          refine Reg.out_value (v := .slice (some ⟨g, 0, none⟩) 3 cp) ?_ ⟨rfl, hrefl _, hI⟩
          go_simp
        · refine Reg.StepAt.guarded (i := 19) rfl ?_
          intro L ev w hI hk hp hA
          have e88 : ev (.tmp 88) = .slice (some ⟨g, 0, none⟩) 3 cp := hA.val 18 _ 88 rfl (hp ⟨18, .data⟩ (by simp) rfl) rfl
          have eg : ev (.tmp 87) = .bool true := hA.val 17 _ 87 rfl (hp ⟨17, .guard⟩ (by simp) rfl) rfl
          refine ⟨_, 87, true, rfl, rfl, eg, ?_⟩
          rw [if_pos rfl]
          have hcc := hA.const
          clear hA hp
          refine Reg.out_value (v := .pointer (some ⟨g, 0, none⟩)) ?_ ⟨rfl, hrefl _, hI⟩
          go_simp
        · refine Reg.StepAt.guarded (i := 20) rfl ?_
          intro L ev w hI hk hp hA
          have e89 : ev (.tmp 89) = .pointer (some ⟨g, 0, none⟩) := hA.val 19 _ 89 rfl (hp ⟨19, .data⟩ (by simp) rfl) rfl
          have eg : ev (.tmp 87) = .bool true := hA.val 17 _ 87 rfl (hp ⟨17, .guard⟩ (by simp) rfl) rfl
          refine ⟨_, 87, true, rfl, rfl, eg, ?_⟩
          rw [if_pos rfl]
          have hcc := hA.const
          clear hA hp
          obtain ⟨m0, m1, m2, m3, m4, m5, m6, m7, m8, m9, m10, m11, m12, m13, m14, m15, m16, m17, m18, m19, m20, m21, m22, m23, m24, m25, m26, m27, m28, m29, m30, m31, m32, m33, m34, m35, ml⟩ := FC.out w hI
          refine Reg.out_value (v := .agg #[.int .i64 l0.thread, .int .i64 l0.kind, .float .f64 l0.pri, .int .i64 l0.val, .int .i64 l0.d0, .int .i64 l0.d1, .int .i64 l0.beg, .int .i64 l0.fin, .bool l0.ans.ok, .float .f64 l0.ans.pri, .int .i64 l0.ans.val, .int .i64 l0.ans.n]) ?_ ⟨rfl, hrefl _, hI⟩
          go_simp
        · refine Reg.StepAt.guarded (i := 21) rfl ?_
          intro L ev w hI hk hp hA
          have e7 : ev (.tmp 7) = .slice (some ⟨g, 0, none⟩) 3 cp := hA.oldNone 7 (by kernel_rfl)
          have eg : ev (.tmp 87) = .bool true := hA.val 17 _ 87 rfl (hp ⟨17, .guard⟩ (by simp) rfl) rfl
          refine ⟨_, 87, true, rfl, rfl, eg, ?_⟩
          rw [if_pos rfl]
          have hcc := hA.const
          clear hA hp
          refine Reg.out_value (v := .slice (some ⟨g, 0, none⟩) 3 cp) ?_ ⟨rfl, hrefl _, hI⟩
          go_simp
        · refine Reg.StepAt.guarded (i := 22) rfl ?_
          intro L ev w hI hk hp hA
          have e91 : ev (.tmp 91) = .slice (some ⟨g, 0, none⟩) 3 cp := hA.val 21 _ 91 rfl (hp ⟨21, .data⟩ (by simp) rfl) rfl
          have eg : ev (.tmp 87) = .bool true := hA.val 17 _ 87 rfl (hp ⟨17, .guard⟩ (by simp) rfl) rfl
          refine ⟨_, 87, true, rfl, rfl, eg, ?_⟩
          rw [if_pos rfl]
          have hcc := hA.const
          clear hA hp
          refine Reg.out_value (v := .pointer (some ⟨g, 0, none⟩)) ?_ ⟨rfl, hrefl _, hI⟩
          go_simp
        · refine Reg.StepAt.guarded (i := 23) rfl ?_
          intro L ev w hI hk hp hA
          have e92 : ev (.tmp 92) = .pointer (some ⟨g, 0, none⟩) := hA.val 22 _ 92 rfl (hp ⟨22, .data⟩ (by simp) rfl) rfl
          have eg : ev (.tmp 87) = .bool true := hA.val 17 _ 87 rfl (hp ⟨17, .guard⟩ (by simp) rfl) rfl
          refine ⟨_, 87, true, rfl, rfl, eg, ?_⟩
          rw [if_pos rfl]
          have hcc := hA.const
          clear hA hp
          obtain ⟨m0, m1, m2, m3, m4, m5, m6, m7, m8, m9, m10, m11, m12, m13, m14, m15, m16, m17, m18, m19, m20, m21, m22, m23, m24, m25, m26, m27, m28, m29, m30, m31, m32, m33, m34, m35, ml⟩ := FC.out w hI
          refine Reg.out_value (v := .agg #[.int .i64 l0.thread, .int .i64 l0.kind, .float .f64 l0.pri, .int .i64 l0.val, .int .i64 l0.d0, .int .i64 l0.d1, .int .i64 l0.beg, .int .i64 l0.fin, .bool l0.ans.ok, .float .f64 l0.ans.pri, .int .i64 l0.ans.val, .int .i64 l0.ans.n]) ?_ ⟨rfl, hrefl _, hI⟩
          go_simp
        · refine Reg.StepAt.guarded (i := 24) rfl ?_
          intro L ev w hI hk hp hA
          have e90 : ev (.tmp 90) = .agg #[.int .i64 l0.thread, .int .i64 l0.kind, .float .f64 l0.pri, .int .i64 l0.val, .int .i64 l0.d0, .int .i64 l0.d1, .int .i64 l0.beg, .int .i64 l0.fin, .bool l0.ans.ok, .float .f64 l0.ans.pri, .int .i64 l0.ans.val, .int .i64 l0.ans.n] := hA.val 20 _ 90 rfl (hp ⟨20, .data⟩ (by simp) rfl) rfl
          have e93 : ev (.tmp 93) = .agg #[.int .i64 l0.thread, .int .i64 l0.kind, .float .f64 l0.pri, .int .i64 l0.val, .int .i64 l0.d0, .int .i64 l0.d1, .int .i64 l0.beg, .int .i64 l0.fin, .bool l0.ans.ok, .float .f64 l0.ans.pri, .int .i64 l0.ans.val, .int .i64 l0.ans.n] := hA.val 23 _ 93 rfl (hp ⟨23, .data⟩ (by simp) rfl) rfl
          have eg : ev (.tmp 87) = .bool true := hA.val 17 _ 87 rfl (hp ⟨17, .chain⟩ (by simp) rfl) rfl
          refine ⟨_, 87, true, rfl, rfl, eg, ?_⟩
          rw [if_pos rfl]
          have hcc := hA.const
          have hcf := hA.func
          clear hA hp
          refine Reg.out_call (f := 56) (args := #[.agg #[.int .i64 l0.thread, .int .i64 l0.kind, .float .f64 l0.pri, .int .i64 l0.val, .int .i64 l0.d0, .int .i64 l0.d1, .int .i64 l0.beg, .int .i64 l0.fin, .bool l0.ans.ok, .float .f64 l0.ans.pri, .int .i64 l0.ans.val, .int .i64 l0.ans.n], .agg #[.int .i64 l0.thread, .int .i64 l0.kind, .float .f64 l0.pri, .int .i64 l0.val, .int .i64 l0.d0, .int .i64 l0.d1, .int .i64 l0.beg, .int .i64 l0.fin, .bool l0.ans.ok, .float .f64 l0.ans.pri, .int .i64 l0.ans.val, .int .i64 l0.ans.n]]) (w0 := w) ?_ ?_
          · go_simp
          refine (H00.out w).mono ?_
          rintro e w' ⟨rfl, hb'⟩
          exact ⟨_, rfl, rfl, hb', Reg.Keeps.trans hI hb'⟩
        · refine Reg.StepAt.guarded (i := 25) rfl ?_
          intro L ev w hI hk hp hA
          have e94 : ev (.tmp 94) = .bool false := hA.val 24 _ 94 rfl (hp ⟨24, .data⟩ (by simp) rfl) rfl
          have eg : ev (.tmp 87) = .bool true := hA.val 17 _ 87 rfl (hp ⟨17, .guard⟩ (by simp) rfl) rfl
          refine ⟨_, 87, true, rfl, rfl, eg, ?_⟩
          rw [if_pos rfl]
          have hcc := hA.const
          clear hA hp
          refine Reg.out_value (v := .bool true) ?_ ⟨rfl, hrefl _, hI⟩
          go_simp
        · refine Reg.StepAt.plain (i := 26) rfl ?_
          intro L ev w hI hk hp hA
          have e87 : ev (.tmp 87) = .bool true := hA.val 17 _ 87 rfl (hp ⟨17, .data⟩ (by simp) rfl) rfl
          have e95 : ev (.tmp 95) = .bool true := hA.val 25 _ 95 rfl (hp ⟨25, .data⟩ (by simp) rfl) rfl
          have hcc := hA.const
          clear hA hp
          refine Reg.out_value (v := .bool true) ?_ ⟨rfl, hrefl _, hI⟩
          go_simp
        · refine Reg.StepAt.plain (i := 27) rfl ?_
          intro L ev w hI hk hp hA
          have e96 : ev (.tmp 96) = .bool true := hA.val 26 _ 96 rfl (hp ⟨26, .data⟩ (by simp) rfl) rfl
          have hcc := hA.const
          clear hA hp
          refine Reg.out_value (v := .bool true) ?_ ⟨rfl, hrefl _, hI⟩
          go_simp
        intro L act wz hall hI hF
        have g70 : act.eval (.tmp 70) = .slice (some ⟨g, 0, none⟩) 3 cp := hF.val 0 _ 70 rfl (hall 0 (by simp)) rfl
        have g71 : act.eval (.tmp 71) = .pointer (some ⟨g, 0, none⟩) := hF.val 1 _ 71 rfl (hall 1 (by simp)) rfl
        have g72 : act.eval (.tmp 72) = .agg #[.int .i64 l0.thread, .int .i64 l0.kind, .float .f64 l0.pri, .int .i64 l0.val, .int .i64 l0.d0, .int .i64 l0.d1, .int .i64 l0.beg, .int .i64 l0.fin, .bool l0.ans.ok, .float .f64 l0.ans.pri, .int .i64 l0.ans.val, .int .i64 l0.ans.n] := hF.val 2 _ 72 rfl (hall 2 (by simp)) rfl
        have g73 : act.eval (.tmp 73) = .slice (some ⟨g, 0, none⟩) 3 cp := hF.val 3 _ 73 rfl (hall 3 (by simp)) rfl
        have g74 : act.eval (.tmp 74) = .pointer (some ⟨g, 12, none⟩) := hF.val 4 _ 74 rfl (hall 4 (by simp)) rfl
        have g75 : act.eval (.tmp 75) = .agg #[.int .i64 l1.thread, .int .i64 l1.kind, .float .f64 l1.pri, .int .i64 l1.val, .int .i64 l1.d0, .int .i64 l1.d1, .int .i64 l1.beg, .int .i64 l1.fin, .bool l1.ans.ok, .float .f64 l1.ans.pri, .int .i64 l1.ans.val, .int .i64 l1.ans.n] := hF.val 5 _ 75 rfl (hall 5 (by simp)) rfl
        have g76 : act.eval (.tmp 76) = .bool true := hF.val 6 _ 76 rfl (hall 6 (by simp)) rfl
        have g77 : act.eval (.tmp 77) = .bool true := hF.val 7 _ 77 rfl (hall 7 (by simp)) rfl
        have g78 : act.eval (.tmp 78) = .slice (some ⟨g, 0, none⟩) 3 cp := hF.val 8 _ 78 rfl (hall 8 (by simp)) rfl
        have g79 : act.eval (.tmp 79) = .pointer (some ⟨g, 12, none⟩) := hF.val 9 _ 79 rfl (hall 9 (by simp)) rfl
        have g80 : act.eval (.tmp 80) = .agg #[.int .i64 l1.thread, .int .i64 l1.kind, .float .f64 l1.pri, .int .i64 l1.val, .int .i64 l1.d0, .int .i64 l1.d1, .int .i64 l1.beg, .int .i64 l1.fin, .bool l1.ans.ok, .float .f64 l1.ans.pri, .int .i64 l1.ans.val, .int .i64 l1.ans.n] := hF.val 10 _ 80 rfl (hall 10 (by simp)) rfl
        have g81 : act.eval (.tmp 81) = .slice (some ⟨g, 0, none⟩) 3 cp := hF.val 11 _ 81 rfl (hall 11 (by simp)) rfl
        have g82 : act.eval (.tmp 82) = .pointer (some ⟨g, 0, none⟩) := hF.val 12 _ 82 rfl (hall 12 (by simp)) rfl
        have g83 : act.eval (.tmp 83) = .agg #[.int .i64 l0.thread, .int .i64 l0.kind, .float .f64 l0.pri, .int .i64 l0.val, .int .i64 l0.d0, .int .i64 l0.d1, .int .i64 l0.beg, .int .i64 l0.fin, .bool l0.ans.ok, .float .f64 l0.ans.pri, .int .i64 l0.ans.val, .int .i64 l0.ans.n] := hF.val 13 _ 83 rfl (hall 13 (by simp)) rfl
        have g84 : act.eval (.tmp 84) = .bool false := hF.val 14 _ 84 rfl (hall 14 (by simp)) rfl
        have g85 : act.eval (.tmp 85) = .bool false := hF.val 15 _ 85 rfl (hall 15 (by simp)) rfl
        have g86 : act.eval (.tmp 86) = .bool true := hF.val 16 _ 86 rfl (hall 16 (by simp)) rfl
        have g87 : act.eval (.tmp 87) = .bool true := hF.val 17 _ 87 rfl (hall 17 (by simp)) rfl
        have g88 : act.eval (.tmp 88) = .slice (some ⟨g, 0, none⟩) 3 cp := hF.val 18 _ 88 rfl (hall 18 (by simp)) rfl
        have g89 : act.eval (.tmp 89) = .pointer (some ⟨g, 0, none⟩) := hF.val 19 _ 89 rfl (hall 19 (by simp)) rfl
        have g90 : act.eval (.tmp 90) = .agg #[.int .i64 l0.thread, .int .i64 l0.kind, .float .f64 l0.pri, .int .i64 l0.val, .int .i64 l0.d0, .int .i64 l0.d1, .int .i64 l0.beg, .int .i64 l0.fin, .bool l0.ans.ok, .float .f64 l0.ans.pri, .int .i64 l0.ans.val, .int .i64 l0.ans.n] := hF.val 20 _ 90 rfl (hall 20 (by simp)) rfl
        have g91 : act.eval (.tmp 91) = .slice (some ⟨g, 0, none⟩) 3 cp := hF.val 21 _ 91 rfl (hall 21 (by simp)) rfl
        have g92 : act.eval (.tmp 92) = .pointer (some ⟨g, 0, none⟩) := hF.val 22 _ 92 rfl (hall 22 (by simp)) rfl
        have g93 : act.eval (.tmp 93) = .agg #[.int .i64 l0.thread, .int .i64 l0.kind, .float .f64 l0.pri, .int .i64 l0.val, .int .i64 l0.d0, .int .i64 l0.d1, .int .i64 l0.beg, .int .i64 l0.fin, .bool l0.ans.ok, .float .f64 l0.ans.pri, .int .i64 l0.ans.val, .int .i64 l0.ans.n] := hF.val 23 _ 93 rfl (hall 23 (by simp)) rfl
        have g94 : act.eval (.tmp 94) = .bool false := hF.val 24 _ 94 rfl (hall 24 (by simp)) rfl
        have g95 : act.eval (.tmp 95) = .bool true := hF.val 25 _ 95 rfl (hall 25 (by simp)) rfl
        have g96 : act.eval (.tmp 96) = .bool true := hF.val 26 _ 96 rfl (hall 26 (by simp)) rfl
        have g6 : act.eval (.tmp 6) = .bool true := hF.val 27 _ 6 rfl (hall 27 (by simp)) rfl
        have hact := hF.act [70, 71, 72, 73, 74, 75, 76, 77, 78, 79, 80, 81, 82, 83, 84, 85, 86, 87, 88, 89, 90, 91, 92, 93, 94, 95, 96, 6] (by kernel_rfl)
        clear hF hall
        simp only [List.foldl_cons, List.foldl_nil] at hact
        rw [g70, g71, g72, g73, g74, g75, g76, g77, g78, g79, g80, g81, g82, g83, g84, g85, g86, g87, g88, g89, g90, g91, g92, g93, g94, g95, g96, g6] at hact
        clear g70 g71 g72 g73 g74 g75 g76 g77 g78 g79 g80 g81 g82 g83 g84 g85 g86 g87 g88 g89 g90 g91 g92 g93 g94 g95 g96 g6
        simp only [List.setIfInBounds_toArray, List.set_cons_succ, List.set_cons_zero] at hact
        subst hact
        have hz2 : Below wy.heap.size wy wz := hI
        have HFIN := hidq (HLO2.out.trans (hz2.mono HLO2.out.size))
        clear hI hz2 HLO2 FC
        go_wp2_with fail
        go_ret
        exact ⟨rfl, HFIN.out⟩
      | true =>
        rw [h12] at H12
        rw [HT1.out h01 h12] at H02
        clear h01 h12
        go_wp2_with fail
        have hrefl : ∀ w : World, Reg.Keeps w w := Reg.Keeps.refl
        refine Reg.wp_region_props (Reg.ofList (ah10ttR g cp l0 l1 l2)) Reg.Keeps (fun _ w => Reg.Keeps wr w) (by kernel_rfl) (by kernel_rfl) (Reg.AllKept.at _ (ah10ttR_kept g cp l0 l1 l2)) hrefl (Reg.Keeps.drewN (Reg.Keeps.refl _) 1) ⟨?_, ?_, ?_, ?_, ?_, ?_, ?_, ?_, ?_, ?_, ?_, ?_, ?_, ?_, ?_, ?_, ?_, ?_, ?_, ?_, ?_, ?_, ?_, ?_, ?_, ?_, trivial⟩ ?_
        · refine Reg.StepAt.plain (i := 0) rfl ?_
          intro L ev w hI hk hp hA
          have e7 : ev (.tmp 7) = .slice (some ⟨g, 0, none⟩) 3 cp := hA.oldNone 7 (by kernel_rfl)
          have hcc := hA.const
          clear hA hp
          refine Reg.out_value (v := .slice (some ⟨g, 0, none⟩) 3 cp) ?_ ⟨rfl, hrefl _, hI⟩
          go_simp
        · refine Reg.StepAt.plain (i := 1) rfl ?_
          intro L ev w hI hk hp hA
          have e44 : ev (.tmp 44) = .slice (some ⟨g, 0, none⟩) 3 cp := hA.val 0 _ 44 rfl (hp ⟨0, .data⟩ (by simp) rfl) rfl
          have hcc := hA.const
          clear hA hp
          refine Reg.out_value (v := .pointer (some ⟨g, 0, none⟩)) ?_ ⟨rfl, hrefl _, hI⟩
          go_simp
        · refine Reg.StepAt.plain (i := 2) rfl ?_
          intro L ev w hI hk hp hA
          have e45 : ev (.tmp 45) = .pointer (some ⟨g, 0, none⟩) := hA.val 1 _ 45 rfl (hp ⟨1, .data⟩ (by simp) rfl) rfl
          have hcc := hA.const
          clear hA hp
          obtain ⟨m0, m1, m2, m3, m4, m5, m6, m7, m8, m9, m10, m11, m12, m13, m14, m15, m16, m17, m18, m19, m20, m21, m22, m23, m24, m25, m26, m27, m28, m29, m30, m31, m32, m33, m34, m35, ml⟩ := FC.out w hI
          refine Reg.out_value (v := .agg #[.int .i64 l0.thread, .int .i64 l0.kind, .float .f64 l0.pri, .int .i64 l0.val, .int .i64 l0.d0, .int .i64 l0.d1, .int .i64 l0.beg, .int .i64 l0.fin, .bool l0.ans.ok, .float .f64 l0.ans.pri, .int .i64 l0.ans.val, .int .i64 l0.ans.n]) ?_ ⟨rfl, hrefl _, hI⟩
          go_simp
        · refine Reg.StepAt.plain (i := 3) rfl ?_
          intro L ev w hI hk hp hA
          have e7 : ev (.tmp 7) = .slice (some ⟨g, 0, none⟩) 3 cp := hA.oldNone 7 (by kernel_rfl)
          have hcc := hA.const
          clear hA hp
          refine Reg.out_value (v := .slice (some ⟨g, 0, none⟩) 3 cp) ?_ ⟨rfl, hrefl _, hI⟩
          go_simp
        · refine Reg.StepAt.plain (i := 4) rfl ?_
          intro L ev w hI hk hp hA
          have e47 : ev (.tmp 47) = .slice (some ⟨g, 0, none⟩) 3 cp := hA.val 3 _ 47 rfl (hp ⟨3, .data⟩ (by simp) rfl) rfl
          have hcc := hA.const
          clear hA hp
          refine Reg.out_value (v := .pointer (some ⟨g, 12, none⟩)) ?_ ⟨rfl, hrefl _, hI⟩
          go_simp
        · refine Reg.StepAt.plain (i := 5) rfl ?_
          intro L ev w hI hk hp hA
          have e48 : ev (.tmp 48) = .pointer (some ⟨g, 12, none⟩) := hA.val 4 _ 48 rfl (hp ⟨4, .data⟩ (by simp) rfl) rfl
          have hcc := hA.const
          clear hA hp
          obtain ⟨m0, m1, m2, m3, m4, m5, m6, m7, m8, m9, m10, m11, m12, m13, m14, m15, m16, m17, m18, m19, m20, m21, m22, m23, m24, m25, m26, m27, m28, m29, m30, m31, m32, m33, m34, m35, ml⟩ := FC.out w hI
          refine Reg.out_value (v := .agg #[.int .i64 l1.thread, .int .i64 l1.kind, .float .f64 l1.pri, .int .i64 l1.val, .int .i64 l1.d0, .int .i64 l1.d1, .int .i64 l1.beg, .int .i64 l1.fin, .bool l1.ans.ok, .float .f64 l1.ans.pri, .int .i64 l1.ans.val, .int .i64 l1.ans.n]) ?_ ⟨rfl, hrefl _, hI⟩
          go_simp
        · refine Reg.StepAt.plain (i := 6) rfl ?_
          intro L ev w hI hk hp hA
          have e46 : ev (.tmp 46) = .agg #[.int .i64 l0.thread, .int .i64 l0.kind, .float .f64 l0.pri, .int .i64 l0.val, .int .i64 l0.d0, .int .i64 l0.d1, .int .i64 l0.beg, .int .i64 l0.fin, .bool l0.ans.ok, .float .f64 l0.ans.pri, .int .i64 l0.ans.val, .int .i64 l0.ans.n] := hA.val 2 _ 46 rfl (hp ⟨2, .data⟩ (by simp) rfl) rfl
          have e49 : ev (.tmp 49) = .agg #[.int .i64 l1.thread, .int .i64 l1.kind, .float .f64 l1.pri, .int .i64 l1.val, .int .i64 l1.d0, .int .i64 l1.d1, .int .i64 l1.beg, .int .i64 l1.fin, .bool l1.ans.ok, .float .f64 l1.ans.pri, .int .i64 l1.ans.val, .int .i64 l1.ans.n] := hA.val 5 _ 49 rfl (hp ⟨5, .data⟩ (by simp) rfl) rfl
          have hcc := hA.const
          have hcf := hA.func
          clear hA hp
          refine Reg.out_call (f := 56) (args := #[.agg #[.int .i64 l0.thread, .int .i64 l0.kind, .float .f64 l0.pri, .int .i64 l0.val, .int .i64 l0.d0, .int .i64 l0.d1, .int .i64 l0.beg, .int .i64 l0.fin, .bool l0.ans.ok, .float .f64 l0.ans.pri, .int .i64 l0.ans.val, .int .i64 l0.ans.n], .agg #[.int .i64 l1.thread, .int .i64 l1.kind, .float .f64 l1.pri, .int .i64 l1.val, .int .i64 l1.d0, .int .i64 l1.d1, .int .i64 l1.beg, .int .i64 l1.fin, .bool l1.ans.ok, .float .f64 l1.ans.pri, .int .i64 l1.ans.val, .int .i64 l1.ans.n]]) (w0 := w) ?_ ?_
          · go_simp
          refine (H01.out w).mono ?_
          rintro e w' ⟨rfl, hb'⟩
          exact ⟨_, rfl, rfl, hb', Reg.Keeps.trans hI hb'⟩
        · refine Reg.StepAt.plain (i := 7) rfl ?_
          intro L ev w hI hk hp hA
          have e50 : ev (.tmp 50) = .bool true := hA.val 6 _ 50 rfl (hp ⟨6, .data⟩ (by simp) rfl) rfl
          have hcc := hA.const
          clear hA hp
          refine Reg.out_value (v := .bool true) ?_ ⟨rfl, hrefl _, hI⟩
          go_simp
        · refine Reg.StepAt.guarded (i := 8) rfl ?_
          intro L ev w hI hk hp hA
          have e7 : ev (.tmp 7) = .slice (some ⟨g, 0, none⟩) 3 cp := hA.oldNone 7 (by kernel_rfl)
          have eg : ev (.tmp 51) = .bool true := hA.val 7 _ 51 rfl (hp ⟨7, .guard⟩ (by simp) rfl) rfl
          refine ⟨_, 51, true, rfl, rfl, eg, ?_⟩
          rw [if_pos rfl]
          have hcc := hA.const
          clear hA hp
          refine Reg.out_value (v := .slice (some ⟨g, 0, none⟩) 3 cp) ?_ ⟨rfl, hrefl _, hI⟩
          go_simp
        · refine Reg.StepAt.guarded (i := 9) rfl ?_
          intro L ev w hI hk hp hA
          have e52 : ev (.tmp 52) = .slice (some ⟨g, 0, none⟩) 3 cp := hA.val 8 _ 52 rfl (hp ⟨8, .data⟩ (by simp) rfl) rfl
          have eg : ev (.tmp 51) = .bool true := hA.val 7 _ 51 rfl (hp ⟨7, .guard⟩ (by simp) rfl) rfl
          refine ⟨_, 51, true, rfl, rfl, eg, ?_⟩
          rw [if_pos rfl]
          have hcc := hA.const
          clear hA hp
          refine Reg.out_value (v := .pointer (some ⟨g, 12, none⟩)) ?_ ⟨rfl, hrefl _, hI⟩
          go_simp
        · refine Reg.StepAt.guarded (i := 10) rfl ?_
          intro L ev w hI hk hp hA
          have e53 : ev (.tmp 53) = .pointer (some ⟨g, 12, none⟩) := hA.val 9 _ 53 rfl (hp ⟨9, .data⟩ (by simp) rfl) rfl
          have eg : ev (.tmp 51) = .bool true := hA.val 7 _ 51 rfl (hp ⟨7, .guard⟩ (by simp) rfl) rfl
          refine ⟨_, 51, true, rfl, rfl, eg, ?_⟩
          rw [if_pos rfl]
          have hcc := hA.const
          clear hA hp
          obtain ⟨m0, m1, m2, m3, m4, m5, m6, m7, m8, m9, m10, m11, m12, m13, m14, m15, m16, m17, m18, m19, m20, m21, m22, m23, m24, m25, m26, m27, m28, m29, m30, m31, m32, m33, m34, m35, ml⟩ := FC.out w hI
          refine Reg.out_value (v := .agg #[.int .i64 l1.thread, .int .i64 l1.kind, .float .f64 l1.pri, .int .i64 l1.val, .int .i64 l1.d0, .int .i64 l1.d1, .int .i64 l1.beg, .int .i64 l1.fin, .bool l1.ans.ok, .float .f64 l1.ans.pri, .int .i64 l1.ans.val, .int .i64 l1.ans.n]) ?_ ⟨rfl, hrefl _, hI⟩
          go_simp
        · refine Reg.StepAt.guarded (i := 11) rfl ?_
          intro L ev w hI hk hp hA
          have e7 : ev (.tmp 7) = .slice (some ⟨g, 0, none⟩) 3 cp := hA.oldNone 7 (by kernel_rfl)
          have eg : ev (.tmp 51) = .bool true := hA.val 7 _ 51 rfl (hp ⟨7, .guard⟩ (by simp) rfl) rfl
          refine ⟨_, 51, true, rfl, rfl, eg, ?_⟩
          rw [if_pos rfl]
          have hcc := hA.const
          clear hA hp
          refine Reg.out_value (v := .slice (some ⟨g, 0, none⟩) 3 cp) ?_ ⟨rfl, hrefl _, hI⟩
          go_simp
        · refine Reg.StepAt.guarded (i := 12) rfl ?_
          intro L ev w hI hk hp hA
          have e55 : ev (.tmp 55) = .slice (some ⟨g, 0, none⟩) 3 cp := hA.val 11 _ 55 rfl (hp ⟨11, .data⟩ (by simp) rfl) rfl
          have eg : ev (.tmp 51) = .bool true := hA.val 7 _ 51 rfl (hp ⟨7, .guard⟩ (by simp) rfl) rfl
          refine ⟨_, 51, true, rfl, rfl, eg, ?_⟩
          rw [if_pos rfl]
          have hcc := hA.const
          clear hA hp
          refine Reg.out_value (v := .pointer (some ⟨g, 24, none⟩)) ?_ ⟨rfl, hrefl _, hI⟩
          go_simp
        · refine Reg.StepAt.guarded (i := 13) rfl ?_
          intro L ev w hI hk hp hA
          have e56 : ev (.tmp 56) = .pointer (some ⟨g, 24, none⟩) := hA.val 12 _ 56 rfl (hp ⟨12, .data⟩ (by simp) rfl) rfl
          have eg : ev (.tmp 51) = .bool true := hA.val 7 _ 51 rfl (hp ⟨7, .guard⟩ (by simp) rfl) rfl
          refine ⟨_, 51, true, rfl, rfl, eg, ?_⟩
          rw [if_pos rfl]
          have hcc := hA.const
          clear hA hp
          obtain ⟨m0, m1, m2, m3, m4, m5, m6, m7, m8, m9, m10, m11, m12, m13, m14, m15, m16, m17, m18, m19, m20, m21, m22, m23, m24, m25, m26, m27, m28, m29, m30, m31, m32, m33, m34, m35, ml⟩ := FC.out w hI
          refine Reg.out_value (v := .agg #[.int .i64 l2.thread, .int .i64 l2.kind, .float .f64 l2.pri, .int .i64 l2.val, .int .i64 l2.d0, .int .i64 l2.d1, .int .i64 l2.beg, .int .i64 l2.fin, .bool l2.ans.ok, .float .f64 l2.ans.pri, .int .i64 l2.ans.val, .int .i64 l2.ans.n]) ?_ ⟨rfl, hrefl _, hI⟩
          go_simp
        · refine Reg.StepAt.guarded (i := 14) rfl ?_
          intro L ev w hI hk hp hA
          have e54 : ev (.tmp 54) = .agg #[.int .i64 l1.thread, .int .i64 l1.kind, .float .f64 l1.pri, .int .i64 l1.val, .int .i64 l1.d0, .int .i64 l1.d1, .int .i64 l1.beg, .int .i64 l1.fin, .bool l1.ans.ok, .float .f64 l1.ans.pri, .int .i64 l1.ans.val, .int .i64 l1.ans.n] := hA.val 10 _ 54 rfl (hp ⟨10, .data⟩ (by simp) rfl) rfl
          have e57 : ev (.tmp 57) = .agg #[.int .i64 l2.thread, .int .i64 l2.kind, .float .f64 l2.pri, .int .i64 l2.val, .int .i64 l2.d0, .int .i64 l2.d1, .int .i64 l2.beg, .int .i64 l2.fin, .bool l2.ans.ok, .float .f64 l2.ans.pri, .int .i64 l2.ans.val, .int .i64 l2.ans.n] := hA.val 13 _ 57 rfl (hp ⟨13, .data⟩ (by simp) rfl) rfl
          have eg : ev (.tmp 51) = .bool true := hA.val 7 _ 51 rfl (hp ⟨7, .chain⟩ (by simp) rfl) rfl
          refine ⟨_, 51, true, rfl, rfl, eg, ?_⟩
          rw [if_pos rfl]
          have hcc := hA.const
          have hcf := hA.func
          clear hA hp
          refine Reg.out_call (f := 56) (args := #[.agg #[.int .i64 l1.thread, .int .i64 l1.kind, .float .f64 l1.pri, .int .i64 l1.val, .int .i64 l1.d0, .int .i64 l1.d1, .int .i64 l1.beg, .int .i64 l1.fin, .bool l1.ans.ok, .float .f64 l1.ans.pri, .int .i64 l1.ans.val, .int .i64 l1.ans.n], .agg #[.int .i64 l2.thread, .int .i64 l2.kind, .float .f64 l2.pri, .int .i64 l2.val, .int .i64 l2.d0, .int .i64 l2.d1, .int .i64 l2.beg, .int .i64 l2.fin, .bool l2.ans.ok, .float .f64 l2.ans.pri, .int .i64 l2.ans.val, .int .i64 l2.ans.n]]) (w0 := w) ?_ ?_
          · go_simp
          refine (H12.out w).mono ?_
          rintro e w' ⟨rfl, hb'⟩
          exact ⟨_, rfl, rfl, hb', Reg.Keeps.trans hI hb'⟩
        · refine Reg.StepAt.plain (i := 15) rfl ?_
          intro L ev w hI hk hp hA
          have e51 : ev (.tmp 51) = .bool true := hA.val 7 _ 51 rfl (hp ⟨7, .data⟩ (by simp) rfl) rfl
          have e58 : ev (.tmp 58) = .bool true := hA.val 14 _ 58 rfl (hp ⟨14, .data⟩ (by simp) rfl) rfl
          have hcc := hA.const
          clear hA hp
          refine Reg.out_value (v := .bool true) ?_ ⟨rfl, hrefl _, hI⟩
          go_simp
        · refine Reg.StepAt.plain (i := 16) rfl ?_
          intro L ev w hI hk hp hA
          have e59 : ev (.tmp 59) = .bool true := hA.val 15 _ 59 rfl (hp ⟨15, .data⟩ (by simp) rfl) rfl
          have hcc := hA.const
          clear hA hp
          refine Reg.out_value (v := .bool true) ?_ ⟨rfl, hrefl _, hI⟩
          go_simp
        · refine Reg.StepAt.guarded (i := 17) rfl ?_
          intro L ev w hI hk hp hA
          have e7 : ev (.tmp 7) = .slice (some ⟨g, 0, none⟩) 3 cp := hA.oldNone 7 (by kernel_rfl)
          have eg : ev (.tmp 60) = .bool true := hA.val 16 _ 60 rfl (hp ⟨16, .guard⟩ (by simp) rfl) rfl
          refine ⟨_, 60, true, rfl, rfl, eg, ?_⟩
          rw [if_pos rfl]
          have hcc := hA.const
          clear hA hp
          refine Reg.out_value (v := .slice (some ⟨g, 0, none⟩) 3 cp) ?_ ⟨rfl, hrefl _, hI⟩
          go_simp
        · refine Reg.StepAt.guarded (i := 18) rfl ?_
          intro L ev w hI hk hp hA
          have e61 : ev (.tmp 61) = .slice (some ⟨g, 0, none⟩) 3 cp := hA.val 17 _ 61 rfl (hp ⟨17, .data⟩ (by simp) rfl) rfl
          have eg : ev (.tmp 60) = .bool true := hA.val 16 _ 60 rfl (hp ⟨16, .guard⟩ (by simp) rfl) rfl
          refine ⟨_, 60, true, rfl, rfl, eg, ?_⟩
          rw [if_pos rfl]
          have hcc := hA.const
          clear hA hp
          refine Reg.out_value (v := .pointer (some ⟨g, 0, none⟩)) ?_ ⟨rfl, hrefl _, hI⟩
          go_simp
        · refine Reg.StepAt.guarded (i := 19) rfl ?_
          intro L ev w hI hk hp hA
          have e62 : ev (.tmp 62) = .pointer (some ⟨g, 0, none⟩) := hA.val 18 _ 62 rfl (hp ⟨18, .data⟩ (by simp) rfl) rfl
          have eg : ev (.tmp 60) = .bool true := hA.val 16 _ 60 rfl (hp ⟨16, .guard⟩ (by simp) rfl) rfl
          refine ⟨_, 60, true, rfl, rfl, eg, ?_⟩
          rw [if_pos rfl]
          have hcc := hA.const
          clear hA hp
          obtain ⟨m0, m1, m2, m3, m4, m5, m6, m7, m8, m9, m10, m11, m12, m13, m14, m15, m16, m17, m18, m19, m20, m21, m22, m23, m24, m25, m26, m27, m28, m29, m30, m31, m32, m33, m34, m35, ml⟩ := FC.out w hI
          refine Reg.out_value (v := .agg #[.int .i64 l0.thread, .int .i64 l0.kind, .float .f64 l0.pri, .int .i64 l0.val, .int .i64 l0.d0, .int .i64 l0.d1, .int .i64 l0.beg, .int .i64 l0.fin, .bool l0.ans.ok, .float .f64 l0.ans.pri, .int .i64 l0.ans.val, .int .i64 l0.ans.n]) ?_ ⟨rfl, hrefl _, hI⟩
          go_simp
        · refine Reg.StepAt.guarded (i := 20) rfl ?_
          intro L ev w hI hk hp hA
          have e7 : ev (.tmp 7) = .slice (some ⟨g, 0, none⟩) 3 cp := hA.oldNone 7 (by kernel_rfl)
          have eg : ev (.tmp 60) = .bool true := hA.val 16 _ 60 rfl (hp ⟨16, .guard⟩ (by simp) rfl) rfl
          refine ⟨_, 60, true, rfl, rfl, eg, ?_⟩
          rw [if_pos rfl]
          have hcc := hA.const
          clear hA hp
          refine Reg.out_value (v := .slice (some ⟨g, 0, none⟩) 3 cp) ?_ ⟨rfl, hrefl _, hI⟩
          go_simp
        · refine Reg.StepAt.guarded (i := 21) rfl ?_
          intro L ev w hI hk hp hA
          have e64 : ev (.tmp 64) = .slice (some ⟨g, 0, none⟩) 3 cp := hA.val 20 _ 64 rfl (hp ⟨20, .data⟩ (by simp) rfl) rfl
          have eg : ev (.tmp 60) = .bool true := hA.val 16 _ 60 rfl (hp ⟨16, .guard⟩ (by simp) rfl) rfl
          refine ⟨_, 60, true, rfl, rfl, eg, ?_⟩
          rw [if_pos rfl]
          have hcc := hA.const
          clear hA hp
          refine Reg.out_value (v := .pointer (some ⟨g, 24, none⟩)) ?_ ⟨rfl, hrefl _, hI⟩
          go_simp
        · refine Reg.StepAt.guarded (i := 22) rfl ?_
          intro L ev w hI hk hp hA
          have e65 : ev (.tmp 65) = .pointer (some ⟨g, 24, none⟩) := hA.val 21 _ 65 rfl (hp ⟨21, .data⟩ (by simp) rfl) rfl
          have eg : ev (.tmp 60) = .bool true := hA.val 16 _ 60 rfl (hp ⟨16, .guard⟩ (by simp) rfl) rfl
          refine ⟨_, 60, true, rfl, rfl, eg, ?_⟩
          rw [if_pos rfl]
          have hcc := hA.const
          clear hA hp
          obtain ⟨m0, m1, m2, m3, m4, m5, m6, m7, m8, m9, m10, m11, m12, m13, m14, m15, m16, m17, m18, m19, m20, m21, m22, m23, m24, m25, m26, m27, m28, m29, m30, m31, m32, m33, m34, m35, ml⟩ := FC.out w hI
          refine Reg.out_value (v := .agg #[.int .i64 l2.thread, .int .i64 l2.kind, .float .f64 l2.pri, .int .i64 l2.val, .int .i64 l2.d0, .int .i64 l2.d1, .int .i64 l2.beg, .int .i64 l2.fin, .bool l2.ans.ok, .float .f64 l2.ans.pri, .int .i64 l2.ans.val, .int .i64 l2.ans.n]) ?_ ⟨rfl, hrefl _, hI⟩
          go_simp
        · refine Reg.StepAt.guarded (i := 23) rfl ?_
          intro L ev w hI hk hp hA
          have e63 : ev (.tmp 63) = .agg #[.int .i64 l0.thread, .int .i64 l0.kind, .float .f64 l0.pri, .int .i64 l0.val, .int .i64 l0.d0, .int .i64 l0.d1, .int .i64 l0.beg, .int .i64 l0.fin, .bool l0.ans.ok, .float .f64 l0.ans.pri, .int .i64 l0.ans.val, .int .i64 l0.ans.n] := hA.val 19 _ 63 rfl (hp ⟨19, .data⟩ (by simp) rfl) rfl
          have e66 : ev (.tmp 66) = .agg #[.int .i64 l2.thread, .int .i64 l2.kind, .float .f64 l2.pri, .int .i64 l2.val, .int .i64 l2.d0, .int .i64 l2.d1, .int .i64 l2.beg, .int .i64 l2.fin, .bool l2.ans.ok, .float .f64 l2.ans.pri, .int .i64 l2.ans.val, .int .i64 l2.ans.n] := hA.val 22 _ 66 rfl (hp ⟨22, .data⟩ (by simp) rfl) rfl
          have eg : ev (.tmp 60) = .bool true := hA.val 16 _ 60 rfl (hp ⟨16, .chain⟩ (by simp) rfl) rfl
          refine ⟨_, 60, true, rfl, rfl, eg, ?_⟩
          rw [if_pos rfl]
          have hcc := hA.const
          have hcf := hA.func
          clear hA hp
          refine Reg.out_call (f := 56) (args := #[.agg #[.int .i64 l0.thread, .int .i64 l0.kind, .float .f64 l0.pri, .int .i64 l0.val, .int .i64 l0.d0, .int .i64 l0.d1, .int .i64 l0.beg, .int .i64 l0.fin, .bool l0.ans.ok, .float .f64 l0.ans.pri, .int .i64 l0.ans.val, .int .i64 l0.ans.n], .agg #[.int .i64 l2.thread, .int .i64 l2.kind, .float .f64 l2.pri, .int .i64 l2.val, .int .i64 l2.d0, .int .i64 l2.d1, .int .i64 l2.beg, .int .i64 l2.fin, .bool l2.ans.ok, .float .f64 l2.ans.pri, .int .i64 l2.ans.val, .int .i64 l2.ans.n]]) (w0 := w) ?_ ?_
          · go_simp
          refine (H02.out w).mono ?_
          rintro e w' ⟨rfl, hb'⟩
          exact ⟨_, rfl, rfl, hb', Reg.Keeps.trans hI hb'⟩
        · refine Reg.StepAt.guarded (i := 24) rfl ?_
          intro L ev w hI hk hp hA
          have e67 : ev (.tmp 67) = .bool true := hA.val 23 _ 67 rfl (hp ⟨23, .data⟩ (by simp) rfl) rfl
          have eg : ev (.tmp 60) = .bool true := hA.val 16 _ 60 rfl (hp ⟨16, .guard⟩ (by simp) rfl) rfl
          refine ⟨_, 60, true, rfl, rfl, eg, ?_⟩
          rw [if_pos rfl]
          have hcc := hA.const
          clear hA hp
          refine Reg.out_value (v := .bool false) ?_ ⟨rfl, hrefl _, hI⟩
          go_simp
        · refine Reg.StepAt.plain (i := 25) rfl ?_
          intro L ev w hI hk hp hA
          have e60 : ev (.tmp 60) = .bool true := hA.val 16 _ 60 rfl (hp ⟨16, .data⟩ (by simp) rfl) rfl
          have e68 : ev (.tmp 68) = .bool false := hA.val 24 _ 68 rfl (hp ⟨24, .data⟩ (by simp) rfl) rfl
          have hcc := hA.const
          clear hA hp
          refine Reg.out_value (v := .bool false) ?_ ⟨rfl, hrefl _, hI⟩
          go_simp
        intro L act wz hall hI hF
        have g44 : act.eval (.tmp 44) = .slice (some ⟨g, 0, none⟩) 3 cp := hF.val 0 _ 44 rfl (hall 0 (by simp)) rfl
        have g45 : act.eval (.tmp 45) = .pointer (some ⟨g, 0, none⟩) := hF.val 1 _ 45 rfl (hall 1 (by simp)) rfl
        have g46 : act.eval (.tmp 46) = .agg #[.int .i64 l0.thread, .int .i64 l0.kind, .float .f64 l0.pri, .int .i64 l0.val, .int .i64 l0.d0, .int .i64 l0.d1, .int .i64 l0.beg, .int .i64 l0.fin, .bool l0.ans.ok, .float .f64 l0.ans.pri, .int .i64 l0.ans.val, .int .i64 l0.ans.n] := hF.val 2 _ 46 rfl (hall 2 (by simp)) rfl
        have g47 : act.eval (.tmp 47) = .slice (some ⟨g, 0, none⟩) 3 cp := hF.val 3 _ 47 rfl (hall 3 (by simp)) rfl
        have g48 : act.eval (.tmp 48) = .pointer (some ⟨g, 12, none⟩) := hF.val 4 _ 48 rfl (hall 4 (by simp)) rfl
        have g49 : act.eval (.tmp 49) = .agg #[.int .i64 l1.thread, .int .i64 l1.kind, .float .f64 l1.pri, .int .i64 l1.val, .int .i64 l1.d0, .int .i64 l1.d1, .int .i64 l1.beg, .int .i64 l1.fin, .bool l1.ans.ok, .float .f64 l1.ans.pri, .int .i64 l1.ans.val, .int .i64 l1.ans.n] := hF.val 5 _ 49 rfl (hall 5 (by simp)) rfl
        have g50 : act.eval (.tmp 50) = .bool true := hF.val 6 _ 50 rfl (hall 6 (by simp)) rfl
        have g51 : act.eval (.tmp 51) = .bool true := hF.val 7 _ 51 rfl (hall 7 (by simp)) rfl
        have g52 : act.eval (.tmp 52) = .slice (some ⟨g, 0, none⟩) 3 cp := hF.val 8 _ 52 rfl (hall 8 (by simp)) rfl
        have g53 : act.eval (.tmp 53) = .pointer (some ⟨g, 12, none⟩) := hF.val 9 _ 53 rfl (hall 9 (by simp)) rfl
        have g54 : act.eval (.tmp 54) = .agg #[.int .i64 l1.thread, .int .i64 l1.kind, .float .f64 l1.pri, .int .i64 l1.val, .int .i64 l1.d0, .int .i64 l1.d1, .int .i64 l1.beg, .int .i64 l1.fin, .bool l1.ans.ok, .float .f64 l1.ans.pri, .int .i64 l1.ans.val, .int .i64 l1.ans.n] := hF.val 10 _ 54 rfl (hall 10 (by simp)) rfl
        have g55 : act.eval (.tmp 55) = .slice (some ⟨g, 0, none⟩) 3 cp := hF.val 11 _ 55 rfl (hall 11 (by simp)) rfl
        have g56 : act.eval (.tmp 56) = .pointer (some ⟨g, 24, none⟩) := hF.val 12 _ 56 rfl (hall 12 (by simp)) rfl
        have g57 : act.eval (.tmp 57) = .agg #[.int .i64 l2.thread, .int .i64 l2.kind, .float .f64 l2.pri, .int .i64 l2.val, .int .i64 l2.d0, .int .i64 l2.d1, .int .i64 l2.beg, .int .i64 l2.fin, .bool l2.ans.ok, .float .f64 l2.ans.pri, .int .i64 l2.ans.val, .int .i64 l2.ans.n] := hF.val 13 _ 57 rfl (hall 13 (by simp)) rfl
        have g58 : act.eval (.tmp 58) = .bool true := hF.val 14 _ 58 rfl (hall 14 (by simp)) rfl
        have g59 : act.eval (.tmp 59) = .bool true := hF.val 15 _ 59 rfl (hall 15 (by simp)) rfl
        have g60 : act.eval (.tmp 60) = .bool true := hF.val 16 _ 60 rfl (hall 16 (by simp)) rfl
        have g61 : act.eval (.tmp 61) = .slice (some ⟨g, 0, none⟩) 3 cp := hF.val 17 _ 61 rfl (hall 17 (by simp)) rfl
        have g62 : act.eval (.tmp 62) = .pointer (some ⟨g, 0, none⟩) := hF.val 18 _ 62 rfl (hall 18 (by simp)) rfl
        have g63 : act.eval (.tmp 63) = .agg #[.int .i64 l0.thread, .int .i64 l0.kind, .float .f64 l0.pri, .int .i64 l0.val, .int .i64 l0.d0, .int .i64 l0.d1, .int .i64 l0.beg, .int .i64 l0.fin, .bool l0.ans.ok, .float .f64 l0.ans.pri, .int .i64 l0.ans.val, .int .i64 l0.ans.n] := hF.val 19 _ 63 rfl (hall 19 (by simp)) rfl
        have g64 : act.eval (.tmp 64) = .slice (some ⟨g, 0, none⟩) 3 cp := hF.val 20 _ 64 rfl (hall 20 (by simp)) rfl
        have g65 : act.eval (.tmp 65) = .pointer (some ⟨g, 24, none⟩) := hF.val 21 _ 65 rfl (hall 21 (by simp)) rfl
        have g66 : act.eval (.tmp 66) = .agg #[.int .i64 l2.thread, .int .i64 l2.kind, .float .f64 l2.pri, .int .i64 l2.val, .int .i64 l2.d0, .int .i64 l2.d1, .int .i64 l2.beg, .int .i64 l2.fin, .bool l2.ans.ok, .float .f64 l2.ans.pri, .int .i64 l2.ans.val, .int .i64 l2.ans.n] := hF.val 22 _ 66 rfl (hall 22 (by simp)) rfl
        have g67 : act.eval (.tmp 67) = .bool true := hF.val 23 _ 67 rfl (hall 23 (by simp)) rfl
        have g68 : act.eval (.tmp 68) = .bool false := hF.val 24 _ 68 rfl (hall 24 (by simp)) rfl
        have g69 : act.eval (.tmp 69) = .bool false := hF.val 25 _ 69 rfl (hall 25 (by simp)) rfl
        have hact := hF.act [44, 45, 46, 47, 48, 49, 50, 51, 52, 53, 54, 55, 56, 57, 58, 59, 60, 61, 62, 63, 64, 65, 66, 67, 68, 69] (by kernel_rfl)
        clear hF hall
        simp only [List.foldl_cons, List.foldl_nil] at hact
        rw [g44, g45, g46, g47, g48, g49, g50, g51, g52, g53, g54, g55, g56, g57, g58, g59, g60, g61, g62, g63, g64, g65, g66, g67, g68, g69] at hact
        clear g44 g45 g46 g47 g48 g49 g50 g51 g52 g53 g54 g55 g56 g57 g58 g59 g60 g61 g62 g63 g64 g65 g66 g67 g68 g69
        simp only [List.setIfInBounds_toArray, List.set_cons_succ, List.set_cons_zero] at hact
        subst hact
        have hz1 : Below wr.heap.size wr wz := hI
        clear hI
        obtain ⟨wy, hwy⟩ : ∃ wy, wy = wz := ⟨wz, rfl⟩
        subst hwy
        have FC1 := FC
        clear FC
        have FC := hidq (fun W (hW : Below wy.heap.size wy W) => FC1.out W (hz1.trans (hW.mono hz1.size)))
        have HLO2 := hidq (HLO.out.trans (hz1.mono HLO.out.size))
        clear hz1 FC1 HLO
        go_wp2_with fail
        have hrefl : ∀ w : World, Reg.Keeps w w := Reg.Keeps.refl
        refine Reg.wp_region_props (Reg.ofList (ah12tR g cp l0 l1)) Reg.Keeps (fun _ w => Reg.Keeps wy w) (by kernel_rfl) (by kernel_rfl) (Reg.AllKept.at _ (ah12tR_kept g cp l0 l1)) hrefl (Reg.Keeps.drewN (Reg.Keeps.refl _) 1) ⟨?_, ?_, ?_, ?_, ?_, ?_, ?_, ?_, ?_, ?_, ?_, ?_, ?_, ?_, ?_, ?_, ?_, ?_, ?_, ?_, ?_, ?_, ?_, ?_, ?_, ?_, ?_, ?_, trivial⟩ ?_
        · refine Reg.StepAt.plain (i := 0) rfl ?_
          intro L ev w hI hk hp hA
          have e7 : ev (.tmp 7) = .slice (some ⟨g, 0, none⟩) 3 cp := hA.oldNone 7 (by kernel_rfl)
          have hcc := hA.const
          clear hA hp
          refine Reg.out_value (v := .slice (some ⟨g, 0, none⟩) 3 cp) ?_ ⟨rfl, hrefl _, hI⟩
          go_simp
        · refine Reg.StepAt.plain (i := 1) rfl ?_
          intro L ev w hI hk hp hA
          have e70 : ev (.tmp 70) = .slice (some ⟨g, 0, none⟩) 3 cp := hA.val 0 _ 70 rfl (hp ⟨0, .data⟩ (by simp) rfl) rfl
          have hcc := hA.const
          clear hA hp
          refine Reg.out_value (v := .pointer (some ⟨g, 0, none⟩)) ?_ ⟨rfl, hrefl _, hI⟩
          go_simp
        · refine Reg.StepAt.plain (i := 2) rfl ?_
          intro L ev w hI hk hp hA
          have e71 : ev (.tmp 71) = .pointer (some ⟨g, 0, none⟩) := hA.val 1 _ 71 rfl (hp ⟨1, .data⟩ (by simp) rfl) rfl
          have hcc := hA.const
          clear hA hp
          obtain ⟨m0, m1, m2, m3, m4, m5, m6, m7, m8, m9, m10, m11, m12, m13, m14, m15, m16, m17, m18, m19, m20, m21, m22, m23, m24, m25, m26, m27, m28, m29, m30, m31, m32, m33, m34, m35, ml⟩ := FC.out w hI
          refine Reg.out_value (v := .agg #[.int .i64 l0.thread, .int .i64 l0.kind, .float .f64 l0.pri, .int .i64 l0.val, .int .i64 l0.d0, .int .i64 l0.d1, .int .i64 l0.beg, .int .i64 l0.fin, .bool l0.ans.ok, .float .f64 l0.ans.pri, .int .i64 l0.ans.val, .int .i64 l0.ans.n]) ?_ ⟨rfl, hrefl _, hI⟩
          go_simp
        · refine Reg.StepAt.plain (i := 3) rfl ?_
          intro L ev w hI hk hp hA
          have e7 : ev (.tmp 7) = .slice (some ⟨g, 0, none⟩) 3 cp := hA.oldNone 7 (by kernel_rfl)
          have hcc := hA.const
          clear hA hp
          refine Reg.out_value (v := .slice (some ⟨g, 0, none⟩) 3 cp) ?_ ⟨rfl, hrefl _, hI⟩
          go_simp
        · refine Reg.StepAt.plain (i := 4) rfl ?_
          intro L ev w hI hk hp hA
          have e73 : ev (.tmp 73) = .slice (some ⟨g, 0, none⟩) 3 cp := hA.val 3 _ 73 rfl (hp ⟨3, .data⟩ (by simp) rfl) rfl
          have hcc := hA.const
          clear hA hp
          refine Reg.out_value (v := .pointer (some ⟨g, 12, none⟩)) ?_ ⟨rfl, hrefl _, hI⟩
          go_simp
        · refine Reg.StepAt.plain (i := 5) rfl ?_
          intro L ev w hI hk hp hA
          have e74 : ev (.tmp 74) = .pointer (some ⟨g, 12, none⟩) := hA.val 4 _ 74 rfl (hp ⟨4, .data⟩ (by simp) rfl) rfl
          have hcc := hA.const
          clear hA hp
          obtain ⟨m0, m1, m2, m3, m4, m5, m6, m7, m8, m9, m10, m11, m12, m13, m14, m15, m16, m17, m18, m19, m20, m21, m22, m23, m24, m25, m26, m27, m28, m29, m30, m31, m32, m33, m34, m35, ml⟩ := FC.out w hI
          refine Reg.out_value (v := .agg #[.int .i64 l1.thread, .int .i64 l1.kind, .float .f64 l1.pri, .int .i64 l1.val, .int .i64 l1.d0, .int .i64 l1.d1, .int .i64 l1.beg, .int .i64 l1.fin, .bool l1.ans.ok, .float .f64 l1.ans.pri, .int .i64 l1.ans.val, .int .i64 l1.ans.n]) ?_ ⟨rfl, hrefl _, hI⟩
          go_simp
        · refine Reg.StepAt.plain (i := 6) rfl ?_
          intro L ev w hI hk hp hA
          have e72 : ev (.tmp 72) = .agg #[.int .i64 l0.thread, .int .i64 l0.kind, .float .f64 l0.pri, .int .i64 l0.val, .int .i64 l0.d0, .int .i64 l0.d1, .int .i64 l0.beg, .int .i64 l0.fin, .bool l0.ans.ok, .float .f64 l0.ans.pri, .int .i64 l0.ans.val, .int .i64 l0.ans.n] := hA.val 2 _ 72 rfl (hp ⟨2, .data⟩ (by simp) rfl) rfl
          have e75 : ev (.tmp 75) = .agg #[.int .i64 l1.thread, .int .i64 l1.kind, .float .f64 l1.pri, .int .i64 l1.val, .int .i64 l1.d0, .int .i64 l1.d1, .int .i64 l1.beg, .int .i64 l1.fin, .bool l1.ans.ok, .float .f64 l1.ans.pri, .int .i64 l1.ans.val, .int .i64 l1.ans.n] := hA.val 5 _ 75 rfl (hp ⟨5, .data⟩ (by simp) rfl) rfl
          have hcc := hA.const
          have hcf := hA.func
          clear hA hp
          refine Reg.out_call (f := 56) (args := #[.agg #[.int .i64 l0.thread, .int .i64 l0.kind, .float .f64 l0.pri, .int .i64 l0.val, .int .i64 l0.d0, .int .i64 l0.d1, .int .i64 l0.beg, .int .i64 l0.fin, .bool l0.ans.ok, .float .f64 l0.ans.pri, .int .i64 l0.ans.val, .int .i64 l0.ans.n], .agg #[.int .i64 l1.thread, .int .i64 l1.kind, .float .f64 l1.pri, .int .i64 l1.val, .int .i64 l1.d0, .int .i64 l1.d1, .int .i64 l1.beg, .int .i64 l1.fin, .bool l1.ans.ok, .float .f64 l1.ans.pri, .int .i64 l1.ans.val, .int .i64 l1.ans.n]]) (w0 := w) ?_ ?_
          · go_simp
          refine (H01.out w).mono ?_
          rintro e w' ⟨rfl, hb'⟩
          exact ⟨_, rfl, rfl, hb', Reg.Keeps.trans hI hb'⟩
        · refine Reg.StepAt.plain (i := 7) rfl ?_
          intro L ev w hI hk hp hA
          have e76 : ev (.tmp 76) = .bool true := hA.val 6 _ 76 rfl (hp ⟨6, .data⟩ (by simp) rfl) rfl
          have hcc := hA.const
          clear hA hp
          refine Reg.out_value (v := .bool true) ?_ ⟨rfl, hrefl _, hI⟩
          go_simp
        · refine Reg.StepAt.guarded (i := 8) rfl ?_
          intro L ev w hI hk hp hA
          have e7 : ev (.tmp 7) = .slice (some ⟨g, 0, none⟩) 3 cp := hA.oldNone 7 (by kernel_rfl)
          have eg : ev (.tmp 77) = .bool true := hA.val 7 _ 77 rfl (hp ⟨7, .guard⟩ (by simp) rfl) rfl
          refine ⟨_, 77, true, rfl, rfl, eg, ?_⟩
          rw [if_pos rfl]
          have hcc := hA.const
          clear hA hp
          refine Reg.out_value (v := .slice (some ⟨g, 0, none⟩) 3 cp) ?_ ⟨rfl, hrefl _, hI⟩
          go_simp
        · refine Reg.StepAt.guarded (i := 9) rfl ?_
          intro L ev w hI hk hp hA
          have e78 : ev (.tmp 78) = .slice (some ⟨g, 0, none⟩) 3 cp := hA.val 8 _ 78 rfl (hp ⟨8, .data⟩ (by simp) rfl) rfl
          have eg : ev (.tmp 77) = .bool true := hA.val 7 _ 77 rfl (hp ⟨7, .guard⟩ (by simp) rfl) rfl
          refine ⟨_, 77, true, rfl, rfl, eg, ?_⟩
          rw [if_pos rfl]
          have hcc := hA.const
          clear hA hp
          refine Reg.out_value (v := .pointer (some ⟨g, 12, none⟩)) ?_ ⟨rfl, hrefl _, hI⟩
          go_simp
        · refine Reg.StepAt.guarded (i := 10) rfl ?_
          intro L ev w hI hk hp hA
          have e79 : ev (.tmp 79) = .pointer (some ⟨g, 12, none⟩) := hA.val 9 _ 79 rfl (hp ⟨9, .data⟩ (by simp) rfl) rfl
          have eg : ev (.tmp 77) = .bool true := hA.val 7 _ 77 rfl (hp ⟨7, .guard⟩ (by simp) rfl) rfl
          refine ⟨_, 77, true, rfl, rfl, eg, ?_⟩
          rw [if_pos rfl]
          have hcc := hA.const
          clear hA hp
          obtain ⟨m0, m1, m2, m3, m4, m5, m6, m7, m8, m9, m10, m11, m12, m13, m14, m15, m16, m17, m18, m19, m20, m21, m22, m23, m24, m25, m26, m27, m28, m29, m30, m31, m32, m33, m34, m35, ml⟩ := FC.out w hI
          refine Reg.out_value (v := .agg #[.int .i64 l1.thread, .int .i64 l1.kind, .float .f64 l1.pri, .int .i64 l1.val, .int .i64 l1.d0, .int .i64 l1.d1, .int .i64 l1.beg, .int .i64 l1.fin, .bool l1.ans.ok, .float .f64 l1.ans.pri, .int .i64 l1.ans.val, .int .i64 l1.ans.n]) ?_ ⟨rfl, hrefl _, hI⟩
          go_simp
        · refine Reg.StepAt.guarded (i := 11) rfl ?_
          intro L ev w hI hk hp hA
          have e7 : ev (.tmp 7) = .slice (some ⟨g, 0, none⟩) 3 cp := hA.oldNone 7 (by kernel_rfl)
          have eg : ev (.tmp 77) = .bool true := hA.val 7 _ 77 rfl (hp ⟨7, .guard⟩ (by simp) rfl) rfl
          refine ⟨_, 77, true, rfl, rfl, eg, ?_⟩
          rw [if_pos rfl]
          have hcc := hA.const
          clear hA hp
          refine Reg.out_value (v := .slice (some ⟨g, 0, none⟩) 3 cp) ?_ ⟨rfl, hrefl _, hI⟩
          go_simp
        · refine Reg.StepAt.guarded (i := 12) rfl ?_
          intro L ev w hI hk hp hA
          have e81 : ev (.tmp 81) = .slice (some ⟨g, 0, none⟩) 3 cp := hA.val 11 _ 81 rfl (hp ⟨11, .data⟩ (by simp) rfl) rfl
          have eg : ev (.tmp 77) = .bool true := hA.val 7 _ 77 rfl (hp ⟨7, .guard⟩ (by simp) rfl) rfl
          refine ⟨_, 77, true, rfl, rfl, eg, ?_⟩
          rw [if_pos rfl]
          have hcc := hA.const
          clear hA hp
          refine Reg.out_value (v := .pointer (some ⟨g, 0, none⟩)) ?_ ⟨rfl, hrefl _, hI⟩
          go_simp
        · refine Reg.StepAt.guarded (i := 13) rfl ?_
          intro L ev w hI hk hp hA
          have e82 : ev (.tmp 82) = .pointer (some ⟨g, 0, none⟩) := hA.val 12 _ 82 rfl (hp ⟨12, .data⟩ (by simp) rfl) rfl
          have eg : ev (.tmp 77) = .bool true := hA.val 7 _ 77 rfl (hp ⟨7, .guard⟩ (by simp) rfl) rfl
          refine ⟨_, 77, true, rfl, rfl, eg, ?_⟩
          rw [if_pos rfl]
          have hcc := hA.const
          clear hA hp
          obtain ⟨m0, m1, m2, m3, m4, m5, m6, m7, m8, m9, m10, m11, m12, m13, m14, m15, m16, m17, m18, m19, m20, m21, m22, m23, m24, m25, m26, m27, m28, m29, m30, m31, m32, m33, m34, m35, ml⟩ := FC.out w hI
          refine Reg.out_value (v := .agg #[.int .i64 l0.thread, .int .i64 l0.kind, .float .f64 l0.pri, .int .i64 l0.val, .int .i64 l0.d0, .int .i64 l0.d1, .int .i64 l0.beg, .int .i64 l0.fin, .bool l0.ans.ok, .float .f64 l0.ans.pri, .int .i64 l0.ans.val, .int .i64 l0.ans.n]) ?_ ⟨rfl, hrefl _, hI⟩
          go_simp
        · refine Reg.StepAt.guarded (i := 14) rfl ?_
          intro L ev w hI hk hp hA
          have e80 : ev (.tmp 80) = .agg #[.int .i64 l1.thread, .int .i64 l1.kind, .float .f64 l1.pri, .int .i64 l1.val, .int .i64 l1.d0, .int .i64 l1.d1, .int .i64 l1.beg, .int .i64 l1.fin, .bool l1.ans.ok, .float .f64 l1.ans.pri, .int .i64 l1.ans.val, .int .i64 l1.ans.n] := hA.val 10 _ 80 rfl (hp ⟨10, .data⟩ (by simp) rfl) rfl
          have e83 : ev (.tmp 83) = .agg #[.int .i64 l0.thread, .int .i64 l0.kind, .float .f64 l0.pri, .int .i64 l0.val, .int .i64 l0.d0, .int .i64 l0.d1, .int .i64 l0.beg, .int .i64 l0.fin, .bool l0.ans.ok, .float .f64 l0.ans.pri, .int .i64 l0.ans.val, .int .i64 l0.ans.n] := hA.val 13 _ 83 rfl (hp ⟨13, .data⟩ (by simp) rfl) rfl
          have eg : ev (.tmp 77) = .bool true := hA.val 7 _ 77 rfl (hp ⟨7, .chain⟩ (by simp) rfl) rfl
          refine ⟨_, 77, true, rfl, rfl, eg, ?_⟩
          rw [if_pos rfl]
          have hcc := hA.const
          have hcf := hA.func
          clear hA hp
          refine Reg.out_call (f := 56) (args := #[.agg #[.int .i64 l1.thread, .int .i64 l1.kind, .float .f64 l1.pri, .int .i64 l1.val, .int .i64 l1.d0, .int .i64 l1.d1, .int .i64 l1.beg, .int .i64 l1.fin, .bool l1.ans.ok, .float .f64 l1.ans.pri, .int .i64 l1.ans.val, .int .i64 l1.ans.n], .agg #[.int .i64 l0.thread, .int .i64 l0.kind, .float .f64 l0.pri, .int .i64 l0.val, .int .i64 l0.d0, .int .i64 l0.d1, .int .i64 l0.beg, .int .i64 l0.fin, .bool l0.ans.ok, .float .f64 l0.ans.pri, .int .i64 l0.ans.val, .int .i64 l0.ans.n]]) (w0 := w) ?_ ?_
          · go_simp
          refine (H10.out w).mono ?_
          rintro e w' ⟨rfl, hb'⟩
          exact ⟨_, rfl, rfl, hb', Reg.Keeps.trans hI hb'⟩
        · refine Reg.StepAt.plain (i := 15) rfl ?_
          intro L ev w hI hk hp hA
          have e77 : ev (.tmp 77) = .bool true := hA.val 7 _ 77 rfl (hp ⟨7, .data⟩ (by simp) rfl) rfl
          have e84 : ev (.tmp 84) = .bool false := hA.val 14 _ 84 rfl (hp ⟨14, .data⟩ (by simp) rfl) rfl
          have hcc := hA.const
          clear hA hp
          refine Reg.out_value (v := .bool false) ?_ ⟨rfl, hrefl _, hI⟩
          go_simp
        · refine Reg.StepAt.plain (i := 16) rfl ?_
          intro L ev w hI hk hp hA
          have e85 : ev (.tmp 85) = .bool false := hA.val 15 _ 85 rfl (hp ⟨15, .data⟩ (by simp) rfl) rfl
          have hcc := hA.const
          clear hA hp
          refine Reg.out_value (v := .bool true) ?_ ⟨rfl, hrefl _, hI⟩
          go_simp
        · refine Reg.StepAt.plain (i := 17) rfl ?_
          intro L ev w hI hk hp hA
          have e86 : ev (.tmp 86) = .bool true := hA.val 16 _ 86 rfl (hp ⟨16, .data⟩ (by simp) rfl) rfl
          have hcc := hA.const
          clear hA hp
          refine Reg.out_value (v := .bool true) ?_ ⟨rfl, hrefl _, hI⟩
          go_simp
        · refine Reg.StepAt.guarded (i := 18) rfl ?_
          intro L ev w hI hk hp hA
          have e7 : ev (.tmp 7) = .slice (some ⟨g, 0, none⟩) 3 cp := hA.oldNone 7 (by kernel_rfl)
          have eg : ev (.tmp 87) = .bool true := hA.val 17 _ 87 rfl (hp ⟨17, .guard⟩ (by simp) rfl) rfl
          refine ⟨_, 87, true, rfl, rfl, eg, ?_⟩
          rw [if_pos rfl]
          have hcc := hA.const
          clear hA hp
          refine Reg.out_value (v := .slice (some ⟨g, 0, none⟩) 3 cp) ?_ ⟨rfl, hrefl _, hI⟩
          go_simp
        · refine Reg.StepAt.guarded (i := 19) rfl ?_
          intro L ev w hI hk hp hA
          have e88 : ev (.tmp 88) = .slice (some ⟨g, 0, none⟩) 3 cp := hA.val 18 _ 88 rfl (hp ⟨18, .data⟩ (by simp) rfl) rfl
          have eg : ev (.tmp 87) = .bool true := hA.val 17 _ 87 rfl (hp ⟨17, .guard⟩ (by simp) rfl) rfl
          refine ⟨_, 87, true, rfl, rfl, eg, ?_⟩
          rw [if_pos rfl]
          have hcc := hA.const
          clear hA hp
          refine Reg.out_value (v := .pointer (some ⟨g, 0, none⟩)) ?_ ⟨rfl, hrefl _, hI⟩
          go_simp
        · refine Reg.StepAt.guarded (i := 20) rfl ?_
          intro L ev w hI hk hp hA
          have e89 : ev (.tmp 89) = .pointer (some ⟨g, 0, none⟩) := hA.val 19 _ 89 rfl (hp ⟨19, .data⟩ (by simp) rfl) rfl
          have eg : ev (.tmp 87) = .bool true := hA.val 17 _ 87 rfl (hp ⟨17, .guard⟩ (by simp) rfl) rfl
          refine ⟨_, 87, true, rfl, rfl, eg, ?_⟩
          rw [if_pos rfl]
          have hcc := hA.const
          clear hA hp
          obtain ⟨m0, m1, m2, m3, m4, m5, m6, m7, m8, m9, m10, m11, m12, m13, m14, m15, m16, m17, m18, m19, m20, m21, m22, m23, m24, m25, m26, m27, m28, m29, m30, m31, m32, m33, m34, m35, ml⟩ := FC.out w hI
          refine Reg.out_value (v := .agg #[.int .i64 l0.thread, .int .i64 l0.kind, .float .f64 l0.pri, .int .i64 l0.val, .int .i64 l0.d0, .int .i64 l0.d1, .int .i64 l0.beg, .int .i64 l0.fin, .bool l0.ans.ok, .float .f64 l0.ans.pri, .int .i64 l0.ans.val, .int .i64 l0.ans.n]) ?_ ⟨rfl, hrefl _, hI⟩
          go_simp
        · refine Reg.StepAt.guarded (i := 21) rfl ?_
          intro L ev w hI hk hp hA
          have e7 : ev (.tmp 7) = .slice (some ⟨g, 0, none⟩) 3 cp := hA.oldNone 7 (by kernel_rfl)
          have eg : ev (.tmp 87) = .bool true := hA.val 17 _ 87 rfl (hp ⟨17, .guard⟩ (by simp) rfl) rfl
          refine ⟨_, 87, true, rfl, rfl, eg, ?_⟩
          rw [if_pos rfl]
          have hcc := hA.const
          clear hA hp
          refine Reg.out_value (v := .slice (some ⟨g, 0, none⟩) 3 cp) ?_ ⟨rfl, hrefl _, hI⟩
          go_simp
        · refine Reg.StepAt.guarded (i := 22) rfl ?_
          intro L ev w hI hk hp hA
          have e91 : ev (.tmp 91) = .slice (some ⟨g, 0, none⟩) 3 cp := hA.val 21 _ 91 rfl (hp ⟨21, .data⟩ (by simp) rfl) rfl
          have eg : ev (.tmp 87) = .bool true := hA.val 17 _ 87 rfl (hp ⟨17, .guard⟩ (by simp) rfl) rfl
          refine ⟨_, 87, true, rfl, rfl, eg, ?_⟩
          rw [if_pos rfl]
          have hcc := hA.const
          clear hA hp
          refine Reg.out_value (v := .pointer (some ⟨g, 0, none⟩)) ?_ ⟨rfl, hrefl _, hI⟩
          go_simp
        · refine Reg.StepAt.guarded (i := 23) rfl ?_
          intro L ev w hI hk hp hA
          have e92 : ev (.tmp 92) = .pointer (some ⟨g, 0, none⟩) := hA.val 22 _ 92 rfl (hp ⟨22, .data⟩ (by simp) rfl) rfl
          have eg : ev (.tmp 87) = .bool true := hA.val 17 _ 87 rfl (hp ⟨17, .guard⟩ (by simp) rfl) rfl
          refine ⟨_, 87, true, rfl, rfl, eg, ?_⟩
          rw [if_pos rfl]
          have hcc := hA.const
          clear hA hp
          obtain ⟨m0, m1, m2, m3, m4, m5, m6, m7, m8, m9, m10, m11, m12, m13, m14, m15, m16, m17, m18, m19, m20, m21, m22, m23, m24, m25, m26, m27, m28, m29, m30, m31, m32, m33, m34, m35, ml⟩ := FC.out w hI
          refine Reg.out_value (v := .agg #[.int .i64 l0.thread, .int .i64 l0.kind, .float .f64 l0.pri, .int .i64 l0.val, .int .i64 l0.d0, .int .i64 l0.d1, .int .i64 l0.beg, .int .i64 l0.fin, .bool l0.ans.ok, .float .f64 l0.ans.pri, .int .i64 l0.ans.val, .int .i64 l0.ans.n]) ?_ ⟨rfl, hrefl _, hI⟩
          go_simp
        · refine Reg.StepAt.guarded (i := 24) rfl ?_
          intro L ev w hI hk hp hA
          have e90 : ev (.tmp 90) = .agg #[.int .i64 l0.thread, .int .i64 l0.kind, .float .f64 l0.pri, .int .i64 l0.val, .int .i64 l0.d0, .int .i64 l0.d1, .int .i64 l0.beg, .int .i64 l0.fin, .bool l0.ans.ok, .float .f64 l0.ans.pri, .int .i64 l0.ans.val, .int .i64 l0.ans.n] := hA.val 20 _ 90 rfl (hp ⟨20, .data⟩ (by simp) rfl) rfl
          have e93 : ev (.tmp 93) = .agg #[.int .i64 l0.thread, .int .i64 l0.kind, .float .f64 l0.pri, .int .i64 l0.val, .int .i64 l0.d0, .int .i64 l0.d1, .int .i64 l0.beg, .int .i64 l0.fin, .bool l0.ans.ok, .float .f64 l0.ans.pri, .int .i64 l0.ans.val, .int .i64 l0.ans.n] := hA.val 23 _ 93 rfl (hp ⟨23, .data⟩ (by simp) rfl) rfl
          have eg : ev (.tmp 87) = .bool true := hA.val 17 _ 87 rfl (hp ⟨17, .chain⟩ (by simp) rfl) rfl
          refine ⟨_, 87, true, rfl, rfl, eg, ?_⟩
          rw [if_pos rfl]
          have hcc := hA.const
          have hcf := hA.func
          clear hA hp
          refine Reg.out_call (f := 56) (args := #[.agg #[.int .i64 l0.thread, .int .i64 l0.kind, .float .f64 l0.pri, .int .i64 l0.val, .int .i64 l0.d0, .int .i64 l0.d1, .int .i64 l0.beg, .int .i64 l0.fin, .bool l0.ans.ok, .float .f64 l0.ans.pri, .int .i64 l0.ans.val, .int .i64 l0.ans.n], .agg #[.int .i64 l0.thread, .int .i64 l0.kind, .float .f64 l0.pri, .int .i64 l0.val, .int .i64 l0.d0, .int .i64 l0.d1, .int .i64 l0.beg, .int .i64 l0.fin, .bool l0.ans.ok, .float .f64 l0.ans.pri, .int .i64 l0.ans.val, .int .i64 l0.ans.n]]) (w0 := w) ?_ ?_
          · go_simp
          refine (H00.out w).mono ?_
          rintro e w' ⟨rfl, hb'⟩
          exact ⟨_, rfl, rfl, hb', Reg.Keeps.trans hI hb'⟩
        · refine Reg.StepAt.guarded (i := 25) rfl ?_
          intro L ev w hI hk hp hA
          have e94 : ev (.tmp 94) = .bool false := hA.val 24 _ 94 rfl (hp ⟨24, .data⟩ (by simp) rfl) rfl
          have eg : ev (.tmp 87) = .bool true := hA.val 17 _ 87 rfl (hp ⟨17, .guard⟩ (by simp) rfl) rfl
          refine ⟨_, 87, true, rfl, rfl, eg, ?_⟩
          rw [if_pos rfl]
          have hcc := hA.const
          clear hA hp
          refine Reg.out_value (v := .bool true) ?_ ⟨rfl, hrefl _, hI⟩
          go_simp
        · refine Reg.StepAt.plain (i := 26) rfl ?_
          intro L ev w hI hk hp hA
          have e87 : ev (.tmp 87) = .bool true := hA.val 17 _ 87 rfl (hp ⟨17, .data⟩ (by simp) rfl) rfl
          have e95 : ev (.tmp 95) = .bool true := hA.val 25 _ 95 rfl (hp ⟨25, .data⟩ (by simp) rfl) rfl
          have hcc := hA.const
          clear hA hp
          refine Reg.out_value (v := .bool true) ?_ ⟨rfl, hrefl _, hI⟩
          go_simp
        · refine Reg.StepAt.plain (i := 27) rfl ?_
          intro L ev w hI hk hp hA
          have e96 : ev (.tmp 96) = .bool true := hA.val 26 _ 96 rfl (hp ⟨26, .data⟩ (by simp) rfl) rfl
          have hcc := hA.const
          clear hA hp
          refine Reg.out_value (v := .bool true) ?_ ⟨rfl, hrefl _, hI⟩
          go_simp
        intro L act wz hall hI hF
        have g70 : act.eval (.tmp 70) = .slice (some ⟨g, 0, none⟩) 3 cp := hF.val 0 _ 70 rfl (hall 0 (by simp)) rfl
        have g71 : act.eval (.tmp 71) = .pointer (some ⟨g, 0, none⟩) := hF.val 1 _ 71 rfl (hall 1 (by simp)) rfl
        have g72 : act.eval (.tmp 72) = .agg #[.int .i64 l0.thread, .int .i64 l0.kind, .float .f64 l0.pri, .int .i64 l0.val, .int .i64 l0.d0, .int .i64 l0.d1, .int .i64 l0.beg, .int .i64 l0.fin, .bool l0.ans.ok, .float .f64 l0.ans.pri, .int .i64 l0.ans.val, .int .i64 l0.ans.n] := hF.val 2 _ 72 rfl (hall 2 (by simp)) rfl
        have g73 : act.eval (.tmp 73) = .slice (some ⟨g, 0, none⟩) 3 cp := hF.val 3 _ 73 rfl (hall 3 (by simp)) rfl
        have g74 : act.eval (.tmp 74) = .pointer (some ⟨g, 12, none⟩) := hF.val 4 _ 74 rfl (hall 4 (by simp)) rfl
        have g75 : act.eval (.tmp 75) = .agg #[.int .i64 l1.thread, .int .i64 l1.kind, .float .f64 l1.pri, .int .i64 l1.val, .int .i64 l1.d0, .int .i64 l1.d1, .int .i64 l1.beg, .int .i64 l1.fin, .bool l1.ans.ok, .float .f64 l1.ans.pri, .int .i64 l1.ans.val, .int .i64 l1.ans.n] := hF.val 5 _ 75 rfl (hall 5 (by simp)) rfl
        have g76 : act.eval (.tmp 76) = .bool true := hF.val 6 _ 76 rfl (hall 6 (by simp)) rfl
        have g77 : act.eval (.tmp 77) = .bool true := hF.val 7 _ 77 rfl (hall 7 (by simp)) rfl
        have g78 : act.eval (.tmp 78) = .slice (some ⟨g, 0, none⟩) 3 cp := hF.val 8 _ 78 rfl (hall 8 (by simp)) rfl
        have g79 : act.eval (.tmp 79) = .pointer (some ⟨g, 12, none⟩) := hF.val 9 _ 79 rfl (hall 9 (by simp)) rfl
        have g80 : act.eval (.tmp 80) = .agg #[.int .i64 l1.thread, .int .i64 l1.kind, .float .f64 l1.pri, .int .i64 l1.val, .int .i64 l1.d0, .int .i64 l1.d1, .int .i64 l1.beg, .int .i64 l1.fin, .bool l1.ans.ok, .float .f64 l1.ans.pri, .int .i64 l1.ans.val, .int .i64 l1.ans.n] := hF.val 10 _ 80 rfl (hall 10 (by simp)) rfl
        have g81 : act.eval (.tmp 81) = .slice (some ⟨g, 0, none⟩) 3 cp := hF.val 11 _ 81 rfl (hall 11 (by simp)) rfl
        have g82 : act.eval (.tmp 82) = .pointer (some ⟨g, 0, none⟩) := hF.val 12 _ 82 rfl (hall 12 (by simp)) rfl
        have g83 : act.eval (.tmp 83) = .agg #[.int .i64 l0.thread, .int .i64 l0.kind, .float .f64 l0.pri, .int .i64 l0.val, .int .i64 l0.d0, .int .i64 l0.d1, .int .i64 l0.beg, .int .i64 l0.fin, .bool l0.ans.ok, .float .f64 l0.ans.pri, .int .i64 l0.ans.val, .int .i64 l0.ans.n] := hF.val 13 _ 83 rfl (hall 13 (by simp)) rfl
        have g84 : act.eval (.tmp 84) = .bool false := hF.val 14 _ 84 rfl (hall 14 (by simp)) rfl
        have g85 : act.eval (.tmp 85) = .bool false := hF.val 15 _ 85 rfl (hall 15 (by simp)) rfl
        have g86 : act.eval (.tmp 86) = .bool true := hF.val 16 _ 86 rfl (hall 16 (by simp)) rfl
        have g87 : act.eval (.tmp 87) = .bool true := hF.val 17 _ 87 rfl (hall 17 (by simp)) rfl
        have g88 : act.eval (.tmp 88) = .slice (some ⟨g, 0, none⟩) 3 cp := hF.val 18 _ 88 rfl (hall 18 (by simp)) rfl
        have g89 : act.eval (.tmp 89) = .pointer (some ⟨g, 0, none⟩) := hF.val 19 _ 89 rfl (hall 19 (by simp)) rfl
        have g90 : act.eval (.tmp 90) = .agg #[.int .i64 l0.thread, .int .i64 l0.kind, .float .f64 l0.pri, .int .i64 l0.val, .int .i64 l0.d0, .int .i64 l0.d1, .int .i64 l0.beg, .int .i64 l0.fin, .bool l0.ans.ok, .float .f64 l0.ans.pri, .int .i64 l0.ans.val, .int .i64 l0.ans.n] := hF.val 20 _ 90 rfl (hall 20 (by simp)) rfl
        have g91 : act.eval (.tmp 91) = .slice (some ⟨g, 0, none⟩) 3 cp := hF.val 21 _ 91 rfl (hall 21 (by simp)) rfl
        have g92 : act.eval (.tmp 92) = .pointer (some ⟨g, 0, none⟩) := hF.val 22 _ 92 rfl (hall 22 (by simp)) rfl
        have g93 : act.eval (.tmp 93) = .agg #[.int .i64 l0.thread, .int .i64 l0.kind, .float .f64 l0.pri, .int .i64 l0.val, .int .i64 l0.d0, .int .i64 l0.d1, .int .i64 l0.beg, .int .i64 l0.fin, .bool l0.ans.ok, .float .f64 l0.ans.pri, .int .i64 l0.ans.val, .int .i64 l0.ans.n] := hF.val 23 _ 93 rfl (hall 23 (by simp)) rfl
        have g94 : act.eval (.tmp 94) = .bool false := hF.val 24 _ 94 rfl (hall 24 (by simp)) rfl
        have g95 : act.eval (.tmp 95) = .bool true := hF.val 25 _ 95 rfl (hall 25 (by simp)) rfl
        have g96 : act.eval (.tmp 96) = .bool true := hF.val 26 _ 96 rfl (hall 26 (by simp)) rfl
        have g6 : act.eval (.tmp 6) = .bool true := hF.val 27 _ 6 rfl (hall 27 (by simp)) rfl
        have hact := hF.act [70, 71, 72, 73, 74, 75, 76, 77, 78, 79, 80, 81, 82, 83, 84, 85, 86, 87, 88, 89, 90, 91, 92, 93, 94, 95, 96, 6] (by kernel_rfl)
        clear hF hall
        simp only [List.foldl_cons, List.foldl_nil] at hact
        rw [g70, g71, g72, g73, g74, g75, g76, g77, g78, g79, g80, g81, g82, g83, g84, g85, g86, g87, g88, g89, g90, g91, g92, g93, g94, g95, g96, g6] at hact
        clear g70 g71 g72 g73 g74 g75 g76 g77 g78 g79 g80 g81 g82 g83 g84 g85 g86 g87 g88 g89 g90 g91 g92 g93 g94 g95 g96 g6
        simp only [List.setIfInBounds_toArray, List.set_cons_succ, List.set_cons_zero] at hact
        subst hact
        have hz2 : Below wy.heap.size wy wz := hI
        have HFIN := hidq (HLO2.out.trans (hz2.mono HLO2.out.size))
        clear hI hz2 HLO2 FC
        go_wp2_with fail
        go_ret
        exact ⟨rfl, HFIN.out⟩
end Go.Proofs.YtplpenimhiknnaaGreat
