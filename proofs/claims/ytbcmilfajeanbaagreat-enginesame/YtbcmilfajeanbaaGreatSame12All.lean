/-
  Layer 6: an operation of a kind, the program's: contract.
  Layer 5's laws: a value in the making, as the program's: contract.
  Layer 5's laws: a value in the making, as the document's: contract.
  Layer 5's laws: is a value the document's? Where it is: contracts.
  Layer 5: items one by one: are they the same?
  Layer 12: are two values the same? Contracts.
-/
import Derived.Test.YtbcmilfajeanbaaGreatOpIn6All
import Derived.Test.YtbcmilfajeanbaaGreatFlat4All
import Derived.Test.YtbcmilfajeanbaaGreatRefOp6All
import Derived.Test.YtbcmilfajeanbaaGreatInts7
import Derived.Test.YtbcmilfajeanbaaGreatRegionAll
import Derived.Test.YtbcmilfajeanbaaGreatTail
import Derived.Test.YtbcmilfajeanbaaGreatAll4All
namespace Go.Proofs.YtbcmilfajeanbaaGreat
open Go.RowKit Go.Sort

theorem wrapS {n : Int} (h : -100 ≤ n ∧ n ≤ 100) : IntKind.i64.wrap n = n := by rw [IntKind.wrap_i64]; omega
/-- Its kind; what it carries. -/
def ownK (k kx : Int) : Int := opFrom k + into kx (opTo k - opFrom k + 1)
def ownV (k kx v : Int) : Int := if ownK k kx = 5 then v % 4294967296 else v
theorem into_small (d n : Int) (h : n ≤ 10) : 0 ≤ into d n ∧ into d n ≤ 10 := by
  unfold into
  split
  · omega
  · have h1 := Int.emod_nonneg d (show n ≠ 0 by omega)
    have h2 := Int.emod_lt_of_pos d (show 0 < n by omega)
    omega
theorem of_small (k : Int) : 0 ≤ opFrom k ∧ opFrom k ≤ 7 ∧ -1 ≤ opTo k ∧ opTo k ≤ 7 := ⟨(op_rng k).1, (op_rng k).2.1, (op_rng k).2.2.1, (op_rng k).2.2.2.1⟩

theorem setBox_below (b n : Nat) (w0 : World) (hb : n ≤ b) : ∀ (s : List (Nat × Value)) (w : World), Below n w0 w → Below n w0 (setBox w b s)
  | [], _, h => h
  | p :: l, _, h => setBox_below b n w0 hb l _ (h.setCell (p := ⟨b, p.1, none⟩) hb p.2)
/-- An operation that is answered. -/
theorem ret_op {fn : Func} {p : Tmp} (h : fn.results = #[.cell p 43]) {a : Act} {W : World} {ab : Nat} {k v d0 d1 : Int} {m : Nat} {R : Ending → World → Prop}
    (hB : BoxAt W ab [.int .i64 k, .float .f64 m, .int .i64 v, .int .i64 d0, .int .i64 d1]) (hp : a.tmps.getD p undef = .pointer (some ⟨ab, 0, none⟩)) (hd : a.defers = [])
    (hR : R (.returned (.agg #[.int .i64 k, .float .f64 m, .int .i64 v, .int .i64 d0, .int .i64 d1])) W) : bodyPost Tryz.prog fn R .ret a W := by
  refine bodyPost_ret (v := .agg #[.int .i64 k, .float .f64 m, .int .i64 v, .int .i64 d0, .int .i64 d1]) ?_ hd hR
  have q0 := (hB.get 0 _ rfl).1
  have q1 := (hB.get 1 _ rfl).1
  have q2 := (hB.get 2 _ rfl).1
  have q3 := (hB.get 3 _ rfl).1
  have q4 := (hB.get 4 _ rfl).1
  rw [Array.getD_eq_getD_getElem?] at hp
  simp [results, h, hp, asAddr, go_sem, q0, q1, q2, q3, q4, Result.andThen]

/-- An operation stored in a box, as a whole. -/
theorem wpList_store_op {ops : Array Oper} {rest : List Oper} {o : Oper} {a : Act} {Q : Exit → Act → World → Prop} (w : World) (hg : o.guard = none) (s x : Operand) (hop : o.op = Op.store 43 s x) (hd : o.dst = none)
    (g : Nat) (k v d0 d1 : Int) (m : Nat) (hs : a.eval s = .pointer (some ⟨g, 0, none⟩)) (hx : a.eval x = .agg #[.int .i64 k, .float .f64 m, .int .i64 v, .int .i64 d0, .int .i64 d1])
    (z0 z1 z2 z3 z4 : Value) (hB : BoxAt w g [z0, z1, z2, z3, z4])
    (hK : wpList Tryz.prog ops Q rest a (setBox w g [(0, .int .i64 k), (1, .float .f64 m), (2, .int .i64 v), (3, .int .i64 d0), (4, .int .i64 d1)])) : wpList Tryz.prog ops Q (o :: rest) a w := by
  refine wpList_plain hg fun K hK' => ?_
  obtain ⟨c0, y0⟩ := hB.get 0 _ rfl
  obtain ⟨c1, y1⟩ := hB.get 1 _ rfl
  obtain ⟨c2, y2⟩ := hB.get 2 _ rfl
  obtain ⟨c3, y3⟩ := hB.get 3 _ rfl
  obtain ⟨c4, y4⟩ := hB.get 4 _ rfl
  have hsf := run_store_flt (P := Tryz.prog)
  unfold Oper.wp
  simp only [execOp, hop, hs, hx]
  clear hs hx
  clear hB
  go_simp
  exact hK' _ _ hK

def own6R (lo : Nat) (b3 : Nat) (a z kx p x d0 d1 : Int) : List (Value → World → Prop) :=
  [fun v _ => v = .int .i64 a,
   fun v _ => v = .pointer (some ⟨b3, 0, none⟩),
   fun v _ => v = .int .i64 kx,
   fun v _ => v = .int .i64 z,
   fun v _ => v = .int .i64 a,
   fun v _ => v = .int .i64 (z - a),
   fun v _ => v = .int .i64 (z - a + 1),
   fun v _ => v = .int .i64 (into kx (z - a + 1)),
   fun v _ => v = .int .i64 (a + into kx (z - a + 1)),
   fun v _ => v = .pointer (some ⟨b3, 1, none⟩),
   fun v _ => v = .agg #[.int .u64 p, .int .i64 x],
   fun v _ => v = .agg #[.float .f64 (nf p), .int .i64 x],
   fun v _ => v = .pointer (some ⟨b3, 3, none⟩),
   fun v _ => v = .int .i64 d0,
   fun v _ => v = .pointer (some ⟨b3, 4, none⟩),
   fun v _ => v = .int .i64 d1,
   fun v _ => v = .agg #[.int .i64 d0, .int .i64 d1],
   fun v _ => v = .agg #[.int .i64 (a + into kx (z - a + 1)), .float .f64 (nf p), .int .i64 x, .int .i64 d0, .int .i64 d1],
   fun v w => ∃ g, v = .pointer (some ⟨g, 0, none⟩) ∧ BoxAt w g [.int .i64 0, .float .f64 0, .int .i64 0, .int .i64 0, .int .i64 0] ∧ lo ≤ g]
theorem own6R_kept (lo : Nat) (b3 : Nat) (a z kx p x d0 d1 : Int) : Reg.AllKept Reg.Keeps (own6R lo b3 a z kx p x d0 d1) :=
  ⟨(fun _ _ _ _ h => h), (fun _ _ _ _ h => h), (fun _ _ _ _ h => h), (fun _ _ _ _ h => h), (fun _ _ _ _ h => h), (fun _ _ _ _ h => h), (fun _ _ _ _ h => h), (fun _ _ _ _ h => h), (fun _ _ _ _ h => h), (fun _ _ _ _ h => h), (fun _ _ _ _ h => h), (fun _ _ _ _ h => h), (fun _ _ _ _ h => h), (fun _ _ _ _ h => h), (fun _ _ _ _ h => h), (fun _ _ _ _ h => h), (fun _ _ _ _ h => h), (fun _ _ _ _ h => h), (fun v w w' hk h => by obtain ⟨g, h1, h2, h3⟩ := h; exact ⟨g, h1, h2.below hk, h3⟩), trivial⟩

set_option maxRecDepth 20000 in
set_option maxHeartbeats 4000000 in
theorem own6_any (k kx p x d0 d1 : Int) (w : World) :
    Calls Tryz.prog 9 #[.int .i64 k, .agg #[.int .i64 kx, .int .u64 p, .int .i64 x, .int .i64 d0, .int .i64 d1]] w fun e w' => e = .returned (.agg #[.int .i64 (ownK k kx), .float .f64 (nf p), .int .i64 (ownV k kx x), .int .i64 d0, .int .i64 d1]) ∧ Below w.heap.size w w' := by
  obtain ⟨W1, hW1, hb0, hsz0, hR0, hA0⟩ := two_new w [.int .i64 kx, .int .u64 p, .int .i64 x, .int .i64 d0, .int .i64 d1] [.int .i64 0, .float .f64 0, .int .i64 0, .int .i64 0, .int .i64 0] 34 43 0
  have hO := hidq (rof_any k)
  have hrg := of_small k
  have hin := into_small kx (opTo k - opFrom k + 1) (by omega)
  have hsf := run_store_flt (P := Tryz.prog)
  have H5 := hidq (fun (h : ownK k kx = 5) => (show ownV k kx x = x % 4294967296 from if_pos h))
  have Hn := hidq (fun (h : ¬ ownK k kx = 5) => (show ownV k kx x = x from if_neg h))
  generalize ownV k kx x = y at *
  unfold ownK at *
  generalize opFrom k = a at *
  generalize opTo k = z at *
  obtain ⟨b3, hb3⟩ : ∃ b3, w.heap.size = b3 := ⟨_, rfl⟩
  rw [hb3] at hR0 hA0
  have hW2 : (w.alloc (.cells #[.int .i64 kx, .int .u64 p, .int .i64 x, .int .i64 d0, .int .i64 d1] 34)).alloc (.cells #[.int .i64 0, .float .f64 0, .int .i64 0, .int .i64 0, .int .i64 0] 43) = W1 := hW1
  clear hW1
  have FC := hidq (fun W (hW : Below W1.heap.size W1 W) => (show W.cell? ⟨b3, 0, none⟩ = some (.int .i64 kx) ∧ W.cell? ⟨b3, 1, none⟩ = some (.int .u64 p) ∧ W.cell? ⟨b3, 2, none⟩ = some (.int .i64 x) ∧ W.cell? ⟨b3, 3, none⟩ = some (.int .i64 d0) ∧ W.cell? ⟨b3, 4, none⟩ = some (.int .i64 d1) from by
    have q := hR0.below hW
    exact ⟨(q.get 0 _ rfl).1, (q.get 1 _ rfl).1, (q.get 2 _ rfl).1, (q.get 3 _ rfl).1, (q.get 4 _ rfl).1⟩))
  have HA := hidq (And.intro hA0 hb0)
  clear hR0 hA0 hb0
  go_enter Tryz.func9, Tryz.ntmps9
  go_wp2_with fail
  refine (hO.out _).mono ?_
  rintro e w1 ⟨rfl, hw1⟩
  subst w1
  obtain ⟨lo, hlo⟩ : ∃ lo, W1.heap.size = lo := ⟨_, rfl⟩
  go_wp2_with fail
  have hrefl : ∀ w : World, Reg.Keeps w w := Reg.Keeps.refl
  refine Reg.wp_region_props_tail 19 (Reg.ofList (own6R lo b3 a z kx p x d0 d1)) Reg.Keeps (fun _ w => Reg.Keeps W1 w) (by kernel_rfl) (by kernel_rfl) (by kernel_rfl) (Reg.AllKept.at _ (own6R_kept lo b3 a z kx p x d0 d1)) hrefl (Reg.Keeps.drewN (Reg.Keeps.refl _) 1) ⟨?_, ?_, ?_, ?_, ?_, ?_, ?_, ?_, ?_, ?_, ?_, ?_, ?_, ?_, ?_, ?_, ?_, ?_, ?_, trivial⟩ ?_
  · refine Reg.StepAt.plain (i := 0) rfl ?_
    intro L ev w hI hk hp hA
    have e5 : ev (.tmp 5) = .int .i64 a := hA.oldNone 5 (by kernel_rfl)
    have hcc := hA.const
    clear hA hp
    refine Reg.out_value (v := .int .i64 a) ?_ ⟨rfl, hrefl _, hI⟩
    go_simp
  · refine Reg.StepAt.plain (i := 1) rfl ?_
    intro L ev w hI hk hp hA
    have e3 : ev (.tmp 3) = .pointer (some ⟨b3, 0, none⟩) := hA.oldNone 3 (by kernel_rfl)
    have hcc := hA.const
    clear hA hp
    refine Reg.out_value (v := .pointer (some ⟨b3, 0, none⟩)) ?_ ⟨rfl, hrefl _, hI⟩
    go_simp
  · refine Reg.StepAt.plain (i := 2) rfl ?_
    intro L ev w hI hk hp hA
    have e14 : ev (.tmp 14) = .pointer (some ⟨b3, 0, none⟩) := hA.val 1 _ 14 rfl (hp ⟨1, .data⟩ (by simp) rfl) rfl
    have hcc := hA.const
    clear hA hp
    obtain ⟨f0, f1, f2, f3, f4⟩ := FC.out w hI
    refine Reg.out_value (v := .int .i64 kx) ?_ ⟨rfl, hrefl _, hI⟩
    go_simp
  · refine Reg.StepAt.plain (i := 3) rfl ?_
    intro L ev w hI hk hp hA
    have e6 : ev (.tmp 6) = .int .i64 z := hA.oldNone 6 (by kernel_rfl)
    have hcc := hA.const
    clear hA hp
    refine Reg.out_value (v := .int .i64 z) ?_ ⟨rfl, hrefl _, hI⟩
    go_simp
  · refine Reg.StepAt.plain (i := 4) rfl ?_
    intro L ev w hI hk hp hA
    have e5 : ev (.tmp 5) = .int .i64 a := hA.oldNone 5 (by kernel_rfl)
    have hcc := hA.const
    clear hA hp
    refine Reg.out_value (v := .int .i64 a) ?_ ⟨rfl, hrefl _, hI⟩
    go_simp
  · refine Reg.StepAt.plain (i := 5) rfl ?_
    intro L ev w hI hk hp hA
    have e16 : ev (.tmp 16) = .int .i64 z := hA.val 3 _ 16 rfl (hp ⟨3, .data⟩ (by simp) rfl) rfl
    have e17 : ev (.tmp 17) = .int .i64 a := hA.val 4 _ 17 rfl (hp ⟨4, .data⟩ (by simp) rfl) rfl
    have hcc := hA.const
    clear hA hp
    refine Reg.out_value (v := .int .i64 (z - a)) ?_ ⟨rfl, hrefl _, hI⟩
    (go_simp; exact wrapS (by omega))
  · refine Reg.StepAt.plain (i := 6) rfl ?_
    intro L ev w hI hk hp hA
    have e18 : ev (.tmp 18) = .int .i64 (z - a) := hA.val 5 _ 18 rfl (hp ⟨5, .data⟩ (by simp) rfl) rfl
    have hcc := hA.const
    clear hA hp
    refine Reg.out_value (v := .int .i64 (z - a + 1)) ?_ ⟨rfl, hrefl _, hI⟩
    (go_simp; exact wrapS (by omega))
  · refine Reg.StepAt.plain (i := 7) rfl ?_
    intro L ev w hI hk hp hA
    have e15 : ev (.tmp 15) = .int .i64 kx := hA.val 2 _ 15 rfl (hp ⟨2, .data⟩ (by simp) rfl) rfl
    have e19 : ev (.tmp 19) = .int .i64 (z - a + 1) := hA.val 6 _ 19 rfl (hp ⟨6, .data⟩ (by simp) rfl) rfl
    have hcc := hA.const
    have hcf := hA.func
    clear hA hp
    refine Reg.out_call (f := 32) (args := #[.int .i64 kx, .int .i64 (z - a + 1)]) (w0 := w) ?_ ?_
    · go_simp
    refine (rinto_any kx (z - a + 1) w (by omega)).mono ?_
    rintro e w' ⟨rfl, rfl⟩
    exact ⟨_, rfl, rfl, hrefl _, hI⟩
  · refine Reg.StepAt.plain (i := 8) rfl ?_
    intro L ev w hI hk hp hA
    have e13 : ev (.tmp 13) = .int .i64 a := hA.val 0 _ 13 rfl (hp ⟨0, .data⟩ (by simp) rfl) rfl
    have e20 : ev (.tmp 20) = .int .i64 (into kx (z - a + 1)) := hA.val 7 _ 20 rfl (hp ⟨7, .data⟩ (by simp) rfl) rfl
    have hcc := hA.const
    clear hA hp
    refine Reg.out_value (v := .int .i64 (a + into kx (z - a + 1))) ?_ ⟨rfl, hrefl _, hI⟩
    (go_simp; exact wrapS (by omega))
  · refine Reg.StepAt.plain (i := 9) rfl ?_
    intro L ev w hI hk hp hA
    have e3 : ev (.tmp 3) = .pointer (some ⟨b3, 0, none⟩) := hA.oldNone 3 (by kernel_rfl)
    have hcc := hA.const
    clear hA hp
    refine Reg.out_value (v := .pointer (some ⟨b3, 1, none⟩)) ?_ ⟨rfl, hrefl _, hI⟩
    go_simp
  · refine Reg.StepAt.plain (i := 10) rfl ?_
    intro L ev w hI hk hp hA
    have e22 : ev (.tmp 22) = .pointer (some ⟨b3, 1, none⟩) := hA.val 9 _ 22 rfl (hp ⟨9, .data⟩ (by simp) rfl) rfl
    have hcc := hA.const
    clear hA hp
    obtain ⟨f0, f1, f2, f3, f4⟩ := FC.out w hI
    refine Reg.out_value (v := .agg #[.int .u64 p, .int .i64 x]) ?_ ⟨rfl, hrefl _, hI⟩
    go_simp
  · refine Reg.StepAt.plain (i := 11) rfl ?_
    intro L ev w hI hk hp hA
    have e23 : ev (.tmp 23) = .agg #[.int .u64 p, .int .i64 x] := hA.val 10 _ 23 rfl (hp ⟨10, .data⟩ (by simp) rfl) rfl
    have hcc := hA.const
    have hcf := hA.func
    clear hA hp
    refine Reg.out_call (f := 33) (args := #[.agg #[.int .u64 p, .int .i64 x]]) (w0 := w) ?_ ?_
    · go_simp
    refine (own_any p x w).mono ?_
    rintro e w' ⟨rfl, hb'⟩
    exact ⟨_, rfl, rfl, hb', Reg.Keeps.trans hI hb'⟩
  · refine Reg.StepAt.plain (i := 12) rfl ?_
    intro L ev w hI hk hp hA
    have e3 : ev (.tmp 3) = .pointer (some ⟨b3, 0, none⟩) := hA.oldNone 3 (by kernel_rfl)
    have hcc := hA.const
    clear hA hp
    refine Reg.out_value (v := .pointer (some ⟨b3, 3, none⟩)) ?_ ⟨rfl, hrefl _, hI⟩
    go_simp
  · refine Reg.StepAt.plain (i := 13) rfl ?_
    intro L ev w hI hk hp hA
    have e25 : ev (.tmp 25) = .pointer (some ⟨b3, 3, none⟩) := hA.val 12 _ 25 rfl (hp ⟨12, .data⟩ (by simp) rfl) rfl
    have hcc := hA.const
    clear hA hp
    obtain ⟨f0, f1, f2, f3, f4⟩ := FC.out w hI
    refine Reg.out_value (v := .int .i64 d0) ?_ ⟨rfl, hrefl _, hI⟩
    go_simp
  · refine Reg.StepAt.plain (i := 14) rfl ?_
    intro L ev w hI hk hp hA
    have e3 : ev (.tmp 3) = .pointer (some ⟨b3, 0, none⟩) := hA.oldNone 3 (by kernel_rfl)
    have hcc := hA.const
    clear hA hp
    refine Reg.out_value (v := .pointer (some ⟨b3, 4, none⟩)) ?_ ⟨rfl, hrefl _, hI⟩
    go_simp
  · refine Reg.StepAt.plain (i := 15) rfl ?_
    intro L ev w hI hk hp hA
    have e27 : ev (.tmp 27) = .pointer (some ⟨b3, 4, none⟩) := hA.val 14 _ 27 rfl (hp ⟨14, .data⟩ (by simp) rfl) rfl
    have hcc := hA.const
    clear hA hp
    obtain ⟨f0, f1, f2, f3, f4⟩ := FC.out w hI
    refine Reg.out_value (v := .int .i64 d1) ?_ ⟨rfl, hrefl _, hI⟩
    go_simp
  · refine Reg.StepAt.plain (i := 16) rfl ?_
    intro L ev w hI hk hp hA
    have e26 : ev (.tmp 26) = .int .i64 d0 := hA.val 13 _ 26 rfl (hp ⟨13, .data⟩ (by simp) rfl) rfl
    have e28 : ev (.tmp 28) = .int .i64 d1 := hA.val 15 _ 28 rfl (hp ⟨15, .data⟩ (by simp) rfl) rfl
    have hcc := hA.const
    clear hA hp
    refine Reg.out_value (v := .agg #[.int .i64 d0, .int .i64 d1]) ?_ ⟨rfl, hrefl _, hI⟩
    go_simp
  · refine Reg.StepAt.plain (i := 17) rfl ?_
    intro L ev w hI hk hp hA
    have e21 : ev (.tmp 21) = .int .i64 (a + into kx (z - a + 1)) := hA.val 8 _ 21 rfl (hp ⟨8, .data⟩ (by simp) rfl) rfl
    have e24 : ev (.tmp 24) = .agg #[.float .f64 (nf p), .int .i64 x] := hA.val 11 _ 24 rfl (hp ⟨11, .data⟩ (by simp) rfl) rfl
    have e29 : ev (.tmp 29) = .agg #[.int .i64 d0, .int .i64 d1] := hA.val 16 _ 29 rfl (hp ⟨16, .data⟩ (by simp) rfl) rfl
    have hcc := hA.const
    clear hA hp
    refine Reg.out_value (v := .agg #[.int .i64 (a + into kx (z - a + 1)), .float .f64 (nf p), .int .i64 x, .int .i64 d0, .int .i64 d1]) ?_ ⟨rfl, hrefl _, hI⟩
    go_simp
  · refine Reg.StepAt.plain (i := 18) rfl ?_
    intro L ev w hI hk hp hA
    have hcc := hA.const
    clear hA hp
    refine Reg.out_new (v := .pointer (some ⟨w.heap.size, 0, none⟩)) (w' := w.alloc (.cells #[.int .i64 0, .float .f64 0, .int .i64 0, .int .i64 0, .int .i64 0] 43)) ?_ ⟨⟨w.heap.size, rfl, BoxAt.new w [.int .i64 0, .float .f64 0, .int .i64 0, .int .i64 0, .int .i64 0] 43, by have h1 : W1.heap.size ≤ w.heap.size := hI.size; omega⟩, (Reg.Keeps.refl _).alloc _, Reg.Keeps.alloc hI _⟩
    go_simp
  intro act wz hI hF
  have g13 : act.eval (.tmp 13) = .int .i64 a := hF.val 0 _ 13 rfl (by kernel_rfl) rfl
  have g14 : act.eval (.tmp 14) = .pointer (some ⟨b3, 0, none⟩) := hF.val 1 _ 14 rfl (by kernel_rfl) rfl
  have g15 : act.eval (.tmp 15) = .int .i64 kx := hF.val 2 _ 15 rfl (by kernel_rfl) rfl
  have g16 : act.eval (.tmp 16) = .int .i64 z := hF.val 3 _ 16 rfl (by kernel_rfl) rfl
  have g17 : act.eval (.tmp 17) = .int .i64 a := hF.val 4 _ 17 rfl (by kernel_rfl) rfl
  have g18 : act.eval (.tmp 18) = .int .i64 (z - a) := hF.val 5 _ 18 rfl (by kernel_rfl) rfl
  have g19 : act.eval (.tmp 19) = .int .i64 (z - a + 1) := hF.val 6 _ 19 rfl (by kernel_rfl) rfl
  have g20 : act.eval (.tmp 20) = .int .i64 (into kx (z - a + 1)) := hF.val 7 _ 20 rfl (by kernel_rfl) rfl
  have g21 : act.eval (.tmp 21) = .int .i64 (a + into kx (z - a + 1)) := hF.val 8 _ 21 rfl (by kernel_rfl) rfl
  have g22 : act.eval (.tmp 22) = .pointer (some ⟨b3, 1, none⟩) := hF.val 9 _ 22 rfl (by kernel_rfl) rfl
  have g23 : act.eval (.tmp 23) = .agg #[.int .u64 p, .int .i64 x] := hF.val 10 _ 23 rfl (by kernel_rfl) rfl
  have g24 : act.eval (.tmp 24) = .agg #[.float .f64 (nf p), .int .i64 x] := hF.val 11 _ 24 rfl (by kernel_rfl) rfl
  have g25 : act.eval (.tmp 25) = .pointer (some ⟨b3, 3, none⟩) := hF.val 12 _ 25 rfl (by kernel_rfl) rfl
  have g26 : act.eval (.tmp 26) = .int .i64 d0 := hF.val 13 _ 26 rfl (by kernel_rfl) rfl
  have g27 : act.eval (.tmp 27) = .pointer (some ⟨b3, 4, none⟩) := hF.val 14 _ 27 rfl (by kernel_rfl) rfl
  have g28 : act.eval (.tmp 28) = .int .i64 d1 := hF.val 15 _ 28 rfl (by kernel_rfl) rfl
  have g29 : act.eval (.tmp 29) = .agg #[.int .i64 d0, .int .i64 d1] := hF.val 16 _ 29 rfl (by kernel_rfl) rfl
  have g30 : act.eval (.tmp 30) = .agg #[.int .i64 (a + into kx (z - a + 1)), .float .f64 (nf p), .int .i64 x, .int .i64 d0, .int .i64 d1] := hF.val 17 _ 30 rfl (by kernel_rfl) rfl
  have g7 : (fun v w => ∃ g, v = .pointer (some ⟨g, 0, none⟩) ∧ BoxAt w g [.int .i64 0, .float .f64 0, .int .i64 0, .int .i64 0, .int .i64 0] ∧ lo ≤ g) (act.eval (.tmp 7)) wz := hF.val 18 _ 7 rfl (by kernel_rfl) rfl
  have hact := hF.actHead [13, 14, 15, 16, 17, 18, 19, 20, 21, 22, 23, 24, 25, 26, 27, 28, 29, 30, 7] (by kernel_rfl)
  clear hF
  simp only [List.foldl_cons, List.foldl_nil] at hact
  rw [g13, g14, g15, g16, g17, g18, g19, g20, g21, g22, g23, g24, g25, g26, g27, g28, g29, g30] at hact
  clear g13 g14 g15 g16 g17 g18 g19 g20 g21 g22 g23 g24 g25 g26 g27 g28 g29 g30
  generalize act.eval (.tmp 7) = u7 at hact g7
  simp only [List.setIfInBounds_toArray, List.set_cons_succ, List.set_cons_zero] at hact
  subst hact
  simp only [List.drop_succ_cons, List.drop_zero]
  obtain ⟨g, rfl, hB, hg⟩ := g7
  have hIz : Below W1.heap.size W1 wz := hI
  obtain ⟨hA0, hb0⟩ := HA.out
  have hAz := hA0.below hIz
  have hwz : Below w.heap.size w wz := hb0.trans (hIz.mono hb0.size)
  have hgb : b3 + 1 < g := by omega
  generalize hkk : a + into kx (z - a + 1) = kk at *
  refine wpList_store_op wz rfl _ _ rfl rfl g kk x d0 d1 (nf p) rfl rfl _ _ _ _ _ hB ?_
  have hB' := setBox_box [(0, .int .i64 kk), (1, .float .f64 (nf p)), (2, .int .i64 x), (3, .int .i64 d0), (4, .int .i64 d1)] hB
  have hb' := setBox_but g [(0, .int .i64 kk), (1, .float .f64 (nf p)), (2, .int .i64 x), (3, .int .i64 d0), (4, .int .i64 d1)] wz
  replace hwz := setBox_below g w.heap.size w (by omega) [(0, .int .i64 kk), (1, .float .f64 (nf p)), (2, .int .i64 x), (3, .int .i64 d0), (4, .int .i64 d1)] wz hwz
  replace hAz := hAz.but hb' (by omega)
  generalize setBox wz g [(0, .int .i64 kk), (1, .float .f64 (nf p)), (2, .int .i64 x), (3, .int .i64 d0), (4, .int .i64 d1)] = W4 at *
  have FIN := hidq (fun (s s2 : List (Nat × Value)) => And.intro (setBox_below (b3 + 1) w.heap.size w (by omega) s2 _ (setBox_below g w.heap.size w (by omega) s _ hwz)) (setBox_box s2 (hAz.but (setBox_but g s W4) (by omega))))
  obtain ⟨c0, y0⟩ := hB'.get 0 _ rfl
  obtain ⟨c1, y1⟩ := hB'.get 1 _ rfl
  obtain ⟨c2, y2⟩ := hB'.get 2 _ rfl
  obtain ⟨c3, y3⟩ := hB'.get 3 _ rfl
  obtain ⟨c4, y4⟩ := hB'.get 4 _ rfl
  obtain ⟨r0, x0⟩ := hAz.get 0 _ rfl
  obtain ⟨r1, x1⟩ := hAz.get 1 _ rfl
  obtain ⟨r2, x2⟩ := hAz.get 2 _ rfl
  obtain ⟨r3, x3⟩ := hAz.get 3 _ rfl
  obtain ⟨r4, x4⟩ := hAz.get 4 _ rfl
  have hne : ¬ g = b3 + 1 := by omega
  have hne2 : ¬ b3 + 1 = g := by omega
  have hm := i64_and32 x
  clear hB hB' hb' hAz hA0 hb0 HA hIz hI hwz FC hO hW2 hgb hg
  by_cases h5 : kk = 5
  · subst h5
    have hy := H5.out rfl
    clear H5 Hn
    subst y
    generalize hvv : x % 4294967296 = vv at *
    go_wp2
    obtain ⟨F1, F2⟩ := FIN.out [(2, .int .i64 vv)] [(0, .int .i64 5), (1, .float .f64 (nf p)), (2, .int .i64 vv), (3, .int .i64 d0), (4, .int .i64 d1)]
    exact ret_op Tryz.results9 F2 rfl rfl ⟨by first | rfl | rw [hkk, hvv], by rw [hb3] at F1; exact F1⟩
  · have hy := Hn.out h5
    clear H5 Hn
    subst y
    go_wp2
    obtain ⟨F1, F2⟩ := FIN.out [] [(0, .int .i64 kk), (1, .float .f64 (nf p)), (2, .int .i64 x), (3, .int .i64 d0), (4, .int .i64 d1)]
    exact ret_op Tryz.results9 F2 rfl rfl ⟨by first | rfl | rw [hkk], by rw [hb3] at F1; exact F1⟩
end Go.Proofs.YtbcmilfajeanbaaGreat

namespace Go.Proofs.YtbcmilfajeanbaaGreat
open Go.RowKit Go.Sort

/-- A value that was made: what was made of the first six. -/
def OwnEnd (x : Int) (n : Nat) (K V : Nat → Int) (w : World) (e : Ending) (w' : World) : Prop :=
  ∃ m a' cap', m = min n 6 ∧ e = .returned (.agg #[.int .i64 x, .slice a' m cap']) ∧ SlAt 2 w' a' cap' m (flatI (kts (rawL K V m))) ∧ (∀ j, inB a' j → w.heap.size ≤ j) ∧ Below w.heap.size w w'

end Go.Proofs.YtbcmilfajeanbaaGreat

namespace Go.Proofs.YtbcmilfajeanbaaGreat
open Go.RowKit Go.Sort

/-- A value that was made: what was made of the first six. -/
def ToldEnd (x : Int) (n : Nat) (K V : Nat → Int) (w : World) (e : Ending) (w' : World) : Prop :=
  ∃ m a' cap', m = min n 6 ∧ e = .returned (.agg #[.int .i64 x, .slice a' m cap']) ∧ SlAt 2 w' a' cap' m (flatR (rawL K V m)) ∧ (∀ j, inB a' j → w.heap.size ≤ j) ∧ Below w.heap.size w w'

end Go.Proofs.YtbcmilfajeanbaaGreat

namespace Go.Proofs.YtbcmilfajeanbaaGreat
open Go.RowKit Go.Sort

theorem isV_eq (x : KI) : isV x.b x.v (ni x.b) x.v = 0 := if_pos ⟨rfl, rfl⟩
end Go.Proofs.YtbcmilfajeanbaaGreat

namespace Go.Proofs.YtbcmilfajeanbaaGreat
open Go.RowKit Go.Sort

def eqK (x y : KI) : Bool := decide (cmpN x.b x.v y.b y.v = 0)
def sameK (L M : List KI) : Bool := decide (L.length = M.length ∧ ∀ k, k < L.length → eqK L[k]! M[k]! = true)
theorem eqK_self (x : KI) : eqK x x = true := by
  unfold eqK; rw [decide_eq_true_eq, cmpN_same (by rw [cmpI_zero]), cmpI_zero]
theorem sameK_self (L : List KI) : sameK L L = true := decide_eq_true ⟨rfl, fun _ _ => eqK_self _⟩
theorem SlAt.item {w : World} {a : Option Addr} {cap n : Nat} {L : List KI} (h : SlAt 2 w a cap n (flatI (kts L))) (hL : L.length = n) {k : Nat} (hk : k < n) : ∃ g, a = some ⟨g, 0, none⟩ ∧ g < w.heap.size ∧ w.cell? ⟨g, k * 2, none⟩ = some (.float .f64 L[k]!.b) ∧ w.cell? ⟨g, k * 2 + 1, none⟩ = some (.int .i64 L[k]!.v) := by
  have hkl : k < L.length := by omega
  have hk2 : k < (kts L).length := by rw [kts_length]; exact hkl
  obtain ⟨g, rfl, hl, e0⟩ := h.cell (flatI_get (kts L) k hk2).1
  obtain ⟨g', q, _, e1⟩ := h.cell (flatI_get (kts L) k hk2).2
  cases q
  have hx : (kts L)[k] = (L[k]!.b, L[k]!.v) := by rw [getElem!_pos L k hkl]; simp [kts, kt]
  rw [hx] at e0 e1
  exact ⟨g, rfl, hl, e0, e1⟩
theorem SlAt.itemR {w : World} {a : Option Addr} {cap n : Nat} {L : List KI} (h : SlAt 2 w a cap n (flatR L)) (hL : L.length = n) {k : Nat} (hk : k < n) : ∃ g, a = some ⟨g, 0, none⟩ ∧ g < w.heap.size ∧ w.cell? ⟨g, k * 2, none⟩ = some (.int .u64 (ni L[k]!.b)) ∧ w.cell? ⟨g, k * 2 + 1, none⟩ = some (.int .i64 L[k]!.v) := by
  have hkl : k < L.length := by omega
  obtain ⟨g, rfl, hl, e0⟩ := h.cell (flatR_get L k hkl).1
  obtain ⟨g', q, _, e1⟩ := h.cell (flatR_get L k hkl).2
  cases q
  rw [← getElem!_pos L k hkl] at e0 e1
  exact ⟨g, rfl, hl, e0, e1⟩
end Go.Proofs.YtbcmilfajeanbaaGreat

namespace Go.Proofs.YtbcmilfajeanbaaGreat
open Go.RowKit Go.Sort

theorem wsame1_any (x y : KI) (w : World) : Calls Tryz.prog 40 #[.agg #[.float .f64 x.b, .int .i64 x.v], .agg #[.float .f64 y.b, .int .i64 y.v]] w fun e w' => e = .returned (.bool (eqK x y)) ∧ Below w.heap.size w w' := by
  have hC := hidq (fun w => icmp_any x.b y.b x.v y.v w x.ok.1 y.ok.1)
  cases he : eqK x y
  · have hb : (cmpN x.b x.v y.b y.v == 0) = false := by unfold eqK at he; simpa using he
    generalize cmpN x.b x.v y.b y.v = c at *
    clear he
    go_enter Tryz.func40, Tryz.ntmps40
    go_wp2_with (go_at_call 11; refine (hC.out _).mono ?_; rintro e w1 ⟨rfl, hw⟩; replace hw := hw.symm; subst hw)
    go_ret
    exact ⟨rfl, ((((Below.refl _ _).alloc (Nat.le_refl _) _).alloc (by simp) _).alloc (by simp; omega) _).alloc (by simp; omega) _⟩
  · have hb : cmpN x.b x.v y.b y.v = 0 := by unfold eqK at he; simpa using he
    rw [hb] at hC
    clear he hb
    go_enter Tryz.func40, Tryz.ntmps40
    go_wp2_with (go_at_call 11; refine (hC.out _).mono ?_; rintro e w1 ⟨rfl, hw⟩; replace hw := hw.symm; subst hw)
    go_ret
    exact ⟨rfl, ((((Below.refl _ _).alloc (Nat.le_refl _) _).alloc (by simp) _).alloc (by simp; omega) _).alloc (by simp; omega) _⟩

set_option maxHeartbeats 2000000 in
theorem wequalFunc_any (a1 a2 : Option Addr) (c1 c2 n1 n2 : Nat) (L M : List KI) (w : World) (hL : L.length = n1) (hM : M.length = n2) (h1 : SlAt 2 w a1 c1 n1 (flatI (kts L))) (h2 : SlAt 2 w a2 c2 n2 (flatI (kts M))) (hn : n1 ≤ 1000000) :
    Calls Tryz.prog 39 #[.slice a1 n1 c1, .slice a2 n2 c2, .func (.func 40) #[] #[]] w fun e w' => e = .returned (.bool (sameK L M)) ∧ Below w.heap.size w w' := by
  have hsf := run_store_float (P := Tryz.prog)
  by_cases hnn : n1 = n2
  · subst hnn
    have hn1 : (n1 : Int) ≤ 1000000 := by omega
    have hle1 := h1.le
    have hle2 := h2.le
    go_enter Tryz.func39, Tryz.ntmps39
    have HL := hidq hL
    have HM := hidq hM
    clear hL hM
    go_wp2
    go_loopw [17] (fun c wr => ∃ (k : Nat), c = .int .i64 (k : Int) ∧ k ≤ n1 ∧ Below w.heap.size w wr ∧ ∀ j, j < k → eqK L[j]! M[j]! = true) (fun c _ => n1 - (intOf c).toNat)
    case atStart => exact ⟨0, rfl, Nat.zero_le _, Below.refl _ _, fun j hj => absurd hj (Nat.not_lt_zero _)⟩
    case round =>
      obtain ⟨k, rfl, hk, hB, hall⟩ := hrel
      by_cases hlt : k < n1
      · obtain ⟨g1, rfl, hl1, e0, e1⟩ := h1.item HL.out hlt
        obtain ⟨g2, rfl, hl2, f0, f1⟩ := h2.item HM.out hlt
        have e0' := (hB.cell (p := ⟨g1, k * 2, none⟩) hl1).trans e0
        have e1' := (hB.cell (p := ⟨g1, k * 2 + 1, none⟩) hl1).trans e1
        have f0' := (hB.cell (p := ⟨g2, k * 2, none⟩) hl2).trans f0
        have f1' := (hB.cell (p := ⟨g2, k * 2 + 1, none⟩) hl2).trans f1
        have k1 : (k : Int) < (n1 : Int) := by omega
        have hS := hidq (fun w => wsame1_any L[k]! M[k]! w)
        have hg1 : g1 < wr.heap.size := by have := hB.size; omega
        have hg2 : g2 < wr.heap.size := by have := hB.size; omega
        cases hq : eqK L[k]! M[k]!
        · have hF : sameK L M = false := decide_eq_false (fun e => by have := e.2 k (by have := HL.out; omega); rw [hq] at this; cases this)
          have HF := hidq hF
          rw [hq] at hS
          clear hall hq hF e0 e1 f0 f1
          generalize L[k]! = x at *
          generalize M[k]! = y at *
          go_wp2_with fail
          refine (hS.out _).mono ?_
          rintro e w3 ⟨rfl, hb3⟩
          go_wp2
          go_ret
          refine ⟨by rw [HF.out]; rfl, ?_⟩
          exact (((hB.trans ((Below.refl _ _).alloc hB.size _)).trans ((Below.refl _ _).alloc (by have := hB.size; simp; omega) _))).trans (hb3.mono (by have := hB.size; simp; omega))
        · have hnx : ∀ j, j < k + 1 → eqK L[j]! M[j]! = true := fun j hj => by
            rcases Nat.lt_succ_iff_lt_or_eq.1 hj with h | h
            · exact hall j h
            · rw [h]; exact hq
          have HX := hidq hnx
          rw [hq] at hS
          clear hall hq hnx e0 e1 f0 f1
          generalize L[k]! = x at *
          generalize M[k]! = y at *
          go_wp2_with fail
          refine (hS.out _).mono ?_
          rintro e w3 ⟨rfl, hb3⟩
          go_wp2
          refine ⟨⟨k + 1, rfl, by omega, ?_, HX.out⟩, by simp [intOf]; omega⟩
          exact (((hB.trans ((Below.refl _ _).alloc hB.size _)).trans ((Below.refl _ _).alloc (by have := hB.size; simp; omega) _))).trans (hb3.mono (by have := hB.size; simp; omega))
      · have hkn : k = n1 := by omega
        have hT : sameK L M = true := decide_eq_true ⟨HL.out.trans HM.out.symm, fun j hj => hall j (by have := HL.out; omega)⟩
        have HT := hidq hT
        have hd : decide ((k : Int) < (n1 : Int)) = false := decide_eq_false (by omega)
        clear hT hall hkn
        go_wp2
        go_ret
        exact ⟨by rw [HT.out]; rfl, hB⟩
  · have hF : sameK L M = false := decide_eq_false (fun e => hnn (by omega))
    rw [hF]
    have hb : ((n1 : Int) != (n2 : Int)) = true := by simp; omega
    clear h1 h2 hF hL hM
    go_enter Tryz.func39, Tryz.ntmps39
    go_wp2
    go_ret
    exact ⟨rfl, Below.refl _ _⟩

/-- Two values. -/
def sameW (kx ky x y : Int) (L M : List KI) : Bool := decide (kx = ky) && (decide (x = y) && sameK L M)
theorem sameW_self (k x : Int) (L : List KI) : sameW k k x x L L = true := by unfold sameW; rw [sameK_self]; simp
set_option maxRecDepth 20000 in
set_option maxHeartbeats 4000000 in
theorem wsame_any (kx ky x y : Int) (a1 a2 : Option Addr) (c1 c2 n1 n2 : Nat) (L M : List KI) (w : World) (hL : L.length = n1) (hM : M.length = n2) (h1 : SlAt 2 w a1 c1 n1 (flatI (kts L))) (h2 : SlAt 2 w a2 c2 n2 (flatI (kts M))) (hn : n1 ≤ 1000000) :
    Calls Tryz.prog 13 #[.agg #[.int .i64 kx, .slice a1 n1 c1, .int .i64 x], .agg #[.int .i64 ky, .slice a2 n2 c2, .int .i64 y]] w fun e w' => e = .returned (.bool (sameW kx ky x y L M)) ∧ Below w.heap.size w w' := by
  have hb : Below w.heap.size w ((w.alloc (.cells #[.int .i64 kx, .slice a1 n1 c1, .int .i64 x] 54)).alloc (.cells #[.int .i64 ky, .slice a2 n2 c2, .int .i64 y] 54)) := ((Below.refl _ _).alloc (Nat.le_refl _) _).alloc (by simp) _
  have HB := hidq hb
  by_cases hk : kx = ky
  · subst hk
    by_cases hxy : x = y
    · subst hxy
      have hv : sameW kx kx x x L M = sameK L M := by unfold sameW; simp
      rw [hv]
      have hE := hidq (wequalFunc_any a1 a2 c1 c2 n1 n2 L M _ hL hM (h1.below hb) (h2.below hb) hn)
      generalize sameK L M = s at *
      clear h1 h2 hL hM hb hv
      go_enter Tryz.func13, Tryz.ntmps13
      go_wp2_with fail
      refine hE.out.mono ?_
      rintro e w1 ⟨rfl, hb1⟩
      have HC := hidq hb1
      clear hb1
      go_wp2
      go_ret
      exact ⟨rfl, HB.out.trans (HC.out.mono HB.out.size)⟩
    · have hv : sameW kx kx x y L M = false := by unfold sameW; simp [hxy]
      rw [hv]
      have hbx : (x == y) = false := by simpa using hxy
      clear h1 h2 hL hM hb hv hxy
      go_enter Tryz.func13, Tryz.ntmps13
      go_wp2
      go_ret
      exact ⟨rfl, HB.out⟩
  · have hv : sameW kx ky x y L M = false := by unfold sameW; simp [hk]
    rw [hv]
    have hbx : (kx == ky) = false := by simpa using hk
    clear h1 h2 hL hM hb hv hk
    go_enter Tryz.func13, Tryz.ntmps13
    go_wp2
    go_ret
    exact ⟨rfl, HB.out⟩
end Go.Proofs.YtbcmilfajeanbaaGreat
