/-
  Layer 4: PileOrder: any three items: the call returns true.
-/
import Derived.Test.YthhechgjablklaaOrder4
namespace Go.Proofs.Ythhechgjablklaa
open Go.RowKit Go.Sort

theorem hid {p : Prop} (h : p) : Hid p := h
theorem out_skip {P : Program} {K : Value → World → Prop} {ev : Operand → Value} {o : Oper} {w w' : World} (hrun : (execOp ev o).run P w = .ok .skip w') (hk : K undef w') : Reg.Outcome P K ((execOp ev o).run P w) := by
  rw [hrun]; exact hk

theorem getD_repl (n i : Nat) : (Array.replicate n false).getD i false = false := by
  rw [Array.getD_eq_getD_getElem?, Array.getElem?_replicate]
  split <;> rfl

def order3R (pa va pb vb pc vc : Int) : List (Value → (Nat → Option Nat) → World → Prop) := [
  fun v _ _ => v = .agg #[.int .u64 pa, .int .i64 va],
  fun v _ _ => v = .agg #[.float .f64 (nf pa), .int .i64 va],
  fun v _ _ => v = .agg #[.int .u64 pb, .int .i64 vb],
  fun v _ _ => v = .agg #[.float .f64 (nf pb), .int .i64 vb],
  fun v _ _ => v = .agg #[.int .u64 pc, .int .i64 vc],
  fun v _ _ => v = .agg #[.float .f64 (nf pc), .int .i64 vc],
  fun v x _ => ∃ b, x 0 = some b ∧ v = .pointer (some ⟨b, 0, none⟩),
  fun v x _ => ∃ b, x 1 = some b ∧ v = .pointer (some ⟨b, 0, none⟩),
  fun v x _ => ∃ b, x 2 = some b ∧ v = .pointer (some ⟨b, 0, none⟩),
  fun _ _ _ => True,
  fun _ _ _ => True,
  fun _ _ _ => True]
theorem order3R_kept (pa va pb vb pc vc : Int) : Reg.GAllKept OPres (order3R pa va pb vb pc vc) :=
  ⟨fun _ _ _ _ _ _ h => h, ⟨fun _ _ _ _ _ _ h => h, ⟨fun _ _ _ _ _ _ h => h, ⟨fun _ _ _ _ _ _ h => h, ⟨fun _ _ _ _ _ _ h => h, ⟨fun _ _ _ _ _ _ h => h, ⟨fun _ _ _ _ _ hp ⟨b, h1, h2⟩ => ⟨b, hp _ _ h1, h2⟩, ⟨fun _ _ _ _ _ hp ⟨b, h1, h2⟩ => ⟨b, hp _ _ h1, h2⟩, ⟨fun _ _ _ _ _ hp ⟨b, h1, h2⟩ => ⟨b, hp _ _ h1, h2⟩, ⟨fun _ _ _ _ _ _ h => h, ⟨fun _ _ _ _ _ _ h => h, ⟨fun _ _ _ _ _ _ h => h, trivial⟩⟩⟩⟩⟩⟩⟩⟩⟩⟩⟩⟩

theorem cmpN_canon (m : Nat) (a : Int) (n : Nat) (b : Int) : cmpN (cbits m) a (cbits n) b = cmpN m a n b := by unfold cmpN key; rw [cbits_idem, cbits_idem]
theorem cmpN_rng (m : Nat) (a : Int) (n : Nat) (b : Int) : -1 ≤ cmpN m a n b ∧ cmpN m a n b ≤ 1 := by unfold cmpN; split <;> exact cmpI_rng _ _
theorem cmpN_neg (m : Nat) (a : Int) (n : Nat) (b : Int) : cmpN n b m a = - cmpN m a n b := by
  unfold cmpN
  rw [cmpI_neg (key m) (key n), cmpI_neg a b]
  split <;> split <;> omega
theorem cmpN_zero (m : Nat) (a : Int) (n : Nat) (b : Int) : cmpN m a n b = 0 ↔ key m = key n ∧ a = b := by
  unfold cmpN
  split
  case isTrue h => rw [cmpI_zero]; exact ⟨fun e => ⟨(cmpI_zero _ _).1 h, e⟩, fun e => e.2⟩
  case isFalse h => exact ⟨fun e => absurd e h, fun e => absurd ((cmpI_zero _ _).2 e.1) h⟩
theorem cmpN_le (m : Nat) (a : Int) (n : Nat) (b : Int) : cmpN m a n b ≤ 0 ↔ key m < key n ∨ (key m = key n ∧ a ≤ b) := by
  unfold cmpN
  split
  case isTrue h => rw [cmpI_le]; have := (cmpI_zero _ _).1 h; omega
  case isFalse h => rw [cmpI_le]; have : ¬ key m = key n := fun e => h ((cmpI_zero _ _).2 e); omega
theorem wrap3 {n : Int} (h : -1 ≤ n ∧ n ≤ 1) : IntKind.i64.wrap (-n) = -n := by
  have : n = -1 ∨ n = 0 ∨ n = 1 := by omega
  rcases this with rfl | rfl | rfl <;> rfl
theorem cmpN_trans {m n l : Nat} {a b c : Int} (h1 : cmpN m a n b ≤ 0) (h2 : cmpN n b l c ≤ 0) : cmpN m a l c ≤ 0 := by
  rw [cmpN_le] at *
  generalize key m = x at *
  generalize key n = y at *
  generalize key l = z at *
  omega
theorem isV_zero (m : Nat) (a : Int) (n : Nat) (b : Int) (hm : m < 18446744073709551616) (hn : n < 18446744073709551616) : isV (cbits m) a (ni (cbits n)) b = 0 ↔ cmpN m a n b = 0 := by
  rw [cmpN_zero]
  unfold isV
  have hk : ni (cbits m) = ni (cbits n) ↔ key m = key n := by
    constructor
    · intro e; unfold key; rw [e]
    · intro e
      have e' : key (cbits m) = key (cbits n) := by unfold key at *; rw [cbits_idem, cbits_idem]; exact e
      rw [key_canon ⟨cbits_lt hm, cbits_idem m⟩ ⟨cbits_lt hn, cbits_idem n⟩ e']
  split
  case isTrue h => exact ⟨fun _ => ⟨hk.1 h.1, h.2⟩, fun _ => rfl⟩
  case isFalse h => exact ⟨fun e => absurd e (by decide), fun e => absurd ⟨hk.2 e.1, e.2⟩ h⟩

def order5R (pa : Int) (va : Int) (pb : Int) (vb : Int) (n : Int) (r : Int) (qa : Int) (qb : Int) (fa : Nat) (fb : Nat) (ca : Nat) (z : Bool) : List (Value → World → Prop) :=
  [fun v _ => v = .int .i64 n,
   fun v _ => v = .agg #[.int .u64 pa, .int .i64 va],
   fun v _ => v = .agg #[.int .u64 qa, .int .i64 va],
   fun v _ => v = .agg #[.int .u64 pb, .int .i64 vb],
   fun v _ => v = .agg #[.int .u64 qb, .int .i64 vb],
   fun v _ => v = .int .i64 n,
   fun v _ => v = .bool false,
   fun v _ => v = .bool false,
   fun v _ => v = .agg #[.float .f64 fb, .int .i64 vb],
   fun v _ => v = .agg #[.float .f64 fa, .int .i64 va],
   fun v _ => v = .int .i64 (-n),
   fun v _ => v = .int .i64 n,
   fun v _ => v = .int .i64 (-n),
   fun v _ => v = .bool false,
   fun v _ => v = .bool false,
   fun v _ => v = .bool false,
   fun v _ => v = .int .i64 n,
   fun v _ => v = .bool z,
   fun v _ => v = .agg #[.float .f64 fa, .int .i64 va],
   fun v _ => v = .agg #[.float .f64 ca, .int .i64 va],
   fun v _ => v = .agg #[.int .u64 pb, .int .i64 vb],
   fun v _ => v = .agg #[.int .u64 qb, .int .i64 vb],
   fun v _ => v = .int .i64 r,
   fun v _ => v = .bool z,
   fun v _ => v = .bool false,
   fun v _ => v = .bool false]
theorem order5R_kept (pa : Int) (va : Int) (pb : Int) (vb : Int) (n : Int) (r : Int) (qa : Int) (qb : Int) (fa : Nat) (fb : Nat) (ca : Nat) (z : Bool) : Reg.AllKept Reg.Keeps (order5R pa va pb vb n r qa qb fa fb ca z) :=
  ⟨(fun _ _ _ _ h => h), (fun _ _ _ _ h => h), (fun _ _ _ _ h => h), (fun _ _ _ _ h => h), (fun _ _ _ _ h => h), (fun _ _ _ _ h => h), (fun _ _ _ _ h => h), (fun _ _ _ _ h => h), (fun _ _ _ _ h => h), (fun _ _ _ _ h => h), (fun _ _ _ _ h => h), (fun _ _ _ _ h => h), (fun _ _ _ _ h => h), (fun _ _ _ _ h => h), (fun _ _ _ _ h => h), (fun _ _ _ _ h => h), (fun _ _ _ _ h => h), (fun _ _ _ _ h => h), (fun _ _ _ _ h => h), (fun _ _ _ _ h => h), (fun _ _ _ _ h => h), (fun _ _ _ _ h => h), (fun _ _ _ _ h => h), (fun _ _ _ _ h => h), (fun _ _ _ _ h => h), (fun _ _ _ _ h => h), trivial⟩

/-- The items' parts, by number. -/
def pri3 (pa pb pc : Int) (i : Nat) : Nat := match i with | 0 => nf pa | 1 => nf pb | _ => nf pc
def val3 (va vb vc : Int) (i : Nat) : Int := match i with | 0 => va | 1 => vb | _ => vc

set_option maxRecDepth 10000 in
set_option maxHeartbeats 4000000 in
theorem pileOrder_any (pa va pb vb pc vc : Int) (w : World) (ha0 : 0 ≤ pa) (ha1 : pa < 18446744073709551616) (hb0 : 0 ≤ pb) (hb1 : pb < 18446744073709551616) (hc1 : pc < 18446744073709551616) :
    Calls Try.prog 4 #[.agg #[.int .u64 pa, .int .i64 va], .agg #[.int .u64 pb, .int .i64 vb], .agg #[.int .u64 pc, .int .i64 vc]] w fun e w' => e = .returned (.bool true) ∧ Below w.heap.size w w' := by
  go_enter Try.func4, Try.ntmps4
  go_wp2_with fail
  refine (awake4_any _).mono ?_
  rintro e w1 ⟨rfl, hb1'⟩
  have hz1 : w.heap.size + 3 ≤ w1.heap.size := by have := hb1'.size; simp at this; omega
  have ra0 : w1.cell? ⟨w.heap.size, 0, none⟩ = some (.int .u64 pa) := by rw [hb1'.cell (p := ⟨w.heap.size, 0, none⟩) (by simp <;> omega)]; go_simp
  have ra1 : w1.cell? ⟨w.heap.size, 1, none⟩ = some (.int .i64 va) := by rw [hb1'.cell (p := ⟨w.heap.size, 1, none⟩) (by simp <;> omega)]; go_simp
  have rb0 : w1.cell? ⟨w.heap.size + 1, 0, none⟩ = some (.int .u64 pb) := by rw [hb1'.cell (p := ⟨w.heap.size + 1, 0, none⟩) (by simp <;> omega)]; go_simp
  have rb1 : w1.cell? ⟨w.heap.size + 1, 1, none⟩ = some (.int .i64 vb) := by rw [hb1'.cell (p := ⟨w.heap.size + 1, 1, none⟩) (by simp <;> omega)]; go_simp
  have rc0 : w1.cell? ⟨w.heap.size + 2, 0, none⟩ = some (.int .u64 pc) := by rw [hb1'.cell (p := ⟨w.heap.size + 2, 0, none⟩) (by simp <;> omega)]; go_simp
  have rc1 : w1.cell? ⟨w.heap.size + 2, 1, none⟩ = some (.int .i64 vc) := by rw [hb1'.cell (p := ⟨w.heap.size + 2, 1, none⟩) (by simp <;> omega)]; go_simp
  have hB1 : Hid (Below w.heap.size w w1) := (((((Below.refl _ _).alloc (Nat.le_refl _) _).alloc (by simp) _).alloc (by simp; omega) _).trans (hb1'.mono (by simp; omega)))
  clear hb1'
  go_wp2_with fail
  have hI0 : OI w1 (pri3 pa pb pc) (val3 va vb vc) (fun _ => none) (Array.replicate 12 false) w1.drew := ⟨(Below.refl _ _).drew, fun _ _ h => (by cases h), fun _ _ _ h => (by cases h), fun _ _ _ => rfl, fun i hi h => absurd h (by rw [getD_repl]; decide)⟩
  have orefl : ∀ (x : Nat → Option Nat) (w w' : World), OPres x w x w' := fun _ _ _ _ _ h => h
  refine Reg.wp_region_ghost (Reg.gofList (order3R pa va pb vb pc vc)) OPres (OI w1 (pri3 pa pb pc) (val3 va vb vc)) (fun _ => none) (by kernel_rfl) (by kernel_rfl) (Reg.GAllKept.at _ (order3R_kept pa va pb vb pc vc)) hI0 ⟨?_, ?_, ?_, ?_, ?_, ?_, ?_, ?_, ?_, ?_, ?_, ?_, trivial⟩ ?_
  · refine Reg.GStepAt.plain (i := 0) rfl ?_
    intro x L ev w2 hI hk hp hA
    have e3 : ev (.tmp 3) = .pointer (some ⟨w.heap.size, 0, none⟩) := hA.oldNone 3 (by kernel_rfl)
    have hcc := hA.const
    clear hA hp
    have c0 : w2.cell? ⟨w.heap.size, 0, none⟩ = some (.int .u64 pa) := (hI.bel.cell (p := ⟨w.heap.size, 0, none⟩) (by simp; omega)).trans ra0
    have c1 : w2.cell? ⟨w.heap.size, 1, none⟩ = some (.int .i64 va) := (hI.bel.cell (p := ⟨w.heap.size, 1, none⟩) (by simp; omega)).trans ra1
    refine Reg.out_value (v := .agg #[.int .u64 pa, .int .i64 va]) ?_ ⟨x, rfl, orefl _ _ _, hI.same 0 (by decide) (But.refl _ _)⟩
    clear ra0 ra1 rb0 rb1 rc0 rc1
    go_simp
  · refine Reg.GStepAt.plain (i := 1) rfl ?_
    intro x L ev w2 hI hk hp hA
    have e13 : ev (.tmp 13) = .agg #[.int .u64 pa, .int .i64 va] := hA.val 0 _ 13 rfl (hp ⟨0, .data⟩ (by simp) rfl) rfl
    have hcc := hA.const
    have hcf := hA.func
    clear hA hp
    refine Reg.out_call (f := 17) (args := #[.agg #[.int .u64 pa, .int .i64 va]]) (w0 := w2) ?_ ?_
    · go_simp
    refine (own_any _ _ _).mono ?_
    rintro e w' ⟨rfl, hkp⟩
    exact ⟨_, rfl, x, rfl, orefl _ _ _, hI.same 1 (by decide) (But.of_below hkp)⟩
  · refine Reg.GStepAt.plain (i := 2) rfl ?_
    intro x L ev w2 hI hk hp hA
    have e4 : ev (.tmp 4) = .pointer (some ⟨w.heap.size + 1, 0, none⟩) := hA.oldNone 4 (by kernel_rfl)
    have hcc := hA.const
    clear hA hp
    have c0 : w2.cell? ⟨w.heap.size + 1, 0, none⟩ = some (.int .u64 pb) := (hI.bel.cell (p := ⟨w.heap.size + 1, 0, none⟩) (by simp; omega)).trans rb0
    have c1 : w2.cell? ⟨w.heap.size + 1, 1, none⟩ = some (.int .i64 vb) := (hI.bel.cell (p := ⟨w.heap.size + 1, 1, none⟩) (by simp; omega)).trans rb1
    refine Reg.out_value (v := .agg #[.int .u64 pb, .int .i64 vb]) ?_ ⟨x, rfl, orefl _ _ _, hI.same 2 (by decide) (But.refl _ _)⟩
    clear ra0 ra1 rb0 rb1 rc0 rc1
    go_simp
  · refine Reg.GStepAt.plain (i := 3) rfl ?_
    intro x L ev w2 hI hk hp hA
    have e15 : ev (.tmp 15) = .agg #[.int .u64 pb, .int .i64 vb] := hA.val 2 _ 15 rfl (hp ⟨2, .data⟩ (by simp) rfl) rfl
    have hcc := hA.const
    have hcf := hA.func
    clear hA hp
    refine Reg.out_call (f := 17) (args := #[.agg #[.int .u64 pb, .int .i64 vb]]) (w0 := w2) ?_ ?_
    · go_simp
    refine (own_any _ _ _).mono ?_
    rintro e w' ⟨rfl, hkp⟩
    exact ⟨_, rfl, x, rfl, orefl _ _ _, hI.same 3 (by decide) (But.of_below hkp)⟩
  · refine Reg.GStepAt.plain (i := 4) rfl ?_
    intro x L ev w2 hI hk hp hA
    have e5 : ev (.tmp 5) = .pointer (some ⟨w.heap.size + 2, 0, none⟩) := hA.oldNone 5 (by kernel_rfl)
    have hcc := hA.const
    clear hA hp
    have c0 : w2.cell? ⟨w.heap.size + 2, 0, none⟩ = some (.int .u64 pc) := (hI.bel.cell (p := ⟨w.heap.size + 2, 0, none⟩) (by simp; omega)).trans rc0
    have c1 : w2.cell? ⟨w.heap.size + 2, 1, none⟩ = some (.int .i64 vc) := (hI.bel.cell (p := ⟨w.heap.size + 2, 1, none⟩) (by simp; omega)).trans rc1
    refine Reg.out_value (v := .agg #[.int .u64 pc, .int .i64 vc]) ?_ ⟨x, rfl, orefl _ _ _, hI.same 4 (by decide) (But.refl _ _)⟩
    clear ra0 ra1 rb0 rb1 rc0 rc1
    go_simp
  · refine Reg.GStepAt.plain (i := 5) rfl ?_
    intro x L ev w2 hI hk hp hA
    have e17 : ev (.tmp 17) = .agg #[.int .u64 pc, .int .i64 vc] := hA.val 4 _ 17 rfl (hp ⟨4, .data⟩ (by simp) rfl) rfl
    have hcc := hA.const
    have hcf := hA.func
    clear hA hp
    refine Reg.out_call (f := 17) (args := #[.agg #[.int .u64 pc, .int .i64 vc]]) (w0 := w2) ?_ ?_
    · go_simp
    refine (own_any _ _ _).mono ?_
    rintro e w' ⟨rfl, hkp⟩
    exact ⟨_, rfl, x, rfl, orefl _ _ _, hI.same 5 (by decide) (But.of_below hkp)⟩
  · refine Reg.GStepAt.plain (i := 6) rfl ?_
    intro x L ev w2 hI hk hp hA
    clear hA hp
    obtain ⟨h1, h2⟩ := hI.new 0 (by decide) hk
    refine Reg.out_new (v := .pointer (some ⟨w2.heap.size, 0, none⟩)) (w' := w2.alloc (.cells #[.float .f64 0, .int .i64 0] 29)) ?_ ⟨_, ⟨w2.heap.size, if_pos rfl, rfl⟩, h2, h1⟩
    clear h1 h2 hI hk
    go_simp
  · refine Reg.GStepAt.plain (i := 7) rfl ?_
    intro x L ev w2 hI hk hp hA
    clear hA hp
    obtain ⟨h1, h2⟩ := hI.new 1 (by decide) hk
    refine Reg.out_new (v := .pointer (some ⟨w2.heap.size, 0, none⟩)) (w' := w2.alloc (.cells #[.float .f64 0, .int .i64 0] 29)) ?_ ⟨_, ⟨w2.heap.size, if_pos rfl, rfl⟩, h2, h1⟩
    clear h1 h2 hI hk
    go_simp
  · refine Reg.GStepAt.plain (i := 8) rfl ?_
    intro x L ev w2 hI hk hp hA
    clear hA hp
    obtain ⟨h1, h2⟩ := hI.new 2 (by decide) hk
    refine Reg.out_new (v := .pointer (some ⟨w2.heap.size, 0, none⟩)) (w' := w2.alloc (.cells #[.float .f64 0, .int .i64 0] 29)) ?_ ⟨_, ⟨w2.heap.size, if_pos rfl, rfl⟩, h2, h1⟩
    clear h1 h2 hI hk
    go_simp
  · refine Reg.GStepAt.plain (i := 9) rfl ?_
    intro x L ev w2 hI hk hp hA
    obtain ⟨b, hb, e7⟩ : ∃ b, x 0 = some b ∧ ev (.tmp 7) = .pointer (some ⟨b, 0, none⟩) := hA.val 6 _ 7 rfl (hp ⟨6, .data⟩ (by simp) rfl) rfl
    have e14 : ev (.tmp 14) = .agg #[.float .f64 (nf pa), .int .i64 va] := hA.val 1 _ 14 rfl (hp ⟨1, .data⟩ (by simp) rfl) rfl
    have hcc := hA.const
    clear hA hp
    have hst := hI.store 0 b (by decide) hb
    obtain ⟨_, p0, q0, c0, c1, z0, z1⟩ := hI.box _ _ hb
    have hbl : b < w2.heap.size := World.block_lt_of_cell? _ _ c0
    have hsf := run_store_float (P := Try.prog)
    refine out_skip (w' := (w2.setCell ⟨b, 0, none⟩ (.float .f64 (nf pa))).setCell ⟨b, 1, none⟩ (.int .i64 va)) ?_ ⟨x, trivial, orefl _ _ _, hst⟩
    clear hst hI hk hb ra0 ra1 rb0 rb1 rc0 rc1
    go_simp
  · refine Reg.GStepAt.plain (i := 10) rfl ?_
    intro x L ev w2 hI hk hp hA
    obtain ⟨b, hb, e8⟩ : ∃ b, x 1 = some b ∧ ev (.tmp 8) = .pointer (some ⟨b, 0, none⟩) := hA.val 7 _ 8 rfl (hp ⟨7, .data⟩ (by simp) rfl) rfl
    have e16 : ev (.tmp 16) = .agg #[.float .f64 (nf pb), .int .i64 vb] := hA.val 3 _ 16 rfl (hp ⟨3, .data⟩ (by simp) rfl) rfl
    have hcc := hA.const
    clear hA hp
    have hst := hI.store 1 b (by decide) hb
    obtain ⟨_, p0, q0, c0, c1, z0, z1⟩ := hI.box _ _ hb
    have hbl : b < w2.heap.size := World.block_lt_of_cell? _ _ c0
    have hsf := run_store_float (P := Try.prog)
    refine out_skip (w' := (w2.setCell ⟨b, 0, none⟩ (.float .f64 (nf pb))).setCell ⟨b, 1, none⟩ (.int .i64 vb)) ?_ ⟨x, trivial, orefl _ _ _, hst⟩
    clear hst hI hk hb ra0 ra1 rb0 rb1 rc0 rc1
    go_simp
  · refine Reg.GStepAt.plain (i := 11) rfl ?_
    intro x L ev w2 hI hk hp hA
    obtain ⟨b, hb, e9⟩ : ∃ b, x 2 = some b ∧ ev (.tmp 9) = .pointer (some ⟨b, 0, none⟩) := hA.val 8 _ 9 rfl (hp ⟨8, .data⟩ (by simp) rfl) rfl
    have e18 : ev (.tmp 18) = .agg #[.float .f64 (nf pc), .int .i64 vc] := hA.val 5 _ 18 rfl (hp ⟨5, .data⟩ (by simp) rfl) rfl
    have hcc := hA.const
    clear hA hp
    have hst := hI.store 2 b (by decide) hb
    obtain ⟨_, p0, q0, c0, c1, z0, z1⟩ := hI.box _ _ hb
    have hbl : b < w2.heap.size := World.block_lt_of_cell? _ _ c0
    have hsf := run_store_float (P := Try.prog)
    refine out_skip (w' := (w2.setCell ⟨b, 0, none⟩ (.float .f64 (nf pc))).setCell ⟨b, 1, none⟩ (.int .i64 vc)) ?_ ⟨x, trivial, orefl _ _ _, hst⟩
    clear hst hI hk hb ra0 ra1 rb0 rb1 rc0 rc1
    go_simp
  intro x L act w2 hall hI hF
  obtain ⟨bx, hxx, hIx⟩ := hI.put 0 (by decide) (hall 9 (by decide))
  obtain ⟨bz, hxz, hIz⟩ := hI.put 2 (by decide) (hall 11 (by decide))
  obtain ⟨bY, hxy, hIy⟩ := hI.put 1 (by decide) (hall 10 (by decide))
  have hsz : act.tmps.size = 63 := hF.size
  have hd : act.defers = [] := hF.defers
  have g3 : act.eval (.tmp 3) = .pointer (some ⟨w.heap.size, 0, none⟩) := hF.at.oldNone 3 (by kernel_rfl)
  have g4 : act.eval (.tmp 4) = .pointer (some ⟨w.heap.size + 1, 0, none⟩) := hF.at.oldNone 4 (by kernel_rfl)
  have g5 : act.eval (.tmp 5) = .pointer (some ⟨w.heap.size + 2, 0, none⟩) := hF.at.oldNone 5 (by kernel_rfl)
  have g6 : act.eval (.tmp 6) = .bool false := hF.at.oldNone 6 (by kernel_rfl)
  have g7 : act.eval (.tmp 7) = .pointer (some ⟨bx, 0, none⟩) := by
    obtain ⟨b, h1, h2⟩ := (hF.val 6 _ 7 rfl (hall 6 (by decide)) rfl : ∃ b, x 0 = some b ∧ act.eval (.tmp 7) = .pointer (some ⟨b, 0, none⟩))
    rw [hxx] at h1; injection h1 with h1; rw [h1]; exact h2
  have g8 : act.eval (.tmp 8) = .pointer (some ⟨bY, 0, none⟩) := by
    obtain ⟨b, h1, h2⟩ := (hF.val 7 _ 8 rfl (hall 7 (by decide)) rfl : ∃ b, x 1 = some b ∧ act.eval (.tmp 8) = .pointer (some ⟨b, 0, none⟩))
    rw [hxy] at h1; injection h1 with h1; rw [h1]; exact h2
  have g9 : act.eval (.tmp 9) = .pointer (some ⟨bz, 0, none⟩) := by
    obtain ⟨b, h1, h2⟩ := (hF.val 8 _ 9 rfl (hall 8 (by decide)) rfl : ∃ b, x 2 = some b ∧ act.eval (.tmp 9) = .pointer (some ⟨b, 0, none⟩))
    rw [hxz] at h1; injection h1 with h1; rw [h1]; exact h2
  have HB2 : Hid (Below w.heap.size w w2) := hB1.out.trans (hI.bel.mono hB1.out.size)
  replace ra0 : w2.cell? ⟨w.heap.size, 0, none⟩ = some (.int .u64 pa) := (hI.bel.cell (p := ⟨w.heap.size, 0, none⟩) (by simp; omega)).trans ra0
  replace ra1 : w2.cell? ⟨w.heap.size, 1, none⟩ = some (.int .i64 va) := (hI.bel.cell (p := ⟨w.heap.size, 1, none⟩) (by simp; omega)).trans ra1
  replace rb0 : w2.cell? ⟨w.heap.size + 1, 0, none⟩ = some (.int .u64 pb) := (hI.bel.cell (p := ⟨w.heap.size + 1, 0, none⟩) (by simp; omega)).trans rb0
  replace rb1 : w2.cell? ⟨w.heap.size + 1, 1, none⟩ = some (.int .i64 vb) := (hI.bel.cell (p := ⟨w.heap.size + 1, 1, none⟩) (by simp; omega)).trans rb1
  replace rc0 : w2.cell? ⟨w.heap.size + 2, 0, none⟩ = some (.int .u64 pc) := (hI.bel.cell (p := ⟨w.heap.size + 2, 0, none⟩) (by simp; omega)).trans rc0
  replace rc1 : w2.cell? ⟨w.heap.size + 2, 1, none⟩ = some (.int .i64 vc) := (hI.bel.cell (p := ⟨w.heap.size + 2, 1, none⟩) (by simp; omega)).trans rc1
  have hz2w : w.heap.size + 3 ≤ w2.heap.size := Nat.le_trans hz1 hI.bel.size
  clear hF hall hI hI0 hB1 hz1 hxx hxy hxz orefl
  have hact := act_list act 63 hsz hd
  obtain ⟨u, hu⟩ : ∃ u : Nat → Value, ∀ k, act.eval (.tmp k) = u k := ⟨fun k => act.eval (.tmp k), fun _ => rfl⟩
  have hxu : act = ⟨List.toArray (u 0 :: u 1 :: u 2 :: .pointer (some ⟨w.heap.size, 0, none⟩) :: .pointer (some ⟨w.heap.size + 1, 0, none⟩) :: .pointer (some ⟨w.heap.size + 2, 0, none⟩) :: .bool false :: .pointer (some ⟨bx, 0, none⟩) :: .pointer (some ⟨bY, 0, none⟩) :: .pointer (some ⟨bz, 0, none⟩) :: u 10 :: u 11 :: u 12 :: u 13 :: u 14 :: u 15 :: u 16 :: u 17 :: u 18 :: u 19 :: u 20 :: u 21 :: u 22 :: u 23 :: u 24 :: u 25 :: u 26 :: u 27 :: u 28 :: u 29 :: u 30 :: u 31 :: u 32 :: u 33 :: u 34 :: u 35 :: u 36 :: u 37 :: u 38 :: u 39 :: u 40 :: u 41 :: u 42 :: u 43 :: u 44 :: u 45 :: u 46 :: u 47 :: u 48 :: u 49 :: u 50 :: u 51 :: u 52 :: u 53 :: u 54 :: u 55 :: u 56 :: u 57 :: u 58 :: u 59 :: u 60 :: u 61 :: u 62 :: []), []⟩ := by
    rw [hact]
    simp only [hu] at *
    show (⟨((List.range 63).map u).toArray, []⟩ : Act) = _
    rw [← g3, ← g4, ← g5, ← g7, ← g8, ← g9, ← g6]
    rfl
  subst hxu
  clear hact hsz hd g3 g4 g5 g7 g8 g9 g6 hu
  have la := nf_lt ha1
  have lb := nf_lt hb1
  have lc := nf_lt hc1
  obtain ⟨cx0, cx1, _, _⟩ := hIx
  obtain ⟨cy0, cy1, _, _⟩ := hIy
  obtain ⟨cz0, cz1, _, _⟩ := hIz
  have cx0' : w2.cell? ⟨bx, 0, none⟩ = some (.float .f64 (nf pa)) := cx0
  have cx1' : w2.cell? ⟨bx, 1, none⟩ = some (.int .i64 va) := cx1
  have cy0' : w2.cell? ⟨bY, 0, none⟩ = some (.float .f64 (nf pb)) := cy0
  have cy1' : w2.cell? ⟨bY, 1, none⟩ = some (.int .i64 vb) := cy1
  have cz0' : w2.cell? ⟨bz, 0, none⟩ = some (.float .f64 (nf pc)) := cz0
  have cz1' : w2.cell? ⟨bz, 1, none⟩ = some (.int .i64 vc) := cz1
  clear cx0 cx1 cy0 cy1 cz0 cz1
  have lx := World.block_lt_of_cell? _ _ cx0'
  have ly := World.block_lt_of_cell? _ _ cy0'
  have lz := World.block_lt_of_cell? _ _ cz0'
  simp only at lx ly lz
  have ta := hid (fun w => told_any pa va w ha0 ha1)
  have tb := hid (fun w => told_any pb vb w hb0 hb1)
  obtain ⟨qa, hqa⟩ : ∃ q, ni (cbits (nf pa)) = q := ⟨_, rfl⟩
  obtain ⟨qb, hqb⟩ : ∃ q, ni (cbits (nf pb)) = q := ⟨_, rfl⟩
  have la' := cbits_lt la
  have lb' := cbits_lt lb
  have qa0 : 0 ≤ qa ∧ qa < 18446744073709551616 := by rw [← hqa]; unfold ni; omega
  have qb0 : 0 ≤ qb ∧ qb < 18446744073709551616 := by rw [← hqb]; unfold ni; omega
  have tr : Hid (∀ w, Calls Try.prog 29 #[.agg #[.int .u64 qa, .int .i64 va], .agg #[.int .u64 qb, .int .i64 vb]] w fun e w' => e = .returned (.int .i64 (cmpN (nf pa) va (nf pb) vb)) ∧ Below w.heap.size w w') := hid (fun w => by
    have := rcmp4_any qa va qb vb w qa0.1 qa0.2 qb0.1 qb0.2
    rw [← hqa, ← hqb] at this
    rw [nf_ni, nf_ni, cmpN_canon] at this
    rw [← hqa, ← hqb]; exact this)
  have cab := hid (fun w => icmp_any (nf pa) (nf pb) va vb w la lb)
  have cba := hid (fun w => icmp_any (nf pb) (nf pa) vb va w lb la)
  have cbc := hid (fun w => icmp_any (nf pb) (nf pc) vb vc w lb lc)
  have cac := hid (fun w => icmp_any (nf pa) (nf pc) va vc w la lc)
  have cca := hid (fun w => icanon_any (nf pa) va w)
  have tis := hid (fun w => is_any (cbits (nf pa)) va qb vb w)
  obtain ⟨r, hr⟩ : ∃ r, isV (cbits (nf pa)) va qb vb = r := ⟨_, rfl⟩
  have hrz := isV_zero (nf pa) va (nf pb) vb la lb
  rw [hqb, hr] at hrz
  have hng := cmpN_neg (nf pa) va (nf pb) vb
  have hrg := cmpN_rng (nf pa) va (nf pb) vb
  have htr : cmpN (nf pa) va (nf pb) vb ≤ 0 → cmpN (nf pb) vb (nf pc) vc ≤ 0 → cmpN (nf pa) va (nf pc) vc ≤ 0 := cmpN_trans
  rw [hng] at cba
  rw [hqa] at ta
  rw [hqb] at tb
  rw [hr] at tis
  obtain ⟨ca, hca⟩ : ∃ q, cbits (nf pa) = q := ⟨_, rfl⟩
  rw [hca] at cca tis
  generalize cmpN (nf pa) va (nf pb) vb = n at *
  generalize cmpN (nf pb) vb (nf pc) vc = m at *
  generalize cmpN (nf pa) va (nf pc) vc = k at *
  clear hr hqa hqb hca la' lb' hng qa0 qb0
  generalize nf pa = fa at *
  generalize nf pb = fb at *
  generalize nf pc = fc at *
  have hz : (n == 0) = (r == 0) := by
    by_cases e : n = 0
    · rw [e, hrz.2 e]
    · have e' : ¬ r = 0 := fun h => e (hrz.1 h)
      rw [beq_eq_false_iff_ne.2 e, beq_eq_false_iff_ne.2 e']
  obtain ⟨z, hz1⟩ : ∃ z, (n == 0) = z := ⟨_, rfl⟩
  have hz2 : (r == 0) = z := by rw [← hz]; exact hz1
  clear hz hrz ha0 ha1 hb0 hb1 hc1 la lb lc
  have HB2s : Hid (w.heap.size ≤ w2.heap.size) := HB2.out.size
  obtain ⟨B, hB⟩ : ∃ B, w.heap.size = B := ⟨_, rfl⟩
  have HBe := hid hB
  rw [hB] at ra0 ra1 rb0 rb1 rc0 rc1 hz2w ⊢
  clear hB
  have Htr := hid htr
  clear htr
  go_wp2_with fail
  refine (cab.out _).mono ?_
  rintro e w3 ⟨rfl, hw3⟩
  have hK : Reg.Keeps w2 w3 := by rw [hw3]; exact ((Reg.Keeps.refl _).alloc _).alloc _
  replace cx0' := (hK.cell (p := ⟨bx, 0, none⟩) lx).trans cx0'
  replace cx1' := (hK.cell (p := ⟨bx, 1, none⟩) lx).trans cx1'
  replace cy0' := (hK.cell (p := ⟨bY, 0, none⟩) ly).trans cy0'
  replace cy1' := (hK.cell (p := ⟨bY, 1, none⟩) ly).trans cy1'
  replace cz0' := (hK.cell (p := ⟨bz, 0, none⟩) lz).trans cz0'
  replace cz1' := (hK.cell (p := ⟨bz, 1, none⟩) lz).trans cz1'
  replace ra0 := (hK.cell (p := ⟨B, 0, none⟩) (by simp; omega)).trans ra0
  replace ra1 := (hK.cell (p := ⟨B, 1, none⟩) (by simp; omega)).trans ra1
  replace rb0 := (hK.cell (p := ⟨B + 1, 0, none⟩) (by simp; omega)).trans rb0
  replace rb1 := (hK.cell (p := ⟨B + 1, 1, none⟩) (by simp; omega)).trans rb1
  replace lx := Nat.lt_of_lt_of_le lx hK.size
  replace ly := Nat.lt_of_lt_of_le ly hK.size
  replace lz := Nat.lt_of_lt_of_le lz hK.size
  replace hz2w := Nat.le_trans hz2w hK.size
  have HK := hid hK
  clear hK hw3 rc0 rc1 cab
  go_wp2_with fail
  have hrefl : ∀ w : World, Reg.Keeps w w := Reg.Keeps.refl
  refine Reg.wp_region_props (Reg.ofList (order5R pa va pb vb n r qa qb fa fb ca z)) Reg.Keeps (fun _ w => Reg.Keeps w3 w) (by kernel_rfl) (by kernel_rfl) (Reg.AllKept.at _ (order5R_kept pa va pb vb n r qa qb fa fb ca z)) hrefl ((Reg.Keeps.refl _).drewN 1) ⟨?_, ?_, ?_, ?_, ?_, ?_, ?_, ?_, ?_, ?_, ?_, ?_, ?_, ?_, ?_, ?_, ?_, ?_, ?_, ?_, ?_, ?_, ?_, ?_, ?_, ?_, trivial⟩ ?_
  · refine Reg.StepAt.plain (i := 0) rfl ?_
    intro L ev w hI hk hp hA
    have e10 : ev (.tmp 10) = .int .i64 n := hA.oldNone 10 (by kernel_rfl)
    have hcc := hA.const
    clear hA hp
    refine Reg.out_value (v := .int .i64 n) ?_ ⟨rfl, hrefl _, hI⟩
    go_simp
  · refine Reg.StepAt.plain (i := 1) rfl ?_
    intro L ev w hI hk hp hA
    have e3 : ev (.tmp 3) = .pointer (some ⟨B, 0, none⟩) := hA.oldNone 3 (by kernel_rfl)
    have hcc := hA.const
    clear hA hp
    have k0 := (hI.cell (p := ⟨B, 0, none⟩) (by simp; omega)).trans ra0
    have k1 := (hI.cell (p := ⟨B, 1, none⟩) (by simp; omega)).trans ra1
    refine Reg.out_value (v := .agg #[.int .u64 pa, .int .i64 va]) ?_ ⟨rfl, hrefl _, hI⟩
    clear ra0 ra1 rb0 rb1 cx0' cx1' cy0' cy1' cz0' cz1' lx ly lz hz2w
    go_simp
  · refine Reg.StepAt.plain (i := 2) rfl ?_
    intro L ev w hI hk hp hA
    have e23 : ev (.tmp 23) = .agg #[.int .u64 pa, .int .i64 va] := hA.val 1 _ 23 rfl (hp ⟨1, .data⟩ (by simp) rfl) rfl
    have hcc := hA.const
    have hcf := hA.func
    clear hA hp
    refine Reg.out_call (f := 19) (args := #[.agg #[.int .u64 pa, .int .i64 va]]) (w0 := w) ?_ ?_
    · clear ra0 ra1 rb0 rb1 cx0' cx1' cy0' cy1' cz0' cz1' lx ly lz hz2w
      go_simp
    refine (ta.out _).mono ?_
    rintro e w' ⟨rfl, hkp⟩
    exact ⟨_, rfl, rfl, hkp, hI.trans hkp⟩
  · refine Reg.StepAt.plain (i := 3) rfl ?_
    intro L ev w hI hk hp hA
    have e4 : ev (.tmp 4) = .pointer (some ⟨B + 1, 0, none⟩) := hA.oldNone 4 (by kernel_rfl)
    have hcc := hA.const
    clear hA hp
    have k0 := (hI.cell (p := ⟨B + 1, 0, none⟩) (by simp; omega)).trans rb0
    have k1 := (hI.cell (p := ⟨B + 1, 1, none⟩) (by simp; omega)).trans rb1
    refine Reg.out_value (v := .agg #[.int .u64 pb, .int .i64 vb]) ?_ ⟨rfl, hrefl _, hI⟩
    clear ra0 ra1 rb0 rb1 cx0' cx1' cy0' cy1' cz0' cz1' lx ly lz hz2w
    go_simp
  · refine Reg.StepAt.plain (i := 4) rfl ?_
    intro L ev w hI hk hp hA
    have e25 : ev (.tmp 25) = .agg #[.int .u64 pb, .int .i64 vb] := hA.val 3 _ 25 rfl (hp ⟨3, .data⟩ (by simp) rfl) rfl
    have hcc := hA.const
    have hcf := hA.func
    clear hA hp
    refine Reg.out_call (f := 19) (args := #[.agg #[.int .u64 pb, .int .i64 vb]]) (w0 := w) ?_ ?_
    · clear ra0 ra1 rb0 rb1 cx0' cx1' cy0' cy1' cz0' cz1' lx ly lz hz2w
      go_simp
    refine (tb.out _).mono ?_
    rintro e w' ⟨rfl, hkp⟩
    exact ⟨_, rfl, rfl, hkp, hI.trans hkp⟩
  · refine Reg.StepAt.plain (i := 5) rfl ?_
    intro L ev w hI hk hp hA
    have e24 : ev (.tmp 24) = .agg #[.int .u64 qa, .int .i64 va] := hA.val 2 _ 24 rfl (hp ⟨2, .data⟩ (by simp) rfl) rfl
    have e26 : ev (.tmp 26) = .agg #[.int .u64 qb, .int .i64 vb] := hA.val 4 _ 26 rfl (hp ⟨4, .data⟩ (by simp) rfl) rfl
    have hcc := hA.const
    have hcf := hA.func
    clear hA hp
    refine Reg.out_call (f := 29) (args := #[.agg #[.int .u64 qa, .int .i64 va], .agg #[.int .u64 qb, .int .i64 vb]]) (w0 := w) ?_ ?_
    · clear ra0 ra1 rb0 rb1 cx0' cx1' cy0' cy1' cz0' cz1' lx ly lz hz2w
      go_simp
    refine (tr.out _).mono ?_
    rintro e w' ⟨rfl, hkp⟩
    exact ⟨_, rfl, rfl, hkp, hI.trans hkp⟩
  · refine Reg.StepAt.plain (i := 6) rfl ?_
    intro L ev w hI hk hp hA
    have e22 : ev (.tmp 22) = .int .i64 n := hA.val 0 _ 22 rfl (hp ⟨0, .data⟩ (by simp) rfl) rfl
    have e27 : ev (.tmp 27) = .int .i64 n := hA.val 5 _ 27 rfl (hp ⟨5, .data⟩ (by simp) rfl) rfl
    have hcc := hA.const
    clear hA hp
    refine Reg.out_value (v := .bool false) ?_ ⟨rfl, hrefl _, hI⟩
    go_simp
  · refine Reg.StepAt.plain (i := 7) rfl ?_
    intro L ev w hI hk hp hA
    have e28 : ev (.tmp 28) = .bool false := hA.val 6 _ 28 rfl (hp ⟨6, .data⟩ (by simp) rfl) rfl
    have hcc := hA.const
    clear hA hp
    refine Reg.out_value (v := .bool false) ?_ ⟨rfl, hrefl _, hI⟩
    go_simp
  · refine Reg.StepAt.guarded (i := 8) rfl ?_
    intro L ev w hI hk hp hA
    have e8 : ev (.tmp 8) = .pointer (some ⟨bY, 0, none⟩) := hA.oldNone 8 (by kernel_rfl)
    have eg : ev (.tmp 29) = .bool false := hA.val 7 _ 29 rfl (hp ⟨7, .guard⟩ (by simp) rfl) rfl
    refine ⟨_, 29, false, rfl, rfl, eg, ?_⟩
    rw [if_pos rfl]
    have hcc := hA.const
    clear hA hp
    have k0 := (hI.cell (p := ⟨bY, 0, none⟩) ly).trans cy0'
    have k1 := (hI.cell (p := ⟨bY, 1, none⟩) ly).trans cy1'
    refine Reg.out_value (v := .agg #[.float .f64 fb, .int .i64 vb]) ?_ ⟨rfl, hrefl _, hI⟩
    clear ra0 ra1 rb0 rb1 cx0' cx1' cy0' cy1' cz0' cz1' lx ly lz hz2w
    go_simp
  · refine Reg.StepAt.guarded (i := 9) rfl ?_
    intro L ev w hI hk hp hA
    have e7 : ev (.tmp 7) = .pointer (some ⟨bx, 0, none⟩) := hA.oldNone 7 (by kernel_rfl)
    have eg : ev (.tmp 29) = .bool false := hA.val 7 _ 29 rfl (hp ⟨7, .guard⟩ (by simp) rfl) rfl
    refine ⟨_, 29, false, rfl, rfl, eg, ?_⟩
    rw [if_pos rfl]
    have hcc := hA.const
    clear hA hp
    have k0 := (hI.cell (p := ⟨bx, 0, none⟩) lx).trans cx0'
    have k1 := (hI.cell (p := ⟨bx, 1, none⟩) lx).trans cx1'
    refine Reg.out_value (v := .agg #[.float .f64 fa, .int .i64 va]) ?_ ⟨rfl, hrefl _, hI⟩
    clear ra0 ra1 rb0 rb1 cx0' cx1' cy0' cy1' cz0' cz1' lx ly lz hz2w
    go_simp
  · refine Reg.StepAt.guarded (i := 10) rfl ?_
    intro L ev w hI hk hp hA
    have e30 : ev (.tmp 30) = .agg #[.float .f64 fb, .int .i64 vb] := hA.val 8 _ 30 rfl (hp ⟨8, .data⟩ (by simp) rfl) rfl
    have e31 : ev (.tmp 31) = .agg #[.float .f64 fa, .int .i64 va] := hA.val 9 _ 31 rfl (hp ⟨9, .data⟩ (by simp) rfl) rfl
    have eg : ev (.tmp 29) = .bool false := hA.val 7 _ 29 rfl (hp ⟨7, .chain⟩ (by simp) rfl) rfl
    refine ⟨_, 29, false, rfl, rfl, eg, ?_⟩
    rw [if_pos rfl]
    have hcc := hA.const
    have hcf := hA.func
    clear hA hp
    refine Reg.out_call (f := 28) (args := #[.agg #[.float .f64 fb, .int .i64 vb], .agg #[.float .f64 fa, .int .i64 va]]) (w0 := w) ?_ ?_
    · clear ra0 ra1 rb0 rb1 cx0' cx1' cy0' cy1' cz0' cz1' lx ly lz hz2w
      go_simp
    refine (cba.out _).mono ?_
    rintro e w' ⟨rfl, hw'⟩
    have hkp : Reg.Keeps w w' := by rw [hw']; exact ((Reg.Keeps.refl _).alloc _).alloc _
    exact ⟨_, rfl, rfl, hkp, hI.trans hkp⟩
  · refine Reg.StepAt.guarded (i := 11) rfl ?_
    intro L ev w hI hk hp hA
    have e10 : ev (.tmp 10) = .int .i64 n := hA.oldNone 10 (by kernel_rfl)
    have eg : ev (.tmp 29) = .bool false := hA.val 7 _ 29 rfl (hp ⟨7, .guard⟩ (by simp) rfl) rfl
    refine ⟨_, 29, false, rfl, rfl, eg, ?_⟩
    rw [if_pos rfl]
    have hcc := hA.const
    clear hA hp
    refine Reg.out_value (v := .int .i64 n) ?_ ⟨rfl, hrefl _, hI⟩
    go_simp
  · refine Reg.StepAt.guarded (i := 12) rfl ?_
    intro L ev w hI hk hp hA
    have e33 : ev (.tmp 33) = .int .i64 n := hA.val 11 _ 33 rfl (hp ⟨11, .data⟩ (by simp) rfl) rfl
    have eg : ev (.tmp 29) = .bool false := hA.val 7 _ 29 rfl (hp ⟨7, .guard⟩ (by simp) rfl) rfl
    refine ⟨_, 29, false, rfl, rfl, eg, ?_⟩
    rw [if_pos rfl]
    have hcc := hA.const
    clear hA hp
    refine Reg.out_value (v := .int .i64 (-n)) ?_ ⟨rfl, hrefl _, hI⟩
    go_simp; exact wrap3 hrg
  · refine Reg.StepAt.guarded (i := 13) rfl ?_
    intro L ev w hI hk hp hA
    have e32 : ev (.tmp 32) = .int .i64 (-n) := hA.val 10 _ 32 rfl (hp ⟨10, .data⟩ (by simp) rfl) rfl
    have e34 : ev (.tmp 34) = .int .i64 (-n) := hA.val 12 _ 34 rfl (hp ⟨12, .data⟩ (by simp) rfl) rfl
    have eg : ev (.tmp 29) = .bool false := hA.val 7 _ 29 rfl (hp ⟨7, .guard⟩ (by simp) rfl) rfl
    refine ⟨_, 29, false, rfl, rfl, eg, ?_⟩
    rw [if_pos rfl]
    have hcc := hA.const
    clear hA hp
    refine Reg.out_value (v := .bool false) ?_ ⟨rfl, hrefl _, hI⟩
    go_simp
  · refine Reg.StepAt.plain (i := 14) rfl ?_
    intro L ev w hI hk hp hA
    have e29 : ev (.tmp 29) = .bool false := hA.val 7 _ 29 rfl (hp ⟨7, .data⟩ (by simp) rfl) rfl
    have e35 : ev (.tmp 35) = .bool false := hA.val 13 _ 35 rfl (hp ⟨13, .data⟩ (by simp) rfl) rfl
    have hcc := hA.const
    clear hA hp
    refine Reg.out_value (v := .bool false) ?_ ⟨rfl, hrefl _, hI⟩
    go_simp
  · refine Reg.StepAt.plain (i := 15) rfl ?_
    intro L ev w hI hk hp hA
    have e36 : ev (.tmp 36) = .bool false := hA.val 14 _ 36 rfl (hp ⟨14, .data⟩ (by simp) rfl) rfl
    have hcc := hA.const
    clear hA hp
    refine Reg.out_value (v := .bool false) ?_ ⟨rfl, hrefl _, hI⟩
    go_simp
  · refine Reg.StepAt.guarded (i := 16) rfl ?_
    intro L ev w hI hk hp hA
    have e10 : ev (.tmp 10) = .int .i64 n := hA.oldNone 10 (by kernel_rfl)
    have eg : ev (.tmp 37) = .bool false := hA.val 15 _ 37 rfl (hp ⟨15, .guard⟩ (by simp) rfl) rfl
    refine ⟨_, 37, false, rfl, rfl, eg, ?_⟩
    rw [if_pos rfl]
    have hcc := hA.const
    clear hA hp
    refine Reg.out_value (v := .int .i64 n) ?_ ⟨rfl, hrefl _, hI⟩
    go_simp
  · refine Reg.StepAt.guarded (i := 17) rfl ?_
    intro L ev w hI hk hp hA
    have e38 : ev (.tmp 38) = .int .i64 n := hA.val 16 _ 38 rfl (hp ⟨16, .data⟩ (by simp) rfl) rfl
    have eg : ev (.tmp 37) = .bool false := hA.val 15 _ 37 rfl (hp ⟨15, .guard⟩ (by simp) rfl) rfl
    refine ⟨_, 37, false, rfl, rfl, eg, ?_⟩
    rw [if_pos rfl]
    have hcc := hA.const
    clear hA hp
    refine Reg.out_value (v := .bool z) ?_ ⟨rfl, hrefl _, hI⟩
    go_simp
  · refine Reg.StepAt.guarded (i := 18) rfl ?_
    intro L ev w hI hk hp hA
    have e7 : ev (.tmp 7) = .pointer (some ⟨bx, 0, none⟩) := hA.oldNone 7 (by kernel_rfl)
    have eg : ev (.tmp 37) = .bool false := hA.val 15 _ 37 rfl (hp ⟨15, .guard⟩ (by simp) rfl) rfl
    refine ⟨_, 37, false, rfl, rfl, eg, ?_⟩
    rw [if_pos rfl]
    have hcc := hA.const
    clear hA hp
    have k0 := (hI.cell (p := ⟨bx, 0, none⟩) lx).trans cx0'
    have k1 := (hI.cell (p := ⟨bx, 1, none⟩) lx).trans cx1'
    refine Reg.out_value (v := .agg #[.float .f64 fa, .int .i64 va]) ?_ ⟨rfl, hrefl _, hI⟩
    clear ra0 ra1 rb0 rb1 cx0' cx1' cy0' cy1' cz0' cz1' lx ly lz hz2w
    go_simp
  · refine Reg.StepAt.guarded (i := 19) rfl ?_
    intro L ev w hI hk hp hA
    have e40 : ev (.tmp 40) = .agg #[.float .f64 fa, .int .i64 va] := hA.val 18 _ 40 rfl (hp ⟨18, .data⟩ (by simp) rfl) rfl
    have eg : ev (.tmp 37) = .bool false := hA.val 15 _ 37 rfl (hp ⟨15, .chain⟩ (by simp) rfl) rfl
    refine ⟨_, 37, false, rfl, rfl, eg, ?_⟩
    rw [if_pos rfl]
    have hcc := hA.const
    have hcf := hA.func
    clear hA hp
    refine Reg.out_call (f := 30) (args := #[.agg #[.float .f64 fa, .int .i64 va]]) (w0 := w) ?_ ?_
    · clear ra0 ra1 rb0 rb1 cx0' cx1' cy0' cy1' cz0' cz1' lx ly lz hz2w
      go_simp
    refine (cca.out _).mono ?_
    rintro e w' ⟨rfl, hkp⟩
    exact ⟨_, rfl, rfl, hkp, hI.trans hkp⟩
  · refine Reg.StepAt.guarded (i := 20) rfl ?_
    intro L ev w hI hk hp hA
    have e4 : ev (.tmp 4) = .pointer (some ⟨B + 1, 0, none⟩) := hA.oldNone 4 (by kernel_rfl)
    have eg : ev (.tmp 37) = .bool false := hA.val 15 _ 37 rfl (hp ⟨15, .guard⟩ (by simp) rfl) rfl
    refine ⟨_, 37, false, rfl, rfl, eg, ?_⟩
    rw [if_pos rfl]
    have hcc := hA.const
    clear hA hp
    have k0 := (hI.cell (p := ⟨B + 1, 0, none⟩) (by simp; omega)).trans rb0
    have k1 := (hI.cell (p := ⟨B + 1, 1, none⟩) (by simp; omega)).trans rb1
    refine Reg.out_value (v := .agg #[.int .u64 pb, .int .i64 vb]) ?_ ⟨rfl, hrefl _, hI⟩
    clear ra0 ra1 rb0 rb1 cx0' cx1' cy0' cy1' cz0' cz1' lx ly lz hz2w
    go_simp
  · refine Reg.StepAt.guarded (i := 21) rfl ?_
    intro L ev w hI hk hp hA
    have e42 : ev (.tmp 42) = .agg #[.int .u64 pb, .int .i64 vb] := hA.val 20 _ 42 rfl (hp ⟨20, .data⟩ (by simp) rfl) rfl
    have eg : ev (.tmp 37) = .bool false := hA.val 15 _ 37 rfl (hp ⟨15, .guard⟩ (by simp) rfl) rfl
    refine ⟨_, 37, false, rfl, rfl, eg, ?_⟩
    rw [if_pos rfl]
    have hcc := hA.const
    have hcf := hA.func
    clear hA hp
    refine Reg.out_call (f := 19) (args := #[.agg #[.int .u64 pb, .int .i64 vb]]) (w0 := w) ?_ ?_
    · clear ra0 ra1 rb0 rb1 cx0' cx1' cy0' cy1' cz0' cz1' lx ly lz hz2w
      go_simp
    refine (tb.out _).mono ?_
    rintro e w' ⟨rfl, hkp⟩
    exact ⟨_, rfl, rfl, hkp, hI.trans hkp⟩
  · refine Reg.StepAt.guarded (i := 22) rfl ?_
    intro L ev w hI hk hp hA
    have e41 : ev (.tmp 41) = .agg #[.float .f64 ca, .int .i64 va] := hA.val 19 _ 41 rfl (hp ⟨19, .data⟩ (by simp) rfl) rfl
    have e43 : ev (.tmp 43) = .agg #[.int .u64 qb, .int .i64 vb] := hA.val 21 _ 43 rfl (hp ⟨21, .data⟩ (by simp) rfl) rfl
    have eg : ev (.tmp 37) = .bool false := hA.val 15 _ 37 rfl (hp ⟨15, .guard⟩ (by simp) rfl) rfl
    refine ⟨_, 37, false, rfl, rfl, eg, ?_⟩
    rw [if_pos rfl]
    have hcc := hA.const
    have hcf := hA.func
    clear hA hp
    refine Reg.out_call (f := 23) (args := #[.agg #[.float .f64 ca, .int .i64 va], .agg #[.int .u64 qb, .int .i64 vb]]) (w0 := w) ?_ ?_
    · clear ra0 ra1 rb0 rb1 cx0' cx1' cy0' cy1' cz0' cz1' lx ly lz hz2w
      go_simp
    refine (tis.out _).mono ?_
    rintro e w' ⟨rfl, hkp⟩
    exact ⟨_, rfl, rfl, hkp, hI.trans hkp⟩
  · refine Reg.StepAt.guarded (i := 23) rfl ?_
    intro L ev w hI hk hp hA
    have e44 : ev (.tmp 44) = .int .i64 r := hA.val 22 _ 44 rfl (hp ⟨22, .data⟩ (by simp) rfl) rfl
    have eg : ev (.tmp 37) = .bool false := hA.val 15 _ 37 rfl (hp ⟨15, .guard⟩ (by simp) rfl) rfl
    refine ⟨_, 37, false, rfl, rfl, eg, ?_⟩
    rw [if_pos rfl]
    have hcc := hA.const
    clear hA hp
    refine Reg.out_value (v := .bool z) ?_ ⟨rfl, hrefl _, hI⟩
    go_simp
  · refine Reg.StepAt.guarded (i := 24) rfl ?_
    intro L ev w hI hk hp hA
    have e39 : ev (.tmp 39) = .bool z := hA.val 17 _ 39 rfl (hp ⟨17, .data⟩ (by simp) rfl) rfl
    have e45 : ev (.tmp 45) = .bool z := hA.val 23 _ 45 rfl (hp ⟨23, .data⟩ (by simp) rfl) rfl
    have eg : ev (.tmp 37) = .bool false := hA.val 15 _ 37 rfl (hp ⟨15, .guard⟩ (by simp) rfl) rfl
    refine ⟨_, 37, false, rfl, rfl, eg, ?_⟩
    rw [if_pos rfl]
    have hcc := hA.const
    clear hA hp
    refine Reg.out_value (v := .bool false) ?_ ⟨rfl, hrefl _, hI⟩
    go_simp
  · refine Reg.StepAt.plain (i := 25) rfl ?_
    intro L ev w hI hk hp hA
    have e37 : ev (.tmp 37) = .bool false := hA.val 15 _ 37 rfl (hp ⟨15, .data⟩ (by simp) rfl) rfl
    have e46 : ev (.tmp 46) = .bool false := hA.val 24 _ 46 rfl (hp ⟨24, .data⟩ (by simp) rfl) rfl
    have hcc := hA.const
    clear hA hp
    refine Reg.out_value (v := .bool false) ?_ ⟨rfl, hrefl _, hI⟩
    go_simp
  intro L act w4 hall hI hF
  have h47 : act.eval (.tmp 47) = .bool false := hF.val 25 _ 47 rfl (hall 25 (by decide)) rfl
  have hsz : act.tmps.size = 63 := hF.size
  have hd : act.defers = [] := hF.defers
  have g7 : act.eval (.tmp 7) = .pointer (some ⟨bx, 0, none⟩) := hF.at.oldNone 7 (by kernel_rfl)
  have g8 : act.eval (.tmp 8) = .pointer (some ⟨bY, 0, none⟩) := hF.at.oldNone 8 (by kernel_rfl)
  have g9 : act.eval (.tmp 9) = .pointer (some ⟨bz, 0, none⟩) := hF.at.oldNone 9 (by kernel_rfl)
  have g10 : act.eval (.tmp 10) = .int .i64 n := hF.at.oldNone 10 (by kernel_rfl)
  have g47 := h47
  have hact := act_list act 63 hsz hd
  obtain ⟨y, hy⟩ : ∃ y : Nat → Value, ∀ k, act.eval (.tmp k) = y k := ⟨fun k => act.eval (.tmp k), fun _ => rfl⟩
  have hxy : act = ⟨List.toArray (y 0 :: y 1 :: y 2 :: y 3 :: y 4 :: y 5 :: y 6 :: .pointer (some ⟨bx, 0, none⟩) :: .pointer (some ⟨bY, 0, none⟩) :: .pointer (some ⟨bz, 0, none⟩) :: .int .i64 n :: y 11 :: y 12 :: y 13 :: y 14 :: y 15 :: y 16 :: y 17 :: y 18 :: y 19 :: y 20 :: y 21 :: y 22 :: y 23 :: y 24 :: y 25 :: y 26 :: y 27 :: y 28 :: y 29 :: y 30 :: y 31 :: y 32 :: y 33 :: y 34 :: y 35 :: y 36 :: y 37 :: y 38 :: y 39 :: y 40 :: y 41 :: y 42 :: y 43 :: y 44 :: y 45 :: y 46 :: .bool false :: y 48 :: y 49 :: y 50 :: y 51 :: y 52 :: y 53 :: y 54 :: y 55 :: y 56 :: y 57 :: y 58 :: y 59 :: y 60 :: y 61 :: y 62 :: []), []⟩ := by
    rw [hact]
    simp only [hy] at g7 g8 g9 g10 g47 ⊢
    show (⟨((List.range 63).map y).toArray, []⟩ : Act) = _
    rw [← g7, ← g8, ← g9, ← g10, ← g47]
    rfl
  subst hxy
  replace cx0' := (hI.cell (p := ⟨bx, 0, none⟩) lx).trans cx0'
  replace cx1' := (hI.cell (p := ⟨bx, 1, none⟩) lx).trans cx1'
  replace cy0' := (hI.cell (p := ⟨bY, 0, none⟩) ly).trans cy0'
  replace cy1' := (hI.cell (p := ⟨bY, 1, none⟩) ly).trans cy1'
  replace cz0' := (hI.cell (p := ⟨bz, 0, none⟩) lz).trans cz0'
  replace cz1' := (hI.cell (p := ⟨bz, 1, none⟩) lz).trans cz1'
  replace lx := Nat.lt_of_lt_of_le lx hI.size
  replace ly := Nat.lt_of_lt_of_le ly hI.size
  replace lz := Nat.lt_of_lt_of_le lz hI.size
  have HF : Hid (Below w.heap.size w w4) := HB2.out.trans ((HK.out.trans hI).mono HB2s.out)
  clear hF hall hI hrefl hact hsz hd g7 g8 g9 g10 g47 h47 hy ra0 ra1 rb0 rb1 ta tb tr cba cca tis HB2 HK HB2s HBe
  by_cases e1 : n ≤ 0
  · go_wp2_with fail
    refine (cbc.out _).mono ?_
    rintro e w5 ⟨rfl, hw5⟩
    have hK5 : Reg.Keeps w4 w5 := by rw [hw5]; exact ((Reg.Keeps.refl _).alloc _).alloc _
    replace cx0' := (hK5.cell (p := ⟨bx, 0, none⟩) lx).trans cx0'
    replace cx1' := (hK5.cell (p := ⟨bx, 1, none⟩) lx).trans cx1'
    replace cz0' := (hK5.cell (p := ⟨bz, 0, none⟩) lz).trans cz0'
    replace cz1' := (hK5.cell (p := ⟨bz, 1, none⟩) lz).trans cz1'
    replace lx := Nat.lt_of_lt_of_le lx hK5.size
    replace lz := Nat.lt_of_lt_of_le lz hK5.size
    have HF5 : Hid (Below w.heap.size w w5) := HF.out.trans (hK5.mono HF.out.size)
    clear hw5 hK5 cbc cy0' cy1' ly HF
    by_cases e2 : m ≤ 0
    · have e3 : k ≤ 0 := Htr.out e1 e2
      clear Htr
      go_wp2_with fail
      refine (cac.out _).mono ?_
      rintro e w6 ⟨rfl, hw6⟩
      have HF6 : Hid (Below w.heap.size w w6) := by
        refine HF5.out.trans ?_
        rw [hw6]
        exact Below.mono (((Reg.Keeps.refl _).alloc _).alloc _) HF5.out.size
      clear hw6 cac
      go_wp2
      go_ret
      exact ⟨rfl, HF6.out⟩
    · have e2' : decide (m ≤ 0) = false := decide_eq_false e2
      clear Htr e2
      go_wp2
      go_ret
      exact ⟨rfl, HF5.out⟩
  · have e1' : decide (n ≤ 0) = false := decide_eq_false e1
    clear Htr e1
    go_wp2
    go_ret
    exact ⟨rfl, HF.out⟩
end Go.Proofs.Ythhechgjablklaa
