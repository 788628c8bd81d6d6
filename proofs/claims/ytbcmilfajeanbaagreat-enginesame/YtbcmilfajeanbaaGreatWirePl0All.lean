/-
  Layer 13: a step is picked, of a machine of one kind: contract.
  A region that draws its order in which some operations turn memory that was there (an append, a store), one behind the other: their number is carried on as a ghost; all others only read, or make memory.
  Layer 10: a plan in the making; a row of gates: contract.
  Layer 10: two lists of wires merged, a list counted: contracts.
  Layer 10: a list counted: contract.
  Layer 10: the plan of a width: contract.
  Layer 10: which widths there are; none of another width.
-/
import Derived.Test.YtbcmilfajeanbaaGreatRegionAll
import Derived.Test.YtbcmilfajeanbaaGreatOpIn6All
import Derived.Test.YtbcmilfajeanbaaGreatStepReg13All
import Derived.Test.YtbcmilfajeanbaaGreatFits5All
import Derived.Test.YtbcmilfajeanbaaGreatKNew9All
namespace Go.Proofs.YtbcmilfajeanbaaGreat
open Go.RowKit Go.Sort

def pickNR (eb fb mb : Nat) (r : Mem × Fr × Ans × Bool) (wd c gc oc : Nat) (ga oa : Option Addr) : List (Value → Ar.Gh → World → Prop) :=
  [fun u0 _ _ => u0 = .pointer (some ⟨eb, 0, none⟩),
   fun u0 _ _ => u0 = .pointer (some ⟨eb, 0, none⟩),
   fun u0 _ _ => u0 = .pointer (some ⟨eb, 2, none⟩),
   fun u0 _ _ => u0 = .iface 141 (.agg #[.int .i64 (wd : Int), .slice ga c gc, .slice oa wd oc]),
   fun u0 _ _ => u0 = .pointer (some ⟨eb, 0, none⟩),
   fun u0 _ _ => u0 = .pointer (some ⟨eb, 0, none⟩),
   fun u0 _ _ => u0 = .pointer (some ⟨eb, 3, none⟩),
   fun u0 _ _ => u0 = .pointer (some ⟨mb, 0, none⟩),
   fun u0 _ _ => u0 = .pointer (some ⟨fb, 0, none⟩),
   fun u0 _ _ => u0 = .iface 141 (.agg #[.int .i64 (wd : Int), .slice ga c gc, .slice oa wd oc]),
   fun u0 _ _ => u0 = .iface 141 (.agg #[.int .i64 (wd : Int), .slice ga c gc, .slice oa wd oc]),
   fun u0 _ _ => u0 = .tuple #[.agg #[.bool r.2.2.1.ok, .float .f64 r.2.2.1.pri, .int .i64 r.2.2.1.val, .int .i64 r.2.2.1.n], .bool r.2.2.2],
   fun u0 _ _ => u0 = .tuple #[.agg #[.bool r.2.2.1.ok, .float .f64 r.2.2.1.pri, .int .i64 r.2.2.1.val, .int .i64 r.2.2.1.n], .bool r.2.2.2],
   fun u0 _ _ => u0 = .agg #[.bool r.2.2.1.ok, .float .f64 r.2.2.1.pri, .int .i64 r.2.2.1.val, .int .i64 r.2.2.1.n],
   fun u0 _ _ => u0 = .bool r.2.2.2,
   fun u0 x _ => ∃ bx, x.2 = some bx ∧ u0 = .pointer (some ⟨bx, 0, none⟩),
   fun _ _ _ => True,
   fun u0 _ _ => u0 = .bool r.2.2.2]
theorem pickNR_kept (eb fb mb : Nat) (r : Mem × Fr × Ans × Bool) (wd c gc oc : Nat) (ga oa : Option Addr) : Reg.GAllKept Ar.Pres (pickNR eb fb mb r wd c gc oc ga oa) :=
  ⟨(fun _ _ _ _ _ _ h => h), (fun _ _ _ _ _ _ h => h), (fun _ _ _ _ _ _ h => h), (fun _ _ _ _ _ _ h => h), (fun _ _ _ _ _ _ h => h), (fun _ _ _ _ _ _ h => h), (fun _ _ _ _ _ _ h => h), (fun _ _ _ _ _ _ h => h), (fun _ _ _ _ _ _ h => h), (fun _ _ _ _ _ _ h => h), (fun _ _ _ _ _ _ h => h), (fun _ _ _ _ _ _ h => h), (fun _ _ _ _ _ _ h => h), (fun _ _ _ _ _ _ h => h), (fun _ _ _ _ _ _ h => h), (fun _ _ _ _ _ hp h => by obtain ⟨bx, h1, h2⟩ := h; exact ⟨bx, hp bx h1, h2⟩), (fun _ _ _ _ _ _ h => h), (fun _ _ _ _ _ _ h => h), trivial⟩

set_option maxRecDepth 20000 in
set_option maxHeartbeats 8000000 in
theorem pickN_any (wd c gc oc : Nat) (ga oa : Option Addr) (eb : Nat) (kind param : Int) (mb : Nat) (Q : Nat → Option Nat) (closed : Bool) (steps : Nat) (pick : Int) (t fb : Nat) (O P : Nat → Prop) (r : Mem × Fr × Ans × Bool) (w : World)
    (hE : BoxAt w eb (ecells kind param 141 (.agg #[.int .i64 (wd : Int), .slice ga c gc, .slice oa wd oc]) mb Q closed (steps : Int))) (hb : (busyTo Q 6)[(into pick (busyTo Q 6).length).toNat]? = some t) (hQ : Q t = some fb) (hst : steps < 4611686018427387904)
    (hlt : ∀ k, O k ∨ P k → k < w.heap.size) (hne : ¬ (O eb ∨ P eb)) (hfb : ∃ a0 k0 a1 k1 F0, BoxAt w fb (Fr.l F0 a0 k0 a1 k1))
    (hS : ∀ W, Below w.heap.size w W → Calls Tryz.prog 154 #[.agg #[.int .i64 (wd : Int), .slice ga c gc, .slice oa wd oc], .pointer (some ⟨mb, 0, none⟩), .pointer (some ⟨fb, 0, none⟩)] W (StepEnd mb fb O P r W)) :
    Calls Tryz.prog 10 #[.pointer (some ⟨eb, 0, none⟩), .int .i64 pick] w (PickEnd eb kind param 141 (.agg #[.int .i64 (wd : Int), .slice ga c gc, .slice oa wd oc]) mb Q closed steps t fb O P r w) := by
  have hsf := run_store_flt (P := Tryz.prog)
  have hms : ∀ w, (method 369 141 (.agg #[.int .i64 (wd : Int), .slice ga c gc, .slice oa wd oc]) "Step").run Tryz.prog w = .ok (154, (.agg #[.int .i64 (wd : Int), .slice ga c gc, .slice oa wd oc])) w := fun w => by kernel_rfl
  obtain ⟨vb, hvb⟩ : ∃ vb, w.heap.size = vb := ⟨_, rfl⟩
  obtain ⟨W0, hW0⟩ : ∃ W0, w.alloc (.cells #[.int .i64 0, .int .i64 0, .float .f64 0, .int .i64 0, .int .i64 0, .int .i64 0, .bool false, .bool false, .float .f64 0, .int .i64 0, .int .i64 0] 48) = W0 := ⟨_, rfl⟩
  have hV0 := BoxAt.new w [.int .i64 0, .int .i64 0, .float .f64 0, .int .i64 0, .int .i64 0, .int .i64 0, .bool false, .bool false, .float .f64 0, .int .i64 0, .int .i64 0] 48
  rw [show w.alloc (.cells [.int .i64 0, .int .i64 0, .float .f64 0, .int .i64 0, .int .i64 0, .int .i64 0, .bool false, .bool false, .float .f64 0, .int .i64 0, .int .i64 0].toArray 48) = W0 from hW0, hvb] at hV0
  have hb0 : Below w.heap.size w W0 := by rw [← hW0]; exact (Below.refl _ _).alloc (Nat.le_refl _) _
  have hn6 := busyTo_le Q 6
  have ht6 : t < 6 := by
    have := List.mem_of_getElem? hb
    exact (busyTo_mem.1 this).1
  have hBz := busy_any eb kind param 141 (.agg #[.int .i64 (wd : Int), .slice ga c gc, .slice oa wd oc]) mb Q closed (steps : Int) W0 (hE.below hb0)
  obtain ⟨n, hn⟩ : ∃ n, (busyTo Q 6).length = n := ⟨_, rfl⟩
  obtain ⟨l, hl⟩ : ∃ l, busyTo Q 6 = l := ⟨_, rfl⟩
  have hBE : ∀ e w', BusyEnd Q W0 e w' → ∃ a cap, e = .returned (.slice a n cap) ∧ SlAt 1 w' a cap n (vals l) ∧ Below W0.heap.size W0 w' := by
    rintro e w' ⟨a, cap, h1, h2, h3, h4⟩
    rw [hn, hl] at *
    exact ⟨a, cap, h1, h2, h4⟩
  replace hBz := hBz.mono hBE
  clear hBE
  rw [hn, hl] at hb
  have hnl : l.length = n := by rw [← hl]; exact hn
  rw [hn] at hn6
  have hn1 : 1 ≤ n := by
    have := (List.getElem?_eq_some_iff.1 hb).1
    omega
  obtain ⟨j, hj, hjn⟩ : ∃ j : Nat, into pick (n : Int) = (j : Int) ∧ j < n := by
    have := into_rng (d := pick) (n := (n : Int)) (by omega)
    exact ⟨(into pick (n : Int)).toNat, by omega, by omega⟩
  rw [hj] at hb
  have hb' : l[j]? = some t := hb
  have hIn := fun w => into_any pick (n : Int) w (by omega)
  rw [hj] at hIn
  have hne0 : ((n : Int) == 0) = false := by simp; omega
  have hne0' : (n == 0) = false := by simp; omega
  have HH := hidq (And.intro hE (And.intro hV0 (And.intro hb0 (And.intro hlt (And.intro hne hfb)))))
  have HS0 := hidq hS
  have HQ := hidq hQ
  have HB := hidq hb'
  have HI := hidq hIn
  have hel := hE.lt
  have HVB := hidq hvb
  clear hE hV0 hb0 hlt hne hfb hS hQ hb hb' hn hl hnl hj hIn
  go_enter Tryz.func10, Tryz.ntmps10
  go_wp2_with fail
  refine hBz.mono ?_
  rintro e w1 ⟨a, cap, rfl, hSl, hb1⟩
  clear hBz
  obtain ⟨hE, hV0, hb0, hlt, hne, hfb⟩ := HH.out
  obtain ⟨g, rfl, hgl, hgc⟩ := hSl.cell (t := j) (u := .int .i64 (t : Int)) (by simp [vals, HB.out])
  have hb01 := hb0.trans (hb1.mono hb0.size)
  have hE1 := hE.below hb01
  have hV1 := hV0.below hb1
  have hthr := (hE1.get (4 + t) _ (ecells_thread kind param 141 (.agg #[.int .i64 (wd : Int), .slice ga c gc, .slice oa wd oc]) mb Q closed (steps : Int) t ht6)).1
  rw [HQ.out] at hthr
  replace hthr : w1.cell? ⟨eb, 4 + t, none⟩ = some (.pointer (some ⟨fb, 0, none⟩)) := hthr
  have hel1 := hE1.lt
  have H1 := hidq (And.intro hE1 (And.intro hV1 (And.intro hb01 (show ∀ k, O k ∨ P k → k < w1.heap.size from fun k hk => Nat.lt_of_lt_of_le (hlt k hk) hb01.size))))
  have hS1 := hidq (fun W (hW : Below w1.heap.size w1 W) => HS0.out W (hb01.trans (hW.mono hb01.size)))
  have hcp := hSl.le
  have HNE := hidq (And.intro hne (And.intro hlt hfb))
  clear hSl hE hV0 hb0 hlt hne hfb hb1 hb01 hE1 hV1 HH HS0
  clear hW0
  go_wp2_with fail
  refine (HI.out _).mono ?_
  rintro e w2 ⟨rfl, hw2⟩
  replace hw2 := hw2.symm
  subst hw2
  clear HI
  go_wp2_with fail
  refine Reg.wp_region_ghost (Reg.gofList (pickNR eb fb mb r wd c gc oc ga oa)) Ar.Pres (Er.GI w1 mb fb O P r 11 15 16) (O, none) (by kernel_rfl) (by kernel_rfl) (Reg.GAllKept.at _ (pickNR_kept eb fb mb r wd c gc oc ga oa)) (Er.GI.start w1 mb fb O P r 11 15 16 H1.out.2.2.2 _) ⟨?_, ?_, ?_, ?_, ?_, ?_, ?_, ?_, ?_, ?_, ?_, ?_, ?_, ?_, ?_, ?_, ?_, ?_, trivial⟩ ?_
  · refine Reg.GStepAt.plain (i := 0) rfl ?_
    intro x L ev w hI hk hp hA
    have e0 : ev (.tmp 0) = .pointer (some ⟨eb, 0, none⟩) := hA.oldNone 0 (by kernel_rfl)
    have hcc := hA.const
    clear hA hp
    refine Reg.out_value (v := .pointer (some ⟨eb, 0, none⟩)) ?_ ⟨x, rfl, Ar.Pres.refl _ _ _, hI.quiet 0 (by decide) (by decide) (by decide)⟩
    go_simp
  · refine Reg.GStepAt.plain (i := 1) rfl ?_
    intro x L ev w hI hk hp hA
    have e31 : ev (.tmp 31) = .pointer (some ⟨eb, 0, none⟩) := hA.val 0 _ 31 rfl (hp ⟨0, .data⟩ (by simp) rfl) rfl
    have hcc := hA.const
    clear hA hp
    refine Reg.out_value (v := .pointer (some ⟨eb, 0, none⟩)) ?_ ⟨x, rfl, Ar.Pres.refl _ _ _, hI.quiet 1 (by decide) (by decide) (by decide)⟩
    go_simp
  · refine Reg.GStepAt.plain (i := 2) rfl ?_
    intro x L ev w hI hk hp hA
    have e32 : ev (.tmp 32) = .pointer (some ⟨eb, 0, none⟩) := hA.val 1 _ 32 rfl (hp ⟨1, .data⟩ (by simp) rfl) rfl
    have hcc := hA.const
    clear hA hp
    refine Reg.out_value (v := .pointer (some ⟨eb, 2, none⟩)) ?_ ⟨x, rfl, Ar.Pres.refl _ _ _, hI.quiet 2 (by decide) (by decide) (by decide)⟩
    go_simp
  · refine Reg.GStepAt.plain (i := 3) rfl ?_
    intro x L ev w hI hk hp hA
    have e33 : ev (.tmp 33) = .pointer (some ⟨eb, 2, none⟩) := hA.val 2 _ 33 rfl (hp ⟨2, .data⟩ (by simp) rfl) rfl
    have hcc := hA.const
    clear hA hp
    have f2 := ((H1.out.1.but hI.chg HNE.out.1).get 2 _ rfl).1
    have f3 := ((H1.out.1.but hI.chg HNE.out.1).get 3 _ rfl).1
    have hel := (H1.out.1.but hI.chg HNE.out.1).lt
    refine Reg.out_value (v := .iface 141 (.agg #[.int .i64 (wd : Int), .slice ga c gc, .slice oa wd oc])) ?_ ⟨x, rfl, Ar.Pres.refl _ _ _, hI.quiet 3 (by decide) (by decide) (by decide)⟩
    go_simp
  · refine Reg.GStepAt.plain (i := 4) rfl ?_
    intro x L ev w hI hk hp hA
    have e0 : ev (.tmp 0) = .pointer (some ⟨eb, 0, none⟩) := hA.oldNone 0 (by kernel_rfl)
    have hcc := hA.const
    clear hA hp
    refine Reg.out_value (v := .pointer (some ⟨eb, 0, none⟩)) ?_ ⟨x, rfl, Ar.Pres.refl _ _ _, hI.quiet 4 (by decide) (by decide) (by decide)⟩
    go_simp
  · refine Reg.GStepAt.plain (i := 5) rfl ?_
    intro x L ev w hI hk hp hA
    have e35 : ev (.tmp 35) = .pointer (some ⟨eb, 0, none⟩) := hA.val 4 _ 35 rfl (hp ⟨4, .data⟩ (by simp) rfl) rfl
    have hcc := hA.const
    clear hA hp
    refine Reg.out_value (v := .pointer (some ⟨eb, 0, none⟩)) ?_ ⟨x, rfl, Ar.Pres.refl _ _ _, hI.quiet 5 (by decide) (by decide) (by decide)⟩
    go_simp
  · refine Reg.GStepAt.plain (i := 6) rfl ?_
    intro x L ev w hI hk hp hA
    have e36 : ev (.tmp 36) = .pointer (some ⟨eb, 0, none⟩) := hA.val 5 _ 36 rfl (hp ⟨5, .data⟩ (by simp) rfl) rfl
    have hcc := hA.const
    clear hA hp
    refine Reg.out_value (v := .pointer (some ⟨eb, 3, none⟩)) ?_ ⟨x, rfl, Ar.Pres.refl _ _ _, hI.quiet 6 (by decide) (by decide) (by decide)⟩
    go_simp
  · refine Reg.GStepAt.plain (i := 7) rfl ?_
    intro x L ev w hI hk hp hA
    have e37 : ev (.tmp 37) = .pointer (some ⟨eb, 3, none⟩) := hA.val 6 _ 37 rfl (hp ⟨6, .data⟩ (by simp) rfl) rfl
    have hcc := hA.const
    clear hA hp
    have f2 := ((H1.out.1.but hI.chg HNE.out.1).get 2 _ rfl).1
    have f3 := ((H1.out.1.but hI.chg HNE.out.1).get 3 _ rfl).1
    have hel := (H1.out.1.but hI.chg HNE.out.1).lt
    refine Reg.out_value (v := .pointer (some ⟨mb, 0, none⟩)) ?_ ⟨x, rfl, Ar.Pres.refl _ _ _, hI.quiet 7 (by decide) (by decide) (by decide)⟩
    go_simp
  · refine Reg.GStepAt.plain (i := 8) rfl ?_
    intro x L ev w hI hk hp hA
    have e8 : ev (.tmp 8) = .pointer (some ⟨fb, 0, none⟩) := hA.oldNone 8 (by kernel_rfl)
    have hcc := hA.const
    clear hA hp
    refine Reg.out_value (v := .pointer (some ⟨fb, 0, none⟩)) ?_ ⟨x, rfl, Ar.Pres.refl _ _ _, hI.quiet 8 (by decide) (by decide) (by decide)⟩
    go_simp
  · refine Reg.GStepAt.plain (i := 9) rfl ?_
    intro x L ev w hI hk hp hA
    have e34 : ev (.tmp 34) = .iface 141 (.agg #[.int .i64 (wd : Int), .slice ga c gc, .slice oa wd oc]) := hA.val 3 _ 34 rfl (hp ⟨3, .data⟩ (by simp) rfl) rfl
    have hcc := hA.const
    clear hA hp
    refine Reg.out_value (v := .iface 141 (.agg #[.int .i64 (wd : Int), .slice ga c gc, .slice oa wd oc])) ?_ ⟨x, rfl, Ar.Pres.refl _ _ _, hI.quiet 9 (by decide) (by decide) (by decide)⟩
    go_simp
  · refine Reg.GStepAt.plain (i := 10) rfl ?_
    intro x L ev w hI hk hp hA
    have e34 : ev (.tmp 34) = .iface 141 (.agg #[.int .i64 (wd : Int), .slice ga c gc, .slice oa wd oc]) := hA.val 3 _ 34 rfl (hp ⟨3, .data⟩ (by simp) rfl) rfl
    have hcc := hA.const
    clear hA hp
    refine Reg.out_value (v := .iface 141 (.agg #[.int .i64 (wd : Int), .slice ga c gc, .slice oa wd oc])) ?_ ⟨x, rfl, Ar.Pres.refl _ _ _, hI.quiet 10 (by decide) (by decide) (by decide)⟩
    go_simp
  · refine Reg.GStepAt.plain (i := 11) rfl ?_
    intro x L ev w hI hk hp hA
    have e41 : ev (.tmp 41) = .iface 141 (.agg #[.int .i64 (wd : Int), .slice ga c gc, .slice oa wd oc]) := hA.val 10 _ 41 rfl (hp ⟨10, .data⟩ (by simp) rfl) rfl
    have e38 : ev (.tmp 38) = .pointer (some ⟨mb, 0, none⟩) := hA.val 7 _ 38 rfl (hp ⟨7, .data⟩ (by simp) rfl) rfl
    have e39 : ev (.tmp 39) = .pointer (some ⟨fb, 0, none⟩) := hA.val 8 _ 39 rfl (hp ⟨8, .data⟩ (by simp) rfl) rfl
    have hcc := hA.const
    clear hA hp
    refine Reg.out_call (f := 154) (args := #[.agg #[.int .i64 (wd : Int), .slice ga c gc, .slice oa wd oc], .pointer (some ⟨mb, 0, none⟩), .pointer (some ⟨fb, 0, none⟩)]) (w0 := w) ?_ ?_
    · go_simp
    refine (hS1.out w (hI.pre hk)).mono ?_
    rintro e w' ⟨rfl, O', P', h1, h2, h3, h4, h5, h6⟩
    exact ⟨_, rfl, (fun k => O' k ∨ P' k, x.2), rfl, fun _ h => h, hI.call hk (by decide) (by decide) h1 h2 h3 h4 h5 h6⟩
  · refine Reg.GStepAt.plain (i := 12) rfl ?_
    intro x L ev w hI hk hp hA
    have e42 : ev (.tmp 42) = .tuple #[.agg #[.bool r.2.2.1.ok, .float .f64 r.2.2.1.pri, .int .i64 r.2.2.1.val, .int .i64 r.2.2.1.n], .bool r.2.2.2] := hA.val 11 _ 42 rfl (hp ⟨11, .data⟩ (by simp) rfl) rfl
    have hcc := hA.const
    clear hA hp
    refine Reg.out_value (v := .tuple #[.agg #[.bool r.2.2.1.ok, .float .f64 r.2.2.1.pri, .int .i64 r.2.2.1.val, .int .i64 r.2.2.1.n], .bool r.2.2.2]) ?_ ⟨x, rfl, Ar.Pres.refl _ _ _, hI.quiet 12 (by decide) (by decide) (by decide)⟩
    go_simp
  · refine Reg.GStepAt.plain (i := 13) rfl ?_
    intro x L ev w hI hk hp hA
    have e30 : ev (.tmp 30) = .tuple #[.agg #[.bool r.2.2.1.ok, .float .f64 r.2.2.1.pri, .int .i64 r.2.2.1.val, .int .i64 r.2.2.1.n], .bool r.2.2.2] := hA.val 12 _ 30 rfl (hp ⟨12, .data⟩ (by simp) rfl) rfl
    have hcc := hA.const
    clear hA hp
    refine Reg.out_value (v := .agg #[.bool r.2.2.1.ok, .float .f64 r.2.2.1.pri, .int .i64 r.2.2.1.val, .int .i64 r.2.2.1.n]) ?_ ⟨x, rfl, Ar.Pres.refl _ _ _, hI.quiet 13 (by decide) (by decide) (by decide)⟩
    go_simp
  · refine Reg.GStepAt.plain (i := 14) rfl ?_
    intro x L ev w hI hk hp hA
    have e30 : ev (.tmp 30) = .tuple #[.agg #[.bool r.2.2.1.ok, .float .f64 r.2.2.1.pri, .int .i64 r.2.2.1.val, .int .i64 r.2.2.1.n], .bool r.2.2.2] := hA.val 12 _ 30 rfl (hp ⟨12, .data⟩ (by simp) rfl) rfl
    have hcc := hA.const
    clear hA hp
    refine Reg.out_value (v := .bool r.2.2.2) ?_ ⟨x, rfl, Ar.Pres.refl _ _ _, hI.quiet 14 (by decide) (by decide) (by decide)⟩
    go_simp
  · refine Reg.GStepAt.plain (i := 15) rfl ?_
    intro x L ev w hI hk hp hA
    have hcc := hA.const
    have hSf : L.getD 16 false = false := by
      cases hq : L.getD 16 false with
      | false => rfl
      | true => have := hA.closed 16 _ rfl hq ⟨15, .data⟩ (by simp) rfl; rw [show (⟨15, .data⟩ : Edge).on = 15 from rfl, Ar.getD_false hk] at this; cases this
    clear hA hp
    refine Reg.out_new (v := .pointer (some ⟨w.heap.size, 0, none⟩)) (w' := w.alloc (.cells Ans.zero.l.toArray 46)) ?_ ⟨(x.1, some w.heap.size), ⟨_, rfl, rfl⟩, fun b hb => (by rw [hI.no (Ar.getD_false hk)] at hb; cases hb), hI.alloc hk hSf (by decide) (by decide) _⟩
    (go_simp; try rfl)
  · refine Reg.GStepAt.plain (i := 16) rfl ?_
    intro x L ev w hI hk hp hA
    have e9 : ∃ bx, x.2 = some bx ∧ ev (.tmp 9) = .pointer (some ⟨bx, 0, none⟩) := hA.val 15 _ 9 rfl (hp ⟨15, .data⟩ (by simp) rfl) rfl
    have e43 : ev (.tmp 43) = .agg #[.bool r.2.2.1.ok, .float .f64 r.2.2.1.pri, .int .i64 r.2.2.1.val, .int .i64 r.2.2.1.n] := hA.val 13 _ 43 rfl (hp ⟨13, .data⟩ (by simp) rfl) rfl
    have hcc := hA.const
    clear hA hp
    obtain ⟨bx, hx, e9⟩ := e9
    have hbx := (hI.box bx hx).2.2.2.2
    rw [Ar.getD_false hk] at hbx
    obtain ⟨g0, x0⟩ := hbx.get 0 _ rfl
    obtain ⟨g1, x1⟩ := hbx.get 1 _ rfl
    obtain ⟨g2, x2⟩ := hbx.get 2 _ rfl
    obtain ⟨g3, x3⟩ := hbx.get 3 _ rfl
    refine Ar.out_skip (w' := setBox w bx r.2.2.1.s) ?_ ⟨x, trivial, Ar.Pres.refl _ _ _, hI.store hk (by decide) (by decide) hx⟩
    clear hbx
    simp only [setBox]
    go_simp
  · refine Reg.GStepAt.plain (i := 17) rfl ?_
    intro x L ev w hI hk hp hA
    have e44 : ev (.tmp 44) = .bool r.2.2.2 := hA.val 14 _ 44 rfl (hp ⟨14, .data⟩ (by simp) rfl) rfl
    have hcc := hA.const
    clear hA hp
    refine Reg.out_value (v := .bool r.2.2.2) ?_ ⟨x, rfl, Ar.Pres.refl _ _ _, hI.quiet 17 (by decide) (by decide) (by decide)⟩
    go_simp
  intro x L act wz hall hI hF
  have q31 : act.eval (.tmp 31) = .pointer (some ⟨eb, 0, none⟩) := hF.val 0 _ 31 rfl (hall 0 (by simp)) rfl
  have q32 : act.eval (.tmp 32) = .pointer (some ⟨eb, 0, none⟩) := hF.val 1 _ 32 rfl (hall 1 (by simp)) rfl
  have q33 : act.eval (.tmp 33) = .pointer (some ⟨eb, 2, none⟩) := hF.val 2 _ 33 rfl (hall 2 (by simp)) rfl
  have q34 : act.eval (.tmp 34) = .iface 141 (.agg #[.int .i64 (wd : Int), .slice ga c gc, .slice oa wd oc]) := hF.val 3 _ 34 rfl (hall 3 (by simp)) rfl
  have q35 : act.eval (.tmp 35) = .pointer (some ⟨eb, 0, none⟩) := hF.val 4 _ 35 rfl (hall 4 (by simp)) rfl
  have q36 : act.eval (.tmp 36) = .pointer (some ⟨eb, 0, none⟩) := hF.val 5 _ 36 rfl (hall 5 (by simp)) rfl
  have q37 : act.eval (.tmp 37) = .pointer (some ⟨eb, 3, none⟩) := hF.val 6 _ 37 rfl (hall 6 (by simp)) rfl
  have q38 : act.eval (.tmp 38) = .pointer (some ⟨mb, 0, none⟩) := hF.val 7 _ 38 rfl (hall 7 (by simp)) rfl
  have q39 : act.eval (.tmp 39) = .pointer (some ⟨fb, 0, none⟩) := hF.val 8 _ 39 rfl (hall 8 (by simp)) rfl
  have q40 : act.eval (.tmp 40) = .iface 141 (.agg #[.int .i64 (wd : Int), .slice ga c gc, .slice oa wd oc]) := hF.val 9 _ 40 rfl (hall 9 (by simp)) rfl
  have q41 : act.eval (.tmp 41) = .iface 141 (.agg #[.int .i64 (wd : Int), .slice ga c gc, .slice oa wd oc]) := hF.val 10 _ 41 rfl (hall 10 (by simp)) rfl
  have q42 : act.eval (.tmp 42) = .tuple #[.agg #[.bool r.2.2.1.ok, .float .f64 r.2.2.1.pri, .int .i64 r.2.2.1.val, .int .i64 r.2.2.1.n], .bool r.2.2.2] := hF.val 11 _ 42 rfl (hall 11 (by simp)) rfl
  have q30 : act.eval (.tmp 30) = .tuple #[.agg #[.bool r.2.2.1.ok, .float .f64 r.2.2.1.pri, .int .i64 r.2.2.1.val, .int .i64 r.2.2.1.n], .bool r.2.2.2] := hF.val 12 _ 30 rfl (hall 12 (by simp)) rfl
  have q43 : act.eval (.tmp 43) = .agg #[.bool r.2.2.1.ok, .float .f64 r.2.2.1.pri, .int .i64 r.2.2.1.val, .int .i64 r.2.2.1.n] := hF.val 13 _ 43 rfl (hall 13 (by simp)) rfl
  have q44 : act.eval (.tmp 44) = .bool r.2.2.2 := hF.val 14 _ 44 rfl (hall 14 (by simp)) rfl
  have q9 : ∃ bx, x.2 = some bx ∧ act.eval (.tmp 9) = .pointer (some ⟨bx, 0, none⟩) := hF.val 15 _ 9 rfl (hall 15 (by simp)) rfl
  obtain ⟨bx, hx, q9⟩ := q9
  have q10 : act.eval (.tmp 10) = .bool r.2.2.2 := hF.val 17 _ 10 rfl (hall 17 (by simp)) rfl
  have hact := hF.act [31, 32, 33, 34, 35, 36, 37, 38, 39, 40, 41, 42, 30, 43, 44, 9, 10] (by kernel_rfl)
  have hst := hI.st
  rw [hall 11 (by simp), if_pos rfl] at hst
  have hchg := hI.chg
  have hgrw := hI.grow
  obtain ⟨hx0, hx1, hx2, hx3, hbx⟩ := hI.box bx hx
  rw [hall 16 (by simp), if_pos rfl] at hbx
  clear hF hall hI
  simp only [List.foldl_cons, List.foldl_nil] at hact
  rw [q31, q32, q33, q34, q35, q36, q37, q38, q39, q40, q41, q42, q30, q43, q44, q9, q10] at hact
  clear q31 q32 q33 q34 q35 q36 q37 q38 q39 q40 q41 q42 q30 q43 q44 q9 q10
  simp only [List.setIfInBounds_toArray, List.set_cons_succ, List.set_cons_zero] at hact
  subst hact
  obtain ⟨O', P', hM', hF', hD', hGO, hGP, _⟩ := hst
  obtain ⟨hE1, hV1, hb01, hlt1⟩ := H1.out
  obtain ⟨hne, hlt, hfb⟩ := HNE.out
  obtain ⟨M2, F2, A, d⟩ := r
  obtain ⟨aok, api, av, an⟩ := A
  dsimp only at *
  have hvb := HVB.out
  have hEz := hE1.but hchg hne
  have hVz := hV1.but hchg (fun e => by have := hlt vb e; omega)
  have hvl := hV1.lt
  have hne1 : vb ≠ eb := by omega
  have hne2 : bx ≠ eb := by have := hE1.lt; omega
  have hfbP : P' fb := hF'.ob
  have hneP : ∀ k, O' k ∨ P' k → k ≠ eb := fun k hk e => by
    subst e
    rcases hk with q | q
    · rcases hGO _ q with s | s
      · exact hne (.inl s)
      · omega
    · rcases hGP _ q with s | s
      · exact hne (.inr s)
      · omega
  have hnfe : fb ≠ eb := hneP fb (.inr hfbP)
  obtain ⟨z11, y11⟩ := hEz.get 11 _ rfl
  have hzl := hEz.lt
  have hstI : (steps : Int) < 4611686018427387904 := by omega
  obtain ⟨W2, hW2⟩ : ∃ W2, wz.setCell ⟨eb, 11, none⟩ (.int .i64 ((steps : Int) + 1)) = W2 := ⟨_, rfl⟩
  have hc2 : But (fun j => j = eb) wz W2 := by rw [← hW2]; exact (But.refl (fun j => j = eb) wz).set1 eb 11 rfl _
  have hE2 : BoxAt W2 eb (ecells kind param 141 (.agg #[.int .i64 (wd : Int), .slice ga c gc, .slice oa wd oc]) mb Q closed (((steps + 1 : Nat)) : Int)) := by rw [← hW2]; exact hEz.set 11 (.int .i64 ((steps : Int) + 1))
  have hV2 := hVz.but hc2 hne1
  have hB2 := hbx.but hc2 hne2
  have hM2 := hM'.but hc2 (fun k hk e => hneP k (.inl hk) e)
  have hF2 := hF'.but hc2 (fun k hk e => hneP k (.inr hk) e)
  have hchg2 : But (fun k => O k ∨ P k ∨ k = eb) w W2 := ((But.of_below hb01).then hchg (fun k _ e => e.elim .inl (fun q => .inr (.inl q)))).then hc2 (fun k _ e => .inr (.inr e))
  have hGO2 : Grown O w W2 O' := fun k hk => (hGO k hk).imp id (fun q => ⟨by have := hb01.size; omega, by have := hc2.size; omega⟩)
  have hGP2 : Grown P w W2 P' := fun k hk => (hGP k hk).imp id (fun q => ⟨by have := hb01.size; omega, by have := hc2.size; omega⟩)
  have HZ := hidq (And.intro hne1 (And.intro hnfe (And.intro hneP hD')))
  have hbxv : bx ≠ vb := by omega
  have hvO : ∀ k, O' k ∨ P' k → k ≠ vb := fun k hk e => by
    subst e
    rcases hk with q | q
    · rcases hGO _ q with s | s
      · have := hlt _ (.inl s); omega
      · omega
    · rcases hGP _ q with s | s
      · have := hlt _ (.inr s); omega
      · omega
  have HVO := hidq hvO
  have hfv : fb ≠ vb := hvO fb (.inr hfbP)
  cases d with
  | false =>
    have hvb2 := HVB.out
    obtain ⟨Wv, hWv⟩ : ∃ Wv, setBox W2 vb [(0, .int .i64 (t : Int)), (1, .int .i64 F2.kind), (2, .float .f64 F2.pri), (3, .int .i64 F2.val), (4, .int .i64 F2.d0), (5, .int .i64 F2.d1), (6, .bool false), (7, .bool aok), (8, .float .f64 api), (9, .int .i64 av), (10, .int .i64 an)] = Wv := ⟨_, rfl⟩
    have hbv : But (fun j => j = vb) W2 Wv := by rw [← hWv]; exact setBox_but vb [(0, .int .i64 (t : Int)), (1, .int .i64 F2.kind), (2, .float .f64 F2.pri), (3, .int .i64 F2.val), (4, .int .i64 F2.d0), (5, .int .i64 F2.d1), (6, .bool false), (7, .bool aok), (8, .float .f64 api), (9, .int .i64 av), (10, .int .i64 an)] W2
    have hQV : BoxAt Wv vb [.int .i64 (t : Int), .int .i64 F2.kind, .float .f64 F2.pri, .int .i64 F2.val, .int .i64 F2.d0, .int .i64 F2.d1, .bool false, .bool aok, .float .f64 api, .int .i64 av, .int .i64 an] := by rw [← hWv]; exact (setBox_box [(0, .int .i64 (t : Int)), (1, .int .i64 F2.kind), (2, .float .f64 F2.pri), (3, .int .i64 F2.val), (4, .int .i64 F2.d0), (5, .int .i64 F2.d1), (6, .bool false), (7, .bool aok), (8, .float .f64 api), (9, .int .i64 av), (10, .int .i64 an)] hV2)
    dsimp only [setBox] at hWv
    have HWv := hidq hWv
    have HE := hidq (show PickEnd eb kind param 141 (.agg #[.int .i64 (wd : Int), .slice ga c gc, .slice oa wd oc]) mb Q closed steps t fb O P (M2, F2, ⟨aok, api, av, an⟩, false) w (.returned (.tuple #[evV t F2 ⟨aok, api, av, an⟩ false, .bool true])) Wv.drew from by
      refine ⟨rfl, (hE2.but hbv (fun e => hne1 e.symm)).drew, O', P', (hM2.but hbv (fun k hk e => hvO k (.inl hk) e)).below (Below.refl _ _).drew, (hF2.but hbv (fun k hk e => hvO k (.inr hk) e)).below (Below.refl _ _).drew, hD', Er.Grown.up hGO2 hbv.size, Er.Grown.up hGP2 hbv.size, ((hchg2.then hbv (fun k hk e => by omega)).drew)⟩)
    have q0 := (hQV.get 0 _ rfl).1
    have q1 := (hQV.get 1 _ rfl).1
    have q2 := (hQV.get 2 _ rfl).1
    have q3 := (hQV.get 3 _ rfl).1
    have q4 := (hQV.get 4 _ rfl).1
    have q5 := (hQV.get 5 _ rfl).1
    have q6 := (hQV.get 6 _ rfl).1
    have q7 := (hQV.get 7 _ rfl).1
    have q8 := (hQV.get 8 _ rfl).1
    have q9 := (hQV.get 9 _ rfl).1
    have q10 := (hQV.get 10 _ rfl).1
    have HQZ := hidq (And.intro q0 (And.intro q1 (And.intro q2 (And.intro q3 (And.intro q4 (And.intro q5 (And.intro q6 (And.intro q7 (And.intro q8 (And.intro q9 q10))))))))))
    clear q0 q1 q2 q3 q4 q5 q6 q7 q8 q9 q10 hQV hbv hvb2 hWv
    obtain ⟨a0, k0, a1, k1, hFb, _⟩ := hF2.box
    obtain ⟨p0, _⟩ := hFb.get 0 _ rfl
    obtain ⟨p1, _⟩ := hFb.get 1 _ rfl
    obtain ⟨p2, _⟩ := hFb.get 2 _ rfl
    obtain ⟨p3, _⟩ := hFb.get 3 _ rfl
    obtain ⟨p4, _⟩ := hFb.get 4 _ rfl
    have hpl := hFb.lt
    obtain ⟨b0, _⟩ := hB2.get 0 _ rfl
    obtain ⟨b1, _⟩ := hB2.get 1 _ rfl
    obtain ⟨b2, _⟩ := hB2.get 2 _ rfl
    obtain ⟨b3, _⟩ := hB2.get 3 _ rfl
    have hbl := hB2.lt
    obtain ⟨v0, u0⟩ := hV2.get 0 _ rfl
    obtain ⟨v1, u1⟩ := hV2.get 1 _ rfl
    obtain ⟨v2, u2⟩ := hV2.get 2 _ rfl
    obtain ⟨v3, u3⟩ := hV2.get 3 _ rfl
    obtain ⟨v4, u4⟩ := hV2.get 4 _ rfl
    obtain ⟨v5, u5⟩ := hV2.get 5 _ rfl
    obtain ⟨v6, u6⟩ := hV2.get 6 _ rfl
    obtain ⟨v7, u7⟩ := hV2.get 7 _ rfl
    obtain ⟨v8, u8⟩ := hV2.get 8 _ rfl
    obtain ⟨v9, u9⟩ := hV2.get 9 _ rfl
    obtain ⟨v10, u10⟩ := hV2.get 10 _ rfl
    have hvl := hV2.lt
    clear hx0 hx1 hx2 hx3 hx hbx hM' hF' hD' hGO hGP hE1 hV1 hb01 hlt1 hne hlt hfb hEz hVz hne1 hne2 hfbP hneP hc2 hE2 hB2 hM2 hF2 hchg2 hGO2 hGP2 hFb hchg hgrw hvO hvb hV2
    go_wp2_with fail
    go_region
    rw [HWv.out]
    clear HZ HVO H1 HNE HQ HB HVB
    go_wp2_with fail
    obtain ⟨q0, q1, q2, q3, q4, q5, q6, q7, q8, q9, q10⟩ := HQZ.out
    exact bodyPost_ret (v := .tuple #[evV t F2 ⟨aok, api, av, an⟩ false, .bool true]) (by simp [results, Tryz.results10, go_sem, q0, q1, q2, q3, q4, q5, q6, q7, q8, q9, q10]) rfl HE.out
  | true =>
    obtain ⟨z4, y4⟩ := hE2.get (4 + t) _ (ecells_thread kind param 141 (.agg #[.int .i64 (wd : Int), .slice ga c gc, .slice oa wd oc]) mb Q closed (((steps + 1 : Nat)) : Int) t ht6)
    rw [HQ.out] at z4
    have hel2 := hE2.lt
    obtain ⟨W3, hW3⟩ : ∃ W3, W2.setCell ⟨eb, 4 + t, none⟩ (.pointer none) = W3 := ⟨_, rfl⟩
    have hc3 : But (fun j => j = eb) W2 W3 := by rw [← hW3]; exact (But.refl (fun j => j = eb) W2).set1 eb (4 + t) rfl _
    have hE3 : BoxAt W3 eb (ecells kind param 141 (.agg #[.int .i64 (wd : Int), .slice ga c gc, .slice oa wd oc]) mb (qset Q t none) closed (((steps + 1 : Nat)) : Int)) := by rw [← hW3]; exact (hE2.set (4 + t) (eptr none)).same (ecells_set kind param 141 (.agg #[.int .i64 (wd : Int), .slice ga c gc, .slice oa wd oc]) mb Q closed (((steps + 1 : Nat)) : Int) t ht6 none)
    have hV3 := hV2.but hc3 hne1
    have hB3 := hB2.but hc3 hne2
    have hM3 := hM2.but hc3 (fun k hk e => hneP k (.inl hk) e)
    have hF3 := hF2.but hc3 (fun k hk e => hneP k (.inr hk) e)
    have hchg3 : But (fun k => O k ∨ P k ∨ k = eb) w W3 := hchg2.then hc3 (fun k _ e => .inr (.inr e))
    have hGO3 := Er.Grown.up hGO2 hc3.size
    have hGP3 := Er.Grown.up hGP2 hc3.size
    have hV2 := hV3
    have hvb2 := HVB.out
    obtain ⟨Wv, hWv⟩ : ∃ Wv, setBox W3 vb [(0, .int .i64 (t : Int)), (1, .int .i64 F2.kind), (2, .float .f64 F2.pri), (3, .int .i64 F2.val), (4, .int .i64 F2.d0), (5, .int .i64 F2.d1), (6, .bool true), (7, .bool aok), (8, .float .f64 api), (9, .int .i64 av), (10, .int .i64 an)] = Wv := ⟨_, rfl⟩
    have hbv : But (fun j => j = vb) W3 Wv := by rw [← hWv]; exact setBox_but vb [(0, .int .i64 (t : Int)), (1, .int .i64 F2.kind), (2, .float .f64 F2.pri), (3, .int .i64 F2.val), (4, .int .i64 F2.d0), (5, .int .i64 F2.d1), (6, .bool true), (7, .bool aok), (8, .float .f64 api), (9, .int .i64 av), (10, .int .i64 an)] W3
    have hQV : BoxAt Wv vb [.int .i64 (t : Int), .int .i64 F2.kind, .float .f64 F2.pri, .int .i64 F2.val, .int .i64 F2.d0, .int .i64 F2.d1, .bool true, .bool aok, .float .f64 api, .int .i64 av, .int .i64 an] := by rw [← hWv]; exact (setBox_box [(0, .int .i64 (t : Int)), (1, .int .i64 F2.kind), (2, .float .f64 F2.pri), (3, .int .i64 F2.val), (4, .int .i64 F2.d0), (5, .int .i64 F2.d1), (6, .bool true), (7, .bool aok), (8, .float .f64 api), (9, .int .i64 av), (10, .int .i64 an)] hV2)
    dsimp only [setBox] at hWv
    have HWv := hidq hWv
    have HE := hidq (show PickEnd eb kind param 141 (.agg #[.int .i64 (wd : Int), .slice ga c gc, .slice oa wd oc]) mb Q closed steps t fb O P (M2, F2, ⟨aok, api, av, an⟩, true) w (.returned (.tuple #[evV t F2 ⟨aok, api, av, an⟩ true, .bool true])) Wv.drew from by
      refine ⟨rfl, (hE3.but hbv (fun e => hne1 e.symm)).drew, O', P', (hM3.but hbv (fun k hk e => hvO k (.inl hk) e)).below (Below.refl _ _).drew, (hF3.but hbv (fun k hk e => hvO k (.inr hk) e)).below (Below.refl _ _).drew, hD', Er.Grown.up hGO3 hbv.size, Er.Grown.up hGP3 hbv.size, ((hchg3.then hbv (fun k hk e => by omega)).drew)⟩)
    have q0 := (hQV.get 0 _ rfl).1
    have q1 := (hQV.get 1 _ rfl).1
    have q2 := (hQV.get 2 _ rfl).1
    have q3 := (hQV.get 3 _ rfl).1
    have q4 := (hQV.get 4 _ rfl).1
    have q5 := (hQV.get 5 _ rfl).1
    have q6 := (hQV.get 6 _ rfl).1
    have q7 := (hQV.get 7 _ rfl).1
    have q8 := (hQV.get 8 _ rfl).1
    have q9 := (hQV.get 9 _ rfl).1
    have q10 := (hQV.get 10 _ rfl).1
    have HQZ := hidq (And.intro q0 (And.intro q1 (And.intro q2 (And.intro q3 (And.intro q4 (And.intro q5 (And.intro q6 (And.intro q7 (And.intro q8 (And.intro q9 q10))))))))))
    clear q0 q1 q2 q3 q4 q5 q6 q7 q8 q9 q10 hQV hbv hvb2 hWv
    obtain ⟨a0, k0, a1, k1, hFb, _⟩ := hF3.box
    obtain ⟨p0, _⟩ := hFb.get 0 _ rfl
    obtain ⟨p1, _⟩ := hFb.get 1 _ rfl
    obtain ⟨p2, _⟩ := hFb.get 2 _ rfl
    obtain ⟨p3, _⟩ := hFb.get 3 _ rfl
    obtain ⟨p4, _⟩ := hFb.get 4 _ rfl
    have hpl := hFb.lt
    obtain ⟨b0, _⟩ := hB3.get 0 _ rfl
    obtain ⟨b1, _⟩ := hB3.get 1 _ rfl
    obtain ⟨b2, _⟩ := hB3.get 2 _ rfl
    obtain ⟨b3, _⟩ := hB3.get 3 _ rfl
    have hbl := hB3.lt
    obtain ⟨v0, u0⟩ := hV3.get 0 _ rfl
    obtain ⟨v1, u1⟩ := hV3.get 1 _ rfl
    obtain ⟨v2, u2⟩ := hV3.get 2 _ rfl
    obtain ⟨v3, u3⟩ := hV3.get 3 _ rfl
    obtain ⟨v4, u4⟩ := hV3.get 4 _ rfl
    obtain ⟨v5, u5⟩ := hV3.get 5 _ rfl
    obtain ⟨v6, u6⟩ := hV3.get 6 _ rfl
    obtain ⟨v7, u7⟩ := hV3.get 7 _ rfl
    obtain ⟨v8, u8⟩ := hV3.get 8 _ rfl
    obtain ⟨v9, u9⟩ := hV3.get 9 _ rfl
    obtain ⟨v10, u10⟩ := hV3.get 10 _ rfl
    have hvl := hV3.lt
    clear hx0 hx1 hx2 hx3 hx hbx hM' hF' hD' hGO hGP hE1 hV1 hb01 hlt1 hne hlt hfb hEz hVz hne1 hne2 hfbP hneP hc2 hE2 hB2 hM2 hF2 hchg2 hGO2 hGP2 hFb hchg hgrw hvO hvb hV2 hV3 hB3 hM3 hF3 hchg3 hGO3 hGP3 hE3 hc3
    go_wp2_with fail
    go_region
    rw [HWv.out]
    clear HZ HVO H1 HNE HQ HB HVB
    go_wp2_with fail
    obtain ⟨q0, q1, q2, q3, q4, q5, q6, q7, q8, q9, q10⟩ := HQZ.out
    exact bodyPost_ret (v := .tuple #[evV t F2 ⟨aok, api, av, an⟩ true, .bool true]) (by simp [results, Tryz.results10, go_sem, q0, q1, q2, q3, q4, q5, q6, q7, q8, q9, q10]) rfl HE.out
end Go.Proofs.YtbcmilfajeanbaaGreat

namespace Go.Proofs.YtbcmilfajeanbaaGreat.Reg
open Go Go.RowKit

/-- How many of these have come up. -/
def cnt (hs : List Nat) (L : Array Bool) : Nat := hs.countP (fun j => L.getD j false)
theorem cnt_light {hs : List Nat} (L : Array Bool) (i : Nat) (h : hs.contains i = false) : cnt hs (L.setIfInBounds i true) = cnt hs L := by
  unfold cnt
  refine List.countP_congr (fun j hj => ?_)
  have hne : i ≠ j := fun e => by subst e; rw [List.contains_iff_mem.2 hj] at h; cases h
  rw [getD_set_ne false hne]
theorem cnt_none (hs : List Nat) (n : Nat) : cnt hs (Array.replicate n false) = 0 := by
  unfold cnt
  rw [List.countP_eq_zero]
  intro j _
  rw [Array.getD_eq_getD_getElem?]
  by_cases hj : j < n
  · simp [hj]
  · simp [hj]
theorem cnt_all {hs : List Nat} {L : Array Bool} (h : ∀ j ∈ hs, L.getD j false = true) : cnt hs L = hs.length := by
  unfold cnt
  rw [List.countP_eq_length]
  exact h
theorem getD_true {L : Array Bool} {i : Nat} (h : L.getD i true = false) : L.getD i false = false := by
  rw [Array.getD_eq_getD_getElem?] at h ⊢
  cases hx : L[i]? with
  | none => rw [hx] at h; cases h
  | some b => rw [hx] at h; simpa using h
theorem cnt_heavy {hs : List Nat} {L : Array Bool} {i : Nat} (hn : hs.Nodup) (hi : i ∈ hs) (h0 : L.getD i true = false) : cnt hs (L.setIfInBounds i true) = cnt hs L + 1 := by
  have hlt : i < L.size := by
    rcases Nat.lt_or_ge i L.size with h' | h'
    · exact h'
    · rw [Array.getD_eq_getD_getElem?, Array.getElem?_eq_none h'] at h0; cases h0
  have h1 : (L.setIfInBounds i true).getD i false = true := by simp [hlt]
  have h2 := getD_true h0
  unfold cnt
  induction hs with
  | nil => cases hi
  | cons a l ih =>
    rw [List.nodup_cons] at hn
    rw [List.countP_cons, List.countP_cons]
    by_cases e : a = i
    · subst e
      rw [if_pos h1, if_neg (by rw [h2]; decide)]
      have : l.countP (fun j => (L.setIfInBounds a true).getD j false) = l.countP (fun j => L.getD j false) := by
        refine List.countP_congr (fun j hj => ?_)
        have hne : a ≠ j := fun e => by subst e; exact hn.1 hj
        rw [getD_set_ne false hne]
      rw [this]
    · have hi' : i ∈ l := by
        rcases List.mem_cons.1 hi with h | h
        · exact absurd h.symm e
        · exact h
      rw [ih hn.2 hi', getD_set_ne false (Ne.symm e)]
      omega
theorem cnt_zero {hs : List Nat} {L : Array Bool} (h : ∀ j ∈ hs, L.getD j false = false) : cnt hs L = 0 := by
  unfold cnt
  rw [List.countP_eq_zero]
  intro j hj
  rw [h j hj]; decide

theorem cnt_zero1 {a : Nat} {L : Array Bool} (h : L.getD a false = false) : cnt [a] L = 0 := by simp only [cnt, List.countP_cons, List.countP_nil, h]; decide
theorem cnt_zero2 {a b : Nat} {L : Array Bool} (h : L.getD a false = false) (h2 : L.getD b false = false) : cnt [a, b] L = 0 := by simp only [cnt, List.countP_cons, List.countP_nil, h, h2]; decide
theorem cnt_one2 {a b : Nat} {L : Array Bool} (h : L.getD a false = true) (h2 : L.getD b false = false) : cnt [a, b] L = 1 := by simp only [cnt, List.countP_cons, List.countP_nil, h, h2]; decide
/-- What each step leaves. -/
def PPres (S : Nat → Prop) (x : Nat) (w : World) (x' : Nat) (w' : World) : Prop := x ≤ x' ∧ (x' = x → Below w.heap.size w w') ∧ But S w w'
theorem PPres.light {S : Nat → Prop} {x : Nat} {w w' : World} (h : Below w.heap.size w w') : PPres S x w x w' := ⟨Nat.le_refl _, fun _ => h, But.of_below h⟩
theorem PPres.refl (S : Nat → Prop) (x : Nat) (w : World) : PPres S x w x w := PPres.light (Below.refl _ _)
theorem PPres.heavy {S : Nat → Prop} {x : Nat} {w w' : World} (h : But S w w') : PPres S x w (x + 1) w' := ⟨Nat.le_succ _, fun e => by omega, h⟩
/-- A property that only what is turned next may break. -/
def At1 (p : Nat) (F : World → Prop) (x : Nat) (w : World) : Prop := p ≤ x ∧ (x = p → F w)
theorem At1.kept {S : Nat → Prop} {p : Nat} {F : World → Prop} (hF : ∀ w w', Below w.heap.size w w' → F w → F w') {x x' : Nat} {w w' : World} (hp : PPres S x w x' w') (h : At1 p F x w) : At1 p F x' w' :=
  ⟨Nat.le_trans h.1 hp.1, fun e => by
    have hx : x' = x := by have := h.1; have := hp.1; omega
    exact hF _ _ (hp.2.1 hx) (h.2 (by omega))⟩
/-- What holds from step to step. -/
def PInv (hs : List Nat) (S : Nat → Prop) (W0 : World) (F : Nat → World → Prop) (x : Nat) (L : Array Bool) (w : World) : Prop :=
  x = cnt hs L ∧ But S W0 w ∧ F x w
theorem PInv.light {hs : List Nat} {S : Nat → Prop} {W0 : World} {F : Nat → World → Prop} (hF : ∀ x w w', Below w.heap.size w w' → F x w → F x w') {x : Nat} {L : Array Bool} {w w' : World} (h : PInv hs S W0 F x L w) (i : Nat) (hi : hs.contains i = false) (hb : Below w.heap.size w w') :
    PInv hs S W0 F x (L.setIfInBounds i true) w' := ⟨by rw [cnt_light L i hi]; exact h.1, h.2.1.trans (But.of_below hb), hF _ _ _ hb h.2.2⟩
theorem PInv.heavy {hs : List Nat} {S : Nat → Prop} {W0 : World} {F : Nat → World → Prop} {x : Nat} {L : Array Bool} {w w' : World} (h : PInv hs S W0 F x L w) (i : Nat) (hn : hs.Nodup) (hi : i ∈ hs) (h0 : L.getD i true = false) (hb : But S w w') (hf : F (x + 1) w') :
    PInv hs S W0 F (x + 1) (L.setIfInBounds i true) w' := ⟨by rw [cnt_heavy hn hi h0, h.1], h.2.1.trans hb, hf⟩
theorem PInv.start {hs : List Nat} {S : Nat → Prop} {w : World} {F : Nat → World → Prop} (n : Nat) (hf : F 0 w.drew) : PInv hs S w F 0 (Array.replicate n false) w.drew :=
  ⟨(cnt_none hs n).symm, (But.refl S w).drew, hf⟩
theorem PInv.done {hs : List Nat} {S : Nat → Prop} {W0 : World} {F : Nat → World → Prop} {x : Nat} {L : Array Bool} {w : World} (h : PInv hs S W0 F x L w) (hl : ∀ j ∈ hs, L.getD j false = true) : x = hs.length ∧ But S W0 w ∧ F hs.length w := by
  have := cnt_all hl
  refine ⟨h.1.trans this, h.2.1, ?_⟩
  have h2 := h.2.2
  rw [h.1, this] at h2
  exact h2
theorem out_skipP {P : Program} {K : Value → World → Prop} {ev : Operand → Value} {o : Oper} {w w' : World} (hrun : (execOp ev o).run P w = .ok .skip w') (hk : K undef w') : Outcome P K ((execOp ev o).run P w) := by
  rw [hrun]; exact hk
/-- What is not listed keeps what waits for it from being listed. -/
theorem not_listed {ops : Array Oper} {a0 : Act} {R : Nat → Value → World → Prop} {L : Array Bool} {ev : Operand → Value} {w : World} (h : At ops a0 R L ev w) (i j : Nat) (oj : Oper) (hj : ops[j]? = some oj) (e : Edge) (he : e ∈ oj.after) (hb : Region.binds .any e = true) (hi : L.getD i true = false) (hei : e.on = i := by rfl) : L.getD j false = false := by
  cases hL : L.getD j false with
  | false => rfl
  | true =>
    have := h.closed j oj hj hL e he hb
    rw [hei, getD_true hi] at this
    cases this
/-- A guarded operation, whichever way its guard is. -/
theorem GStepAt.either {γ : Type} {P : Program} {ops : Array Oper} {a0 : Act} {R : Nat → Value → γ → World → Prop} {Pres : γ → World → γ → World → Prop} {Inv : γ → Array Bool → World → Prop} {i g : Nat} {want : Bool} {o : Oper} (hg : o.guard = some (g, want))
    (h : ∀ (x : γ) (L : Array Bool) (ev : Operand → Value) (w : World), Inv x L w → L.getD i true = false → (∀ e ∈ o.after, Region.binds .any e = true → L.getD e.on false = true) → At ops a0 (fun j v w => R j v x w) L ev w →
      ∃ og t b, ops[g]? = some og ∧ og.dst = some t ∧ ev (.tmp t) = .bool b ∧
        if b = want then Outcome P (fun v w' => ∃ x', R i v x' w' ∧ Pres x w x' w' ∧ Inv x' (L.setIfInBounds i true) w') ((execOp ev o).run P w)
        else R i undef x w ∧ Inv x (L.setIfInBounds i true) w) : GStepAt P ops a0 R Pres Inv i o := by
  intro x L ev w hI hk hp hA
  rw [hg]; exact h x L ev w hI hk hp hA
theorem getD_setb {L : Array Bool} {i c0 : Nat} (hi : i ≠ c0) : (L.setIfInBounds i true).getD c0 false = L.getD c0 false := by
  rw [Array.getD_eq_getD_getElem?, Array.getD_eq_getD_getElem?, Array.getElem?_setIfInBounds_ne hi]
theorem getD_sets {L : Array Bool} {i : Nat} (h : L.getD i true = false) : (L.setIfInBounds i true).getD i false = true := by
  have hi : i < L.size := by
    rcases Nat.lt_or_ge i L.size with h' | h'
    · exact h'
    · rw [Array.getD_eq_getD_getElem?, Array.getElem?_eq_none h'] at h; cases h
  rw [Array.getD_eq_getD_getElem?, Array.getElem?_setIfInBounds_self_of_lt hi]; rfl
end Go.Proofs.YtbcmilfajeanbaaGreat.Reg

namespace Go.Proofs.YtbcmilfajeanbaaGreat
open Go.RowKit Go.Sort

def flatG (G : List (Nat × Nat)) : List Value := G.flatMap (fun g => [.int .i64 (g.1 : Int), .int .i64 (g.2 : Int)])
theorem flatG_snoc (G : List (Nat × Nat)) (a b : Nat) : flatG (G ++ [(a, b)]) = flatG G ++ [.int .i64 (a : Int), .int .i64 (b : Int)] := by simp [flatG]
theorem plainG : PlainK Tryz.prog 2 137 213 := by
  have h : (Tryz.prog.info? 213).map (fun i => (i.zero, i.size, i.bytes)) = some (some (.agg #[.int .i64 0, .int .i64 0]), 2, 16) := by kernel_rfl
  obtain ⟨i, hi, he⟩ := Option.map_eq_some_iff.1 h
  simp only [Prod.mk.injEq] at he
  exact ⟨i, _, Tryz.underlying137, hi, he.1, he.2.1, rfl, by rw [he.2.2]; decide⟩
/-- The blocks of a plan. -/
def pset (pb : Nat) (ga : Option Addr) (j : Nat) : Prop := j = pb ∨ inB ga j
/-- A plan at a block: its gates. -/
structure PlanAt (w : World) (pb : Nat) (ga : Option Addr) (gc : Nat) (wd : Int) (m : Nat) (oa : Option Addr) (on oc : Nat) (G : List (Nat × Nat)) : Prop where
  box : BoxAt w pb [.int .i64 wd, .slice ga m gc, .slice oa on oc]
  sl : SlAt 2 w ga gc m (flatG G)
  len : G.length = m
  ne : ¬ inB ga pb
theorem PlanAt.below {w w' : World} {pb : Nat} {ga : Option Addr} {gc : Nat} {wd : Int} {m : Nat} {oa : Option Addr} {on oc : Nat} {G : List (Nat × Nat)} (h : PlanAt w pb ga gc wd m oa on oc G) (hb : Below w.heap.size w w') : PlanAt w' pb ga gc wd m oa on oc G :=
  ⟨h.box.below hb, h.sl.below hb, h.len, h.ne⟩
theorem PlanAt.but {S : Nat → Prop} {w w' : World} {pb : Nat} {ga : Option Addr} {gc : Nat} {wd : Int} {m : Nat} {oa : Option Addr} {on oc : Nat} {G : List (Nat × Nat)} (h : PlanAt w pb ga gc wd m oa on oc G) (hb : But S w w') (hS : ∀ j, pset pb ga j → ¬ S j) : PlanAt w' pb ga gc wd m oa on oc G :=
  ⟨h.box.but hb (hS pb (.inl rfl)), h.sl.but hb (fun j hj => hS j (.inr hj)), h.len, h.ne⟩
theorem PlanAt.lt {w : World} {pb : Nat} {ga : Option Addr} {gc : Nat} {wd : Int} {m : Nat} {oa : Option Addr} {on oc : Nat} {G : List (Nat × Nat)} (h : PlanAt w pb ga gc wd m oa on oc G) : ∀ j, pset pb ga j → j < w.heap.size := by
  rintro j (rfl | hj)
  · exact h.box.lt
  · exact h.sl.lt j hj
/-- One gate more. -/
def JEnd (W0 : World) (pb : Nat) (ga : Option Addr) (wd : Int) (m : Nat) (oa : Option Addr) (on oc : Nat) (G : List (Nat × Nat)) (w : World) : Prop :=
  ∃ ga' gc', PlanAt w pb ga' gc' wd (m + 1) oa on oc G ∧ (∀ j, inB ga' j → inB ga j ∨ W0.heap.size ≤ j)
/-- What a call leaves. -/
def PEnd (pb : Nat) (ga : Option Addr) (w : World) (ga' : Option Addr) (w' : World) : Prop :=
  But (pset pb ga) w w' ∧ ∀ j, pset pb ga' j → pset pb ga j ∨ w.heap.size ≤ j
theorem PEnd.refl (pb : Nat) (ga : Option Addr) (w : World) : PEnd pb ga w ga w := ⟨But.refl _ _, fun _ h => .inl h⟩
theorem PEnd.below {pb : Nat} {ga : Option Addr} {w w' : World} (h : Below w.heap.size w w') : PEnd pb ga w ga w' := ⟨But.of_below h, fun _ h => .inl h⟩
theorem PEnd.trans {pb : Nat} {ga ga1 ga2 : Option Addr} {w w1 w2 : World} (h : PEnd pb ga w ga1 w1) (k : PEnd pb ga1 w1 ga2 w2) : PEnd pb ga w ga2 w2 :=
  ⟨h.1.then k.1 (fun i hi hj => (h.2 i hj).elim id (fun e => by omega)), fun j hj => (k.2 j hj).elim (fun e => h.2 j e) (fun e => .inr (Nat.le_trans h.1.size e))⟩

def join5R (pb m gc on oc n xc yc xb xo yb yo k lo a b : Nat) (ga oa : Option Addr) (wd : Int) (G : List (Nat × Nat)) : List (Value → Nat → World → Prop) :=
  [fun v _ _ => v = .pointer (some ⟨pb, 0, none⟩),
   fun v _ _ => v = .pointer (some ⟨pb, 0, none⟩),
   fun v _ _ => v = .pointer (some ⟨pb, 0, none⟩),
   fun v _ _ => v = .pointer (some ⟨pb, 1, none⟩),
   fun v _ _ => v = .slice ga m gc,
   fun v _ _ => v = .slice (some ⟨xb, xo, none⟩) n xc,
   fun v _ _ => v = .int .i64 (k : Int),
   fun v _ _ => v = .pointer (some ⟨xb, xo + k, none⟩),
   fun v _ _ => v = .int .i64 (a : Int),
   fun v _ _ => v = .slice (some ⟨yb, yo, none⟩) n yc,
   fun v _ _ => v = .int .i64 (k : Int),
   fun v _ _ => v = .pointer (some ⟨yb, yo + k, none⟩),
   fun v _ _ => v = .int .i64 (b : Int),
   fun v _ _ => v = .agg #[.int .i64 (a : Int), .int .i64 (b : Int)],
   fun v _ w => ∃ g, v = .slice (some ⟨g, 0, none⟩) 1 1 ∧ BoxAt w g [.int .i64 (a : Int), .int .i64 (b : Int)] ∧ lo ≤ g ∧ ¬ pset pb ga g,
   fun v x w => 1 ≤ x ∧ ∃ g c, v = .slice (some ⟨g, 0, none⟩) (m + 1) c ∧ (x = 1 → Flat 2 w g c (m + 1) (flatG (G ++ [(a, b)])) ∧ BoxAt w pb [.int .i64 wd, .slice ga m gc, .slice oa on oc] ∧ g ≠ pb ∧ (inB ga g ∨ lo ≤ g)),
   fun v _ _ => v = .pointer (some ⟨pb, 0, none⟩),
   fun v _ _ => v = .pointer (some ⟨pb, 1, none⟩),
   fun _ _ _ => True]
theorem join5R_kept (pb m gc on oc n xc yc xb xo yb yo k lo a b : Nat) (ga oa : Option Addr) (wd : Int) (G : List (Nat × Nat)) : Reg.GAllKept (Reg.PPres (pset pb ga)) (join5R pb m gc on oc n xc yc xb xo yb yo k lo a b ga oa wd G) :=
  ⟨(fun _ _ _ _ _ _ h => h), (fun _ _ _ _ _ _ h => h), (fun _ _ _ _ _ _ h => h), (fun _ _ _ _ _ _ h => h), (fun _ _ _ _ _ _ h => h), (fun _ _ _ _ _ _ h => h), (fun _ _ _ _ _ _ h => h), (fun _ _ _ _ _ _ h => h), (fun _ _ _ _ _ _ h => h), (fun _ _ _ _ _ _ h => h), (fun _ _ _ _ _ _ h => h), (fun _ _ _ _ _ _ h => h), (fun _ _ _ _ _ _ h => h), (fun _ _ _ _ _ _ h => h), (fun v x w x' w' hp h => by obtain ⟨g, h1, h2, h3, h4⟩ := h; exact ⟨g, h1, h2.but hp.2.2 h4, h3, h4⟩), (fun v x w x' w' hp h => by obtain ⟨h0, g, c, h1, h2⟩ := h; refine ⟨Nat.le_trans h0 hp.1, g, c, h1, fun e => ?_⟩; have hx := hp.1; have hxe : x' = x := (by omega); have hB := hp.2.1 hxe; obtain ⟨q1, q2, q3, q4⟩ := h2 (by omega); exact ⟨q1.but (S := fun _ => False) (But.of_below hB) id, q2.below hB, q3, q4⟩), (fun _ _ _ _ _ _ h => h), (fun _ _ _ _ _ _ h => h), (fun _ _ _ _ _ _ _ => trivial), trivial⟩
def join6R (n xc yc xb xo yb yo k l2 a b rn rc : Nat) (ra : Option Addr) (RL : List Value) : List (Value → Nat → World → Prop) :=
  [fun v _ _ => v = .slice ra rn rc,
   fun v _ _ => v = .slice (some ⟨xb, xo, none⟩) n xc,
   fun v _ _ => v = .int .i64 (k : Int),
   fun v _ _ => v = .pointer (some ⟨xb, xo + k, none⟩),
   fun v _ _ => v = .int .i64 (a : Int),
   fun v _ _ => v = .slice (some ⟨yb, yo, none⟩) n yc,
   fun v _ _ => v = .int .i64 (k : Int),
   fun v _ _ => v = .pointer (some ⟨yb, yo + k, none⟩),
   fun v _ _ => v = .int .i64 (b : Int),
   fun v _ w => ∃ g, v = .slice (some ⟨g, 0, none⟩) 2 2 ∧ BoxAt w g [.int .i64 (a : Int), .int .i64 (b : Int)] ∧ l2 ≤ g ∧ ¬ inB ra g,
   fun v x w => 1 ≤ x ∧ ∃ g c, v = .slice (some ⟨g, 0, none⟩) (rn + 2) c ∧ (x = 1 → Flat 1 w g c (rn + 2) (RL ++ [.int .i64 (a : Int), .int .i64 (b : Int)]) ∧ (inB ra g ∨ l2 ≤ g)),
   fun v x w => 1 ≤ x ∧ ∃ g c, v = .slice (some ⟨g, 0, none⟩) (rn + 2) c ∧ (x = 1 → Flat 1 w g c (rn + 2) (RL ++ [.int .i64 (a : Int), .int .i64 (b : Int)]) ∧ (inB ra g ∨ l2 ≤ g))]
theorem join6R_kept (n xc yc xb xo yb yo k l2 a b rn rc : Nat) (ra : Option Addr) (RL : List Value) : Reg.GAllKept (Reg.PPres (inB ra)) (join6R n xc yc xb xo yb yo k l2 a b rn rc ra RL) :=
  ⟨(fun _ _ _ _ _ _ h => h), (fun _ _ _ _ _ _ h => h), (fun _ _ _ _ _ _ h => h), (fun _ _ _ _ _ _ h => h), (fun _ _ _ _ _ _ h => h), (fun _ _ _ _ _ _ h => h), (fun _ _ _ _ _ _ h => h), (fun _ _ _ _ _ _ h => h), (fun _ _ _ _ _ _ h => h), (fun v x w x' w' hp h => by obtain ⟨g, h1, h2, h3, h4⟩ := h; exact ⟨g, h1, h2.but hp.2.2 h4, h3, h4⟩), (fun v x w x' w' hp h => by obtain ⟨h0, g, c, h1, h2⟩ := h; refine ⟨Nat.le_trans h0 hp.1, g, c, h1, fun e => ?_⟩; have hx := hp.1; have hxe : x' = x := (by omega); have hB := hp.2.1 hxe; obtain ⟨q1, q2⟩ := h2 (by omega); exact ⟨q1.but (S := fun _ => False) (But.of_below hB) id, q2⟩), (fun v x w x' w' hp h => by obtain ⟨h0, g, c, h1, h2⟩ := h; refine ⟨Nat.le_trans h0 hp.1, g, c, h1, fun e => ?_⟩; have hx := hp.1; have hxe : x' = x := (by omega); have hB := hp.2.1 hxe; obtain ⟨q1, q2⟩ := h2 (by omega); exact ⟨q1.but (S := fun _ => False) (But.of_below hB) id, q2⟩), trivial⟩

/-- What holds between two rounds. -/
def JR (w : World) (pb : Nat) (ga : Option Addr) (wd : Int) (m : Nat) (oa : Option Addr) (on oc : Nat) (G : List (Nat × Nat)) (x y : List Nat) (k : Nat) (ra : Option Addr) (rc : Nat) (wr : World) : Prop :=
  ∃ ga' gc', PlanAt wr pb ga' gc' wd (m + k) oa on oc (G ++ (x.take k).zip (y.take k)) ∧ PEnd pb ga w ga' wr ∧ SlAt 1 wr ra rc (2 * k) (vals (Wr.inter (x.take k) (y.take k))) ∧ (∀ j, inB ra j → w.heap.size ≤ j ∧ ¬ pset pb ga' j)
theorem zip_snoc {x y : List Nat} {k a b : Nat} (hx : x[k]? = some a) (hy : y[k]? = some b) : (x.take (k + 1)).zip (y.take (k + 1)) = (x.take k).zip (y.take k) ++ [(a, b)] := by
  have h1 := (List.getElem?_eq_some_iff.1 hx).1
  have h2 := (List.getElem?_eq_some_iff.1 hy).1
  rw [List.take_add_one, List.take_add_one, hx, hy]
  exact List.zip_append (by rw [List.length_take, List.length_take]; omega)
theorem inter_snoc : ∀ (x y : List Nat) (a b : Nat), x.length = y.length → Wr.inter (x ++ [a]) (y ++ [b]) = Wr.inter x y ++ [a, b]
  | [], [], a, b, _ => rfl
  | [], _ :: _, a, b, h => by simp at h
  | _ :: _, [], a, b, h => by simp at h
  | p :: x, q :: y, a, b, h => by
    show p :: q :: Wr.inter (x ++ [a]) (y ++ [b]) = p :: q :: (Wr.inter x y ++ [a, b])
    rw [inter_snoc x y a b (by simpa using h)]
theorem inter_take {x y : List Nat} {k a b : Nat} (hx : x[k]? = some a) (hy : y[k]? = some b) : Wr.inter (x.take (k + 1)) (y.take (k + 1)) = Wr.inter (x.take k) (y.take k) ++ [a, b] := by
  have h1 := (List.getElem?_eq_some_iff.1 hx).1
  have h2 := (List.getElem?_eq_some_iff.1 hy).1
  rw [List.take_add_one, List.take_add_one, hx, hy]
  exact inter_snoc _ _ a b (by rw [List.length_take, List.length_take]; omega)
/-- How a row of gates, or more, ends. -/
def JoinEnd (qa : Option Addr) (w : World) (pb : Nat) (ga : Option Addr) (wd : Int) (m : Nat) (oa : Option Addr) (on oc : Nat) (G G2 : List (Nat × Nat)) (out : List Nat) (e : Ending) (w' : World) : Prop :=
  ∃ ga' gc' ra rc n', e = .returned (.slice ra n' rc) ∧ out.length = n' ∧ PlanAt w' pb ga' gc' wd (m + G2.length) oa on oc (G ++ G2) ∧ PEnd pb ga w ga' w' ∧ NsAt w' ra (pset pb ga') out ∧ (∀ j, inB ra j → inB qa j ∨ w.heap.size ≤ j)

theorem JR.next {w W0 wz wz2 : World} {pb : Nat} {ga0 ga : Option Addr} {wd : Int} {m0 m : Nat} {oa : Option Addr} {on oc : Nat} {G0 G : List (Nat × Nat)} {x y : List Nat} {k a b : Nat} {ra : Option Addr} {rc g c : Nat}
    (hE1 : PEnd pb ga0 w ga W0) (hJ : JEnd W0 pb ga wd m oa on oc (G ++ [(a, b)]) wz) (hBz : But (pset pb ga) W0 wz) (hS1 : SlAt 1 W0 ra rc (2 * k) (vals (Wr.inter (x.take k) (y.take k)))) (hN1 : ∀ j, inB ra j → w.heap.size ≤ j ∧ ¬ pset pb ga j)
    (hxa : x[k]? = some a) (hyb : y[k]? = some b) (hm : m0 + k = m) (hG : G0 ++ (x.take k).zip (y.take k) = G)
    (hF : Flat 1 wz2 g c (2 * k + 2) (vals (Wr.inter (x.take k) (y.take k)) ++ [.int .i64 (a : Int), .int .i64 (b : Int)])) (hB2 : But (inB ra) wz wz2) (hg : inB ra g ∨ wz.heap.size ≤ g) :
    JR w pb ga0 wd m0 oa on oc G0 x y (k + 1) (some ⟨g, 0, none⟩) c wz2 := by
  obtain ⟨ga', gc', hP, hga⟩ := hJ
  have s1 := hE1.1.size
  have s2 := hBz.size
  have hps : ∀ j, pset pb ga' j → ¬ inB ra j := by
    rintro j (rfl | hj) hr
    · exact (hN1 _ hr).2 (.inl rfl)
    · rcases hga j hj with h | h
      · exact (hN1 _ hr).2 (.inr h)
      · have := hS1.lt j hr; omega
  refine ⟨ga', gc', ?_, ?_, .inr ⟨g, rfl, ?_⟩, ?_⟩
  · have e : G0 ++ (x.take (k + 1)).zip (y.take (k + 1)) = G ++ [(a, b)] := by rw [zip_snoc hxa hyb, ← List.append_assoc, hG]
    rw [e, ← Nat.add_assoc, hm]
    exact hP.but hB2 hps
  · have h1 : PEnd pb ga0 w ga' wz := hE1.trans ⟨hBz, fun j hj => by
      rcases hj with rfl | hj
      · exact .inl (.inl rfl)
      · exact (hga j hj).imp .inr id⟩
    exact ⟨h1.1.then hB2 (fun i hi hj => by have := (hN1 i hj).1; omega), h1.2⟩
  · rw [inter_take hxa hyb]
    have e : vals (Wr.inter (x.take k) (y.take k) ++ [a, b]) = vals (Wr.inter (x.take k) (y.take k)) ++ [.int .i64 (a : Int), .int .i64 (b : Int)] := by simp [vals]
    rw [e]; exact hF
  · rintro j ⟨z, hz, rfl⟩
    cases hz
    rcases hg with h | h
    · exact ⟨(hN1 _ h).1, fun e => hps _ e h⟩
    · exact ⟨by show w.heap.size ≤ g; omega, fun e => by have h1 : g < wz.heap.size := hP.lt _ e; omega⟩

set_option maxRecDepth 20000 in
set_option maxHeartbeats 8000000 in
theorem join_any (w : World) (pb : Nat) (ga0 : Option Addr) (gc0 : Nat) (wd : Int) (m0 : Nat) (oa : Option Addr) (on oc : Nat) (G0 : List (Nat × Nat)) (xa ya : Option Addr) (xc yc n : Nat) (x y : List Nat)
    (hP : PlanAt w pb ga0 gc0 wd m0 oa on oc G0) (hx : NsAt w xa (pset pb ga0) x) (hy : NsAt w ya (pset pb ga0) y) (hlx : x.length = n) (hly : y.length = n) (hn : n ≤ 64) (hm : m0 ≤ 1000) :
    Calls Tryz.prog 129 #[.pointer (some ⟨pb, 0, none⟩), .slice xa n xc, .slice ya n yc] w (JoinEnd none w pb ga0 wd m0 oa on oc G0 (x.zip y) (Wr.inter x y)) := by
  have HX := hidq hx
  have HY := hidq hy
  have HLX := hidq hlx
  have HLY := hidq hly
  have H0 := hidq (show JR w pb ga0 wd m0 oa on oc G0 x y 0 none 0 w from ⟨ga0, gc0, by simpa using hP, PEnd.refl _ _ _, by simpa [vals, Wr.inter] using SlAt.nil 1 w, fun j e => by obtain ⟨z, hz, _⟩ := e; cases hz⟩)
  clear hP hx hy hlx hly
  go_enter Tryz.func129, Tryz.ntmps129
  go_wp2_with fail
  go_loopw [7, 11] (fun s7 s11 wr => ∃ (k : Nat) (ra : Option Addr) (rc : Nat), s11 = .int .i64 (k : Int) ∧ k ≤ n ∧ s7 = .slice ra (2 * k) rc ∧ Hid (JR w pb ga0 wd m0 oa on oc G0 x y k ra rc wr)) (fun _ s11 _ => n - (intOf s11).toNat)
  case atStart => exact ⟨0, none, 0, rfl, Nat.zero_le _, rfl, H0⟩
  case round =>
    obtain ⟨k, ra, rc, rfl, hk, rfl, hR⟩ := hrel
    clear H0
    obtain ⟨W0, hW0⟩ : ∃ W0, W0 = wr := ⟨_, rfl⟩
    subst hW0
    by_cases hlt : k < n
    · have hltI : (k : Int) < (n : Int) := by omega
      go_wp2_with fail
      obtain ⟨a, hxa⟩ : ∃ a, x[k]? = some a := ⟨_, List.getElem?_eq_getElem (by rw [HLX.out]; exact hlt)⟩
      obtain ⟨b, hyb⟩ : ∃ b, y[k]? = some b := ⟨_, List.getElem?_eq_getElem (by rw [HLY.out]; exact hlt)⟩
      obtain ⟨ga, gc, hP1, hE1, hS1, hN1⟩ := hR.out
      obtain ⟨xb, xo, rfl, hxl, hxs, hxc⟩ := HX.out k a hxa
      obtain ⟨yb, yo, rfl, hyl, hys, hyc⟩ := HY.out k b hyb
      obtain ⟨lo, hlo⟩ : ∃ lo, W0.heap.size = lo := ⟨_, rfl⟩
      obtain ⟨m, hmk⟩ : ∃ m, m0 + k = m := ⟨_, rfl⟩
      rw [hmk] at hP1
      obtain ⟨G, hGk⟩ : ∃ G, G0 ++ (x.take k).zip (y.take k) = G := ⟨_, rfl⟩
      rw [hGk] at hP1
      have hs01 := hE1.1.size
      have HP := hidq (fun W (hW : Below W0.heap.size W0 W) => (show BoxAt W pb [.int .i64 wd, .slice ga m gc, .slice oa on oc] ∧ SlAt 2 W ga gc m (flatG G) ∧ G.length = m ∧ ¬ inB ga pb from ⟨(hP1.below hW).box, (hP1.below hW).sl, hP1.len, hP1.ne⟩))
      have HLT := hidq (fun j (h : pset pb ga j) => (show j < lo from by have := hP1.lt j h; omega))
      have HGL := hidq hP1.len
      have FC := hidq (fun W (hW : Below W0.heap.size W0 W) => (show True ∧ W.cell? ⟨pb, 1, none⟩ = some (.slice ga m gc) ∧ True from ⟨trivial, ((hP1.below hW).box.get 1 _ rfl).1, trivial⟩))
      have hxp : ¬ pset pb ga xb := fun e => (hE1.2 _ e).elim hxs (fun h => by omega)
      have hyp : ¬ pset pb ga yb := fun e => (hE1.2 _ e).elim hys (fun h => by omega)
      have FX := hidq (fun W (hW : But (pset pb ga) W0 W) => (show W.cell? ⟨xb, xo + k, none⟩ = some (.int .i64 (a : Int)) ∧ W.cell? ⟨yb, yo + k, none⟩ = some (.int .i64 (b : Int)) from
        ⟨by rw [hW.cell (p := ⟨xb, xo + k, none⟩) (Nat.lt_of_lt_of_le hxl hs01) hxp, hE1.1.cell (p := ⟨xb, xo + k, none⟩) hxl hxs]; exact hxc, by rw [hW.cell (p := ⟨yb, yo + k, none⟩) (Nat.lt_of_lt_of_le hyl hs01) hyp, hE1.1.cell (p := ⟨yb, yo + k, none⟩) hyl hys]; exact hyc⟩))
      have HF : ∀ (x : Nat) (w w' : World), Below w.heap.size w w' → ((x = 0 → Below W0.heap.size W0 w) ∧ (x = 2 → JEnd W0 pb ga wd m oa on oc (G ++ [(a, b)]) w)) → ((x = 0 → Below W0.heap.size W0 w') ∧ (x = 2 → JEnd W0 pb ga wd m oa on oc (G ++ [(a, b)]) w')) :=
        fun _ _ _ hB h => ⟨fun e => (h.1 e).trans (hB.mono (h.1 e).size), fun e => by obtain ⟨g1, c1, h1, h2⟩ := h.2 e; exact ⟨g1, c1, h1.below hB, h2⟩⟩
      have HR1 := hidq (And.intro hE1 (And.intro hS1 (And.intro hN1 (And.intro hxa (And.intro hyb (And.intro hmk hGk))))))
      have HC := hidq (And.intro hxl (And.intro hyl hs01))
      have hmb : m ≤ 1064 := by omega
      clear hP1 hE1 hS1 hN1 hxa hyb hmk hGk hxl hxs hxc hyl hys hyc hR HX HY hxp hyp hs01
      refine Reg.wp_region_ghost (Reg.gofList (join5R pb m gc on oc n xc yc xb xo yb yo k lo a b ga oa wd G)) (Reg.PPres (pset pb ga)) (Reg.PInv [15, 18] (pset pb ga) W0 (fun x w => (x = 0 → Below W0.heap.size W0 w) ∧ (x = 2 → JEnd W0 pb ga wd m oa on oc (G ++ [(a, b)]) w))) 0 (by kernel_rfl) (by kernel_rfl) (Reg.GAllKept.at _ (join5R_kept pb m gc on oc n xc yc xb xo yb yo k lo a b ga oa wd G)) (Reg.PInv.start 19 ⟨fun _ => below_drewN (Below.refl _ _) 1, fun e => by cases e⟩) ⟨?_, ?_, ?_, ?_, ?_, ?_, ?_, ?_, ?_, ?_, ?_, ?_, ?_, ?_, ?_, ?_, ?_, ?_, ?_, trivial⟩ ?_
      · refine Reg.GStepAt.plain (i := 0) rfl ?_
        intro x L ev w hI hk hp hA
        have e0 : ev (.tmp 0) = .pointer (some ⟨pb, 0, none⟩) := hA.oldNone 0 (by kernel_rfl)
        have hcc := hA.const
        clear hA hp
        refine Reg.out_value (v := .pointer (some ⟨pb, 0, none⟩)) ?_ ⟨x, rfl, Reg.PPres.refl _ _ _, Reg.PInv.light HF hI 0 (by decide) (Below.refl _ _)⟩
        go_simp
      · refine Reg.GStepAt.plain (i := 1) rfl ?_
        intro x L ev w hI hk hp hA
        have e0 : ev (.tmp 0) = .pointer (some ⟨pb, 0, none⟩) := hA.oldNone 0 (by kernel_rfl)
        have hcc := hA.const
        clear hA hp
        refine Reg.out_value (v := .pointer (some ⟨pb, 0, none⟩)) ?_ ⟨x, rfl, Reg.PPres.refl _ _ _, Reg.PInv.light HF hI 1 (by decide) (Below.refl _ _)⟩
        go_simp
      · refine Reg.GStepAt.plain (i := 2) rfl ?_
        intro x L ev w hI hk hp hA
        have e15 : ev (.tmp 15) = .pointer (some ⟨pb, 0, none⟩) := hA.val 1 _ 15 rfl (hp ⟨1, .data⟩ (by simp) rfl) rfl
        have hcc := hA.const
        clear hA hp
        refine Reg.out_value (v := .pointer (some ⟨pb, 0, none⟩)) ?_ ⟨x, rfl, Reg.PPres.refl _ _ _, Reg.PInv.light HF hI 2 (by decide) (Below.refl _ _)⟩
        go_simp
      · refine Reg.GStepAt.plain (i := 3) rfl ?_
        intro x L ev w hI hk hp hA
        have e16 : ev (.tmp 16) = .pointer (some ⟨pb, 0, none⟩) := hA.val 2 _ 16 rfl (hp ⟨2, .data⟩ (by simp) rfl) rfl
        have hcc := hA.const
        clear hA hp
        refine Reg.out_value (v := .pointer (some ⟨pb, 1, none⟩)) ?_ ⟨x, rfl, Reg.PPres.refl _ _ _, Reg.PInv.light HF hI 3 (by decide) (Below.refl _ _)⟩
        go_simp
      · refine Reg.GStepAt.plain (i := 4) rfl ?_
        intro x L ev w hI hk hp hA
        have e17 : ev (.tmp 17) = .pointer (some ⟨pb, 1, none⟩) := hA.val 3 _ 17 rfl (hp ⟨3, .data⟩ (by simp) rfl) rfl
        have hcc := hA.const
        have NL := Reg.not_listed hA 4 18 _ rfl ⟨4, .phase⟩ (by simp) rfl hk
        have NL2 := Reg.not_listed hA 4 15 _ rfl ⟨4, .data⟩ (by simp) rfl hk
        clear hA hp
        have n18 : L.getD 18 false = false := NL
        have n15 : L.getD 15 false = false := NL2
        have hx0 : x = 0 := hI.1.trans (Reg.cnt_zero2 n15 n18)
        have hBw := hI.2.2.1 hx0
        obtain ⟨f0, f1, f2⟩ := FC.out w hBw
        refine Reg.out_value (v := .slice ga m gc) ?_ ⟨x, rfl, Reg.PPres.refl _ _ _, Reg.PInv.light HF hI 4 (by decide) (Below.refl _ _)⟩
        clear hI hBw n18 n15 hx0
        go_simp
      · refine Reg.GStepAt.plain (i := 5) rfl ?_
        intro x L ev w hI hk hp hA
        have e1 : ev (.tmp 1) = .slice (some ⟨xb, xo, none⟩) n xc := hA.oldNone 1 (by kernel_rfl)
        have hcc := hA.const
        clear hA hp
        refine Reg.out_value (v := .slice (some ⟨xb, xo, none⟩) n xc) ?_ ⟨x, rfl, Reg.PPres.refl _ _ _, Reg.PInv.light HF hI 5 (by decide) (Below.refl _ _)⟩
        go_simp
      · refine Reg.GStepAt.plain (i := 6) rfl ?_
        intro x L ev w hI hk hp hA
        have e8 : ev (.tmp 8) = .int .i64 (k : Int) := hA.oldNone 8 (by kernel_rfl)
        have hcc := hA.const
        clear hA hp
        refine Reg.out_value (v := .int .i64 (k : Int)) ?_ ⟨x, rfl, Reg.PPres.refl _ _ _, Reg.PInv.light HF hI 6 (by decide) (Below.refl _ _)⟩
        go_simp
      · refine Reg.GStepAt.plain (i := 7) rfl ?_
        intro x L ev w hI hk hp hA
        have e19 : ev (.tmp 19) = .slice (some ⟨xb, xo, none⟩) n xc := hA.val 5 _ 19 rfl (hp ⟨5, .data⟩ (by simp) rfl) rfl
        have e20 : ev (.tmp 20) = .int .i64 (k : Int) := hA.val 6 _ 20 rfl (hp ⟨6, .data⟩ (by simp) rfl) rfl
        have hcc := hA.const
        clear hA hp
        refine Reg.out_value (v := .pointer (some ⟨xb, xo + k, none⟩)) ?_ ⟨x, rfl, Reg.PPres.refl _ _ _, Reg.PInv.light HF hI 7 (by decide) (Below.refl _ _)⟩
        go_simp
      · refine Reg.GStepAt.plain (i := 8) rfl ?_
        intro x L ev w hI hk hp hA
        have e21 : ev (.tmp 21) = .pointer (some ⟨xb, xo + k, none⟩) := hA.val 7 _ 21 rfl (hp ⟨7, .data⟩ (by simp) rfl) rfl
        have hcc := hA.const
        clear hA hp
        obtain ⟨f1, f2⟩ := FX.out w hI.2.1
        refine Reg.out_value (v := .int .i64 (a : Int)) ?_ ⟨x, rfl, Reg.PPres.refl _ _ _, Reg.PInv.light HF hI 8 (by decide) (Below.refl _ _)⟩
        go_simp
      · refine Reg.GStepAt.plain (i := 9) rfl ?_
        intro x L ev w hI hk hp hA
        have e2 : ev (.tmp 2) = .slice (some ⟨yb, yo, none⟩) n yc := hA.oldNone 2 (by kernel_rfl)
        have hcc := hA.const
        clear hA hp
        refine Reg.out_value (v := .slice (some ⟨yb, yo, none⟩) n yc) ?_ ⟨x, rfl, Reg.PPres.refl _ _ _, Reg.PInv.light HF hI 9 (by decide) (Below.refl _ _)⟩
        go_simp
      · refine Reg.GStepAt.plain (i := 10) rfl ?_
        intro x L ev w hI hk hp hA
        have e8 : ev (.tmp 8) = .int .i64 (k : Int) := hA.oldNone 8 (by kernel_rfl)
        have hcc := hA.const
        clear hA hp
        refine Reg.out_value (v := .int .i64 (k : Int)) ?_ ⟨x, rfl, Reg.PPres.refl _ _ _, Reg.PInv.light HF hI 10 (by decide) (Below.refl _ _)⟩
        go_simp
      · refine Reg.GStepAt.plain (i := 11) rfl ?_
        intro x L ev w hI hk hp hA
        have e23 : ev (.tmp 23) = .slice (some ⟨yb, yo, none⟩) n yc := hA.val 9 _ 23 rfl (hp ⟨9, .data⟩ (by simp) rfl) rfl
        have e24 : ev (.tmp 24) = .int .i64 (k : Int) := hA.val 10 _ 24 rfl (hp ⟨10, .data⟩ (by simp) rfl) rfl
        have hcc := hA.const
        clear hA hp
        refine Reg.out_value (v := .pointer (some ⟨yb, yo + k, none⟩)) ?_ ⟨x, rfl, Reg.PPres.refl _ _ _, Reg.PInv.light HF hI 11 (by decide) (Below.refl _ _)⟩
        go_simp
      · refine Reg.GStepAt.plain (i := 12) rfl ?_
        intro x L ev w hI hk hp hA
        have e25 : ev (.tmp 25) = .pointer (some ⟨yb, yo + k, none⟩) := hA.val 11 _ 25 rfl (hp ⟨11, .data⟩ (by simp) rfl) rfl
        have hcc := hA.const
        clear hA hp
        obtain ⟨f1, f2⟩ := FX.out w hI.2.1
        refine Reg.out_value (v := .int .i64 (b : Int)) ?_ ⟨x, rfl, Reg.PPres.refl _ _ _, Reg.PInv.light HF hI 12 (by decide) (Below.refl _ _)⟩
        go_simp
      · refine Reg.GStepAt.plain (i := 13) rfl ?_
        intro x L ev w hI hk hp hA
        have e22 : ev (.tmp 22) = .int .i64 (a : Int) := hA.val 8 _ 22 rfl (hp ⟨8, .data⟩ (by simp) rfl) rfl
        have e26 : ev (.tmp 26) = .int .i64 (b : Int) := hA.val 12 _ 26 rfl (hp ⟨12, .data⟩ (by simp) rfl) rfl
        have hcc := hA.const
        clear hA hp
        refine Reg.out_value (v := .agg #[.int .i64 (a : Int), .int .i64 (b : Int)]) ?_ ⟨x, rfl, Reg.PPres.refl _ _ _, Reg.PInv.light HF hI 13 (by decide) (Below.refl _ _)⟩
        go_simp
      · refine Reg.GStepAt.plain (i := 14) rfl ?_
        intro x L ev w hI hk hp hA
        have e27 : ev (.tmp 27) = .agg #[.int .i64 (a : Int), .int .i64 (b : Int)] := hA.val 13 _ 27 rfl (hp ⟨13, .data⟩ (by simp) rfl) rfl
        have hcc := hA.const
        clear hA hp
        refine Reg.out_new (v := .slice (some ⟨w.heap.size, 0, none⟩) 1 1) (w' := w.alloc (.cells #[.int .i64 (a : Int), .int .i64 (b : Int)] 213)) ?_ ⟨x, ⟨w.heap.size, rfl, BoxAt.new w [.int .i64 (a : Int), .int .i64 (b : Int)] 213, by have h1 := hI.2.1.size; omega, fun e => by have h1 := hI.2.1.size; have h2 := HLT.out _ e; omega⟩, Reg.PPres.light ((Below.refl _ _).alloc (Nat.le_refl _) _), Reg.PInv.light HF hI 14 (by decide) ((Below.refl _ _).alloc (Nat.le_refl _) _)⟩
        clear hI hk
        go_simp
      · refine Reg.GStepAt.plain (i := 15) rfl ?_
        intro x L ev w hI hk hp hA
        have e18 : ev (.tmp 18) = .slice ga m gc := hA.val 4 _ 18 rfl (hp ⟨4, .data⟩ (by simp) rfl) rfl
        have e28 : (fun v _ w => ∃ g, v = .slice (some ⟨g, 0, none⟩) 1 1 ∧ BoxAt w g [.int .i64 (a : Int), .int .i64 (b : Int)] ∧ lo ≤ g ∧ ¬ pset pb ga g) (ev (.tmp 28)) x w := hA.val 14 _ 28 rfl (hp ⟨14, .data⟩ (by simp) rfl) rfl
        have hcc := hA.const
        have NL := Reg.not_listed hA 15 18 _ rfl ⟨15, .data⟩ (by simp) rfl hk
        clear hA hp
        have n18 : L.getD 18 false = false := NL
        have hx0 : x = 0 := hI.1.trans (Reg.cnt_zero2 (Reg.getD_true hk) n18)
        have hBw := hI.2.2.1 hx0
        obtain ⟨g, e28, hG, hlg, hSg⟩ := e28
        obtain ⟨pB, pS, pL, pN⟩ := HP.out w hBw
        obtain ⟨g', c', w', hrun, hF', hb', hg'⟩ := sl_append plainG 137 w ga gc m _ pS _ 1 [.int .i64 (a : Int), .int .i64 (b : Int)] (src_new 2 w Tryz.underlying137 g [.int .i64 (a : Int), .int .i64 (b : Int)] rfl (fun j u hu => hG.cell j u hu) (by intro u hu; simp at hu; rcases hu with rfl | rfl <;> rfl)) (by omega) (by omega)
        have hbS := hb'.mono (T := pset pb ga) (fun j _ e => .inr e)
        have hne : g' ≠ pb := hg'.elim (fun h e => pN (e ▸ h)) (fun h e => by have := pB.lt; omega)
        refine Reg.out_new (v := .slice (some ⟨g', 0, none⟩) (m + 1) c') (w' := w') ?_ ⟨x + 1, ⟨by omega, g', c', rfl, fun _ => ⟨by rw [flatG_snoc]; exact hF', pB.but hb' pN, hne, hg'.imp id (fun h => by have := hBw.size; omega)⟩⟩, Reg.PPres.heavy hbS, Reg.PInv.heavy hI 15 (by decide) (by simp) hk hbS ⟨fun e => by omega, fun e => by omega⟩⟩
        simp [execOp, resolve, invoke, builtin, e18, e28, hrun, Result.andThen]
      · refine Reg.GStepAt.plain (i := 16) rfl ?_
        intro x L ev w hI hk hp hA
        have e14 : ev (.tmp 14) = .pointer (some ⟨pb, 0, none⟩) := hA.val 0 _ 14 rfl (hp ⟨0, .data⟩ (by simp) rfl) rfl
        have hcc := hA.const
        clear hA hp
        refine Reg.out_value (v := .pointer (some ⟨pb, 0, none⟩)) ?_ ⟨x, rfl, Reg.PPres.refl _ _ _, Reg.PInv.light HF hI 16 (by decide) (Below.refl _ _)⟩
        go_simp
      · refine Reg.GStepAt.plain (i := 17) rfl ?_
        intro x L ev w hI hk hp hA
        have e30 : ev (.tmp 30) = .pointer (some ⟨pb, 0, none⟩) := hA.val 16 _ 30 rfl (hp ⟨16, .data⟩ (by simp) rfl) rfl
        have hcc := hA.const
        clear hA hp
        refine Reg.out_value (v := .pointer (some ⟨pb, 1, none⟩)) ?_ ⟨x, rfl, Reg.PPres.refl _ _ _, Reg.PInv.light HF hI 17 (by decide) (Below.refl _ _)⟩
        go_simp
      · refine Reg.GStepAt.plain (i := 18) rfl ?_
        intro x L ev w hI hk hp hA
        have e31 : ev (.tmp 31) = .pointer (some ⟨pb, 1, none⟩) := hA.val 17 _ 31 rfl (hp ⟨17, .data⟩ (by simp) rfl) rfl
        have e29 : (fun v x w => 1 ≤ x ∧ ∃ g c, v = .slice (some ⟨g, 0, none⟩) (m + 1) c ∧ (x = 1 → Flat 2 w g c (m + 1) (flatG (G ++ [(a, b)])) ∧ BoxAt w pb [.int .i64 wd, .slice ga m gc, .slice oa on oc] ∧ g ≠ pb ∧ (inB ga g ∨ lo ≤ g))) (ev (.tmp 29)) x w := hA.val 15 _ 29 rfl (hp ⟨15, .data⟩ (by simp) rfl) rfl
        have hcc := hA.const
        have L15 : L.getD 15 false = true := hp ⟨15, .data⟩ (by simp) rfl
        clear hA hp
        have hx1 : x = 1 := hI.1.trans (Reg.cnt_one2 L15 (Reg.getD_true hk))
        obtain ⟨_, g, c, e29, h29⟩ := e29
        obtain ⟨q1, q2, q3, q4⟩ := h29 hx1
        obtain ⟨c1, y1⟩ := q2.get 1 _ rfl
        have hbS : But (pset pb ga) w (w.setCell ⟨pb, 1, none⟩ (.slice (some ⟨g, 0, none⟩) (m + 1) c)) := (But.refl _ w).set1 pb 1 (.inl rfl) _
        have hb1 : But (fun j => j = pb) w (w.setCell ⟨pb, 1, none⟩ (.slice (some ⟨g, 0, none⟩) (m + 1) c)) := (But.refl (fun j => j = pb) w).set1 pb 1 rfl _
        refine Reg.out_skipP (w' := w.setCell ⟨pb, 1, none⟩ (.slice (some ⟨g, 0, none⟩) (m + 1) c)) ?_ ⟨x + 1, trivial, Reg.PPres.heavy hbS, Reg.PInv.heavy hI 18 (by decide) (by simp) hk hbS ⟨fun e => by omega, fun _ => ⟨some ⟨g, 0, none⟩, c, ⟨q2.set 1 _, .inr ⟨g, rfl, q1.but hb1 (by omega)⟩, by rw [List.length_append, HGL.out]; rfl, fun e => by obtain ⟨z, hz, hz2⟩ := e; cases hz; exact q3 hz2⟩, ?_⟩⟩⟩
        · clear hI q1 q2 hbS hb1
          go_simp
        · rintro j ⟨z, hz, rfl⟩
          cases hz
          exact q4.imp id (fun h => by show W0.heap.size ≤ g; omega)
      intro gx L act wz hall hI hF
      have g14 : act.eval (.tmp 14) = .pointer (some ⟨pb, 0, none⟩) := hF.val 0 _ 14 rfl (hall 0 (by simp)) rfl
      have g15 : act.eval (.tmp 15) = .pointer (some ⟨pb, 0, none⟩) := hF.val 1 _ 15 rfl (hall 1 (by simp)) rfl
      have g16 : act.eval (.tmp 16) = .pointer (some ⟨pb, 0, none⟩) := hF.val 2 _ 16 rfl (hall 2 (by simp)) rfl
      have g17 : act.eval (.tmp 17) = .pointer (some ⟨pb, 1, none⟩) := hF.val 3 _ 17 rfl (hall 3 (by simp)) rfl
      have g18 : act.eval (.tmp 18) = .slice ga m gc := hF.val 4 _ 18 rfl (hall 4 (by simp)) rfl
      have g19 : act.eval (.tmp 19) = .slice (some ⟨xb, xo, none⟩) n xc := hF.val 5 _ 19 rfl (hall 5 (by simp)) rfl
      have g20 : act.eval (.tmp 20) = .int .i64 (k : Int) := hF.val 6 _ 20 rfl (hall 6 (by simp)) rfl
      have g21 : act.eval (.tmp 21) = .pointer (some ⟨xb, xo + k, none⟩) := hF.val 7 _ 21 rfl (hall 7 (by simp)) rfl
      have g22 : act.eval (.tmp 22) = .int .i64 (a : Int) := hF.val 8 _ 22 rfl (hall 8 (by simp)) rfl
      have g23 : act.eval (.tmp 23) = .slice (some ⟨yb, yo, none⟩) n yc := hF.val 9 _ 23 rfl (hall 9 (by simp)) rfl
      have g24 : act.eval (.tmp 24) = .int .i64 (k : Int) := hF.val 10 _ 24 rfl (hall 10 (by simp)) rfl
      have g25 : act.eval (.tmp 25) = .pointer (some ⟨yb, yo + k, none⟩) := hF.val 11 _ 25 rfl (hall 11 (by simp)) rfl
      have g26 : act.eval (.tmp 26) = .int .i64 (b : Int) := hF.val 12 _ 26 rfl (hall 12 (by simp)) rfl
      have g27 : act.eval (.tmp 27) = .agg #[.int .i64 (a : Int), .int .i64 (b : Int)] := hF.val 13 _ 27 rfl (hall 13 (by simp)) rfl
      have g28 : (fun v _ w => ∃ g, v = .slice (some ⟨g, 0, none⟩) 1 1 ∧ BoxAt w g [.int .i64 (a : Int), .int .i64 (b : Int)] ∧ lo ≤ g ∧ ¬ pset pb ga g) (act.eval (.tmp 28)) gx wz := hF.val 14 _ 28 rfl (hall 14 (by simp)) rfl
      have g29 : (fun v x w => 1 ≤ x ∧ ∃ g c, v = .slice (some ⟨g, 0, none⟩) (m + 1) c ∧ (x = 1 → Flat 2 w g c (m + 1) (flatG (G ++ [(a, b)])) ∧ BoxAt w pb [.int .i64 wd, .slice ga m gc, .slice oa on oc] ∧ g ≠ pb ∧ (inB ga g ∨ lo ≤ g))) (act.eval (.tmp 29)) gx wz := hF.val 15 _ 29 rfl (hall 15 (by simp)) rfl
      have g30 : act.eval (.tmp 30) = .pointer (some ⟨pb, 0, none⟩) := hF.val 16 _ 30 rfl (hall 16 (by simp)) rfl
      have g31 : act.eval (.tmp 31) = .pointer (some ⟨pb, 1, none⟩) := hF.val 17 _ 31 rfl (hall 17 (by simp)) rfl
      have hact := hF.act [14, 15, 16, 17, 18, 19, 20, 21, 22, 23, 24, 25, 26, 27, 28, 29, 30, 31] (by kernel_rfl)
      obtain ⟨hxz, hBz, hFz⟩ := Reg.PInv.done hI (fun j hj => hall j (by simp at hj ⊢; omega))
      clear hF hall
      simp only [List.foldl_cons, List.foldl_nil] at hact
      rw [g14, g15, g16, g17, g18, g19, g20, g21, g22, g23, g24, g25, g26, g27, g30, g31] at hact
      clear g14 g15 g16 g17 g18 g19 g20 g21 g22 g23 g24 g25 g26 g27 g30 g31
      generalize act.eval (.tmp 28) = u28 at hact g28
      generalize act.eval (.tmp 29) = u29 at hact g29
      simp only [List.setIfInBounds_toArray, List.set_cons_succ, List.set_cons_zero] at hact
      subst hact
      have HJ := hidq (hFz.2 rfl)
      have HBZ := hidq hBz
      clear hFz hBz hI g28 g29 HF HP FC HGL HLT hxz
      go_wp2_with fail
      obtain ⟨V, hV⟩ : ∃ V, V = wz := ⟨_, rfl⟩
      subst hV
      obtain ⟨hE1, hS1, hN1, hxa, hyb, hmk, hGk⟩ := HR1.out
      obtain ⟨hxl, hyl, hs01⟩ := HC.out
      have hsV := HBZ.out.size
      obtain ⟨l2, hl2⟩ : ∃ l2, V.heap.size = l2 := ⟨_, rfl⟩
      obtain ⟨RL, hRL⟩ : ∃ RL, vals (Wr.inter (x.take k) (y.take k)) = RL := ⟨_, rfl⟩
      obtain ⟨rn, hrn⟩ : ∃ rn, 2 * k = rn := ⟨_, rfl⟩
      have hSV : SlAt 1 V ra rc rn RL := by rw [← hrn, ← hRL]; exact hS1.but HBZ.out (fun j hj => (hN1 j hj).2)
      have HRS := hidq hSV
      have FX2 := hidq (fun W (hW : But (inB ra) V W) => (show W.cell? ⟨xb, xo + k, none⟩ = some (.int .i64 (a : Int)) ∧ W.cell? ⟨yb, yo + k, none⟩ = some (.int .i64 (b : Int)) from by
        obtain ⟨h1, h2⟩ := FX.out V HBZ.out
        exact ⟨by rw [hW.cell (p := ⟨xb, xo + k, none⟩) (by show xb < _; omega) (fun e => by have := (hN1 _ e).1; simp at this; omega)]; exact h1, by rw [hW.cell (p := ⟨yb, yo + k, none⟩) (by show yb < _; omega) (fun e => by have := (hN1 _ e).1; simp at this; omega)]; exact h2⟩))
      have HF : ∀ (x : Nat) (w w' : World), Below w.heap.size w w' → (x = 0 → Below V.heap.size V w) → (x = 0 → Below V.heap.size V w') := fun _ _ _ hB h e => (h e).trans (hB.mono (h e).size)
      have HK := hidq (And.intro hRL hrn)
      have hrb : rn ≤ 128 := by omega
      clear hE1 hS1 hN1 hxa hyb hmk hGk hxl hyl hs01 hsV hSV hRL FX
      rw [hrn]
      clear hrn
      refine Reg.wp_region_ghost (Reg.gofList (join6R n xc yc xb xo yb yo k l2 a b rn rc ra RL)) (Reg.PPres (inB ra)) (Reg.PInv [10] (inB ra) V (fun x w => x = 0 → Below V.heap.size V w)) 0 (by kernel_rfl) (by kernel_rfl) (Reg.GAllKept.at _ (join6R_kept n xc yc xb xo yb yo k l2 a b rn rc ra RL)) (Reg.PInv.start 12 (fun _ => below_drewN (Below.refl _ _) 1)) ⟨?_, ?_, ?_, ?_, ?_, ?_, ?_, ?_, ?_, ?_, ?_, ?_, trivial⟩ ?_
      · refine Reg.GStepAt.plain (i := 0) rfl ?_
        intro x L ev w hI hk hp hA
        have e7 : ev (.tmp 7) = .slice ra rn rc := hA.oldBut 11 _ 7 (by kernel_rfl) rfl ⟨0, .phase⟩ (by simp) rfl hk
        have hcc := hA.const
        clear hA hp
        refine Reg.out_value (v := .slice ra rn rc) ?_ ⟨x, rfl, Reg.PPres.refl _ _ _, Reg.PInv.light HF hI 0 (by decide) (Below.refl _ _)⟩
        go_simp
      · refine Reg.GStepAt.plain (i := 1) rfl ?_
        intro x L ev w hI hk hp hA
        have e1 : ev (.tmp 1) = .slice (some ⟨xb, xo, none⟩) n xc := hA.oldNone 1 (by kernel_rfl)
        have hcc := hA.const
        clear hA hp
        refine Reg.out_value (v := .slice (some ⟨xb, xo, none⟩) n xc) ?_ ⟨x, rfl, Reg.PPres.refl _ _ _, Reg.PInv.light HF hI 1 (by decide) (Below.refl _ _)⟩
        go_simp
      · refine Reg.GStepAt.plain (i := 2) rfl ?_
        intro x L ev w hI hk hp hA
        have e8 : ev (.tmp 8) = .int .i64 (k : Int) := hA.oldNone 8 (by kernel_rfl)
        have hcc := hA.const
        clear hA hp
        refine Reg.out_value (v := .int .i64 (k : Int)) ?_ ⟨x, rfl, Reg.PPres.refl _ _ _, Reg.PInv.light HF hI 2 (by decide) (Below.refl _ _)⟩
        go_simp
      · refine Reg.GStepAt.plain (i := 3) rfl ?_
        intro x L ev w hI hk hp hA
        have e33 : ev (.tmp 33) = .slice (some ⟨xb, xo, none⟩) n xc := hA.val 1 _ 33 rfl (hp ⟨1, .data⟩ (by simp) rfl) rfl
        have e34 : ev (.tmp 34) = .int .i64 (k : Int) := hA.val 2 _ 34 rfl (hp ⟨2, .data⟩ (by simp) rfl) rfl
        have hcc := hA.const
        clear hA hp
        refine Reg.out_value (v := .pointer (some ⟨xb, xo + k, none⟩)) ?_ ⟨x, rfl, Reg.PPres.refl _ _ _, Reg.PInv.light HF hI 3 (by decide) (Below.refl _ _)⟩
        go_simp
      · refine Reg.GStepAt.plain (i := 4) rfl ?_
        intro x L ev w hI hk hp hA
        have e35 : ev (.tmp 35) = .pointer (some ⟨xb, xo + k, none⟩) := hA.val 3 _ 35 rfl (hp ⟨3, .data⟩ (by simp) rfl) rfl
        have hcc := hA.const
        clear hA hp
        obtain ⟨f1, f2⟩ := FX2.out w hI.2.1
        refine Reg.out_value (v := .int .i64 (a : Int)) ?_ ⟨x, rfl, Reg.PPres.refl _ _ _, Reg.PInv.light HF hI 4 (by decide) (Below.refl _ _)⟩
        go_simp
      · refine Reg.GStepAt.plain (i := 5) rfl ?_
        intro x L ev w hI hk hp hA
        have e2 : ev (.tmp 2) = .slice (some ⟨yb, yo, none⟩) n yc := hA.oldNone 2 (by kernel_rfl)
        have hcc := hA.const
        clear hA hp
        refine Reg.out_value (v := .slice (some ⟨yb, yo, none⟩) n yc) ?_ ⟨x, rfl, Reg.PPres.refl _ _ _, Reg.PInv.light HF hI 5 (by decide) (Below.refl _ _)⟩
        go_simp
      · refine Reg.GStepAt.plain (i := 6) rfl ?_
        intro x L ev w hI hk hp hA
        have e8 : ev (.tmp 8) = .int .i64 (k : Int) := hA.oldNone 8 (by kernel_rfl)
        have hcc := hA.const
        clear hA hp
        refine Reg.out_value (v := .int .i64 (k : Int)) ?_ ⟨x, rfl, Reg.PPres.refl _ _ _, Reg.PInv.light HF hI 6 (by decide) (Below.refl _ _)⟩
        go_simp
      · refine Reg.GStepAt.plain (i := 7) rfl ?_
        intro x L ev w hI hk hp hA
        have e37 : ev (.tmp 37) = .slice (some ⟨yb, yo, none⟩) n yc := hA.val 5 _ 37 rfl (hp ⟨5, .data⟩ (by simp) rfl) rfl
        have e38 : ev (.tmp 38) = .int .i64 (k : Int) := hA.val 6 _ 38 rfl (hp ⟨6, .data⟩ (by simp) rfl) rfl
        have hcc := hA.const
        clear hA hp
        refine Reg.out_value (v := .pointer (some ⟨yb, yo + k, none⟩)) ?_ ⟨x, rfl, Reg.PPres.refl _ _ _, Reg.PInv.light HF hI 7 (by decide) (Below.refl _ _)⟩
        go_simp
      · refine Reg.GStepAt.plain (i := 8) rfl ?_
        intro x L ev w hI hk hp hA
        have e39 : ev (.tmp 39) = .pointer (some ⟨yb, yo + k, none⟩) := hA.val 7 _ 39 rfl (hp ⟨7, .data⟩ (by simp) rfl) rfl
        have hcc := hA.const
        clear hA hp
        obtain ⟨f1, f2⟩ := FX2.out w hI.2.1
        refine Reg.out_value (v := .int .i64 (b : Int)) ?_ ⟨x, rfl, Reg.PPres.refl _ _ _, Reg.PInv.light HF hI 8 (by decide) (Below.refl _ _)⟩
        go_simp
      · refine Reg.GStepAt.plain (i := 9) rfl ?_
        intro x L ev w hI hk hp hA
        have e36 : ev (.tmp 36) = .int .i64 (a : Int) := hA.val 4 _ 36 rfl (hp ⟨4, .data⟩ (by simp) rfl) rfl
        have e40 : ev (.tmp 40) = .int .i64 (b : Int) := hA.val 8 _ 40 rfl (hp ⟨8, .data⟩ (by simp) rfl) rfl
        have hcc := hA.const
        clear hA hp
        refine Reg.out_new (v := .slice (some ⟨w.heap.size, 0, none⟩) 2 2) (w' := w.alloc (.cells #[.int .i64 (a : Int), .int .i64 (b : Int)] 3)) ?_ ⟨x, ⟨w.heap.size, rfl, BoxAt.new w [.int .i64 (a : Int), .int .i64 (b : Int)] 3, by have h1 := hI.2.1.size; omega, fun e => by have h1 := hI.2.1.size; have h2 := HRS.out.lt _ e; omega⟩, Reg.PPres.light ((Below.refl _ _).alloc (Nat.le_refl _) _), Reg.PInv.light HF hI 9 (by decide) ((Below.refl _ _).alloc (Nat.le_refl _) _)⟩
        clear hI hk
        go_simp
      · refine Reg.GStepAt.plain (i := 10) rfl ?_
        intro x L ev w hI hk hp hA
        have e32 : ev (.tmp 32) = .slice ra rn rc := hA.val 0 _ 32 rfl (hp ⟨0, .data⟩ (by simp) rfl) rfl
        have e41 : (fun v _ w => ∃ g, v = .slice (some ⟨g, 0, none⟩) 2 2 ∧ BoxAt w g [.int .i64 (a : Int), .int .i64 (b : Int)] ∧ l2 ≤ g ∧ ¬ inB ra g) (ev (.tmp 41)) x w := hA.val 9 _ 41 rfl (hp ⟨9, .data⟩ (by simp) rfl) rfl
        have hcc := hA.const
        clear hA hp
        have hx0 : x = 0 := hI.1.trans (Reg.cnt_zero1 (Reg.getD_true hk))
        have hBw := hI.2.2 hx0
        obtain ⟨g, e41, hG, hlg, hSg⟩ := e41
        obtain ⟨g', c', w', hrun, hF', hb', hg'⟩ := sl_append plainN 101 w ra rc rn _ (HRS.out.below hBw) _ 2 [.int .i64 (a : Int), .int .i64 (b : Int)] (Src.ofSlice w Tryz.underlying101 ⟨g, 0, none⟩ 2 2 [.int .i64 (a : Int), .int .i64 (b : Int)] rfl (fun j u hu => by rw [Addr.add_lit, Nat.zero_add]; exact hG.cell j u hu) (by intro u hu; simp at hu; rcases hu with rfl | rfl <;> rfl)) (by omega) (by omega)
        refine Reg.out_new (v := .slice (some ⟨g', 0, none⟩) (rn + 2) c') (w' := w') ?_ ⟨x + 1, ⟨by omega, g', c', rfl, fun _ => ⟨hF', hg'.imp id (fun h => by have := hBw.size; omega)⟩⟩, Reg.PPres.heavy hb', Reg.PInv.heavy hI 10 (by decide) (by simp) hk hb' (fun e => by omega)⟩
        simp [execOp, resolve, invoke, builtin, e32, e41, hrun, Result.andThen]
      · refine Reg.GStepAt.plain (i := 11) rfl ?_
        intro x L ev w hI hk hp hA
        have e42 : (fun v x w => 1 ≤ x ∧ ∃ g c, v = .slice (some ⟨g, 0, none⟩) (rn + 2) c ∧ (x = 1 → Flat 1 w g c (rn + 2) (RL ++ [.int .i64 (a : Int), .int .i64 (b : Int)]) ∧ (inB ra g ∨ l2 ≤ g))) (ev (.tmp 42)) x w := hA.val 10 _ 42 rfl (hp ⟨10, .data⟩ (by simp) rfl) rfl
        have hcc := hA.const
        clear hA hp
        exact Reg.out_value rfl ⟨x, e42, Reg.PPres.refl _ _ _, Reg.PInv.light HF hI 11 (by decide) (Below.refl _ _)⟩
      intro gx L act wz hall hI hF
      have g32 : act.eval (.tmp 32) = .slice ra rn rc := hF.val 0 _ 32 rfl (hall 0 (by simp)) rfl
      have g33 : act.eval (.tmp 33) = .slice (some ⟨xb, xo, none⟩) n xc := hF.val 1 _ 33 rfl (hall 1 (by simp)) rfl
      have g34 : act.eval (.tmp 34) = .int .i64 (k : Int) := hF.val 2 _ 34 rfl (hall 2 (by simp)) rfl
      have g35 : act.eval (.tmp 35) = .pointer (some ⟨xb, xo + k, none⟩) := hF.val 3 _ 35 rfl (hall 3 (by simp)) rfl
      have g36 : act.eval (.tmp 36) = .int .i64 (a : Int) := hF.val 4 _ 36 rfl (hall 4 (by simp)) rfl
      have g37 : act.eval (.tmp 37) = .slice (some ⟨yb, yo, none⟩) n yc := hF.val 5 _ 37 rfl (hall 5 (by simp)) rfl
      have g38 : act.eval (.tmp 38) = .int .i64 (k : Int) := hF.val 6 _ 38 rfl (hall 6 (by simp)) rfl
      have g39 : act.eval (.tmp 39) = .pointer (some ⟨yb, yo + k, none⟩) := hF.val 7 _ 39 rfl (hall 7 (by simp)) rfl
      have g40 : act.eval (.tmp 40) = .int .i64 (b : Int) := hF.val 8 _ 40 rfl (hall 8 (by simp)) rfl
      have g41 : (fun v _ w => ∃ g, v = .slice (some ⟨g, 0, none⟩) 2 2 ∧ BoxAt w g [.int .i64 (a : Int), .int .i64 (b : Int)] ∧ l2 ≤ g ∧ ¬ inB ra g) (act.eval (.tmp 41)) gx wz := hF.val 9 _ 41 rfl (hall 9 (by simp)) rfl
      have g42 : (fun v x w => 1 ≤ x ∧ ∃ g c, v = .slice (some ⟨g, 0, none⟩) (rn + 2) c ∧ (x = 1 → Flat 1 w g c (rn + 2) (RL ++ [.int .i64 (a : Int), .int .i64 (b : Int)]) ∧ (inB ra g ∨ l2 ≤ g))) (act.eval (.tmp 42)) gx wz := hF.val 10 _ 42 rfl (hall 10 (by simp)) rfl
      have g7 : (fun v x w => 1 ≤ x ∧ ∃ g c, v = .slice (some ⟨g, 0, none⟩) (rn + 2) c ∧ (x = 1 → Flat 1 w g c (rn + 2) (RL ++ [.int .i64 (a : Int), .int .i64 (b : Int)]) ∧ (inB ra g ∨ l2 ≤ g))) (act.eval (.tmp 7)) gx wz := hF.val 11 _ 7 rfl (hall 11 (by simp)) rfl
      have hact := hF.act [32, 33, 34, 35, 36, 37, 38, 39, 40, 41, 42, 7] (by kernel_rfl)
      obtain ⟨hxz, hBz, hFz⟩ := Reg.PInv.done hI (fun j hj => hall j (by simp at hj ⊢; omega))
      clear hF hall
      simp only [List.foldl_cons, List.foldl_nil] at hact
      rw [g32, g33, g34, g35, g36, g37, g38, g39, g40] at hact
      clear g32 g33 g34 g35 g36 g37 g38 g39 g40
      generalize act.eval (.tmp 41) = u41 at hact g41
      generalize act.eval (.tmp 42) = u42 at hact g42
      generalize act.eval (.tmp 7) = u7 at hact g7
      simp only [List.setIfInBounds_toArray, List.set_cons_succ, List.set_cons_zero] at hact
      subst hact
      obtain ⟨_, g, c, rfl, h7⟩ := g7
      obtain ⟨hF7, hg7⟩ := h7 hxz
      obtain ⟨hRL, hrn⟩ := HK.out
      have HN := hidq (show JR w pb ga0 wd m0 oa on oc G0 x y (k + 1) (some ⟨g, 0, none⟩) c wz from by
        obtain ⟨hE1, hS1, hN1, hxa, hyb, hmk, hGk⟩ := HR1.out
        rw [← hrn, ← hRL] at hF7
        exact JR.next hE1 HJ.out HBZ.out hS1 hN1 hxa hyb hmk hGk hF7 hBz (hg7.imp id (fun h => by omega)))
      have hr2 : rn + 2 = 2 * (k + 1) := by omega
      clear hF7 hg7 h7 hRL hrn HK HR1 HJ HBZ HRS FX2 HC hI hFz hBz HF hxz
      rw [hr2]
      clear hr2
      go_wp2
      go_roundw
      case rel => exact ⟨k + 1, _, c, by go_num, by omega, rfl, HN⟩
      case measure => simp [intOf]; omega
    · have hd : decide ((k : Int) < (n : Int)) = false := decide_eq_false (by omega)
      have hd2 : decide (k < n) = false := decide_eq_false (by omega)
      have hkn : k = n := by omega
      obtain ⟨ga', gc', hP, hE, hS, hN⟩ := hR.out
      rw [List.take_of_length_le (by rw [HLX.out]; omega), List.take_of_length_le (by rw [HLY.out]; omega)] at hP hS
      have HN := hidq (show JoinEnd none w pb ga0 wd m0 oa on oc G0 (x.zip y) (Wr.inter x y) (.returned (.slice ra (2 * k) rc)) W0 from
        ⟨ga', gc', ra, rc, 2 * k, rfl, by rw [Wr.inter_length n x y HLX.out HLY.out, hkn], by rw [List.length_zip, HLX.out, HLY.out, Nat.min_self, ← hkn]; exact hP, hE, nsAt_of hS (fun j hj => (hN j hj).2), fun j hj => .inr (hN j hj).1⟩)
      clear hP hE hS hN hR hkn
      go_wp2
      go_ret
      exact HN
end Go.Proofs.YtbcmilfajeanbaaGreat

namespace Go.Proofs.YtbcmilfajeanbaaGreat
open Go.RowKit Go.Sort

theorem every0_any (w : World) (a : Option Addr) (c n : Nat) (S : Nat → Prop) (l : List Nat) (hn : l.length = n) (h : NsAt w a S l) (hl : n ≤ 64) :
    Calls Tryz.prog 130 #[.slice a n c, .int .i64 0] w fun e w' => ∃ oa oc m, e = .returned (.slice oa m oc) ∧ (Wr.ev l).length = m ∧ NsAt w' oa (fun j => j < w.heap.size) (Wr.ev l) ∧ Below w.heap.size w w' :=
  every_any w a c 0 n S l (by omega) hn h hl
theorem every1_any (w : World) (a : Option Addr) (c n : Nat) (S : Nat → Prop) (l : List Nat) (hn : l.length = n) (h : NsAt w a S l) (hl : n ≤ 64) :
    Calls Tryz.prog 130 #[.slice a n c, .int .i64 1] w fun e w' => ∃ oa oc m, e = .returned (.slice oa m oc) ∧ (Wr.od l).length = m ∧ NsAt w' oa (fun j => j < w.heap.size) (Wr.od l) ∧ Below w.heap.size w w' := by
  have := every_any w a c 1 n S l (by omega) hn h hl
  rw [List.drop_one] at this
  exact this

/-- How many gates. -/
def mg : Nat → Nat
  | 0 => 1
  | d + 1 => 2 * mg d + 2 ^ (d + 1)
def cg : Nat → Nat
  | 0 => 0
  | d + 1 => 2 * cg d + mg d
theorem merge_gates : ∀ (d : Nat) (x y : List Nat), x.length = 2 ^ d → y.length = 2 ^ d → (Wr.merge d x y).1.length = mg d
  | 0, x, y, hx, hy => by simp [Wr.merge, hx, hy, mg]
  | d + 1, x, y, hx, hy => by
    rw [Wr.pow_succ2] at hx hy
    have h1 := merge_gates d (Wr.ev x) (Wr.od y) (Wr.ev_length _ _ hx) (Wr.od_length _ _ hy)
    have h2 := merge_gates d (Wr.od x) (Wr.ev y) (Wr.od_length _ _ hx) (Wr.ev_length _ _ hy)
    have l1 := Wr.merge_length d (Wr.ev x) (Wr.od y) (Wr.ev_length _ _ hx) (Wr.od_length _ _ hy)
    have l2 := Wr.merge_length d (Wr.od x) (Wr.ev y) (Wr.od_length _ _ hx) (Wr.ev_length _ _ hy)
    simp only [Wr.merge, List.length_append, List.length_zip, h1, h2, l1, l2, mg, Wr.pow_succ2]
    omega
theorem count_gates : ∀ (d : Nat) (l : List Nat), l.length = 2 ^ d → (Wr.count d l).1.length = cg d
  | 0, l, _ => rfl
  | d + 1, l, h => by
    rw [Wr.pow_succ2] at h
    have l1 : (l.take (2 ^ d)).length = 2 ^ d := by rw [List.length_take]; omega
    have l2 : (l.drop (2 ^ d)).length = 2 ^ d := by rw [List.length_drop]; omega
    have h1 := count_gates d _ l1
    have h2 := count_gates d _ l2
    have h3 := merge_gates d _ _ (Wr.count_length d _ l1) (Wr.count_length d _ l2)
    simp only [Wr.count, List.length_append, h1, h2, h3, cg]
    omega

set_option maxRecDepth 20000 in
set_option maxHeartbeats 4000000 in
theorem merge_any : ∀ (d : Nat) (w : World) (pb : Nat) (ga : Option Addr) (gc : Nat) (wd : Int) (m : Nat) (oa : Option Addr) (on oc : Nat) (G : List (Nat × Nat)) (xa ya : Option Addr) (xc yc n : Nat) (x y : List Nat),
    PlanAt w pb ga gc wd m oa on oc G → NsAt w xa (pset pb ga) x → NsAt w ya (pset pb ga) y → x.length = n → y.length = n → n = 2 ^ d → n ≤ 32 → m + mg d ≤ 900 →
    Calls Tryz.prog 114 #[.pointer (some ⟨pb, 0, none⟩), .slice xa n xc, .slice ya n yc] w (JoinEnd none w pb ga wd m oa on oc G (Wr.merge d x y).1 (Wr.merge d x y).2) := by
  intro d
  induction d with
  | zero =>
    intro w pb ga gc wd m oa on oc G xa ya xc yc n x y hP hx hy hlx hly hn _ hm
    have hn1 : n = 1 := hn
    subst hn1
    have hJ := join_any w pb ga gc wd m oa on oc G xa ya xc yc 1 x y hP hx hy hlx hly (by decide) (by omega)
    clear hP hx hy hlx hly hn hm
    go_enter Tryz.func114, Tryz.ntmps114
    go_wp2_with fail
    refine hJ.mono ?_
    rintro e w1 hE
    obtain ⟨ga', gc', ra, rc, n', rfl, hE⟩ := hE
    go_wp2_with fail
    go_ret
    exact ⟨ga', gc', ra, rc, n', rfl, hE⟩
  | succ d ih =>
    intro w pb ga gc wd m oa on oc G xa ya xc yc n x y hP hx hy hlx hly hn hn32 hm
    obtain ⟨h, hh⟩ : ∃ h, h = 2 ^ d := ⟨_, rfl⟩
    have hn2 : n = 2 * h := by rw [hn, Wr.pow_succ2, hh]
    have hpos : 1 ≤ h := by have := Nat.two_pow_pos d; omega
    have hne : ((n : Int) == 1) = false := by simp; omega
    have hmg : mg (d + 1) = 2 * mg d + 2 * h := by rw [mg, Wr.pow_succ2, hh]
    have lx : x.length = 2 * h := by omega
    have ly : y.length = 2 * h := by omega
    have ex := Wr.ev_length _ _ lx
    have ox := Wr.od_length _ _ lx
    have ey := Wr.ev_length _ _ ly
    have oy := Wr.od_length _ _ ly
    have g1 := merge_gates d (Wr.ev x) (Wr.od y) (by omega) (by omega)
    have g2 := merge_gates d (Wr.od x) (Wr.ev y) (by omega) (by omega)
    have l1 := Wr.merge_length d (Wr.ev x) (Wr.od y) (by omega) (by omega)
    have l2 := Wr.merge_length d (Wr.od x) (Wr.ev y) (by omega) (by omega)
    have e1 : (Wr.merge (d + 1) x y).1 = (Wr.merge d (Wr.ev x) (Wr.od y)).1 ++ (Wr.merge d (Wr.od x) (Wr.ev y)).1 ++ (Wr.merge d (Wr.ev x) (Wr.od y)).2.zip (Wr.merge d (Wr.od x) (Wr.ev y)).2 := rfl
    have e2 : (Wr.merge (d + 1) x y).2 = Wr.inter (Wr.merge d (Wr.ev x) (Wr.od y)).2 (Wr.merge d (Wr.od x) (Wr.ev y)).2 := rfl
    rw [e1, e2]
    clear e1 e2
    have IH := hidq ih
    have HN := hidq (And.intro hn2 (And.intro hpos (And.intro hh (And.intro hmg (And.intro g1 (And.intro g2 (And.intro l1 l2)))))))
    have HE := hidq (And.intro ex (And.intro ox (And.intro ey oy)))
    have HX := hidq (And.intro hx (And.intro hy (And.intro hlx hly)))
    have HP := hidq hP
    have HM := hidq (And.intro hm hn32)
    have k1 := every0_any w xa xc n _ x hlx hx (by omega)
    clear ih hn2 hpos hh hmg g1 g2 l1 l2 ex ox ey oy hx hy hlx hly hP hm hn32 hn lx ly
    generalize hA : Wr.merge d (Wr.ev x) (Wr.od y) = A at HN ⊢
    generalize hB : Wr.merge d (Wr.od x) (Wr.ev y) = B at HN ⊢
    have HAB := hidq (And.intro hA hB)
    clear hA hB
    go_enter Tryz.func114, Tryz.ntmps114
    go_wp2_with fail
    refine k1.mono ?_
    rintro e w1 ⟨a1, c1, m1, rfl, hm1, hN1, hb1⟩
    clear k1
    have k2 := every1_any w1 ya yc n _ y HX.out.2.2.2 (HX.out.2.1.below hb1) (by have := HM.out.2; omega)
    go_wp2_with fail
    refine k2.mono ?_
    rintro e w2 ⟨a2, c2, m2, rfl, hm2, hN2, hb2⟩
    clear k2
    have hb02 : Below w.heap.size w w2 := hb1.trans (hb2.mono hb1.size)
    obtain rfl : m1 = h := by rw [← hm1]; exact HE.out.1
    obtain rfl : m2 = m1 := by rw [← hm2]; exact HE.out.2.2.2
    have hlt := HP.out.lt
    have hs1 := hb1.size
    have k3 := IH.out w2 pb ga gc wd m oa on oc G a1 a2 c1 c2 m2 (Wr.ev x) (Wr.od y) (HP.out.below hb02) ((hN1.below hb2).mono (fun j _ hj => hlt j hj)) (hN2.mono (fun j _ hj => Nat.lt_of_lt_of_le (hlt j hj) hs1)) hm1 hm2 HN.out.2.2.1 (by have := HM.out.2; have := HN.out.1; omega) (by have := HM.out.1; have := HN.out.2.2.2.1; omega)
    rw [HAB.out.1] at k3
    clear hN1 hN2 hm1 hm2 hs1
    have HB2 := hidq hb02
    clear hb1 hb2 hb02 hlt
    go_wp2_with fail
    refine k3.mono ?_
    rintro e w3 ⟨ga1, gc1, ra1, rc1, n1, rfl, hn1, hP3, hE3, hR3, _⟩
    clear k3
    have hE03 : PEnd pb ga w ga1 w3 := (PEnd.below HB2.out).trans hE3
    have H3 := hidq (And.intro hn1 (And.intro hP3 (And.intro hE03 hR3)))
    have k4 := every1_any w3 xa xc n _ x HX.out.2.2.1 (HX.out.1.but hE03.1 hE03.2) (by have := HM.out.2; omega)
    clear hn1 hP3 hE3 hR3 hE03
    go_wp2_with fail
    refine k4.mono ?_
    rintro e w4 ⟨a4, c4, m4, rfl, hm4, hN4, hb4⟩
    clear k4
    have k5 := every0_any w4 ya yc n _ y HX.out.2.2.2 ((HX.out.2.1.but H3.out.2.2.1.1 H3.out.2.2.1.2).below hb4) (by have := HM.out.2; omega)
    go_wp2_with fail
    refine k5.mono ?_
    rintro e w5 ⟨a5, c5, m5, rfl, hm5, hN5, hb5⟩
    clear k5
    obtain rfl : m4 = m2 := by rw [← hm4]; exact HE.out.2.1
    obtain rfl : m5 = m4 := by rw [← hm5]; exact HE.out.2.2.1
    have hb35 : Below w3.heap.size w3 w5 := hb4.trans (hb5.mono hb4.size)
    have hlt := H3.out.2.1.lt
    have hs4 := hb4.size
    have k6 := IH.out w5 pb ga1 gc1 wd _ oa on oc _ a4 a5 c4 c5 m5 (Wr.od x) (Wr.ev y) (H3.out.2.1.below hb35) ((hN4.below hb5).mono (fun j _ hj => hlt j hj)) (hN5.mono (fun j _ hj => Nat.lt_of_lt_of_le (hlt j hj) hs4)) hm4 hm5 HN.out.2.2.1 (by have := HM.out.2; have := HN.out.1; omega) (by have := HM.out.1; have := HN.out.2.2.2.1; have := HN.out.2.2.2.2.1; omega)
    rw [HAB.out.2] at k6
    have HB5 := hidq hb35
    clear hN4 hN5 hm4 hm5 hs4 hb4 hb5 hb35 hlt
    go_wp2_with fail
    refine k6.mono ?_
    rintro e w6 ⟨ga2, gc2, ra2, rc2, n2, rfl, hn2, hP6, hE6, hR6, _⟩
    clear k6
    have hE36 : PEnd pb ga1 w3 ga2 w6 := (PEnd.below HB5.out).trans hE6
    obtain rfl : n1 = n2 := by rw [← H3.out.1, ← hn2, HN.out.2.2.2.2.2.2.1, HN.out.2.2.2.2.2.2.2]
    have k7 := join_any w6 pb ga2 gc2 wd _ oa on oc _ ra1 ra2 rc1 rc2 n1 _ _ hP6 (H3.out.2.2.2.but hE36.1 hE36.2) hR6 H3.out.1 hn2 (by have := HM.out.2; have := HN.out.1; have := HN.out.2.2.2.2.2.2.1; have := HN.out.2.2.1; have := H3.out.1; omega) (by have := HM.out.1; have := HN.out.2.2.2.1; have := HN.out.2.2.2.2.1; have := HN.out.2.2.2.2.2.1; omega)
    have HE6 := hidq (H3.out.2.2.1.trans hE36)
    clear hE36 hn2 hP6 hE6 hR6
    go_wp2_with fail
    refine k7.mono ?_
    rintro e w7 ⟨ga3, gc3, ra3, rc3, n3, rfl, hn3, hP7, hE7, hR7, hQ7⟩
    clear k7
    have HF := hidq (show JoinEnd none w pb ga wd m oa on oc G (A.1 ++ B.1 ++ A.2.zip B.2) (Wr.inter A.2 B.2) (.returned (.slice ra3 n3 rc3)) w7 from
      ⟨ga3, gc3, ra3, rc3, n3, rfl, hn3, by
        have e1 : m + (A.1 ++ B.1 ++ A.2.zip B.2).length = m + A.1.length + B.1.length + (A.2.zip B.2).length := by rw [List.length_append, List.length_append]; omega
        have e2 : G ++ (A.1 ++ B.1 ++ A.2.zip B.2) = G ++ A.1 ++ B.1 ++ A.2.zip B.2 := by simp
        rw [e1, e2]; exact hP7, HE6.out.trans hE7, hR7, fun j hj => (hQ7 j hj).imp id (fun h => Nat.le_trans HE6.out.1.size h)⟩)
    clear hn3 hP7 hE7 hR7 hQ7
    go_wp2_with fail
    go_ret
    exact HF
end Go.Proofs.YtbcmilfajeanbaaGreat

namespace Go.Proofs.YtbcmilfajeanbaaGreat
open Go.RowKit Go.Sort

theorem NsAt.take {w : World} {a : Option Addr} {S : Nat → Prop} {l : List Nat} (h : NsAt w a S l) (k : Nat) : NsAt w a S (l.take k) := fun i v hv => by
  refine h i v ?_
  rw [List.getElem?_take] at hv
  split at hv
  · exact hv
  · cases hv
theorem NsAt.drop {w : World} {b off : Nat} {S : Nat → Prop} {l : List Nat} (h : NsAt w (some ⟨b, off, none⟩) S l) (k : Nat) : NsAt w (some ⟨b, off + k, none⟩) S (l.drop k) := fun i v hv => by
  rw [List.getElem?_drop] at hv
  obtain ⟨b', off', h1, h2, h3, h4⟩ := h _ v hv
  cases h1
  exact ⟨b, off + k, rfl, h2, h3, by rw [Nat.add_assoc]; exact h4⟩

set_option maxRecDepth 20000 in
set_option maxHeartbeats 4000000 in
theorem count_any : ∀ (d : Nat) (w : World) (pb : Nat) (ga : Option Addr) (gc : Nat) (wd : Int) (m : Nat) (oa : Option Addr) (on oc : Nat) (G : List (Nat × Nat)) (lb lo lc n : Nat) (l : List Nat),
    PlanAt w pb ga gc wd m oa on oc G → NsAt w (some ⟨lb, lo, none⟩) (pset pb ga) l → l.length = n → n = 2 ^ d → n ≤ 32 → n ≤ lc → lc ≤ 100 → m + cg d ≤ 900 →
    Calls Tryz.prog 99 #[.pointer (some ⟨pb, 0, none⟩), .slice (some ⟨lb, lo, none⟩) n lc] w (JoinEnd (some ⟨lb, lo, none⟩) w pb ga wd m oa on oc G (Wr.count d l).1 (Wr.count d l).2) := by
  intro d
  induction d with
  | zero =>
    intro w pb ga gc wd m oa on oc G lb lo lc n l hP hl hll hn _ _ _ _
    have hn1 : n = 1 := hn
    subst hn1
    have HF := hidq (show JoinEnd (some ⟨lb, lo, none⟩) w pb ga wd m oa on oc G (Wr.count 0 l).1 (Wr.count 0 l).2 (.returned (.slice (some ⟨lb, lo, none⟩) 1 lc)) w from
      ⟨ga, gc, _, lc, 1, rfl, hll, by simpa [Wr.count] using hP, PEnd.refl _ _ _, hl, fun j hj => .inl hj⟩)
    clear hP hl hll hn
    go_enter Tryz.func99, Tryz.ntmps99
    go_wp2_with fail
    go_ret
    exact HF
  | succ d ih =>
    intro w pb ga gc wd m oa on oc G lb lo lc n l hP hl hll hn hn32 hlc hlc2 hm
    obtain ⟨h, hh⟩ : ∃ h, h = 2 ^ d := ⟨_, rfl⟩
    have hn2 : n = 2 * h := by rw [hn, Wr.pow_succ2, hh]
    have hpos : 1 ≤ h := by have := Nat.two_pow_pos d; omega
    have hne : ((n : Int) == 1) = false := by simp; omega
    have hdiv : (n : Int) / 2 = (h : Int) := by omega
    have l1 : (l.take (2 ^ d)).length = h := by rw [List.length_take]; omega
    have l2 : (l.drop (2 ^ d)).length = h := by rw [List.length_drop]; omega
    have c1 := count_gates d _ (l1.trans hh)
    have c2 := count_gates d _ (l2.trans hh)
    have q1 := Wr.count_length d _ (l1.trans hh)
    have q2 := Wr.count_length d _ (l2.trans hh)
    have g3 := merge_gates d _ _ q1 q2
    have e1 : (Wr.count (d + 1) l).1 = (Wr.count d (l.take (2 ^ d))).1 ++ (Wr.count d (l.drop (2 ^ d))).1 ++ (Wr.merge d (Wr.count d (l.take (2 ^ d))).2 (Wr.count d (l.drop (2 ^ d))).2).1 := rfl
    have e2 : (Wr.count (d + 1) l).2 = (Wr.merge d (Wr.count d (l.take (2 ^ d))).2 (Wr.count d (l.drop (2 ^ d))).2).2 := rfl
    have hcg : cg (d + 1) = 2 * cg d + mg d := rfl
    rw [e1, e2]
    clear e1 e2
    have k1 := ih w pb ga gc wd m oa on oc G lb lo lc h (l.take (2 ^ d)) hP (hl.take _) l1 hh (by omega) (by omega) hlc2 (by omega)
    have hl2 := hl.drop (2 ^ d)
    rw [← hh] at hl2 l2
    rw [← hh] at k1 c1 c2 q1 q2 g3 ⊢
    have IH := hidq ih
    generalize hA : Wr.count d (l.take h) = A at *
    generalize hB : Wr.count d (l.drop h) = B at *
    have HN := hidq (And.intro hn2 (And.intro hpos (And.intro hcg (And.intro c1 (And.intro c2 (And.intro q1 (And.intro q2 g3)))))))
    have HM := hidq (And.intro hm (And.intro hn32 (And.intro hlc hlc2)))
    have HL := hidq (And.intro hl2 (And.intro l2 hB))
    have HH := hidq hh
    have hhn : (h : Int) ≤ (n : Int) := by omega
    have hhl : (h : Int) ≤ (lc : Int) := by omega
    have hnl : (n : Int) ≤ (lc : Int) := by omega
    have hh0 : (0 : Int) ≤ (h : Int) := by omega
    have hltc : h < lc := by omega
    have hh32 : (h : Int) ≤ 32 := by omega
    have hnh : n - h = h := by omega
    have hsz : lo + h * 1 = lo + h := by omega
    clear ih hn2 hpos hcg c1 c2 q1 q2 g3 hm hn32 hlc hlc2 hl2 l2 hB hl hll hn hh l1 hA hP
    go_enter Tryz.func99, Tryz.ntmps99
    go_wp2_with fail
    refine k1.mono ?_
    rintro e w3 ⟨ga1, gc1, ra1, rc1, n1, rfl, hn1, hP3, hE3, hR3, _⟩
    clear k1
    have k2 := IH.out w3 pb ga1 gc1 wd _ oa on oc _ lb (lo + h) (lc - h) h (l.drop h) hP3 (HL.out.1.but hE3.1 hE3.2) HL.out.2.1 HH.out (by have := HM.out; have := HN.out.1; omega) (by have := HM.out; have := HN.out.1; omega) (by have := HM.out; omega) (by have := HM.out; have := HN.out; omega)
    rw [HL.out.2.2] at k2
    have H3 := hidq (And.intro hn1 (And.intro hP3 (And.intro hE3 hR3)))
    clear hn1 hP3 hE3 hR3
    go_wp2_with fail
    refine k2.mono ?_
    rintro e w4 ⟨ga2, gc2, ra2, rc2, n2, rfl, hn2, hP4, hE4, hR4, _⟩
    clear k2
    obtain rfl : n1 = h := by rw [← H3.out.1]; exact HN.out.2.2.2.2.2.1
    obtain rfl : n2 = n1 := by rw [← hn2]; exact HN.out.2.2.2.2.2.2.1
    have k3 := merge_any d w4 pb ga2 gc2 wd _ oa on oc _ ra1 ra2 rc1 rc2 n2 A.2 B.2 hP4 (H3.out.2.2.2.but hE4.1 hE4.2) hR4 H3.out.1 hn2 HH.out (by have := HM.out; have := HN.out.1; omega) (by have := HM.out; have := HN.out; omega)
    have HE4 := hidq (H3.out.2.2.1.trans hE4)
    clear hn2 hP4 hE4 hR4
    go_wp2_with fail
    refine k3.mono ?_
    rintro e w5 ⟨ga3, gc3, ra3, rc3, n3, rfl, hn3, hP5, hE5, hR5, hQ5⟩
    clear k3
    have HF := hidq (show JoinEnd (some ⟨lb, lo, none⟩) w pb ga wd m oa on oc G (A.1 ++ B.1 ++ (Wr.merge d A.2 B.2).1) (Wr.merge d A.2 B.2).2 (.returned (.slice ra3 n3 rc3)) w5 from
      ⟨ga3, gc3, ra3, rc3, n3, rfl, hn3, by
        have e1 : m + (A.1 ++ B.1 ++ (Wr.merge d A.2 B.2).1).length = m + A.1.length + B.1.length + (Wr.merge d A.2 B.2).1.length := by rw [List.length_append, List.length_append]; omega
        have e2 : G ++ (A.1 ++ B.1 ++ (Wr.merge d A.2 B.2).1) = G ++ A.1 ++ B.1 ++ (Wr.merge d A.2 B.2).1 := by simp
        rw [e1, e2]; exact hP5, HE4.out.trans hE5, hR5, fun j hj => (hQ5 j hj).elim (fun ⟨_, h, _⟩ => by cases h) (fun h => .inr (Nat.le_trans HE4.out.1.size h))⟩)
    clear hn3 hP5 hE5 hR5 hQ5
    go_wp2_with fail
    go_ret
    exact HF
end Go.Proofs.YtbcmilfajeanbaaGreat

namespace Go.Proofs.YtbcmilfajeanbaaGreat
open Go.RowKit Go.Sort

set_option maxRecDepth 20000 in
theorem zeros (T E : TypeId) (n : Nat) (hn : n ≤ 1000) (hu : Tryz.prog.underlying T = some (.slice E)) (h : (Tryz.prog.info? E).map (fun i => (i.zero, i.size, i.bytes)) = some (some (.int .i64 0), 1, 8)) (w : World) :
    (Instr.makeSlice T (.int .i64 (n : Int)) (.int .i64 (n : Int))).run Tryz.prog w = .ok (.slice (some ⟨w.heap.size, 0, none⟩) n n) (w.alloc (.cells (List.replicate n (Value.int .i64 0)).toArray E)) := by
  obtain ⟨i, hi, he⟩ := Option.map_eq_some_iff.1 h
  simp only [Prod.mk.injEq] at he
  have hr := run_make (P := Tryz.prog) w T E i _ hu hi he.1 .i64 .i64 (n : Int) (n : Int) (by omega) (Int.le_refl _) (by rw [he.2.2]; omega) (by omega)
  rw [hr, he.2.1]
  simp only [Int.toNat_natCast, Nat.mul_one]
  congr 3
  apply Array.ext
  · simp [madeCells]
  · intro i h1 h2
    simp [madeCells, Value.cells, Nat.mod_one]
theorem zerosI (n : Nat) (hn : n ≤ 1000) (w : World) : (Instr.makeSlice 101 (.int .i64 (n : Int)) (.int .i64 (n : Int))).run Tryz.prog w = .ok (.slice (some ⟨w.heap.size, 0, none⟩) n n) (w.alloc (.cells (List.replicate n (Value.int .i64 0)).toArray 3)) :=
  zeros _ _ n hn Tryz.underlying101 (by kernel_rfl) w
theorem zerosL (n : Nat) (hn : n ≤ 1000) (w : World) : (Instr.makeSlice 268 (.int .i64 (n : Int)) (.int .i64 (n : Int))).run Tryz.prog w = .ok (.slice (some ⟨w.heap.size, 0, none⟩) n n) (w.alloc (.cells (List.replicate n (Value.int .i64 0)).toArray 2)) :=
  zeros _ _ n hn Tryz.underlying268 (by kernel_rfl) w
theorem vals_zero (n : Nat) : vals (List.replicate n 0) = List.replicate n (Value.int .i64 0) := by simp [vals]
theorem vals_set (l : List Nat) (i v : Nat) : (vals l).set i (.int .i64 (v : Int)) = vals (l.set i v) := by simp [vals, List.map_set]
theorem flatG_get : ∀ (G : List (Nat × Nat)) (i : Nat) (g : Nat × Nat), G[i]? = some g → (flatG G)[i * 2]? = some (.int .i64 (g.1 : Int)) ∧ (flatG G)[i * 2 + 1]? = some (.int .i64 (g.2 : Int))
  | [], i, g, h => by simp at h
  | x :: G, 0, g, h => by simp at h; subst h; exact ⟨rfl, rfl⟩
  | x :: G, i + 1, g, h => by
    have := flatG_get G i g (by simpa using h)
    have e : flatG (x :: G) = .int .i64 (x.1 : Int) :: .int .i64 (x.2 : Int) :: flatG G := rfl
    rw [e, show (i + 1) * 2 = i * 2 + 1 + 1 by omega]
    exact this
/-- Numbers in a box. -/
theorem BoxAt.ns {w : World} {b : Nat} {l : List Nat} (h : BoxAt w b (vals l)) (S : Nat → Prop) (hS : ¬ S b) : NsAt w (some ⟨b, 0, none⟩) S l := fun i v hv =>
  ⟨b, 0, rfl, h.lt, hS, by rw [Nat.zero_add]; exact h.cell i _ (by simp [vals, hv])⟩
def upTo (k n : Nat) : List Nat := List.range k ++ List.replicate (n - k) 0
theorem upTo_len {k n : Nat} (h : k ≤ n) : (upTo k n).length = n := by simp [upTo]; omega
theorem upTo_set {k n : Nat} (h : k < n) : (upTo k n).set k k = upTo (k + 1) n := by
  apply List.ext_getElem?
  intro j
  unfold upTo
  rw [List.getElem?_set]
  by_cases e : k = j
  · subst e
    rw [if_pos rfl, if_pos (by simp; omega), List.getElem?_append_left (by simp), List.getElem?_range (by omega)]
  · rw [if_neg e]
    by_cases e2 : j < k
    · rw [List.getElem?_append_left (by simpa using e2), List.getElem?_append_left (by simp; omega), List.getElem?_range e2, List.getElem?_range (by omega)]
    · rw [List.getElem?_append_right (by simp; omega), List.getElem?_append_right (by simp; omega)]
      simp only [List.length_range, List.getElem?_replicate]
      by_cases e3 : j < n
      · rw [if_pos (by omega), if_pos (by omega)]
      · rw [if_neg (by omega), if_neg (by omega)]

/-- How a plan is answered. -/
def MakeEnd (d n : Nat) (w : World) (e : Ending) (w' : World) : Prop :=
  ∃ ga gc oa oc, e = .returned (.tuple #[.agg #[.int .i64 (n : Int), .slice ga (cg d) gc, .slice oa n oc], .int .i64 0]) ∧ SlAt 2 w' ga gc (cg d) (flatG (Wr.count d (List.range n)).1) ∧ NsAt w' oa (fun _ => False) (Wr.count d (List.range n)).2 ∧ Below w.heap.size w w'
/-- The same, and that the plan lies in new blocks. -/
def MakeNew (d n : Nat) (w : World) (e : Ending) (w' : World) : Prop :=
  ∃ ga gc oa oc, e = .returned (.tuple #[.agg #[.int .i64 (n : Int), .slice ga (cg d) gc, .slice oa n oc], .int .i64 0]) ∧ SlAt 2 w' ga gc (cg d) (flatG (Wr.count d (List.range n)).1) ∧ NsAt w' oa (fun _ => False) (Wr.count d (List.range n)).2 ∧ (∀ j, inB ga j → w.heap.size ≤ j) ∧ (∀ j, inB oa j → w.heap.size ≤ j) ∧ Below w.heap.size w w'
theorem plan_start (w : World) (b : Nat) (wd : Int) (h : BoxAt w b [.int .i64 wd, .slice none 0 0, .slice none 0 0]) : PlanAt w b none 0 wd 0 none 0 0 [] :=
  ⟨h, SlAt.nil _ _, rfl, fun e => by obtain ⟨x, hx, _⟩ := e; cases hx⟩
theorem legal_pow {d n : Nat} (hd : d ≤ 4) (hn : n = 2 ^ d) : legal 4 (n : Int) = 0 ∧ 1 ≤ n ∧ n ≤ 16 := by
  have : d = 0 ∨ d = 1 ∨ d = 2 ∨ d = 3 ∨ d = 4 := by omega
  rcases this with rfl | rfl | rfl | rfl | rfl <;> subst hn <;> decide
theorem cg_le {d : Nat} (hd : d ≤ 4) : cg d ≤ 100 := by
  have : d = 0 ∨ d = 1 ∨ d = 2 ∨ d = 3 ∨ d = 4 := by omega
  rcases this with rfl | rfl | rfl | rfl | rfl <;> decide

/-- What holds between two rounds. -/
def MR (w : World) (n rb pb sb k : Nat) (wr : World) : Prop :=
  BoxAt wr rb [.int .i64 0, .slice none 0 0, .slice none 0 0] ∧ BoxAt wr pb [.int .i64 (n : Int), .slice none 0 0, .slice none 0 0] ∧ BoxAt wr sb (vals (upTo k n)) ∧ w.heap.size ≤ rb ∧ rb < pb ∧ pb < sb ∧ Below w.heap.size w wr

set_option maxRecDepth 20000 in
set_option maxHeartbeats 4000000 in
theorem make_new (d n : Nat) (hd : d ≤ 4) (hn : n = 2 ^ d) (w : World) : Calls Tryz.prog 88 #[.int .i64 (n : Int)] w (MakeNew d n w) := by
  obtain ⟨hl, hn1, hn16⟩ := legal_pow hd hn
  have hcg := cg_le hd
  have HN := hidq (And.intro hd (And.intro hn hcg))
  have hL := legal_any 4 (n : Int) (w.alloc (.cells #[.int .i64 0, .slice none 0 0, .slice none 0 0] 139))
  rw [hl] at hL
  have hB0 := BoxAt.new w [.int .i64 0, .slice none 0 0, .slice none 0 0] 139
  have hb0 : Below w.heap.size w (w.alloc (.cells #[.int .i64 0, .slice none 0 0, .slice none 0 0] 139)) := (Below.refl _ _).alloc (Nat.le_refl _) _
  have H0 := hidq (And.intro hB0 hb0)
  have hmk := zerosI n (by omega)
  clear hd hn hcg hl hB0 hb0
  go_enter Tryz.func88, Tryz.ntmps88
  go_wp2_with fail
  refine hL.mono ?_
  rintro e w1 ⟨rfl, hb1⟩
  clear hL
  obtain ⟨rb, hrb⟩ : ∃ rb, w.heap.size = rb := ⟨_, rfl⟩
  obtain ⟨hB0, hb0⟩ := H0.out
  have hB1 := hB0.below hb1
  have hb01 : Below w.heap.size w w1 := hb0.trans (hb1.mono (by simp))
  rw [hrb] at hB1
  obtain ⟨pb, hpb⟩ : ∃ pb, w1.heap.size = pb := ⟨_, rfl⟩
  have hlp : rb < pb := by have := hb1.size; simp at this; omega
  obtain ⟨W2, hW2⟩ : ∃ W2, w1.alloc (.cells #[.int .i64 (n : Int), .slice none 0 0, .slice none 0 0] 139) = W2 := ⟨_, rfl⟩
  have hB2 := BoxAt.new w1 [.int .i64 (n : Int), .slice none 0 0, .slice none 0 0] 139
  have hb12 : Below w1.heap.size w1 W2 := by rw [← hW2]; exact (Below.refl _ _).alloc (Nat.le_refl _) _
  rw [show w1.alloc (.cells [.int .i64 (n : Int), .slice none 0 0, .slice none 0 0].toArray 139) = W2 from hW2, hpb] at hB2
  have hs2 : W2.heap.size = pb + 1 := by rw [← hW2]; simp [hpb]
  obtain ⟨W3, hW3⟩ : ∃ W3, W2.alloc (.cells (List.replicate n (Value.int .i64 0)).toArray 3) = W3 := ⟨_, rfl⟩
  have hB3 := BoxAt.new W2 (List.replicate n (Value.int .i64 0)) 3
  rw [hW3, ← vals_zero, hs2] at hB3
  have hb23 : Below W2.heap.size W2 W3 := by rw [← hW3]; exact (Below.refl _ _).alloc (Nat.le_refl _) _
  have HR := hidq (show MR w n rb pb (pb + 1) 0 W3 from
    ⟨(hB1.below hb12).below hb23, hB2.below hb23, by simpa [upTo] using hB3, by omega, hlp, by omega, (hb01.trans (hb12.mono hb01.size)).trans (hb23.mono (by have := hb01.size; have := hb12.size; omega))⟩)
  have hW3' : W2.alloc (.cells (Array.replicate n (Value.int .i64 0)) 3) = W3 := by rw [← hW3, List.toArray_replicate]
  have HW := hidq (And.intro hW2 hW3')
  clear hB0 hb0 hB1 hb1 hB2 hb12 hB3 hb23 hb01 H0 hW3 hW3' hW2 hs2
  go_wp2_with fail
  rw [HW.out.1]
  rw [HW.out.2]
  clear HW hmk
  go_loopw [20] (fun s20 wr => ∃ k : Nat, s20 = .int .i64 (k : Int) ∧ k ≤ n ∧ Hid (MR w n rb pb (pb + 1) k wr)) (fun s20 _ => n - (intOf s20).toNat)
  case atStart => exact ⟨0, rfl, Nat.zero_le _, HR⟩
  case round =>
    obtain ⟨k, rfl, hk, hR⟩ := hrel
    clear HR
    by_cases hlt : k < n
    · have hltI : (k : Int) < (n : Int) := by omega
      obtain ⟨h1, h2, h3, h4, h5, h6, h7⟩ := hR.out
      obtain ⟨c1, z1⟩ := h3.get k (.int .i64 (((upTo k n)[k]'(by rw [upTo_len hk]; exact hlt) : Nat) : Int)) (by simp [vals, upTo_len hk, hlt])
      have HN2 := hidq (show MR w n rb pb (pb + 1) (k + 1) (wr.setCell ⟨pb + 1, k, none⟩ (.int .i64 (k : Int))) from by
        have hb : But (fun j => j = pb + 1) wr (wr.setCell ⟨pb + 1, k, none⟩ (.int .i64 (k : Int))) := (But.refl (fun j => j = pb + 1) wr).set1 _ _ rfl _
        refine ⟨h1.but hb (by omega), h2.but hb (by omega), ?_, h4, h5, h6, h7.setCell (by show w.heap.size ≤ pb + 1; omega) _⟩
        have := h3.set k (.int .i64 (k : Int))
        rw [vals_set, upTo_set hlt] at this
        exact this)
      clear h1 h2 h3 h4 h5 h6 h7 hR
      go_wp2_with fail
      go_roundw
      case rel => exact ⟨k + 1, by go_num, by omega, HN2⟩
      case measure => simp [intOf]; omega
    · have hd : decide ((k : Int) < (n : Int)) = false := decide_eq_false (by omega)
      have hd2 : decide (k < n) = false := decide_eq_false (by omega)
      have hkn : k = n := by omega
      have hR2 := hR.out
      rw [hkn] at hR2
      obtain ⟨h1, h2, h3, h4, h5, h6, h7⟩ := hR2
      have e0 : upTo n n = List.range n := by simp [upTo]
      rw [e0] at h3
      have k1 := count_any d wr pb none 0 (n : Int) 0 none 0 0 [] (pb + 1) 0 n n (List.range n) (plan_start _ _ _ h2) (h3.ns _ (fun e => e.elim (fun e => by omega) (fun ⟨x, hx, _⟩ => by cases hx))) (by simp) HN.out.2.1 (by omega) (Nat.le_refl _) (by omega) (by have := HN.out.2.2; omega)
      have H1 := hidq (And.intro h1 (And.intro h4 (And.intro h5 (And.intro h6 h7))))
      clear h1 h2 h3 h4 h5 h6 h7 hR hkn e0
      go_wp2_with fail
      refine k1.mono ?_
      rintro e w4 ⟨ga, gc, ra, rc, n', rfl, hn', hP, hE, hR4, hQ4⟩
      clear k1
      have hlen : (List.range n).length = 2 ^ d := by rw [List.length_range]; exact HN.out.2.1
      obtain rfl : n' = n := by rw [← hn', Wr.count_length d _ hlen]; exact HN.out.2.1.symm
      have hcgl := count_gates d _ hlen
      rw [Nat.zero_add, hcgl, List.nil_append] at hP
      obtain ⟨h1, h4, h5, h6, h7⟩ := H1.out
      have hps : ∀ j, pset pb none j → j = pb := by
        rintro j (h | ⟨x, hx, _⟩)
        · exact h
        · cases hx
      have hB1 := h1.but hE.1 (fun e => by have := hps _ e; omega)
      have hb4 : Below w.heap.size w w4 := h7.trans (hE.1.below h7.size (fun j hj => by have := hps _ hj; omega))
      obtain ⟨c0, z0⟩ := hP.box.get 0 _ rfl
      obtain ⟨c1, z1⟩ := hP.box.get 1 _ rfl
      obtain ⟨c2, z2⟩ := hP.box.get 2 _ rfl
      obtain ⟨d0, y0⟩ := hB1.get 0 _ rfl
      obtain ⟨d1, y1⟩ := hB1.get 1 _ rfl
      obtain ⟨d2, y2⟩ := hB1.get 2 _ rfl
      have HK := hidq (And.intro hP (And.intro hE (And.intro hR4 (And.intro hQ4 (And.intro hB1 hb4)))))
      clear hP hE hR4 hQ4 hB1 hb4 h1 h4 h7 hcgl hlen hn'
      have hne : ¬ rb = pb := by omega
      go_wp2_with fail
      obtain ⟨W, hW⟩ : ∃ W, (((w4.setCell ⟨pb, 2, none⟩ (.slice ra n' rc)).setCell ⟨rb, 0, none⟩ (.int .i64 (n' : Int))).setCell ⟨rb, 1, none⟩ (.slice ga (cg d) gc)).setCell ⟨rb, 2, none⟩ (.slice ra n' rc) = W := ⟨_, rfl⟩
      rw [hW]
      obtain ⟨hP, hE, hR4, hQ4, hB1, hb4⟩ := HK.out
      have hrl : rb < wr.heap.size := H1.out.1.lt
      have hb5 : But (fun j => j = pb) w4 (w4.setCell ⟨pb, 2, none⟩ (.slice ra n' rc)) := (But.refl (fun j => j = pb) w4).set1 _ _ rfl _
      have hB5 := (((hB1.but hb5 (by omega)).set 0 (.int .i64 (n' : Int))).set 1 (.slice ga (cg d) gc)).set 2 (.slice ra n' rc)
      have hbW : But (fun j => j = pb ∨ j = rb) w4 W := by
        rw [← hW]
        exact ((((But.refl (fun j => j = pb ∨ j = rb) w4).set1 pb 2 (.inl rfl) _).set1 rb 0 (.inr rfl) _).set1 rb 1 (.inr rfl) _).set1 rb 2 (.inr rfl) _
      rw [hW] at hB5
      have hEnd : MakeNew d n' w (.returned (.tuple #[.agg #[.int .i64 (n' : Int), .slice ga (cg d) gc, .slice ra n' rc], .int .i64 0])) W := by
        have hs4 := hb4.size
        refine ⟨ga, gc, ra, rc, rfl, hP.sl.but hbW ?_, ?_, fun j hj => ?_, fun j hj => ?_, ?_⟩
        · intro j hj e
          rcases e with e | e
          · subst e; exact hP.ne hj
          · subst e
            rcases hE.2 _ (.inr hj) with h | h
            · have := hps _ h; omega
            · omega
        · intro i v hv
          obtain ⟨b, off, e1, e2, e3, e4⟩ := hR4 i v hv
          have hnb : ¬ (b = pb ∨ b = rb) := fun e => by
            rcases e with e | e
            · exact e3 (.inl e)
            · rcases hQ4 b ⟨_, e1, rfl⟩ with ⟨x, hx, hx2⟩ | h
              · cases hx; simp at hx2; omega
              · omega
          exact ⟨b, off, e1, Nat.lt_of_lt_of_le e2 hbW.size, id, by rw [hbW.cell (p := ⟨b, off + i, none⟩) e2 hnb]; exact e4⟩
        · rcases hE.2 _ (.inr hj) with h | h
          · have := hps _ h; omega
          · omega
        · rcases hQ4 j hj with ⟨x, hx, hx2⟩ | h
          · cases hx; simp at hx2; omega
          · omega
        · exact hb4.trans (hbW.below hs4 (fun j hj => by rcases hj with h | h <;> omega))
      have q0 := (hB5.get 0 _ rfl).1
      have q1 := (hB5.get 1 _ rfl).1
      have q2 := (hB5.get 2 _ rfl).1
      have HEnd := hidq hEnd
      clear hB5 hbW hb5 hB1 hP hE hR4 hQ4 hb4 hW HK hEnd hrl c0 c1 c2 z0 z1 z2 d0 d1 d2 y0 y1 y2
      exact bodyPost_ret (v := .tuple #[.agg #[.int .i64 (n' : Int), .slice ga (cg d) gc, .slice ra n' rc], .int .i64 0]) (by simp [results, Tryz.results88, go_sem, q0, q1, q2]) rfl HEnd.out
theorem make_ok (d n : Nat) (hd : d ≤ 4) (hn : n = 2 ^ d) (w : World) : Calls Tryz.prog 88 #[.int .i64 (n : Int)] w (MakeEnd d n w) :=
  (make_new d n hd hn w).mono (fun e w' h => by obtain ⟨ga, gc, oa, oc, h1, h2, h3, _, _, h4⟩ := h; exact ⟨ga, gc, oa, oc, h1, h2, h3, h4⟩)
end Go.Proofs.YtbcmilfajeanbaaGreat

namespace Go.Proofs.YtbcmilfajeanbaaGreat
open Go.RowKit Go.Sort
theorem legal4_cases (p : Int) : legal 4 p = 5 ∨ (legal 4 p = 0 ∧ ∃ d : Nat, d ≤ 4 ∧ p = ((2 ^ d : Nat) : Int)) := by
  by_cases h : 1 ≤ p ∧ p ≤ 16
  · by_cases h2 : pow2 p = false
    · exact .inl (legal_net (by decide) h ⟨rfl, h2⟩)
    · refine .inr ⟨legal_ok (by decide) h (fun e => h2 e.2), ?_⟩
      have h3 : p = 1 ∨ p = 2 ∨ p = 4 ∨ p = 8 ∨ p = 16 := by
        have : pow2 p = true := by cases h4 : pow2 p with | true => rfl | false => exact absurd h4 h2
        exact of_decide_eq_true this
      rcases h3 with rfl | rfl | rfl | rfl | rfl
      · exact ⟨0, by decide, rfl⟩
      · exact ⟨1, by decide, rfl⟩
      · exact ⟨2, by decide, rfl⟩
      · exact ⟨3, by decide, rfl⟩
      · exact ⟨4, by decide, rfl⟩
  · exact .inl (legal_par (by decide) h)

set_option maxRecDepth 20000 in
set_option maxHeartbeats 4000000 in
theorem make_no (p : Int) (w : World) (h : legal 4 p = 5) : Calls Tryz.prog 88 #[.int .i64 p] w fun e w' => e = .returned (.tuple #[.agg #[.int .i64 0, .slice none 0 0, .slice none 0 0], .int .i64 5]) ∧ Below w.heap.size w w' := by
  have hL := legal_any 4 p (w.alloc (.cells #[.int .i64 0, .slice none 0 0, .slice none 0 0] 139))
  rw [h] at hL
  have hB0 := BoxAt.new w [.int .i64 0, .slice none 0 0, .slice none 0 0] 139
  have hb0 : Below w.heap.size w (w.alloc (.cells #[.int .i64 0, .slice none 0 0, .slice none 0 0] 139)) := (Below.refl _ _).alloc (Nat.le_refl _) _
  have H0 := hidq (And.intro hB0 hb0)
  clear h hB0 hb0
  go_enter Tryz.func88, Tryz.ntmps88
  go_wp2_with fail
  refine hL.mono ?_
  rintro e w1 ⟨rfl, hb1⟩
  clear hL
  obtain ⟨rb, hrb⟩ : ∃ rb, w.heap.size = rb := ⟨_, rfl⟩
  obtain ⟨hB0, hb0⟩ := H0.out
  have hB1 := hB0.below hb1
  rw [hrb] at hB1
  have hb01 : Below w.heap.size w w1 := hb0.trans (hb1.mono (by simp))
  obtain ⟨d0, y0⟩ := hB1.get 0 _ rfl
  obtain ⟨d1, y1⟩ := hB1.get 1 _ rfl
  obtain ⟨d2, y2⟩ := hB1.get 2 _ rfl
  have hrl : rb < w1.heap.size := hB1.lt
  obtain ⟨W9, hW9⟩ : ∃ W9, ((w1.setCell ⟨rb, 0, none⟩ (.int .i64 0)).setCell ⟨rb, 1, none⟩ (.slice none 0 0)).setCell ⟨rb, 2, none⟩ (.slice none 0 0) = W9 := ⟨_, rfl⟩
  have hB9 : BoxAt W9 rb [.int .i64 0, .slice none 0 0, .slice none 0 0] := by rw [← hW9]; exact box_cells (cs := [.int .i64 0, .slice none 0 0, .slice none 0 0]) hB1 rfl
  have hb9 : But (fun j => j = rb) w1 W9 := by rw [← hW9]; exact but_setCells rb [.int .i64 0, .slice none 0 0, .slice none 0 0] 0 w1 w1 (But.refl _ _)
  have q0 := (hB9.get 0 _ rfl).1
  have q1 := (hB9.get 1 _ rfl).1
  have q2 := (hB9.get 2 _ rfl).1
  have HEnd := hidq (hb01.trans (hb9.below hb01.size (fun j hj => by omega)))
  have HW9 := hidq hW9
  clear hB0 hb0 hB1 hb1 H0 hb01 hB9 hb9 hW9
  go_wp2_with fail
  rw [HW9.out]
  exact bodyPost_ret (v := .tuple #[.agg #[.int .i64 0, .slice none 0 0, .slice none 0 0], .int .i64 5]) (by simp [results, Tryz.results88, go_sem, q0, q1, q2]) rfl ⟨rfl, HEnd.out⟩
end Go.Proofs.YtbcmilfajeanbaaGreat
