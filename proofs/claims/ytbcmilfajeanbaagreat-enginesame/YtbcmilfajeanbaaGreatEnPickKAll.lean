/-
  Layer 13: a step is picked, of a machine of one kind: contract.
  Layer 13: a step is picked, of a machine of one kind: contract.
  Layer 13: a step is picked, of a machine of one kind: contract.
-/
import Derived.Test.YtbcmilfajeanbaaGreatRegionAll
import Derived.Test.YtbcmilfajeanbaaGreatOpIn6All
import Derived.Test.YtbcmilfajeanbaaGreatStepReg13All
namespace Go.Proofs.YtbcmilfajeanbaaGreat
open Go.RowKit Go.Sort

def pickTR (eb fb mb : Nat) (r : Mem × Fr × Ans × Bool) (sh : Int) : List (Value → Ar.Gh → World → Prop) :=
  [fun u0 _ _ => u0 = .pointer (some ⟨eb, 0, none⟩),
   fun u0 _ _ => u0 = .pointer (some ⟨eb, 0, none⟩),
   fun u0 _ _ => u0 = .pointer (some ⟨eb, 2, none⟩),
   fun u0 _ _ => u0 = .iface 155 (.agg #[.int .i64 sh]),
   fun u0 _ _ => u0 = .pointer (some ⟨eb, 0, none⟩),
   fun u0 _ _ => u0 = .pointer (some ⟨eb, 0, none⟩),
   fun u0 _ _ => u0 = .pointer (some ⟨eb, 3, none⟩),
   fun u0 _ _ => u0 = .pointer (some ⟨mb, 0, none⟩),
   fun u0 _ _ => u0 = .pointer (some ⟨fb, 0, none⟩),
   fun u0 _ _ => u0 = .iface 155 (.agg #[.int .i64 sh]),
   fun u0 _ _ => u0 = .iface 155 (.agg #[.int .i64 sh]),
   fun u0 _ _ => u0 = .tuple #[.agg #[.bool r.2.2.1.ok, .float .f64 r.2.2.1.pri, .int .i64 r.2.2.1.val, .int .i64 r.2.2.1.n], .bool r.2.2.2],
   fun u0 _ _ => u0 = .tuple #[.agg #[.bool r.2.2.1.ok, .float .f64 r.2.2.1.pri, .int .i64 r.2.2.1.val, .int .i64 r.2.2.1.n], .bool r.2.2.2],
   fun u0 _ _ => u0 = .agg #[.bool r.2.2.1.ok, .float .f64 r.2.2.1.pri, .int .i64 r.2.2.1.val, .int .i64 r.2.2.1.n],
   fun u0 _ _ => u0 = .bool r.2.2.2,
   fun u0 x _ => ∃ bx, x.2 = some bx ∧ u0 = .pointer (some ⟨bx, 0, none⟩),
   fun _ _ _ => True,
   fun u0 _ _ => u0 = .bool r.2.2.2]
theorem pickTR_kept (eb fb mb : Nat) (r : Mem × Fr × Ans × Bool) (sh : Int) : Reg.GAllKept Ar.Pres (pickTR eb fb mb r sh) :=
  ⟨(fun _ _ _ _ _ _ h => h), (fun _ _ _ _ _ _ h => h), (fun _ _ _ _ _ _ h => h), (fun _ _ _ _ _ _ h => h), (fun _ _ _ _ _ _ h => h), (fun _ _ _ _ _ _ h => h), (fun _ _ _ _ _ _ h => h), (fun _ _ _ _ _ _ h => h), (fun _ _ _ _ _ _ h => h), (fun _ _ _ _ _ _ h => h), (fun _ _ _ _ _ _ h => h), (fun _ _ _ _ _ _ h => h), (fun _ _ _ _ _ _ h => h), (fun _ _ _ _ _ _ h => h), (fun _ _ _ _ _ _ h => h), (fun _ _ _ _ _ hp h => by obtain ⟨bx, h1, h2⟩ := h; exact ⟨bx, hp bx h1, h2⟩), (fun _ _ _ _ _ _ h => h), (fun _ _ _ _ _ _ h => h), trivial⟩

set_option maxRecDepth 20000 in
set_option maxHeartbeats 8000000 in
theorem pickT_any (sh : Int) (eb : Nat) (kind param : Int) (mb : Nat) (Q : Nat → Option Nat) (closed : Bool) (steps : Nat) (pick : Int) (t fb : Nat) (O P : Nat → Prop) (r : Mem × Fr × Ans × Bool) (w : World)
    (hE : BoxAt w eb (ecells kind param 155 (.agg #[.int .i64 sh]) mb Q closed (steps : Int))) (hb : (busyTo Q 6)[(into pick (busyTo Q 6).length).toNat]? = some t) (hQ : Q t = some fb) (hst : steps < 4611686018427387904)
    (hlt : ∀ k, O k ∨ P k → k < w.heap.size) (hne : ¬ (O eb ∨ P eb)) (hfb : ∃ a0 k0 a1 k1 F0, BoxAt w fb (Fr.l F0 a0 k0 a1 k1))
    (hS : ∀ W, Below w.heap.size w W → Calls Tryz.prog 190 #[.agg #[.int .i64 sh], .pointer (some ⟨mb, 0, none⟩), .pointer (some ⟨fb, 0, none⟩)] W (StepEnd mb fb O P r W)) :
    Calls Tryz.prog 10 #[.pointer (some ⟨eb, 0, none⟩), .int .i64 pick] w (PickEnd eb kind param 155 (.agg #[.int .i64 sh]) mb Q closed steps t fb O P r w) := by
  have hsf := run_store_flt (P := Tryz.prog)
  have hms : ∀ w, (method 369 155 (.agg #[.int .i64 sh]) "Step").run Tryz.prog w = .ok (190, (.agg #[.int .i64 sh])) w := fun w => by kernel_rfl
  obtain ⟨vb, hvb⟩ : ∃ vb, w.heap.size = vb := ⟨_, rfl⟩
  obtain ⟨W0, hW0⟩ : ∃ W0, w.alloc (.cells #[.int .i64 0, .int .i64 0, .float .f64 0, .int .i64 0, .int .i64 0, .int .i64 0, .bool false, .bool false, .float .f64 0, .int .i64 0, .int .i64 0] 48) = W0 := ⟨_, rfl⟩
  have hV0 := BoxAt.new w [.int .i64 0, .int .i64 0, .float .f64 0, .int .i64 0, .int .i64 0, .int .i64 0, .bool false, .bool false, .float .f64 0, .int .i64 0, .int .i64 0] 48
  rw [show w.alloc (.cells [.int .i64 0, .int .i64 0, .float .f64 0, .int .i64 0, .int .i64 0, .int .i64 0, .bool false, .bool false, .float .f64 0, .int .i64 0, .int .i64 0].toArray 48) = W0 from hW0, hvb] at hV0
  have hb0 : Below w.heap.size w W0 := by rw [← hW0]; exact (Below.refl _ _).alloc (Nat.le_refl _) _
  have hn6 := busyTo_le Q 6
  have ht6 : t < 6 := by
    have := List.mem_of_getElem? hb
    exact (busyTo_mem.1 this).1
  have hBz := busy_any eb kind param 155 (.agg #[.int .i64 sh]) mb Q closed (steps : Int) W0 (hE.below hb0)
  obtain ⟨n, hn⟩ : ∃ n, (busyTo Q 6).length = n := ⟨_, rfl⟩
  obtain ⟨l, hl⟩ : ∃ l, busyTo Q 6 = l := ⟨_, rfl⟩
  have hBE : ∀ e w', BusyEnd Q W0 e w' → ∃ a cap, e = .returned (.slice a n cap) ∧ SlAt 1 w' a cap n (vals l) ∧ Below W0.heap.size W0 w' := by
    rintro e w' ⟨a, cap, h1, h2, h3, h4⟩
    rw [hn, hl] at *
    exact ⟨a, cap, h1, h2, h4⟩
  replace hBz := hBz.mono hBE
  clear hBE
  rw [hn, hl] at hb
  have hnl : l.length = n := by rw [← hl]; exact hn
  rw [hn] at hn6
  have hn1 : 1 ≤ n := by
    have := (List.getElem?_eq_some_iff.1 hb).1
    omega
  obtain ⟨j, hj, hjn⟩ : ∃ j : Nat, into pick (n : Int) = (j : Int) ∧ j < n := by
    have := into_rng (d := pick) (n := (n : Int)) (by omega)
    exact ⟨(into pick (n : Int)).toNat, by omega, by omega⟩
  rw [hj] at hb
  have hb' : l[j]? = some t := hb
  have hIn := fun w => into_any pick (n : Int) w (by omega)
  rw [hj] at hIn
  have hne0 : ((n : Int) == 0) = false := by simp; omega
  have hne0' : (n == 0) = false := by simp; omega
  have HH := hidq (And.intro hE (And.intro hV0 (And.intro hb0 (And.intro hlt (And.intro hne hfb)))))
  have HS0 := hidq hS
  have HQ := hidq hQ
  have HB := hidq hb'
  have HI := hidq hIn
  have hel := hE.lt
  have HVB := hidq hvb
  clear hE hV0 hb0 hlt hne hfb hS hQ hb hb' hn hl hnl hj hIn
  go_enter Tryz.func10, Tryz.ntmps10
  go_wp2_with fail
  refine hBz.mono ?_
  rintro e w1 ⟨a, cap, rfl, hSl, hb1⟩
  clear hBz
  obtain ⟨hE, hV0, hb0, hlt, hne, hfb⟩ := HH.out
  obtain ⟨g, rfl, hgl, hgc⟩ := hSl.cell (t := j) (u := .int .i64 (t : Int)) (by simp [vals, HB.out])
  have hb01 := hb0.trans (hb1.mono hb0.size)
  have hE1 := hE.below hb01
  have hV1 := hV0.below hb1
  have hthr := (hE1.get (4 + t) _ (ecells_thread kind param 155 (.agg #[.int .i64 sh]) mb Q closed (steps : Int) t ht6)).1
  rw [HQ.out] at hthr
  replace hthr : w1.cell? ⟨eb, 4 + t, none⟩ = some (.pointer (some ⟨fb, 0, none⟩)) := hthr
  have hel1 := hE1.lt
  have H1 := hidq (And.intro hE1 (And.intro hV1 (And.intro hb01 (show ∀ k, O k ∨ P k → k < w1.heap.size from fun k hk => Nat.lt_of_lt_of_le (hlt k hk) hb01.size))))
  have hS1 := hidq (fun W (hW : Below w1.heap.size w1 W) => HS0.out W (hb01.trans (hW.mono hb01.size)))
  have hcp := hSl.le
  have HNE := hidq (And.intro hne (And.intro hlt hfb))
  clear hSl hE hV0 hb0 hlt hne hfb hb1 hb01 hE1 hV1 HH HS0
  clear hW0
  go_wp2_with fail
  refine (HI.out _).mono ?_
  rintro e w2 ⟨rfl, hw2⟩
  replace hw2 := hw2.symm
  subst hw2
  clear HI
  go_wp2_with fail
  refine Reg.wp_region_ghost (Reg.gofList (pickTR eb fb mb r sh)) Ar.Pres (Er.GI w1 mb fb O P r 11 15 16) (O, none) (by kernel_rfl) (by kernel_rfl) (Reg.GAllKept.at _ (pickTR_kept eb fb mb r sh)) (Er.GI.start w1 mb fb O P r 11 15 16 H1.out.2.2.2 _) ⟨?_, ?_, ?_, ?_, ?_, ?_, ?_, ?_, ?_, ?_, ?_, ?_, ?_, ?_, ?_, ?_, ?_, ?_, trivial⟩ ?_
  · refine Reg.GStepAt.plain (i := 0) rfl ?_
    intro x L ev w hI hk hp hA
    have e0 : ev (.tmp 0) = .pointer (some ⟨eb, 0, none⟩) := hA.oldNone 0 (by kernel_rfl)
    have hcc := hA.const
    clear hA hp
    refine Reg.out_value (v := .pointer (some ⟨eb, 0, none⟩)) ?_ ⟨x, rfl, Ar.Pres.refl _ _ _, hI.quiet 0 (by decide) (by decide) (by decide)⟩
    go_simp
  · refine Reg.GStepAt.plain (i := 1) rfl ?_
    intro x L ev w hI hk hp hA
    have e31 : ev (.tmp 31) = .pointer (some ⟨eb, 0, none⟩) := hA.val 0 _ 31 rfl (hp ⟨0, .data⟩ (by simp) rfl) rfl
    have hcc := hA.const
    clear hA hp
    refine Reg.out_value (v := .pointer (some ⟨eb, 0, none⟩)) ?_ ⟨x, rfl, Ar.Pres.refl _ _ _, hI.quiet 1 (by decide) (by decide) (by decide)⟩
    go_simp
  · refine Reg.GStepAt.plain (i := 2) rfl ?_
    intro x L ev w hI hk hp hA
    have e32 : ev (.tmp 32) = .pointer (some ⟨eb, 0, none⟩) := hA.val 1 _ 32 rfl (hp ⟨1, .data⟩ (by simp) rfl) rfl
    have hcc := hA.const
    clear hA hp
    refine Reg.out_value (v := .pointer (some ⟨eb, 2, none⟩)) ?_ ⟨x, rfl, Ar.Pres.refl _ _ _, hI.quiet 2 (by decide) (by decide) (by decide)⟩
    go_simp
  · refine Reg.GStepAt.plain (i := 3) rfl ?_
    intro x L ev w hI hk hp hA
    have e33 : ev (.tmp 33) = .pointer (some ⟨eb, 2, none⟩) := hA.val 2 _ 33 rfl (hp ⟨2, .data⟩ (by simp) rfl) rfl
    have hcc := hA.const
    clear hA hp
    have f2 := ((H1.out.1.but hI.chg HNE.out.1).get 2 _ rfl).1
    have f3 := ((H1.out.1.but hI.chg HNE.out.1).get 3 _ rfl).1
    have hel := (H1.out.1.but hI.chg HNE.out.1).lt
    refine Reg.out_value (v := .iface 155 (.agg #[.int .i64 sh])) ?_ ⟨x, rfl, Ar.Pres.refl _ _ _, hI.quiet 3 (by decide) (by decide) (by decide)⟩
    go_simp
  · refine Reg.GStepAt.plain (i := 4) rfl ?_
    intro x L ev w hI hk hp hA
    have e0 : ev (.tmp 0) = .pointer (some ⟨eb, 0, none⟩) := hA.oldNone 0 (by kernel_rfl)
    have hcc := hA.const
    clear hA hp
    refine Reg.out_value (v := .pointer (some ⟨eb, 0, none⟩)) ?_ ⟨x, rfl, Ar.Pres.refl _ _ _, hI.quiet 4 (by decide) (by decide) (by decide)⟩
    go_simp
  · refine Reg.GStepAt.plain (i := 5) rfl ?_
    intro x L ev w hI hk hp hA
    have e35 : ev (.tmp 35) = .pointer (some ⟨eb, 0, none⟩) := hA.val 4 _ 35 rfl (hp ⟨4, .data⟩ (by simp) rfl) rfl
    have hcc := hA.const
    clear hA hp
    refine Reg.out_value (v := .pointer (some ⟨eb, 0, none⟩)) ?_ ⟨x, rfl, Ar.Pres.refl _ _ _, hI.quiet 5 (by decide) (by decide) (by decide)⟩
    go_simp
  · refine Reg.GStepAt.plain (i := 6) rfl ?_
    intro x L ev w hI hk hp hA
    have e36 : ev (.tmp 36) = .pointer (some ⟨eb, 0, none⟩) := hA.val 5 _ 36 rfl (hp ⟨5, .data⟩ (by simp) rfl) rfl
    have hcc := hA.const
    clear hA hp
    refine Reg.out_value (v := .pointer (some ⟨eb, 3, none⟩)) ?_ ⟨x, rfl, Ar.Pres.refl _ _ _, hI.quiet 6 (by decide) (by decide) (by decide)⟩
    go_simp
  · refine Reg.GStepAt.plain (i := 7) rfl ?_
    intro x L ev w hI hk hp hA
    have e37 : ev (.tmp 37) = .pointer (some ⟨eb, 3, none⟩) := hA.val 6 _ 37 rfl (hp ⟨6, .data⟩ (by simp) rfl) rfl
    have hcc := hA.const
    clear hA hp
    have f2 := ((H1.out.1.but hI.chg HNE.out.1).get 2 _ rfl).1
    have f3 := ((H1.out.1.but hI.chg HNE.out.1).get 3 _ rfl).1
    have hel := (H1.out.1.but hI.chg HNE.out.1).lt
    refine Reg.out_value (v := .pointer (some ⟨mb, 0, none⟩)) ?_ ⟨x, rfl, Ar.Pres.refl _ _ _, hI.quiet 7 (by decide) (by decide) (by decide)⟩
    go_simp
  · refine Reg.GStepAt.plain (i := 8) rfl ?_
    intro x L ev w hI hk hp hA
    have e8 : ev (.tmp 8) = .pointer (some ⟨fb, 0, none⟩) := hA.oldNone 8 (by kernel_rfl)
    have hcc := hA.const
    clear hA hp
    refine Reg.out_value (v := .pointer (some ⟨fb, 0, none⟩)) ?_ ⟨x, rfl, Ar.Pres.refl _ _ _, hI.quiet 8 (by decide) (by decide) (by decide)⟩
    go_simp
  · refine Reg.GStepAt.plain (i := 9) rfl ?_
    intro x L ev w hI hk hp hA
    have e34 : ev (.tmp 34) = .iface 155 (.agg #[.int .i64 sh]) := hA.val 3 _ 34 rfl (hp ⟨3, .data⟩ (by simp) rfl) rfl
    have hcc := hA.const
    clear hA hp
    refine Reg.out_value (v := .iface 155 (.agg #[.int .i64 sh])) ?_ ⟨x, rfl, Ar.Pres.refl _ _ _, hI.quiet 9 (by decide) (by decide) (by decide)⟩
    go_simp
  · refine Reg.GStepAt.plain (i := 10) rfl ?_
    intro x L ev w hI hk hp hA
    have e34 : ev (.tmp 34) = .iface 155 (.agg #[.int .i64 sh]) := hA.val 3 _ 34 rfl (hp ⟨3, .data⟩ (by simp) rfl) rfl
    have hcc := hA.const
    clear hA hp
    refine Reg.out_value (v := .iface 155 (.agg #[.int .i64 sh])) ?_ ⟨x, rfl, Ar.Pres.refl _ _ _, hI.quiet 10 (by decide) (by decide) (by decide)⟩
    go_simp
  · refine Reg.GStepAt.plain (i := 11) rfl ?_
    intro x L ev w hI hk hp hA
    have e41 : ev (.tmp 41) = .iface 155 (.agg #[.int .i64 sh]) := hA.val 10 _ 41 rfl (hp ⟨10, .data⟩ (by simp) rfl) rfl
    have e38 : ev (.tmp 38) = .pointer (some ⟨mb, 0, none⟩) := hA.val 7 _ 38 rfl (hp ⟨7, .data⟩ (by simp) rfl) rfl
    have e39 : ev (.tmp 39) = .pointer (some ⟨fb, 0, none⟩) := hA.val 8 _ 39 rfl (hp ⟨8, .data⟩ (by simp) rfl) rfl
    have hcc := hA.const
    clear hA hp
    refine Reg.out_call (f := 190) (args := #[.agg #[.int .i64 sh], .pointer (some ⟨mb, 0, none⟩), .pointer (some ⟨fb, 0, none⟩)]) (w0 := w) ?_ ?_
    · go_simp
    refine (hS1.out w (hI.pre hk)).mono ?_
    rintro e w' ⟨rfl, O', P', h1, h2, h3, h4, h5, h6⟩
    exact ⟨_, rfl, (fun k => O' k ∨ P' k, x.2), rfl, fun _ h => h, hI.call hk (by decide) (by decide) h1 h2 h3 h4 h5 h6⟩
  · refine Reg.GStepAt.plain (i := 12) rfl ?_
    intro x L ev w hI hk hp hA
    have e42 : ev (.tmp 42) = .tuple #[.agg #[.bool r.2.2.1.ok, .float .f64 r.2.2.1.pri, .int .i64 r.2.2.1.val, .int .i64 r.2.2.1.n], .bool r.2.2.2] := hA.val 11 _ 42 rfl (hp ⟨11, .data⟩ (by simp) rfl) rfl
    have hcc := hA.const
    clear hA hp
    refine Reg.out_value (v := .tuple #[.agg #[.bool r.2.2.1.ok, .float .f64 r.2.2.1.pri, .int .i64 r.2.2.1.val, .int .i64 r.2.2.1.n], .bool r.2.2.2]) ?_ ⟨x, rfl, Ar.Pres.refl _ _ _, hI.quiet 12 (by decide) (by decide) (by decide)⟩
    go_simp
  · refine Reg.GStepAt.plain (i := 13) rfl ?_
    intro x L ev w hI hk hp hA
    have e30 : ev (.tmp 30) = .tuple #[.agg #[.bool r.2.2.1.ok, .float .f64 r.2.2.1.pri, .int .i64 r.2.2.1.val, .int .i64 r.2.2.1.n], .bool r.2.2.2] := hA.val 12 _ 30 rfl (hp ⟨12, .data⟩ (by simp) rfl) rfl
    have hcc := hA.const
    clear hA hp
    refine Reg.out_value (v := .agg #[.bool r.2.2.1.ok, .float .f64 r.2.2.1.pri, .int .i64 r.2.2.1.val, .int .i64 r.2.2.1.n]) ?_ ⟨x, rfl, Ar.Pres.refl _ _ _, hI.quiet 13 (by decide) (by decide) (by decide)⟩
    go_simp
  · refine Reg.GStepAt.plain (i := 14) rfl ?_
    intro x L ev w hI hk hp hA
    have e30 : ev (.tmp 30) = .tuple #[.agg #[.bool r.2.2.1.ok, .float .f64 r.2.2.1.pri, .int .i64 r.2.2.1.val, .int .i64 r.2.2.1.n], .bool r.2.2.2] := hA.val 12 _ 30 rfl (hp ⟨12, .data⟩ (by simp) rfl) rfl
    have hcc := hA.const
    clear hA hp
    refine Reg.out_value (v := .bool r.2.2.2) ?_ ⟨x, rfl, Ar.Pres.refl _ _ _, hI.quiet 14 (by decide) (by decide) (by decide)⟩
    go_simp
  · refine Reg.GStepAt.plain (i := 15) rfl ?_
    intro x L ev w hI hk hp hA
    have hcc := hA.const
    have hSf : L.getD 16 false = false := by
      cases hq : L.getD 16 false with
      | false => rfl
      | true => have := hA.closed 16 _ rfl hq ⟨15, .data⟩ (by simp) rfl; rw [show (⟨15, .data⟩ : Edge).on = 15 from rfl, Ar.getD_false hk] at this; cases this
    clear hA hp
    refine Reg.out_new (v := .pointer (some ⟨w.heap.size, 0, none⟩)) (w' := w.alloc (.cells Ans.zero.l.toArray 46)) ?_ ⟨(x.1, some w.heap.size), ⟨_, rfl, rfl⟩, fun b hb => (by rw [hI.no (Ar.getD_false hk)] at hb; cases hb), hI.alloc hk hSf (by decide) (by decide) _⟩
    (go_simp; try rfl)
  · refine Reg.GStepAt.plain (i := 16) rfl ?_
    intro x L ev w hI hk hp hA
    have e9 : ∃ bx, x.2 = some bx ∧ ev (.tmp 9) = .pointer (some ⟨bx, 0, none⟩) := hA.val 15 _ 9 rfl (hp ⟨15, .data⟩ (by simp) rfl) rfl
    have e43 : ev (.tmp 43) = .agg #[.bool r.2.2.1.ok, .float .f64 r.2.2.1.pri, .int .i64 r.2.2.1.val, .int .i64 r.2.2.1.n] := hA.val 13 _ 43 rfl (hp ⟨13, .data⟩ (by simp) rfl) rfl
    have hcc := hA.const
    clear hA hp
    obtain ⟨bx, hx, e9⟩ := e9
    have hbx := (hI.box bx hx).2.2.2.2
    rw [Ar.getD_false hk] at hbx
    obtain ⟨g0, x0⟩ := hbx.get 0 _ rfl
    obtain ⟨g1, x1⟩ := hbx.get 1 _ rfl
    obtain ⟨g2, x2⟩ := hbx.get 2 _ rfl
    obtain ⟨g3, x3⟩ := hbx.get 3 _ rfl
    refine Ar.out_skip (w' := setBox w bx r.2.2.1.s) ?_ ⟨x, trivial, Ar.Pres.refl _ _ _, hI.store hk (by decide) (by decide) hx⟩
    clear hbx
    simp only [setBox]
    go_simp
  · refine Reg.GStepAt.plain (i := 17) rfl ?_
    intro x L ev w hI hk hp hA
    have e44 : ev (.tmp 44) = .bool r.2.2.2 := hA.val 14 _ 44 rfl (hp ⟨14, .data⟩ (by simp) rfl) rfl
    have hcc := hA.const
    clear hA hp
    refine Reg.out_value (v := .bool r.2.2.2) ?_ ⟨x, rfl, Ar.Pres.refl _ _ _, hI.quiet 17 (by decide) (by decide) (by decide)⟩
    go_simp
  intro x L act wz hall hI hF
  have q31 : act.eval (.tmp 31) = .pointer (some ⟨eb, 0, none⟩) := hF.val 0 _ 31 rfl (hall 0 (by simp)) rfl
  have q32 : act.eval (.tmp 32) = .pointer (some ⟨eb, 0, none⟩) := hF.val 1 _ 32 rfl (hall 1 (by simp)) rfl
  have q33 : act.eval (.tmp 33) = .pointer (some ⟨eb, 2, none⟩) := hF.val 2 _ 33 rfl (hall 2 (by simp)) rfl
  have q34 : act.eval (.tmp 34) = .iface 155 (.agg #[.int .i64 sh]) := hF.val 3 _ 34 rfl (hall 3 (by simp)) rfl
  have q35 : act.eval (.tmp 35) = .pointer (some ⟨eb, 0, none⟩) := hF.val 4 _ 35 rfl (hall 4 (by simp)) rfl
  have q36 : act.eval (.tmp 36) = .pointer (some ⟨eb, 0, none⟩) := hF.val 5 _ 36 rfl (hall 5 (by simp)) rfl
  have q37 : act.eval (.tmp 37) = .pointer (some ⟨eb, 3, none⟩) := hF.val 6 _ 37 rfl (hall 6 (by simp)) rfl
  have q38 : act.eval (.tmp 38) = .pointer (some ⟨mb, 0, none⟩) := hF.val 7 _ 38 rfl (hall 7 (by simp)) rfl
  have q39 : act.eval (.tmp 39) = .pointer (some ⟨fb, 0, none⟩) := hF.val 8 _ 39 rfl (hall 8 (by simp)) rfl
  have q40 : act.eval (.tmp 40) = .iface 155 (.agg #[.int .i64 sh]) := hF.val 9 _ 40 rfl (hall 9 (by simp)) rfl
  have q41 : act.eval (.tmp 41) = .iface 155 (.agg #[.int .i64 sh]) := hF.val 10 _ 41 rfl (hall 10 (by simp)) rfl
  have q42 : act.eval (.tmp 42) = .tuple #[.agg #[.bool r.2.2.1.ok, .float .f64 r.2.2.1.pri, .int .i64 r.2.2.1.val, .int .i64 r.2.2.1.n], .bool r.2.2.2] := hF.val 11 _ 42 rfl (hall 11 (by simp)) rfl
  have q30 : act.eval (.tmp 30) = .tuple #[.agg #[.bool r.2.2.1.ok, .float .f64 r.2.2.1.pri, .int .i64 r.2.2.1.val, .int .i64 r.2.2.1.n], .bool r.2.2.2] := hF.val 12 _ 30 rfl (hall 12 (by simp)) rfl
  have q43 : act.eval (.tmp 43) = .agg #[.bool r.2.2.1.ok, .float .f64 r.2.2.1.pri, .int .i64 r.2.2.1.val, .int .i64 r.2.2.1.n] := hF.val 13 _ 43 rfl (hall 13 (by simp)) rfl
  have q44 : act.eval (.tmp 44) = .bool r.2.2.2 := hF.val 14 _ 44 rfl (hall 14 (by simp)) rfl
  have q9 : ∃ bx, x.2 = some bx ∧ act.eval (.tmp 9) = .pointer (some ⟨bx, 0, none⟩) := hF.val 15 _ 9 rfl (hall 15 (by simp)) rfl
  obtain ⟨bx, hx, q9⟩ := q9
  have q10 : act.eval (.tmp 10) = .bool r.2.2.2 := hF.val 17 _ 10 rfl (hall 17 (by simp)) rfl
  have hact := hF.act [31, 32, 33, 34, 35, 36, 37, 38, 39, 40, 41, 42, 30, 43, 44, 9, 10] (by kernel_rfl)
  have hst := hI.st
  rw [hall 11 (by simp), if_pos rfl] at hst
  have hchg := hI.chg
  have hgrw := hI.grow
  obtain ⟨hx0, hx1, hx2, hx3, hbx⟩ := hI.box bx hx
  rw [hall 16 (by simp), if_pos rfl] at hbx
  clear hF hall hI
  simp only [List.foldl_cons, List.foldl_nil] at hact
  rw [q31, q32, q33, q34, q35, q36, q37, q38, q39, q40, q41, q42, q30, q43, q44, q9, q10] at hact
  clear q31 q32 q33 q34 q35 q36 q37 q38 q39 q40 q41 q42 q30 q43 q44 q9 q10
  simp only [List.setIfInBounds_toArray, List.set_cons_succ, List.set_cons_zero] at hact
  subst hact
  obtain ⟨O', P', hM', hF', hD', hGO, hGP, _⟩ := hst
  obtain ⟨hE1, hV1, hb01, hlt1⟩ := H1.out
  obtain ⟨hne, hlt, hfb⟩ := HNE.out
  obtain ⟨M2, F2, A, d⟩ := r
  obtain ⟨aok, api, av, an⟩ := A
  dsimp only at *
  have hvb := HVB.out
  have hEz := hE1.but hchg hne
  have hVz := hV1.but hchg (fun e => by have := hlt vb e; omega)
  have hvl := hV1.lt
  have hne1 : vb ≠ eb := by omega
  have hne2 : bx ≠ eb := by have := hE1.lt; omega
  have hfbP : P' fb := hF'.ob
  have hneP : ∀ k, O' k ∨ P' k → k ≠ eb := fun k hk e => by
    subst e
    rcases hk with q | q
    · rcases hGO _ q with s | s
      · exact hne (.inl s)
      · omega
    · rcases hGP _ q with s | s
      · exact hne (.inr s)
      · omega
  have hnfe : fb ≠ eb := hneP fb (.inr hfbP)
  obtain ⟨z11, y11⟩ := hEz.get 11 _ rfl
  have hzl := hEz.lt
  have hstI : (steps : Int) < 4611686018427387904 := by omega
  obtain ⟨W2, hW2⟩ : ∃ W2, wz.setCell ⟨eb, 11, none⟩ (.int .i64 ((steps : Int) + 1)) = W2 := ⟨_, rfl⟩
  have hc2 : But (fun j => j = eb) wz W2 := by rw [← hW2]; exact (But.refl (fun j => j = eb) wz).set1 eb 11 rfl _
  have hE2 : BoxAt W2 eb (ecells kind param 155 (.agg #[.int .i64 sh]) mb Q closed (((steps + 1 : Nat)) : Int)) := by rw [← hW2]; exact hEz.set 11 (.int .i64 ((steps : Int) + 1))
  have hV2 := hVz.but hc2 hne1
  have hB2 := hbx.but hc2 hne2
  have hM2 := hM'.but hc2 (fun k hk e => hneP k (.inl hk) e)
  have hF2 := hF'.but hc2 (fun k hk e => hneP k (.inr hk) e)
  have hchg2 : But (fun k => O k ∨ P k ∨ k = eb) w W2 := ((But.of_below hb01).then hchg (fun k _ e => e.elim .inl (fun q => .inr (.inl q)))).then hc2 (fun k _ e => .inr (.inr e))
  have hGO2 : Grown O w W2 O' := fun k hk => (hGO k hk).imp id (fun q => ⟨by have := hb01.size; omega, by have := hc2.size; omega⟩)
  have hGP2 : Grown P w W2 P' := fun k hk => (hGP k hk).imp id (fun q => ⟨by have := hb01.size; omega, by have := hc2.size; omega⟩)
  have HZ := hidq (And.intro hne1 (And.intro hnfe (And.intro hneP hD')))
  have hbxv : bx ≠ vb := by omega
  have hvO : ∀ k, O' k ∨ P' k → k ≠ vb := fun k hk e => by
    subst e
    rcases hk with q | q
    · rcases hGO _ q with s | s
      · have := hlt _ (.inl s); omega
      · omega
    · rcases hGP _ q with s | s
      · have := hlt _ (.inr s); omega
      · omega
  have HVO := hidq hvO
  have hfv : fb ≠ vb := hvO fb (.inr hfbP)
  cases d with
  | false =>
    have hvb2 := HVB.out
    obtain ⟨Wv, hWv⟩ : ∃ Wv, setBox W2 vb [(0, .int .i64 (t : Int)), (1, .int .i64 F2.kind), (2, .float .f64 F2.pri), (3, .int .i64 F2.val), (4, .int .i64 F2.d0), (5, .int .i64 F2.d1), (6, .bool false), (7, .bool aok), (8, .float .f64 api), (9, .int .i64 av), (10, .int .i64 an)] = Wv := ⟨_, rfl⟩
    have hbv : But (fun j => j = vb) W2 Wv := by rw [← hWv]; exact setBox_but vb [(0, .int .i64 (t : Int)), (1, .int .i64 F2.kind), (2, .float .f64 F2.pri), (3, .int .i64 F2.val), (4, .int .i64 F2.d0), (5, .int .i64 F2.d1), (6, .bool false), (7, .bool aok), (8, .float .f64 api), (9, .int .i64 av), (10, .int .i64 an)] W2
    have hQV : BoxAt Wv vb [.int .i64 (t : Int), .int .i64 F2.kind, .float .f64 F2.pri, .int .i64 F2.val, .int .i64 F2.d0, .int .i64 F2.d1, .bool false, .bool aok, .float .f64 api, .int .i64 av, .int .i64 an] := by rw [← hWv]; exact (setBox_box [(0, .int .i64 (t : Int)), (1, .int .i64 F2.kind), (2, .float .f64 F2.pri), (3, .int .i64 F2.val), (4, .int .i64 F2.d0), (5, .int .i64 F2.d1), (6, .bool false), (7, .bool aok), (8, .float .f64 api), (9, .int .i64 av), (10, .int .i64 an)] hV2)
    dsimp only [setBox] at hWv
    have HWv := hidq hWv
    have HE := hidq (show PickEnd eb kind param 155 (.agg #[.int .i64 sh]) mb Q closed steps t fb O P (M2, F2, ⟨aok, api, av, an⟩, false) w (.returned (.tuple #[evV t F2 ⟨aok, api, av, an⟩ false, .bool true])) Wv.drew from by
      refine ⟨rfl, (hE2.but hbv (fun e => hne1 e.symm)).drew, O', P', (hM2.but hbv (fun k hk e => hvO k (.inl hk) e)).below (Below.refl _ _).drew, (hF2.but hbv (fun k hk e => hvO k (.inr hk) e)).below (Below.refl _ _).drew, hD', Er.Grown.up hGO2 hbv.size, Er.Grown.up hGP2 hbv.size, ((hchg2.then hbv (fun k hk e => by omega)).drew)⟩)
    have q0 := (hQV.get 0 _ rfl).1
    have q1 := (hQV.get 1 _ rfl).1
    have q2 := (hQV.get 2 _ rfl).1
    have q3 := (hQV.get 3 _ rfl).1
    have q4 := (hQV.get 4 _ rfl).1
    have q5 := (hQV.get 5 _ rfl).1
    have q6 := (hQV.get 6 _ rfl).1
    have q7 := (hQV.get 7 _ rfl).1
    have q8 := (hQV.get 8 _ rfl).1
    have q9 := (hQV.get 9 _ rfl).1
    have q10 := (hQV.get 10 _ rfl).1
    have HQZ := hidq (And.intro q0 (And.intro q1 (And.intro q2 (And.intro q3 (And.intro q4 (And.intro q5 (And.intro q6 (And.intro q7 (And.intro q8 (And.intro q9 q10))))))))))
    clear q0 q1 q2 q3 q4 q5 q6 q7 q8 q9 q10 hQV hbv hvb2 hWv
    obtain ⟨a0, k0, a1, k1, hFb, _⟩ := hF2.box
    obtain ⟨p0, _⟩ := hFb.get 0 _ rfl
    obtain ⟨p1, _⟩ := hFb.get 1 _ rfl
    obtain ⟨p2, _⟩ := hFb.get 2 _ rfl
    obtain ⟨p3, _⟩ := hFb.get 3 _ rfl
    obtain ⟨p4, _⟩ := hFb.get 4 _ rfl
    have hpl := hFb.lt
    obtain ⟨b0, _⟩ := hB2.get 0 _ rfl
    obtain ⟨b1, _⟩ := hB2.get 1 _ rfl
    obtain ⟨b2, _⟩ := hB2.get 2 _ rfl
    obtain ⟨b3, _⟩ := hB2.get 3 _ rfl
    have hbl := hB2.lt
    obtain ⟨v0, u0⟩ := hV2.get 0 _ rfl
    obtain ⟨v1, u1⟩ := hV2.get 1 _ rfl
    obtain ⟨v2, u2⟩ := hV2.get 2 _ rfl
    obtain ⟨v3, u3⟩ := hV2.get 3 _ rfl
    obtain ⟨v4, u4⟩ := hV2.get 4 _ rfl
    obtain ⟨v5, u5⟩ := hV2.get 5 _ rfl
    obtain ⟨v6, u6⟩ := hV2.get 6 _ rfl
    obtain ⟨v7, u7⟩ := hV2.get 7 _ rfl
    obtain ⟨v8, u8⟩ := hV2.get 8 _ rfl
    obtain ⟨v9, u9⟩ := hV2.get 9 _ rfl
    obtain ⟨v10, u10⟩ := hV2.get 10 _ rfl
    have hvl := hV2.lt
    clear hx0 hx1 hx2 hx3 hx hbx hM' hF' hD' hGO hGP hE1 hV1 hb01 hlt1 hne hlt hfb hEz hVz hne1 hne2 hfbP hneP hc2 hE2 hB2 hM2 hF2 hchg2 hGO2 hGP2 hFb hchg hgrw hvO hvb hV2
    go_wp2_with fail
    go_region
    rw [HWv.out]
    clear HZ HVO H1 HNE HQ HB HVB
    go_wp2_with fail
    obtain ⟨q0, q1, q2, q3, q4, q5, q6, q7, q8, q9, q10⟩ := HQZ.out
    exact bodyPost_ret (v := .tuple #[evV t F2 ⟨aok, api, av, an⟩ false, .bool true]) (by simp [results, Tryz.results10, go_sem, q0, q1, q2, q3, q4, q5, q6, q7, q8, q9, q10]) rfl HE.out
  | true =>
    obtain ⟨z4, y4⟩ := hE2.get (4 + t) _ (ecells_thread kind param 155 (.agg #[.int .i64 sh]) mb Q closed (((steps + 1 : Nat)) : Int) t ht6)
    rw [HQ.out] at z4
    have hel2 := hE2.lt
    obtain ⟨W3, hW3⟩ : ∃ W3, W2.setCell ⟨eb, 4 + t, none⟩ (.pointer none) = W3 := ⟨_, rfl⟩
    have hc3 : But (fun j => j = eb) W2 W3 := by rw [← hW3]; exact (But.refl (fun j => j = eb) W2).set1 eb (4 + t) rfl _
    have hE3 : BoxAt W3 eb (ecells kind param 155 (.agg #[.int .i64 sh]) mb (qset Q t none) closed (((steps + 1 : Nat)) : Int)) := by rw [← hW3]; exact (hE2.set (4 + t) (eptr none)).same (ecells_set kind param 155 (.agg #[.int .i64 sh]) mb Q closed (((steps + 1 : Nat)) : Int) t ht6 none)
    have hV3 := hV2.but hc3 hne1
    have hB3 := hB2.but hc3 hne2
    have hM3 := hM2.but hc3 (fun k hk e => hneP k (.inl hk) e)
    have hF3 := hF2.but hc3 (fun k hk e => hneP k (.inr hk) e)
    have hchg3 : But (fun k => O k ∨ P k ∨ k = eb) w W3 := hchg2.then hc3 (fun k _ e => .inr (.inr e))
    have hGO3 := Er.Grown.up hGO2 hc3.size
    have hGP3 := Er.Grown.up hGP2 hc3.size
    have hV2 := hV3
    have hvb2 := HVB.out
    obtain ⟨Wv, hWv⟩ : ∃ Wv, setBox W3 vb [(0, .int .i64 (t : Int)), (1, .int .i64 F2.kind), (2, .float .f64 F2.pri), (3, .int .i64 F2.val), (4, .int .i64 F2.d0), (5, .int .i64 F2.d1), (6, .bool true), (7, .bool aok), (8, .float .f64 api), (9, .int .i64 av), (10, .int .i64 an)] = Wv := ⟨_, rfl⟩
    have hbv : But (fun j => j = vb) W3 Wv := by rw [← hWv]; exact setBox_but vb [(0, .int .i64 (t : Int)), (1, .int .i64 F2.kind), (2, .float .f64 F2.pri), (3, .int .i64 F2.val), (4, .int .i64 F2.d0), (5, .int .i64 F2.d1), (6, .bool true), (7, .bool aok), (8, .float .f64 api), (9, .int .i64 av), (10, .int .i64 an)] W3
    have hQV : BoxAt Wv vb [.int .i64 (t : Int), .int .i64 F2.kind, .float .f64 F2.pri, .int .i64 F2.val, .int .i64 F2.d0, .int .i64 F2.d1, .bool true, .bool aok, .float .f64 api, .int .i64 av, .int .i64 an] := by rw [← hWv]; exact (setBox_box [(0, .int .i64 (t : Int)), (1, .int .i64 F2.kind), (2, .float .f64 F2.pri), (3, .int .i64 F2.val), (4, .int .i64 F2.d0), (5, .int .i64 F2.d1), (6, .bool true), (7, .bool aok), (8, .float .f64 api), (9, .int .i64 av), (10, .int .i64 an)] hV2)
    dsimp only [setBox] at hWv
    have HWv := hidq hWv
    have HE := hidq (show PickEnd eb kind param 155 (.agg #[.int .i64 sh]) mb Q closed steps t fb O P (M2, F2, ⟨aok, api, av, an⟩, true) w (.returned (.tuple #[evV t F2 ⟨aok, api, av, an⟩ true, .bool true])) Wv.drew from by
      refine ⟨rfl, (hE3.but hbv (fun e => hne1 e.symm)).drew, O', P', (hM3.but hbv (fun k hk e => hvO k (.inl hk) e)).below (Below.refl _ _).drew, (hF3.but hbv (fun k hk e => hvO k (.inr hk) e)).below (Below.refl _ _).drew, hD', Er.Grown.up hGO3 hbv.size, Er.Grown.up hGP3 hbv.size, ((hchg3.then hbv (fun k hk e => by omega)).drew)⟩)
    have q0 := (hQV.get 0 _ rfl).1
    have q1 := (hQV.get 1 _ rfl).1
    have q2 := (hQV.get 2 _ rfl).1
    have q3 := (hQV.get 3 _ rfl).1
    have q4 := (hQV.get 4 _ rfl).1
    have q5 := (hQV.get 5 _ rfl).1
    have q6 := (hQV.get 6 _ rfl).1
    have q7 := (hQV.get 7 _ rfl).1
    have q8 := (hQV.get 8 _ rfl).1
    have q9 := (hQV.get 9 _ rfl).1
    have q10 := (hQV.get 10 _ rfl).1
    have HQZ := hidq (And.intro q0 (And.intro q1 (And.intro q2 (And.intro q3 (And.intro q4 (And.intro q5 (And.intro q6 (And.intro q7 (And.intro q8 (And.intro q9 q10))))))))))
    clear q0 q1 q2 q3 q4 q5 q6 q7 q8 q9 q10 hQV hbv hvb2 hWv
    obtain ⟨a0, k0, a1, k1, hFb, _⟩ := hF3.box
    obtain ⟨p0, _⟩ := hFb.get 0 _ rfl
    obtain ⟨p1, _⟩ := hFb.get 1 _ rfl
    obtain ⟨p2, _⟩ := hFb.get 2 _ rfl
    obtain ⟨p3, _⟩ := hFb.get 3 _ rfl
    obtain ⟨p4, _⟩ := hFb.get 4 _ rfl
    have hpl := hFb.lt
    obtain ⟨b0, _⟩ := hB3.get 0 _ rfl
    obtain ⟨b1, _⟩ := hB3.get 1 _ rfl
    obtain ⟨b2, _⟩ := hB3.get 2 _ rfl
    obtain ⟨b3, _⟩ := hB3.get 3 _ rfl
    have hbl := hB3.lt
    obtain ⟨v0, u0⟩ := hV3.get 0 _ rfl
    obtain ⟨v1, u1⟩ := hV3.get 1 _ rfl
    obtain ⟨v2, u2⟩ := hV3.get 2 _ rfl
    obtain ⟨v3, u3⟩ := hV3.get 3 _ rfl
    obtain ⟨v4, u4⟩ := hV3.get 4 _ rfl
    obtain ⟨v5, u5⟩ := hV3.get 5 _ rfl
    obtain ⟨v6, u6⟩ := hV3.get 6 _ rfl
    obtain ⟨v7, u7⟩ := hV3.get 7 _ rfl
    obtain ⟨v8, u8⟩ := hV3.get 8 _ rfl
    obtain ⟨v9, u9⟩ := hV3.get 9 _ rfl
    obtain ⟨v10, u10⟩ := hV3.get 10 _ rfl
    have hvl := hV3.lt
    clear hx0 hx1 hx2 hx3 hx hbx hM' hF' hD' hGO hGP hE1 hV1 hb01 hlt1 hne hlt hfb hEz hVz hne1 hne2 hfbP hneP hc2 hE2 hB2 hM2 hF2 hchg2 hGO2 hGP2 hFb hchg hgrw hvO hvb hV2 hV3 hB3 hM3 hF3 hchg3 hGO3 hGP3 hE3 hc3
    go_wp2_with fail
    go_region
    rw [HWv.out]
    clear HZ HVO H1 HNE HQ HB HVB
    go_wp2_with fail
    obtain ⟨q0, q1, q2, q3, q4, q5, q6, q7, q8, q9, q10⟩ := HQZ.out
    exact bodyPost_ret (v := .tuple #[evV t F2 ⟨aok, api, av, an⟩ true, .bool true]) (by simp [results, Tryz.results10, go_sem, q0, q1, q2, q3, q4, q5, q6, q7, q8, q9, q10]) rfl HE.out
end Go.Proofs.YtbcmilfajeanbaaGreat

namespace Go.Proofs.YtbcmilfajeanbaaGreat
open Go.RowKit Go.Sort

def pickMR (eb fb mb : Nat) (r : Mem × Fr × Ans × Bool) (sh : Int) : List (Value → Ar.Gh → World → Prop) :=
  [fun u0 _ _ => u0 = .pointer (some ⟨eb, 0, none⟩),
   fun u0 _ _ => u0 = .pointer (some ⟨eb, 0, none⟩),
   fun u0 _ _ => u0 = .pointer (some ⟨eb, 2, none⟩),
   fun u0 _ _ => u0 = .iface 147 (.agg #[.int .i64 sh]),
   fun u0 _ _ => u0 = .pointer (some ⟨eb, 0, none⟩),
   fun u0 _ _ => u0 = .pointer (some ⟨eb, 0, none⟩),
   fun u0 _ _ => u0 = .pointer (some ⟨eb, 3, none⟩),
   fun u0 _ _ => u0 = .pointer (some ⟨mb, 0, none⟩),
   fun u0 _ _ => u0 = .pointer (some ⟨fb, 0, none⟩),
   fun u0 _ _ => u0 = .iface 147 (.agg #[.int .i64 sh]),
   fun u0 _ _ => u0 = .iface 147 (.agg #[.int .i64 sh]),
   fun u0 _ _ => u0 = .tuple #[.agg #[.bool r.2.2.1.ok, .float .f64 r.2.2.1.pri, .int .i64 r.2.2.1.val, .int .i64 r.2.2.1.n], .bool r.2.2.2],
   fun u0 _ _ => u0 = .tuple #[.agg #[.bool r.2.2.1.ok, .float .f64 r.2.2.1.pri, .int .i64 r.2.2.1.val, .int .i64 r.2.2.1.n], .bool r.2.2.2],
   fun u0 _ _ => u0 = .agg #[.bool r.2.2.1.ok, .float .f64 r.2.2.1.pri, .int .i64 r.2.2.1.val, .int .i64 r.2.2.1.n],
   fun u0 _ _ => u0 = .bool r.2.2.2,
   fun u0 x _ => ∃ bx, x.2 = some bx ∧ u0 = .pointer (some ⟨bx, 0, none⟩),
   fun _ _ _ => True,
   fun u0 _ _ => u0 = .bool r.2.2.2]
theorem pickMR_kept (eb fb mb : Nat) (r : Mem × Fr × Ans × Bool) (sh : Int) : Reg.GAllKept Ar.Pres (pickMR eb fb mb r sh) :=
  ⟨(fun _ _ _ _ _ _ h => h), (fun _ _ _ _ _ _ h => h), (fun _ _ _ _ _ _ h => h), (fun _ _ _ _ _ _ h => h), (fun _ _ _ _ _ _ h => h), (fun _ _ _ _ _ _ h => h), (fun _ _ _ _ _ _ h => h), (fun _ _ _ _ _ _ h => h), (fun _ _ _ _ _ _ h => h), (fun _ _ _ _ _ _ h => h), (fun _ _ _ _ _ _ h => h), (fun _ _ _ _ _ _ h => h), (fun _ _ _ _ _ _ h => h), (fun _ _ _ _ _ _ h => h), (fun _ _ _ _ _ _ h => h), (fun _ _ _ _ _ hp h => by obtain ⟨bx, h1, h2⟩ := h; exact ⟨bx, hp bx h1, h2⟩), (fun _ _ _ _ _ _ h => h), (fun _ _ _ _ _ _ h => h), trivial⟩

set_option maxRecDepth 20000 in
set_option maxHeartbeats 8000000 in
theorem pickM_any (sh : Int) (eb : Nat) (kind param : Int) (mb : Nat) (Q : Nat → Option Nat) (closed : Bool) (steps : Nat) (pick : Int) (t fb : Nat) (O P : Nat → Prop) (r : Mem × Fr × Ans × Bool) (w : World)
    (hE : BoxAt w eb (ecells kind param 147 (.agg #[.int .i64 sh]) mb Q closed (steps : Int))) (hb : (busyTo Q 6)[(into pick (busyTo Q 6).length).toNat]? = some t) (hQ : Q t = some fb) (hst : steps < 4611686018427387904)
    (hlt : ∀ k, O k ∨ P k → k < w.heap.size) (hne : ¬ (O eb ∨ P eb)) (hfb : ∃ a0 k0 a1 k1 F0, BoxAt w fb (Fr.l F0 a0 k0 a1 k1))
    (hS : ∀ W, Below w.heap.size w W → Calls Tryz.prog 163 #[.agg #[.int .i64 sh], .pointer (some ⟨mb, 0, none⟩), .pointer (some ⟨fb, 0, none⟩)] W (StepEnd mb fb O P r W)) :
    Calls Tryz.prog 10 #[.pointer (some ⟨eb, 0, none⟩), .int .i64 pick] w (PickEnd eb kind param 147 (.agg #[.int .i64 sh]) mb Q closed steps t fb O P r w) := by
  have hsf := run_store_flt (P := Tryz.prog)
  have hms : ∀ w, (method 369 147 (.agg #[.int .i64 sh]) "Step").run Tryz.prog w = .ok (163, (.agg #[.int .i64 sh])) w := fun w => by kernel_rfl
  obtain ⟨vb, hvb⟩ : ∃ vb, w.heap.size = vb := ⟨_, rfl⟩
  obtain ⟨W0, hW0⟩ : ∃ W0, w.alloc (.cells #[.int .i64 0, .int .i64 0, .float .f64 0, .int .i64 0, .int .i64 0, .int .i64 0, .bool false, .bool false, .float .f64 0, .int .i64 0, .int .i64 0] 48) = W0 := ⟨_, rfl⟩
  have hV0 := BoxAt.new w [.int .i64 0, .int .i64 0, .float .f64 0, .int .i64 0, .int .i64 0, .int .i64 0, .bool false, .bool false, .float .f64 0, .int .i64 0, .int .i64 0] 48
  rw [show w.alloc (.cells [.int .i64 0, .int .i64 0, .float .f64 0, .int .i64 0, .int .i64 0, .int .i64 0, .bool false, .bool false, .float .f64 0, .int .i64 0, .int .i64 0].toArray 48) = W0 from hW0, hvb] at hV0
  have hb0 : Below w.heap.size w W0 := by rw [← hW0]; exact (Below.refl _ _).alloc (Nat.le_refl _) _
  have hn6 := busyTo_le Q 6
  have ht6 : t < 6 := by
    have := List.mem_of_getElem? hb
    exact (busyTo_mem.1 this).1
  have hBz := busy_any eb kind param 147 (.agg #[.int .i64 sh]) mb Q closed (steps : Int) W0 (hE.below hb0)
  obtain ⟨n, hn⟩ : ∃ n, (busyTo Q 6).length = n := ⟨_, rfl⟩
  obtain ⟨l, hl⟩ : ∃ l, busyTo Q 6 = l := ⟨_, rfl⟩
  have hBE : ∀ e w', BusyEnd Q W0 e w' → ∃ a cap, e = .returned (.slice a n cap) ∧ SlAt 1 w' a cap n (vals l) ∧ Below W0.heap.size W0 w' := by
    rintro e w' ⟨a, cap, h1, h2, h3, h4⟩
    rw [hn, hl] at *
    exact ⟨a, cap, h1, h2, h4⟩
  replace hBz := hBz.mono hBE
  clear hBE
  rw [hn, hl] at hb
  have hnl : l.length = n := by rw [← hl]; exact hn
  rw [hn] at hn6
  have hn1 : 1 ≤ n := by
    have := (List.getElem?_eq_some_iff.1 hb).1
    omega
  obtain ⟨j, hj, hjn⟩ : ∃ j : Nat, into pick (n : Int) = (j : Int) ∧ j < n := by
    have := into_rng (d := pick) (n := (n : Int)) (by omega)
    exact ⟨(into pick (n : Int)).toNat, by omega, by omega⟩
  rw [hj] at hb
  have hb' : l[j]? = some t := hb
  have hIn := fun w => into_any pick (n : Int) w (by omega)
  rw [hj] at hIn
  have hne0 : ((n : Int) == 0) = false := by simp; omega
  have hne0' : (n == 0) = false := by simp; omega
  have HH := hidq (And.intro hE (And.intro hV0 (And.intro hb0 (And.intro hlt (And.intro hne hfb)))))
  have HS0 := hidq hS
  have HQ := hidq hQ
  have HB := hidq hb'
  have HI := hidq hIn
  have hel := hE.lt
  have HVB := hidq hvb
  clear hE hV0 hb0 hlt hne hfb hS hQ hb hb' hn hl hnl hj hIn
  go_enter Tryz.func10, Tryz.ntmps10
  go_wp2_with fail
  refine hBz.mono ?_
  rintro e w1 ⟨a, cap, rfl, hSl, hb1⟩
  clear hBz
  obtain ⟨hE, hV0, hb0, hlt, hne, hfb⟩ := HH.out
  obtain ⟨g, rfl, hgl, hgc⟩ := hSl.cell (t := j) (u := .int .i64 (t : Int)) (by simp [vals, HB.out])
  have hb01 := hb0.trans (hb1.mono hb0.size)
  have hE1 := hE.below hb01
  have hV1 := hV0.below hb1
  have hthr := (hE1.get (4 + t) _ (ecells_thread kind param 147 (.agg #[.int .i64 sh]) mb Q closed (steps : Int) t ht6)).1
  rw [HQ.out] at hthr
  replace hthr : w1.cell? ⟨eb, 4 + t, none⟩ = some (.pointer (some ⟨fb, 0, none⟩)) := hthr
  have hel1 := hE1.lt
  have H1 := hidq (And.intro hE1 (And.intro hV1 (And.intro hb01 (show ∀ k, O k ∨ P k → k < w1.heap.size from fun k hk => Nat.lt_of_lt_of_le (hlt k hk) hb01.size))))
  have hS1 := hidq (fun W (hW : Below w1.heap.size w1 W) => HS0.out W (hb01.trans (hW.mono hb01.size)))
  have hcp := hSl.le
  have HNE := hidq (And.intro hne (And.intro hlt hfb))
  clear hSl hE hV0 hb0 hlt hne hfb hb1 hb01 hE1 hV1 HH HS0
  clear hW0
  go_wp2_with fail
  refine (HI.out _).mono ?_
  rintro e w2 ⟨rfl, hw2⟩
  replace hw2 := hw2.symm
  subst hw2
  clear HI
  go_wp2_with fail
  refine Reg.wp_region_ghost (Reg.gofList (pickMR eb fb mb r sh)) Ar.Pres (Er.GI w1 mb fb O P r 11 15 16) (O, none) (by kernel_rfl) (by kernel_rfl) (Reg.GAllKept.at _ (pickMR_kept eb fb mb r sh)) (Er.GI.start w1 mb fb O P r 11 15 16 H1.out.2.2.2 _) ⟨?_, ?_, ?_, ?_, ?_, ?_, ?_, ?_, ?_, ?_, ?_, ?_, ?_, ?_, ?_, ?_, ?_, ?_, trivial⟩ ?_
  · refine Reg.GStepAt.plain (i := 0) rfl ?_
    intro x L ev w hI hk hp hA
    have e0 : ev (.tmp 0) = .pointer (some ⟨eb, 0, none⟩) := hA.oldNone 0 (by kernel_rfl)
    have hcc := hA.const
    clear hA hp
    refine Reg.out_value (v := .pointer (some ⟨eb, 0, none⟩)) ?_ ⟨x, rfl, Ar.Pres.refl _ _ _, hI.quiet 0 (by decide) (by decide) (by decide)⟩
    go_simp
  · refine Reg.GStepAt.plain (i := 1) rfl ?_
    intro x L ev w hI hk hp hA
    have e31 : ev (.tmp 31) = .pointer (some ⟨eb, 0, none⟩) := hA.val 0 _ 31 rfl (hp ⟨0, .data⟩ (by simp) rfl) rfl
    have hcc := hA.const
    clear hA hp
    refine Reg.out_value (v := .pointer (some ⟨eb, 0, none⟩)) ?_ ⟨x, rfl, Ar.Pres.refl _ _ _, hI.quiet 1 (by decide) (by decide) (by decide)⟩
    go_simp
  · refine Reg.GStepAt.plain (i := 2) rfl ?_
    intro x L ev w hI hk hp hA
    have e32 : ev (.tmp 32) = .pointer (some ⟨eb, 0, none⟩) := hA.val 1 _ 32 rfl (hp ⟨1, .data⟩ (by simp) rfl) rfl
    have hcc := hA.const
    clear hA hp
    refine Reg.out_value (v := .pointer (some ⟨eb, 2, none⟩)) ?_ ⟨x, rfl, Ar.Pres.refl _ _ _, hI.quiet 2 (by decide) (by decide) (by decide)⟩
    go_simp
  · refine Reg.GStepAt.plain (i := 3) rfl ?_
    intro x L ev w hI hk hp hA
    have e33 : ev (.tmp 33) = .pointer (some ⟨eb, 2, none⟩) := hA.val 2 _ 33 rfl (hp ⟨2, .data⟩ (by simp) rfl) rfl
    have hcc := hA.const
    clear hA hp
    have f2 := ((H1.out.1.but hI.chg HNE.out.1).get 2 _ rfl).1
    have f3 := ((H1.out.1.but hI.chg HNE.out.1).get 3 _ rfl).1
    have hel := (H1.out.1.but hI.chg HNE.out.1).lt
    refine Reg.out_value (v := .iface 147 (.agg #[.int .i64 sh])) ?_ ⟨x, rfl, Ar.Pres.refl _ _ _, hI.quiet 3 (by decide) (by decide) (by decide)⟩
    go_simp
  · refine Reg.GStepAt.plain (i := 4) rfl ?_
    intro x L ev w hI hk hp hA
    have e0 : ev (.tmp 0) = .pointer (some ⟨eb, 0, none⟩) := hA.oldNone 0 (by kernel_rfl)
    have hcc := hA.const
    clear hA hp
    refine Reg.out_value (v := .pointer (some ⟨eb, 0, none⟩)) ?_ ⟨x, rfl, Ar.Pres.refl _ _ _, hI.quiet 4 (by decide) (by decide) (by decide)⟩
    go_simp
  · refine Reg.GStepAt.plain (i := 5) rfl ?_
    intro x L ev w hI hk hp hA
    have e35 : ev (.tmp 35) = .pointer (some ⟨eb, 0, none⟩) := hA.val 4 _ 35 rfl (hp ⟨4, .data⟩ (by simp) rfl) rfl
    have hcc := hA.const
    clear hA hp
    refine Reg.out_value (v := .pointer (some ⟨eb, 0, none⟩)) ?_ ⟨x, rfl, Ar.Pres.refl _ _ _, hI.quiet 5 (by decide) (by decide) (by decide)⟩
    go_simp
  · refine Reg.GStepAt.plain (i := 6) rfl ?_
    intro x L ev w hI hk hp hA
    have e36 : ev (.tmp 36) = .pointer (some ⟨eb, 0, none⟩) := hA.val 5 _ 36 rfl (hp ⟨5, .data⟩ (by simp) rfl) rfl
    have hcc := hA.const
    clear hA hp
    refine Reg.out_value (v := .pointer (some ⟨eb, 3, none⟩)) ?_ ⟨x, rfl, Ar.Pres.refl _ _ _, hI.quiet 6 (by decide) (by decide) (by decide)⟩
    go_simp
  · refine Reg.GStepAt.plain (i := 7) rfl ?_
    intro x L ev w hI hk hp hA
    have e37 : ev (.tmp 37) = .pointer (some ⟨eb, 3, none⟩) := hA.val 6 _ 37 rfl (hp ⟨6, .data⟩ (by simp) rfl) rfl
    have hcc := hA.const
    clear hA hp
    have f2 := ((H1.out.1.but hI.chg HNE.out.1).get 2 _ rfl).1
    have f3 := ((H1.out.1.but hI.chg HNE.out.1).get 3 _ rfl).1
    have hel := (H1.out.1.but hI.chg HNE.out.1).lt
    refine Reg.out_value (v := .pointer (some ⟨mb, 0, none⟩)) ?_ ⟨x, rfl, Ar.Pres.refl _ _ _, hI.quiet 7 (by decide) (by decide) (by decide)⟩
    go_simp
  · refine Reg.GStepAt.plain (i := 8) rfl ?_
    intro x L ev w hI hk hp hA
    have e8 : ev (.tmp 8) = .pointer (some ⟨fb, 0, none⟩) := hA.oldNone 8 (by kernel_rfl)
    have hcc := hA.const
    clear hA hp
    refine Reg.out_value (v := .pointer (some ⟨fb, 0, none⟩)) ?_ ⟨x, rfl, Ar.Pres.refl _ _ _, hI.quiet 8 (by decide) (by decide) (by decide)⟩
    go_simp
  · refine Reg.GStepAt.plain (i := 9) rfl ?_
    intro x L ev w hI hk hp hA
    have e34 : ev (.tmp 34) = .iface 147 (.agg #[.int .i64 sh]) := hA.val 3 _ 34 rfl (hp ⟨3, .data⟩ (by simp) rfl) rfl
    have hcc := hA.const
    clear hA hp
    refine Reg.out_value (v := .iface 147 (.agg #[.int .i64 sh])) ?_ ⟨x, rfl, Ar.Pres.refl _ _ _, hI.quiet 9 (by decide) (by decide) (by decide)⟩
    go_simp
  · refine Reg.GStepAt.plain (i := 10) rfl ?_
    intro x L ev w hI hk hp hA
    have e34 : ev (.tmp 34) = .iface 147 (.agg #[.int .i64 sh]) := hA.val 3 _ 34 rfl (hp ⟨3, .data⟩ (by simp) rfl) rfl
    have hcc := hA.const
    clear hA hp
    refine Reg.out_value (v := .iface 147 (.agg #[.int .i64 sh])) ?_ ⟨x, rfl, Ar.Pres.refl _ _ _, hI.quiet 10 (by decide) (by decide) (by decide)⟩
    go_simp
  · refine Reg.GStepAt.plain (i := 11) rfl ?_
    intro x L ev w hI hk hp hA
    have e41 : ev (.tmp 41) = .iface 147 (.agg #[.int .i64 sh]) := hA.val 10 _ 41 rfl (hp ⟨10, .data⟩ (by simp) rfl) rfl
    have e38 : ev (.tmp 38) = .pointer (some ⟨mb, 0, none⟩) := hA.val 7 _ 38 rfl (hp ⟨7, .data⟩ (by simp) rfl) rfl
    have e39 : ev (.tmp 39) = .pointer (some ⟨fb, 0, none⟩) := hA.val 8 _ 39 rfl (hp ⟨8, .data⟩ (by simp) rfl) rfl
    have hcc := hA.const
    clear hA hp
    refine Reg.out_call (f := 163) (args := #[.agg #[.int .i64 sh], .pointer (some ⟨mb, 0, none⟩), .pointer (some ⟨fb, 0, none⟩)]) (w0 := w) ?_ ?_
    · go_simp
    refine (hS1.out w (hI.pre hk)).mono ?_
    rintro e w' ⟨rfl, O', P', h1, h2, h3, h4, h5, h6⟩
    exact ⟨_, rfl, (fun k => O' k ∨ P' k, x.2), rfl, fun _ h => h, hI.call hk (by decide) (by decide) h1 h2 h3 h4 h5 h6⟩
  · refine Reg.GStepAt.plain (i := 12) rfl ?_
    intro x L ev w hI hk hp hA
    have e42 : ev (.tmp 42) = .tuple #[.agg #[.bool r.2.2.1.ok, .float .f64 r.2.2.1.pri, .int .i64 r.2.2.1.val, .int .i64 r.2.2.1.n], .bool r.2.2.2] := hA.val 11 _ 42 rfl (hp ⟨11, .data⟩ (by simp) rfl) rfl
    have hcc := hA.const
    clear hA hp
    refine Reg.out_value (v := .tuple #[.agg #[.bool r.2.2.1.ok, .float .f64 r.2.2.1.pri, .int .i64 r.2.2.1.val, .int .i64 r.2.2.1.n], .bool r.2.2.2]) ?_ ⟨x, rfl, Ar.Pres.refl _ _ _, hI.quiet 12 (by decide) (by decide) (by decide)⟩
    go_simp
  · refine Reg.GStepAt.plain (i := 13) rfl ?_
    intro x L ev w hI hk hp hA
    have e30 : ev (.tmp 30) = .tuple #[.agg #[.bool r.2.2.1.ok, .float .f64 r.2.2.1.pri, .int .i64 r.2.2.1.val, .int .i64 r.2.2.1.n], .bool r.2.2.2] := hA.val 12 _ 30 rfl (hp ⟨12, .data⟩ (by simp) rfl) rfl
    have hcc := hA.const
    clear hA hp
    refine Reg.out_value (v := .agg #[.bool r.2.2.1.ok, .float .f64 r.2.2.1.pri, .int .i64 r.2.2.1.val, .int .i64 r.2.2.1.n]) ?_ ⟨x, rfl, Ar.Pres.refl _ _ _, hI.quiet 13 (by decide) (by decide) (by decide)⟩
    go_simp
  · refine Reg.GStepAt.plain (i := 14) rfl ?_
    intro x L ev w hI hk hp hA
    have e30 : ev (.tmp 30) = .tuple #[.agg #[.bool r.2.2.1.ok, .float .f64 r.2.2.1.pri, .int .i64 r.2.2.1.val, .int .i64 r.2.2.1.n], .bool r.2.2.2] := hA.val 12 _ 30 rfl (hp ⟨12, .data⟩ (by simp) rfl) rfl
    have hcc := hA.const
    clear hA hp
    refine Reg.out_value (v := .bool r.2.2.2) ?_ ⟨x, rfl, Ar.Pres.refl _ _ _, hI.quiet 14 (by decide) (by decide) (by decide)⟩
    go_simp
  · refine Reg.GStepAt.plain (i := 15) rfl ?_
    intro x L ev w hI hk hp hA
    have hcc := hA.const
    have hSf : L.getD 16 false = false := by
      cases hq : L.getD 16 false with
      | false => rfl
      | true => have := hA.closed 16 _ rfl hq ⟨15, .data⟩ (by simp) rfl; rw [show (⟨15, .data⟩ : Edge).on = 15 from rfl, Ar.getD_false hk] at this; cases this
    clear hA hp
    refine Reg.out_new (v := .pointer (some ⟨w.heap.size, 0, none⟩)) (w' := w.alloc (.cells Ans.zero.l.toArray 46)) ?_ ⟨(x.1, some w.heap.size), ⟨_, rfl, rfl⟩, fun b hb => (by rw [hI.no (Ar.getD_false hk)] at hb; cases hb), hI.alloc hk hSf (by decide) (by decide) _⟩
    (go_simp; try rfl)
  · refine Reg.GStepAt.plain (i := 16) rfl ?_
    intro x L ev w hI hk hp hA
    have e9 : ∃ bx, x.2 = some bx ∧ ev (.tmp 9) = .pointer (some ⟨bx, 0, none⟩) := hA.val 15 _ 9 rfl (hp ⟨15, .data⟩ (by simp) rfl) rfl
    have e43 : ev (.tmp 43) = .agg #[.bool r.2.2.1.ok, .float .f64 r.2.2.1.pri, .int .i64 r.2.2.1.val, .int .i64 r.2.2.1.n] := hA.val 13 _ 43 rfl (hp ⟨13, .data⟩ (by simp) rfl) rfl
    have hcc := hA.const
    clear hA hp
    obtain ⟨bx, hx, e9⟩ := e9
    have hbx := (hI.box bx hx).2.2.2.2
    rw [Ar.getD_false hk] at hbx
    obtain ⟨g0, x0⟩ := hbx.get 0 _ rfl
    obtain ⟨g1, x1⟩ := hbx.get 1 _ rfl
    obtain ⟨g2, x2⟩ := hbx.get 2 _ rfl
    obtain ⟨g3, x3⟩ := hbx.get 3 _ rfl
    refine Ar.out_skip (w' := setBox w bx r.2.2.1.s) ?_ ⟨x, trivial, Ar.Pres.refl _ _ _, hI.store hk (by decide) (by decide) hx⟩
    clear hbx
    simp only [setBox]
    go_simp
  · refine Reg.GStepAt.plain (i := 17) rfl ?_
    intro x L ev w hI hk hp hA
    have e44 : ev (.tmp 44) = .bool r.2.2.2 := hA.val 14 _ 44 rfl (hp ⟨14, .data⟩ (by simp) rfl) rfl
    have hcc := hA.const
    clear hA hp
    refine Reg.out_value (v := .bool r.2.2.2) ?_ ⟨x, rfl, Ar.Pres.refl _ _ _, hI.quiet 17 (by decide) (by decide) (by decide)⟩
    go_simp
  intro x L act wz hall hI hF
  have q31 : act.eval (.tmp 31) = .pointer (some ⟨eb, 0, none⟩) := hF.val 0 _ 31 rfl (hall 0 (by simp)) rfl
  have q32 : act.eval (.tmp 32) = .pointer (some ⟨eb, 0, none⟩) := hF.val 1 _ 32 rfl (hall 1 (by simp)) rfl
  have q33 : act.eval (.tmp 33) = .pointer (some ⟨eb, 2, none⟩) := hF.val 2 _ 33 rfl (hall 2 (by simp)) rfl
  have q34 : act.eval (.tmp 34) = .iface 147 (.agg #[.int .i64 sh]) := hF.val 3 _ 34 rfl (hall 3 (by simp)) rfl
  have q35 : act.eval (.tmp 35) = .pointer (some ⟨eb, 0, none⟩) := hF.val 4 _ 35 rfl (hall 4 (by simp)) rfl
  have q36 : act.eval (.tmp 36) = .pointer (some ⟨eb, 0, none⟩) := hF.val 5 _ 36 rfl (hall 5 (by simp)) rfl
  have q37 : act.eval (.tmp 37) = .pointer (some ⟨eb, 3, none⟩) := hF.val 6 _ 37 rfl (hall 6 (by simp)) rfl
  have q38 : act.eval (.tmp 38) = .pointer (some ⟨mb, 0, none⟩) := hF.val 7 _ 38 rfl (hall 7 (by simp)) rfl
  have q39 : act.eval (.tmp 39) = .pointer (some ⟨fb, 0, none⟩) := hF.val 8 _ 39 rfl (hall 8 (by simp)) rfl
  have q40 : act.eval (.tmp 40) = .iface 147 (.agg #[.int .i64 sh]) := hF.val 9 _ 40 rfl (hall 9 (by simp)) rfl
  have q41 : act.eval (.tmp 41) = .iface 147 (.agg #[.int .i64 sh]) := hF.val 10 _ 41 rfl (hall 10 (by simp)) rfl
  have q42 : act.eval (.tmp 42) = .tuple #[.agg #[.bool r.2.2.1.ok, .float .f64 r.2.2.1.pri, .int .i64 r.2.2.1.val, .int .i64 r.2.2.1.n], .bool r.2.2.2] := hF.val 11 _ 42 rfl (hall 11 (by simp)) rfl
  have q30 : act.eval (.tmp 30) = .tuple #[.agg #[.bool r.2.2.1.ok, .float .f64 r.2.2.1.pri, .int .i64 r.2.2.1.val, .int .i64 r.2.2.1.n], .bool r.2.2.2] := hF.val 12 _ 30 rfl (hall 12 (by simp)) rfl
  have q43 : act.eval (.tmp 43) = .agg #[.bool r.2.2.1.ok, .float .f64 r.2.2.1.pri, .int .i64 r.2.2.1.val, .int .i64 r.2.2.1.n] := hF.val 13 _ 43 rfl (hall 13 (by simp)) rfl
  have q44 : act.eval (.tmp 44) = .bool r.2.2.2 := hF.val 14 _ 44 rfl (hall 14 (by simp)) rfl
  have q9 : ∃ bx, x.2 = some bx ∧ act.eval (.tmp 9) = .pointer (some ⟨bx, 0, none⟩) := hF.val 15 _ 9 rfl (hall 15 (by simp)) rfl
  obtain ⟨bx, hx, q9⟩ := q9
  have q10 : act.eval (.tmp 10) = .bool r.2.2.2 := hF.val 17 _ 10 rfl (hall 17 (by simp)) rfl
  have hact := hF.act [31, 32, 33, 34, 35, 36, 37, 38, 39, 40, 41, 42, 30, 43, 44, 9, 10] (by kernel_rfl)
  have hst := hI.st
  rw [hall 11 (by simp), if_pos rfl] at hst
  have hchg := hI.chg
  have hgrw := hI.grow
  obtain ⟨hx0, hx1, hx2, hx3, hbx⟩ := hI.box bx hx
  rw [hall 16 (by simp), if_pos rfl] at hbx
  clear hF hall hI
  simp only [List.foldl_cons, List.foldl_nil] at hact
  rw [q31, q32, q33, q34, q35, q36, q37, q38, q39, q40, q41, q42, q30, q43, q44, q9, q10] at hact
  clear q31 q32 q33 q34 q35 q36 q37 q38 q39 q40 q41 q42 q30 q43 q44 q9 q10
  simp only [List.setIfInBounds_toArray, List.set_cons_succ, List.set_cons_zero] at hact
  subst hact
  obtain ⟨O', P', hM', hF', hD', hGO, hGP, _⟩ := hst
  obtain ⟨hE1, hV1, hb01, hlt1⟩ := H1.out
  obtain ⟨hne, hlt, hfb⟩ := HNE.out
  obtain ⟨M2, F2, A, d⟩ := r
  obtain ⟨aok, api, av, an⟩ := A
  dsimp only at *
  have hvb := HVB.out
  have hEz := hE1.but hchg hne
  have hVz := hV1.but hchg (fun e => by have := hlt vb e; omega)
  have hvl := hV1.lt
  have hne1 : vb ≠ eb := by omega
  have hne2 : bx ≠ eb := by have := hE1.lt; omega
  have hfbP : P' fb := hF'.ob
  have hneP : ∀ k, O' k ∨ P' k → k ≠ eb := fun k hk e => by
    subst e
    rcases hk with q | q
    · rcases hGO _ q with s | s
      · exact hne (.inl s)
      · omega
    · rcases hGP _ q with s | s
      · exact hne (.inr s)
      · omega
  have hnfe : fb ≠ eb := hneP fb (.inr hfbP)
  obtain ⟨z11, y11⟩ := hEz.get 11 _ rfl
  have hzl := hEz.lt
  have hstI : (steps : Int) < 4611686018427387904 := by omega
  obtain ⟨W2, hW2⟩ : ∃ W2, wz.setCell ⟨eb, 11, none⟩ (.int .i64 ((steps : Int) + 1)) = W2 := ⟨_, rfl⟩
  have hc2 : But (fun j => j = eb) wz W2 := by rw [← hW2]; exact (But.refl (fun j => j = eb) wz).set1 eb 11 rfl _
  have hE2 : BoxAt W2 eb (ecells kind param 147 (.agg #[.int .i64 sh]) mb Q closed (((steps + 1 : Nat)) : Int)) := by rw [← hW2]; exact hEz.set 11 (.int .i64 ((steps : Int) + 1))
  have hV2 := hVz.but hc2 hne1
  have hB2 := hbx.but hc2 hne2
  have hM2 := hM'.but hc2 (fun k hk e => hneP k (.inl hk) e)
  have hF2 := hF'.but hc2 (fun k hk e => hneP k (.inr hk) e)
  have hchg2 : But (fun k => O k ∨ P k ∨ k = eb) w W2 := ((But.of_below hb01).then hchg (fun k _ e => e.elim .inl (fun q => .inr (.inl q)))).then hc2 (fun k _ e => .inr (.inr e))
  have hGO2 : Grown O w W2 O' := fun k hk => (hGO k hk).imp id (fun q => ⟨by have := hb01.size; omega, by have := hc2.size; omega⟩)
  have hGP2 : Grown P w W2 P' := fun k hk => (hGP k hk).imp id (fun q => ⟨by have := hb01.size; omega, by have := hc2.size; omega⟩)
  have HZ := hidq (And.intro hne1 (And.intro hnfe (And.intro hneP hD')))
  have hbxv : bx ≠ vb := by omega
  have hvO : ∀ k, O' k ∨ P' k → k ≠ vb := fun k hk e => by
    subst e
    rcases hk with q | q
    · rcases hGO _ q with s | s
      · have := hlt _ (.inl s); omega
      · omega
    · rcases hGP _ q with s | s
      · have := hlt _ (.inr s); omega
      · omega
  have HVO := hidq hvO
  have hfv : fb ≠ vb := hvO fb (.inr hfbP)
  cases d with
  | false =>
    have hvb2 := HVB.out
    obtain ⟨Wv, hWv⟩ : ∃ Wv, setBox W2 vb [(0, .int .i64 (t : Int)), (1, .int .i64 F2.kind), (2, .float .f64 F2.pri), (3, .int .i64 F2.val), (4, .int .i64 F2.d0), (5, .int .i64 F2.d1), (6, .bool false), (7, .bool aok), (8, .float .f64 api), (9, .int .i64 av), (10, .int .i64 an)] = Wv := ⟨_, rfl⟩
    have hbv : But (fun j => j = vb) W2 Wv := by rw [← hWv]; exact setBox_but vb [(0, .int .i64 (t : Int)), (1, .int .i64 F2.kind), (2, .float .f64 F2.pri), (3, .int .i64 F2.val), (4, .int .i64 F2.d0), (5, .int .i64 F2.d1), (6, .bool false), (7, .bool aok), (8, .float .f64 api), (9, .int .i64 av), (10, .int .i64 an)] W2
    have hQV : BoxAt Wv vb [.int .i64 (t : Int), .int .i64 F2.kind, .float .f64 F2.pri, .int .i64 F2.val, .int .i64 F2.d0, .int .i64 F2.d1, .bool false, .bool aok, .float .f64 api, .int .i64 av, .int .i64 an] := by rw [← hWv]; exact (setBox_box [(0, .int .i64 (t : Int)), (1, .int .i64 F2.kind), (2, .float .f64 F2.pri), (3, .int .i64 F2.val), (4, .int .i64 F2.d0), (5, .int .i64 F2.d1), (6, .bool false), (7, .bool aok), (8, .float .f64 api), (9, .int .i64 av), (10, .int .i64 an)] hV2)
    dsimp only [setBox] at hWv
    have HWv := hidq hWv
    have HE := hidq (show PickEnd eb kind param 147 (.agg #[.int .i64 sh]) mb Q closed steps t fb O P (M2, F2, ⟨aok, api, av, an⟩, false) w (.returned (.tuple #[evV t F2 ⟨aok, api, av, an⟩ false, .bool true])) Wv.drew from by
      refine ⟨rfl, (hE2.but hbv (fun e => hne1 e.symm)).drew, O', P', (hM2.but hbv (fun k hk e => hvO k (.inl hk) e)).below (Below.refl _ _).drew, (hF2.but hbv (fun k hk e => hvO k (.inr hk) e)).below (Below.refl _ _).drew, hD', Er.Grown.up hGO2 hbv.size, Er.Grown.up hGP2 hbv.size, ((hchg2.then hbv (fun k hk e => by omega)).drew)⟩)
    have q0 := (hQV.get 0 _ rfl).1
    have q1 := (hQV.get 1 _ rfl).1
    have q2 := (hQV.get 2 _ rfl).1
    have q3 := (hQV.get 3 _ rfl).1
    have q4 := (hQV.get 4 _ rfl).1
    have q5 := (hQV.get 5 _ rfl).1
    have q6 := (hQV.get 6 _ rfl).1
    have q7 := (hQV.get 7 _ rfl).1
    have q8 := (hQV.get 8 _ rfl).1
    have q9 := (hQV.get 9 _ rfl).1
    have q10 := (hQV.get 10 _ rfl).1
    have HQZ := hidq (And.intro q0 (And.intro q1 (And.intro q2 (And.intro q3 (And.intro q4 (And.intro q5 (And.intro q6 (And.intro q7 (And.intro q8 (And.intro q9 q10))))))))))
    clear q0 q1 q2 q3 q4 q5 q6 q7 q8 q9 q10 hQV hbv hvb2 hWv
    obtain ⟨a0, k0, a1, k1, hFb, _⟩ := hF2.box
    obtain ⟨p0, _⟩ := hFb.get 0 _ rfl
    obtain ⟨p1, _⟩ := hFb.get 1 _ rfl
    obtain ⟨p2, _⟩ := hFb.get 2 _ rfl
    obtain ⟨p3, _⟩ := hFb.get 3 _ rfl
    obtain ⟨p4, _⟩ := hFb.get 4 _ rfl
    have hpl := hFb.lt
    obtain ⟨b0, _⟩ := hB2.get 0 _ rfl
    obtain ⟨b1, _⟩ := hB2.get 1 _ rfl
    obtain ⟨b2, _⟩ := hB2.get 2 _ rfl
    obtain ⟨b3, _⟩ := hB2.get 3 _ rfl
    have hbl := hB2.lt
    obtain ⟨v0, u0⟩ := hV2.get 0 _ rfl
    obtain ⟨v1, u1⟩ := hV2.get 1 _ rfl
    obtain ⟨v2, u2⟩ := hV2.get 2 _ rfl
    obtain ⟨v3, u3⟩ := hV2.get 3 _ rfl
    obtain ⟨v4, u4⟩ := hV2.get 4 _ rfl
    obtain ⟨v5, u5⟩ := hV2.get 5 _ rfl
    obtain ⟨v6, u6⟩ := hV2.get 6 _ rfl
    obtain ⟨v7, u7⟩ := hV2.get 7 _ rfl
    obtain ⟨v8, u8⟩ := hV2.get 8 _ rfl
    obtain ⟨v9, u9⟩ := hV2.get 9 _ rfl
    obtain ⟨v10, u10⟩ := hV2.get 10 _ rfl
    have hvl := hV2.lt
    clear hx0 hx1 hx2 hx3 hx hbx hM' hF' hD' hGO hGP hE1 hV1 hb01 hlt1 hne hlt hfb hEz hVz hne1 hne2 hfbP hneP hc2 hE2 hB2 hM2 hF2 hchg2 hGO2 hGP2 hFb hchg hgrw hvO hvb hV2
    go_wp2_with fail
    go_region
    rw [HWv.out]
    clear HZ HVO H1 HNE HQ HB HVB
    go_wp2_with fail
    obtain ⟨q0, q1, q2, q3, q4, q5, q6, q7, q8, q9, q10⟩ := HQZ.out
    exact bodyPost_ret (v := .tuple #[evV t F2 ⟨aok, api, av, an⟩ false, .bool true]) (by simp [results, Tryz.results10, go_sem, q0, q1, q2, q3, q4, q5, q6, q7, q8, q9, q10]) rfl HE.out
  | true =>
    obtain ⟨z4, y4⟩ := hE2.get (4 + t) _ (ecells_thread kind param 147 (.agg #[.int .i64 sh]) mb Q closed (((steps + 1 : Nat)) : Int) t ht6)
    rw [HQ.out] at z4
    have hel2 := hE2.lt
    obtain ⟨W3, hW3⟩ : ∃ W3, W2.setCell ⟨eb, 4 + t, none⟩ (.pointer none) = W3 := ⟨_, rfl⟩
    have hc3 : But (fun j => j = eb) W2 W3 := by rw [← hW3]; exact (But.refl (fun j => j = eb) W2).set1 eb (4 + t) rfl _
    have hE3 : BoxAt W3 eb (ecells kind param 147 (.agg #[.int .i64 sh]) mb (qset Q t none) closed (((steps + 1 : Nat)) : Int)) := by rw [← hW3]; exact (hE2.set (4 + t) (eptr none)).same (ecells_set kind param 147 (.agg #[.int .i64 sh]) mb Q closed (((steps + 1 : Nat)) : Int) t ht6 none)
    have hV3 := hV2.but hc3 hne1
    have hB3 := hB2.but hc3 hne2
    have hM3 := hM2.but hc3 (fun k hk e => hneP k (.inl hk) e)
    have hF3 := hF2.but hc3 (fun k hk e => hneP k (.inr hk) e)
    have hchg3 : But (fun k => O k ∨ P k ∨ k = eb) w W3 := hchg2.then hc3 (fun k _ e => .inr (.inr e))
    have hGO3 := Er.Grown.up hGO2 hc3.size
    have hGP3 := Er.Grown.up hGP2 hc3.size
    have hV2 := hV3
    have hvb2 := HVB.out
    obtain ⟨Wv, hWv⟩ : ∃ Wv, setBox W3 vb [(0, .int .i64 (t : Int)), (1, .int .i64 F2.kind), (2, .float .f64 F2.pri), (3, .int .i64 F2.val), (4, .int .i64 F2.d0), (5, .int .i64 F2.d1), (6, .bool true), (7, .bool aok), (8, .float .f64 api), (9, .int .i64 av), (10, .int .i64 an)] = Wv := ⟨_, rfl⟩
    have hbv : But (fun j => j = vb) W3 Wv := by rw [← hWv]; exact setBox_but vb [(0, .int .i64 (t : Int)), (1, .int .i64 F2.kind), (2, .float .f64 F2.pri), (3, .int .i64 F2.val), (4, .int .i64 F2.d0), (5, .int .i64 F2.d1), (6, .bool true), (7, .bool aok), (8, .float .f64 api), (9, .int .i64 av), (10, .int .i64 an)] W3
    have hQV : BoxAt Wv vb [.int .i64 (t : Int), .int .i64 F2.kind, .float .f64 F2.pri, .int .i64 F2.val, .int .i64 F2.d0, .int .i64 F2.d1, .bool true, .bool aok, .float .f64 api, .int .i64 av, .int .i64 an] := by rw [← hWv]; exact (setBox_box [(0, .int .i64 (t : Int)), (1, .int .i64 F2.kind), (2, .float .f64 F2.pri), (3, .int .i64 F2.val), (4, .int .i64 F2.d0), (5, .int .i64 F2.d1), (6, .bool true), (7, .bool aok), (8, .float .f64 api), (9, .int .i64 av), (10, .int .i64 an)] hV2)
    dsimp only [setBox] at hWv
    have HWv := hidq hWv
    have HE := hidq (show PickEnd eb kind param 147 (.agg #[.int .i64 sh]) mb Q closed steps t fb O P (M2, F2, ⟨aok, api, av, an⟩, true) w (.returned (.tuple #[evV t F2 ⟨aok, api, av, an⟩ true, .bool true])) Wv.drew from by
      refine ⟨rfl, (hE3.but hbv (fun e => hne1 e.symm)).drew, O', P', (hM3.but hbv (fun k hk e => hvO k (.inl hk) e)).below (Below.refl _ _).drew, (hF3.but hbv (fun k hk e => hvO k (.inr hk) e)).below (Below.refl _ _).drew, hD', Er.Grown.up hGO3 hbv.size, Er.Grown.up hGP3 hbv.size, ((hchg3.then hbv (fun k hk e => by omega)).drew)⟩)
    have q0 := (hQV.get 0 _ rfl).1
    have q1 := (hQV.get 1 _ rfl).1
    have q2 := (hQV.get 2 _ rfl).1
    have q3 := (hQV.get 3 _ rfl).1
    have q4 := (hQV.get 4 _ rfl).1
    have q5 := (hQV.get 5 _ rfl).1
    have q6 := (hQV.get 6 _ rfl).1
    have q7 := (hQV.get 7 _ rfl).1
    have q8 := (hQV.get 8 _ rfl).1
    have q9 := (hQV.get 9 _ rfl).1
    have q10 := (hQV.get 10 _ rfl).1
    have HQZ := hidq (And.intro q0 (And.intro q1 (And.intro q2 (And.intro q3 (And.intro q4 (And.intro q5 (And.intro q6 (And.intro q7 (And.intro q8 (And.intro q9 q10))))))))))
    clear q0 q1 q2 q3 q4 q5 q6 q7 q8 q9 q10 hQV hbv hvb2 hWv
    obtain ⟨a0, k0, a1, k1, hFb, _⟩ := hF3.box
    obtain ⟨p0, _⟩ := hFb.get 0 _ rfl
    obtain ⟨p1, _⟩ := hFb.get 1 _ rfl
    obtain ⟨p2, _⟩ := hFb.get 2 _ rfl
    obtain ⟨p3, _⟩ := hFb.get 3 _ rfl
    obtain ⟨p4, _⟩ := hFb.get 4 _ rfl
    have hpl := hFb.lt
    obtain ⟨b0, _⟩ := hB3.get 0 _ rfl
    obtain ⟨b1, _⟩ := hB3.get 1 _ rfl
    obtain ⟨b2, _⟩ := hB3.get 2 _ rfl
    obtain ⟨b3, _⟩ := hB3.get 3 _ rfl
    have hbl := hB3.lt
    obtain ⟨v0, u0⟩ := hV3.get 0 _ rfl
    obtain ⟨v1, u1⟩ := hV3.get 1 _ rfl
    obtain ⟨v2, u2⟩ := hV3.get 2 _ rfl
    obtain ⟨v3, u3⟩ := hV3.get 3 _ rfl
    obtain ⟨v4, u4⟩ := hV3.get 4 _ rfl
    obtain ⟨v5, u5⟩ := hV3.get 5 _ rfl
    obtain ⟨v6, u6⟩ := hV3.get 6 _ rfl
    obtain ⟨v7, u7⟩ := hV3.get 7 _ rfl
    obtain ⟨v8, u8⟩ := hV3.get 8 _ rfl
    obtain ⟨v9, u9⟩ := hV3.get 9 _ rfl
    obtain ⟨v10, u10⟩ := hV3.get 10 _ rfl
    have hvl := hV3.lt
    clear hx0 hx1 hx2 hx3 hx hbx hM' hF' hD' hGO hGP hE1 hV1 hb01 hlt1 hne hlt hfb hEz hVz hne1 hne2 hfbP hneP hc2 hE2 hB2 hM2 hF2 hchg2 hGO2 hGP2 hFb hchg hgrw hvO hvb hV2 hV3 hB3 hM3 hF3 hchg3 hGO3 hGP3 hE3 hc3
    go_wp2_with fail
    go_region
    rw [HWv.out]
    clear HZ HVO H1 HNE HQ HB HVB
    go_wp2_with fail
    obtain ⟨q0, q1, q2, q3, q4, q5, q6, q7, q8, q9, q10⟩ := HQZ.out
    exact bodyPost_ret (v := .tuple #[evV t F2 ⟨aok, api, av, an⟩ true, .bool true]) (by simp [results, Tryz.results10, go_sem, q0, q1, q2, q3, q4, q5, q6, q7, q8, q9, q10]) rfl HE.out
end Go.Proofs.YtbcmilfajeanbaaGreat

namespace Go.Proofs.YtbcmilfajeanbaaGreat
open Go.RowKit Go.Sort

def pickKR (eb fb mb : Nat) (r : Mem × Fr × Ans × Bool) (sh : Int) : List (Value → Ar.Gh → World → Prop) :=
  [fun u0 _ _ => u0 = .pointer (some ⟨eb, 0, none⟩),
   fun u0 _ _ => u0 = .pointer (some ⟨eb, 0, none⟩),
   fun u0 _ _ => u0 = .pointer (some ⟨eb, 2, none⟩),
   fun u0 _ _ => u0 = .iface 151 (.agg #[.int .i64 sh]),
   fun u0 _ _ => u0 = .pointer (some ⟨eb, 0, none⟩),
   fun u0 _ _ => u0 = .pointer (some ⟨eb, 0, none⟩),
   fun u0 _ _ => u0 = .pointer (some ⟨eb, 3, none⟩),
   fun u0 _ _ => u0 = .pointer (some ⟨mb, 0, none⟩),
   fun u0 _ _ => u0 = .pointer (some ⟨fb, 0, none⟩),
   fun u0 _ _ => u0 = .iface 151 (.agg #[.int .i64 sh]),
   fun u0 _ _ => u0 = .iface 151 (.agg #[.int .i64 sh]),
   fun u0 _ _ => u0 = .tuple #[.agg #[.bool r.2.2.1.ok, .float .f64 r.2.2.1.pri, .int .i64 r.2.2.1.val, .int .i64 r.2.2.1.n], .bool r.2.2.2],
   fun u0 _ _ => u0 = .tuple #[.agg #[.bool r.2.2.1.ok, .float .f64 r.2.2.1.pri, .int .i64 r.2.2.1.val, .int .i64 r.2.2.1.n], .bool r.2.2.2],
   fun u0 _ _ => u0 = .agg #[.bool r.2.2.1.ok, .float .f64 r.2.2.1.pri, .int .i64 r.2.2.1.val, .int .i64 r.2.2.1.n],
   fun u0 _ _ => u0 = .bool r.2.2.2,
   fun u0 x _ => ∃ bx, x.2 = some bx ∧ u0 = .pointer (some ⟨bx, 0, none⟩),
   fun _ _ _ => True,
   fun u0 _ _ => u0 = .bool r.2.2.2]
theorem pickKR_kept (eb fb mb : Nat) (r : Mem × Fr × Ans × Bool) (sh : Int) : Reg.GAllKept Ar.Pres (pickKR eb fb mb r sh) :=
  ⟨(fun _ _ _ _ _ _ h => h), (fun _ _ _ _ _ _ h => h), (fun _ _ _ _ _ _ h => h), (fun _ _ _ _ _ _ h => h), (fun _ _ _ _ _ _ h => h), (fun _ _ _ _ _ _ h => h), (fun _ _ _ _ _ _ h => h), (fun _ _ _ _ _ _ h => h), (fun _ _ _ _ _ _ h => h), (fun _ _ _ _ _ _ h => h), (fun _ _ _ _ _ _ h => h), (fun _ _ _ _ _ _ h => h), (fun _ _ _ _ _ _ h => h), (fun _ _ _ _ _ _ h => h), (fun _ _ _ _ _ _ h => h), (fun _ _ _ _ _ hp h => by obtain ⟨bx, h1, h2⟩ := h; exact ⟨bx, hp bx h1, h2⟩), (fun _ _ _ _ _ _ h => h), (fun _ _ _ _ _ _ h => h), trivial⟩

set_option maxRecDepth 20000 in
set_option maxHeartbeats 8000000 in
theorem pickK_any (sh : Int) (eb : Nat) (kind param : Int) (mb : Nat) (Q : Nat → Option Nat) (closed : Bool) (steps : Nat) (pick : Int) (t fb : Nat) (O P : Nat → Prop) (r : Mem × Fr × Ans × Bool) (w : World)
    (hE : BoxAt w eb (ecells kind param 151 (.agg #[.int .i64 sh]) mb Q closed (steps : Int))) (hb : (busyTo Q 6)[(into pick (busyTo Q 6).length).toNat]? = some t) (hQ : Q t = some fb) (hst : steps < 4611686018427387904)
    (hlt : ∀ k, O k ∨ P k → k < w.heap.size) (hne : ¬ (O eb ∨ P eb)) (hfb : ∃ a0 k0 a1 k1 F0, BoxAt w fb (Fr.l F0 a0 k0 a1 k1))
    (hS : ∀ W, Below w.heap.size w W → Calls Tryz.prog 182 #[.agg #[.int .i64 sh], .pointer (some ⟨mb, 0, none⟩), .pointer (some ⟨fb, 0, none⟩)] W (StepEnd mb fb O P r W)) :
    Calls Tryz.prog 10 #[.pointer (some ⟨eb, 0, none⟩), .int .i64 pick] w (PickEnd eb kind param 151 (.agg #[.int .i64 sh]) mb Q closed steps t fb O P r w) := by
  have hsf := run_store_flt (P := Tryz.prog)
  have hms : ∀ w, (method 369 151 (.agg #[.int .i64 sh]) "Step").run Tryz.prog w = .ok (182, (.agg #[.int .i64 sh])) w := fun w => by kernel_rfl
  obtain ⟨vb, hvb⟩ : ∃ vb, w.heap.size = vb := ⟨_, rfl⟩
  obtain ⟨W0, hW0⟩ : ∃ W0, w.alloc (.cells #[.int .i64 0, .int .i64 0, .float .f64 0, .int .i64 0, .int .i64 0, .int .i64 0, .bool false, .bool false, .float .f64 0, .int .i64 0, .int .i64 0] 48) = W0 := ⟨_, rfl⟩
  have hV0 := BoxAt.new w [.int .i64 0, .int .i64 0, .float .f64 0, .int .i64 0, .int .i64 0, .int .i64 0, .bool false, .bool false, .float .f64 0, .int .i64 0, .int .i64 0] 48
  rw [show w.alloc (.cells [.int .i64 0, .int .i64 0, .float .f64 0, .int .i64 0, .int .i64 0, .int .i64 0, .bool false, .bool false, .float .f64 0, .int .i64 0, .int .i64 0].toArray 48) = W0 from hW0, hvb] at hV0
  have hb0 : Below w.heap.size w W0 := by rw [← hW0]; exact (Below.refl _ _).alloc (Nat.le_refl _) _
  have hn6 := busyTo_le Q 6
  have ht6 : t < 6 := by
    have := List.mem_of_getElem? hb
    exact (busyTo_mem.1 this).1
  have hBz := busy_any eb kind param 151 (.agg #[.int .i64 sh]) mb Q closed (steps : Int) W0 (hE.below hb0)
  obtain ⟨n, hn⟩ : ∃ n, (busyTo Q 6).length = n := ⟨_, rfl⟩
  obtain ⟨l, hl⟩ : ∃ l, busyTo Q 6 = l := ⟨_, rfl⟩
  have hBE : ∀ e w', BusyEnd Q W0 e w' → ∃ a cap, e = .returned (.slice a n cap) ∧ SlAt 1 w' a cap n (vals l) ∧ Below W0.heap.size W0 w' := by
    rintro e w' ⟨a, cap, h1, h2, h3, h4⟩
    rw [hn, hl] at *
    exact ⟨a, cap, h1, h2, h4⟩
  replace hBz := hBz.mono hBE
  clear hBE
  rw [hn, hl] at hb
  have hnl : l.length = n := by rw [← hl]; exact hn
  rw [hn] at hn6
  have hn1 : 1 ≤ n := by
    have := (List.getElem?_eq_some_iff.1 hb).1
    omega
  obtain ⟨j, hj, hjn⟩ : ∃ j : Nat, into pick (n : Int) = (j : Int) ∧ j < n := by
    have := into_rng (d := pick) (n := (n : Int)) (by omega)
    exact ⟨(into pick (n : Int)).toNat, by omega, by omega⟩
  rw [hj] at hb
  have hb' : l[j]? = some t := hb
  have hIn := fun w => into_any pick (n : Int) w (by omega)
  rw [hj] at hIn
  have hne0 : ((n : Int) == 0) = false := by simp; omega
  have hne0' : (n == 0) = false := by simp; omega
  have HH := hidq (And.intro hE (And.intro hV0 (And.intro hb0 (And.intro hlt (And.intro hne hfb)))))
  have HS0 := hidq hS
  have HQ := hidq hQ
  have HB := hidq hb'
  have HI := hidq hIn
  have hel := hE.lt
  have HVB := hidq hvb
  clear hE hV0 hb0 hlt hne hfb hS hQ hb hb' hn hl hnl hj hIn
  go_enter Tryz.func10, Tryz.ntmps10
  go_wp2_with fail
  refine hBz.mono ?_
  rintro e w1 ⟨a, cap, rfl, hSl, hb1⟩
  clear hBz
  obtain ⟨hE, hV0, hb0, hlt, hne, hfb⟩ := HH.out
  obtain ⟨g, rfl, hgl, hgc⟩ := hSl.cell (t := j) (u := .int .i64 (t : Int)) (by simp [vals, HB.out])
  have hb01 := hb0.trans (hb1.mono hb0.size)
  have hE1 := hE.below hb01
  have hV1 := hV0.below hb1
  have hthr := (hE1.get (4 + t) _ (ecells_thread kind param 151 (.agg #[.int .i64 sh]) mb Q closed (steps : Int) t ht6)).1
  rw [HQ.out] at hthr
  replace hthr : w1.cell? ⟨eb, 4 + t, none⟩ = some (.pointer (some ⟨fb, 0, none⟩)) := hthr
  have hel1 := hE1.lt
  have H1 := hidq (And.intro hE1 (And.intro hV1 (And.intro hb01 (show ∀ k, O k ∨ P k → k < w1.heap.size from fun k hk => Nat.lt_of_lt_of_le (hlt k hk) hb01.size))))
  have hS1 := hidq (fun W (hW : Below w1.heap.size w1 W) => HS0.out W (hb01.trans (hW.mono hb01.size)))
  have hcp := hSl.le
  have HNE := hidq (And.intro hne (And.intro hlt hfb))
  clear hSl hE hV0 hb0 hlt hne hfb hb1 hb01 hE1 hV1 HH HS0
  clear hW0
  go_wp2_with fail
  refine (HI.out _).mono ?_
  rintro e w2 ⟨rfl, hw2⟩
  replace hw2 := hw2.symm
  subst hw2
  clear HI
  go_wp2_with fail
  refine Reg.wp_region_ghost (Reg.gofList (pickKR eb fb mb r sh)) Ar.Pres (Er.GI w1 mb fb O P r 11 15 16) (O, none) (by kernel_rfl) (by kernel_rfl) (Reg.GAllKept.at _ (pickKR_kept eb fb mb r sh)) (Er.GI.start w1 mb fb O P r 11 15 16 H1.out.2.2.2 _) ⟨?_, ?_, ?_, ?_, ?_, ?_, ?_, ?_, ?_, ?_, ?_, ?_, ?_, ?_, ?_, ?_, ?_, ?_, trivial⟩ ?_
  · refine Reg.GStepAt.plain (i := 0) rfl ?_
    intro x L ev w hI hk hp hA
    have e0 : ev (.tmp 0) = .pointer (some ⟨eb, 0, none⟩) := hA.oldNone 0 (by kernel_rfl)
    have hcc := hA.const
    clear hA hp
    refine Reg.out_value (v := .pointer (some ⟨eb, 0, none⟩)) ?_ ⟨x, rfl, Ar.Pres.refl _ _ _, hI.quiet 0 (by decide) (by decide) (by decide)⟩
    go_simp
  · refine Reg.GStepAt.plain (i := 1) rfl ?_
    intro x L ev w hI hk hp hA
    have e31 : ev (.tmp 31) = .pointer (some ⟨eb, 0, none⟩) := hA.val 0 _ 31 rfl (hp ⟨0, .data⟩ (by simp) rfl) rfl
    have hcc := hA.const
    clear hA hp
    refine Reg.out_value (v := .pointer (some ⟨eb, 0, none⟩)) ?_ ⟨x, rfl, Ar.Pres.refl _ _ _, hI.quiet 1 (by decide) (by decide) (by decide)⟩
    go_simp
  · refine Reg.GStepAt.plain (i := 2) rfl ?_
    intro x L ev w hI hk hp hA
    have e32 : ev (.tmp 32) = .pointer (some ⟨eb, 0, none⟩) := hA.val 1 _ 32 rfl (hp ⟨1, .data⟩ (by simp) rfl) rfl
    have hcc := hA.const
    clear hA hp
    refine Reg.out_value (v := .pointer (some ⟨eb, 2, none⟩)) ?_ ⟨x, rfl, Ar.Pres.refl _ _ _, hI.quiet 2 (by decide) (by decide) (by decide)⟩
    go_simp
  · refine Reg.GStepAt.plain (i := 3) rfl ?_
    intro x L ev w hI hk hp hA
    have e33 : ev (.tmp 33) = .pointer (some ⟨eb, 2, none⟩) := hA.val 2 _ 33 rfl (hp ⟨2, .data⟩ (by simp) rfl) rfl
    have hcc := hA.const
    clear hA hp
    have f2 := ((H1.out.1.but hI.chg HNE.out.1).get 2 _ rfl).1
    have f3 := ((H1.out.1.but hI.chg HNE.out.1).get 3 _ rfl).1
    have hel := (H1.out.1.but hI.chg HNE.out.1).lt
    refine Reg.out_value (v := .iface 151 (.agg #[.int .i64 sh])) ?_ ⟨x, rfl, Ar.Pres.refl _ _ _, hI.quiet 3 (by decide) (by decide) (by decide)⟩
    go_simp
  · refine Reg.GStepAt.plain (i := 4) rfl ?_
    intro x L ev w hI hk hp hA
    have e0 : ev (.tmp 0) = .pointer (some ⟨eb, 0, none⟩) := hA.oldNone 0 (by kernel_rfl)
    have hcc := hA.const
    clear hA hp
    refine Reg.out_value (v := .pointer (some ⟨eb, 0, none⟩)) ?_ ⟨x, rfl, Ar.Pres.refl _ _ _, hI.quiet 4 (by decide) (by decide) (by decide)⟩
    go_simp
  · refine Reg.GStepAt.plain (i := 5) rfl ?_
    intro x L ev w hI hk hp hA
    have e35 : ev (.tmp 35) = .pointer (some ⟨eb, 0, none⟩) := hA.val 4 _ 35 rfl (hp ⟨4, .data⟩ (by simp) rfl) rfl
    have hcc := hA.const
    clear hA hp
    refine Reg.out_value (v := .pointer (some ⟨eb, 0, none⟩)) ?_ ⟨x, rfl, Ar.Pres.refl _ _ _, hI.quiet 5 (by decide) (by decide) (by decide)⟩
    go_simp
  · refine Reg.GStepAt.plain (i := 6) rfl ?_
    intro x L ev w hI hk hp hA
    have e36 : ev (.tmp 36) = .pointer (some ⟨eb, 0, none⟩) := hA.val 5 _ 36 rfl (hp ⟨5, .data⟩ (by simp) rfl) rfl
    have hcc := hA.const
    clear hA hp
    refine Reg.out_value (v := .pointer (some ⟨eb, 3, none⟩)) ?_ ⟨x, rfl, Ar.Pres.refl _ _ _, hI.quiet 6 (by decide) (by decide) (by decide)⟩
    go_simp
  · refine Reg.GStepAt.plain (i := 7) rfl ?_
    intro x L ev w hI hk hp hA
    have e37 : ev (.tmp 37) = .pointer (some ⟨eb, 3, none⟩) := hA.val 6 _ 37 rfl (hp ⟨6, .data⟩ (by simp) rfl) rfl
    have hcc := hA.const
    clear hA hp
    have f2 := ((H1.out.1.but hI.chg HNE.out.1).get 2 _ rfl).1
    have f3 := ((H1.out.1.but hI.chg HNE.out.1).get 3 _ rfl).1
    have hel := (H1.out.1.but hI.chg HNE.out.1).lt
    refine Reg.out_value (v := .pointer (some ⟨mb, 0, none⟩)) ?_ ⟨x, rfl, Ar.Pres.refl _ _ _, hI.quiet 7 (by decide) (by decide) (by decide)⟩
    go_simp
  · refine Reg.GStepAt.plain (i := 8) rfl ?_
    intro x L ev w hI hk hp hA
    have e8 : ev (.tmp 8) = .pointer (some ⟨fb, 0, none⟩) := hA.oldNone 8 (by kernel_rfl)
    have hcc := hA.const
    clear hA hp
    refine Reg.out_value (v := .pointer (some ⟨fb, 0, none⟩)) ?_ ⟨x, rfl, Ar.Pres.refl _ _ _, hI.quiet 8 (by decide) (by decide) (by decide)⟩
    go_simp
  · refine Reg.GStepAt.plain (i := 9) rfl ?_
    intro x L ev w hI hk hp hA
    have e34 : ev (.tmp 34) = .iface 151 (.agg #[.int .i64 sh]) := hA.val 3 _ 34 rfl (hp ⟨3, .data⟩ (by simp) rfl) rfl
    have hcc := hA.const
    clear hA hp
    refine Reg.out_value (v := .iface 151 (.agg #[.int .i64 sh])) ?_ ⟨x, rfl, Ar.Pres.refl _ _ _, hI.quiet 9 (by decide) (by decide) (by decide)⟩
    go_simp
  · refine Reg.GStepAt.plain (i := 10) rfl ?_
    intro x L ev w hI hk hp hA
    have e34 : ev (.tmp 34) = .iface 151 (.agg #[.int .i64 sh]) := hA.val 3 _ 34 rfl (hp ⟨3, .data⟩ (by simp) rfl) rfl
    have hcc := hA.const
    clear hA hp
    refine Reg.out_value (v := .iface 151 (.agg #[.int .i64 sh])) ?_ ⟨x, rfl, Ar.Pres.refl _ _ _, hI.quiet 10 (by decide) (by decide) (by decide)⟩
    go_simp
  · refine Reg.GStepAt.plain (i := 11) rfl ?_
    intro x L ev w hI hk hp hA
    have e41 : ev (.tmp 41) = .iface 151 (.agg #[.int .i64 sh]) := hA.val 10 _ 41 rfl (hp ⟨10, .data⟩ (by simp) rfl) rfl
    have e38 : ev (.tmp 38) = .pointer (some ⟨mb, 0, none⟩) := hA.val 7 _ 38 rfl (hp ⟨7, .data⟩ (by simp) rfl) rfl
    have e39 : ev (.tmp 39) = .pointer (some ⟨fb, 0, none⟩) := hA.val 8 _ 39 rfl (hp ⟨8, .data⟩ (by simp) rfl) rfl
    have hcc := hA.const
    clear hA hp
    refine Reg.out_call (f := 182) (args := #[.agg #[.int .i64 sh], .pointer (some ⟨mb, 0, none⟩), .pointer (some ⟨fb, 0, none⟩)]) (w0 := w) ?_ ?_
    · go_simp
    refine (hS1.out w (hI.pre hk)).mono ?_
    rintro e w' ⟨rfl, O', P', h1, h2, h3, h4, h5, h6⟩
    exact ⟨_, rfl, (fun k => O' k ∨ P' k, x.2), rfl, fun _ h => h, hI.call hk (by decide) (by decide) h1 h2 h3 h4 h5 h6⟩
  · refine Reg.GStepAt.plain (i := 12) rfl ?_
    intro x L ev w hI hk hp hA
    have e42 : ev (.tmp 42) = .tuple #[.agg #[.bool r.2.2.1.ok, .float .f64 r.2.2.1.pri, .int .i64 r.2.2.1.val, .int .i64 r.2.2.1.n], .bool r.2.2.2] := hA.val 11 _ 42 rfl (hp ⟨11, .data⟩ (by simp) rfl) rfl
    have hcc := hA.const
    clear hA hp
    refine Reg.out_value (v := .tuple #[.agg #[.bool r.2.2.1.ok, .float .f64 r.2.2.1.pri, .int .i64 r.2.2.1.val, .int .i64 r.2.2.1.n], .bool r.2.2.2]) ?_ ⟨x, rfl, Ar.Pres.refl _ _ _, hI.quiet 12 (by decide) (by decide) (by decide)⟩
    go_simp
  · refine Reg.GStepAt.plain (i := 13) rfl ?_
    intro x L ev w hI hk hp hA
    have e30 : ev (.tmp 30) = .tuple #[.agg #[.bool r.2.2.1.ok, .float .f64 r.2.2.1.pri, .int .i64 r.2.2.1.val, .int .i64 r.2.2.1.n], .bool r.2.2.2] := hA.val 12 _ 30 rfl (hp ⟨12, .data⟩ (by simp) rfl) rfl
    have hcc := hA.const
    clear hA hp
    refine Reg.out_value (v := .agg #[.bool r.2.2.1.ok, .float .f64 r.2.2.1.pri, .int .i64 r.2.2.1.val, .int .i64 r.2.2.1.n]) ?_ ⟨x, rfl, Ar.Pres.refl _ _ _, hI.quiet 13 (by decide) (by decide) (by decide)⟩
    go_simp
  · refine Reg.GStepAt.plain (i := 14) rfl ?_
    intro x L ev w hI hk hp hA
    have e30 : ev (.tmp 30) = .tuple #[.agg #[.bool r.2.2.1.ok, .float .f64 r.2.2.1.pri, .int .i64 r.2.2.1.val, .int .i64 r.2.2.1.n], .bool r.2.2.2] := hA.val 12 _ 30 rfl (hp ⟨12, .data⟩ (by simp) rfl) rfl
    have hcc := hA.const
    clear hA hp
    refine Reg.out_value (v := .bool r.2.2.2) ?_ ⟨x, rfl, Ar.Pres.refl _ _ _, hI.quiet 14 (by decide) (by decide) (by decide)⟩
    go_simp
  · refine Reg.GStepAt.plain (i := 15) rfl ?_
    intro x L ev w hI hk hp hA
    have hcc := hA.const
    have hSf : L.getD 16 false = false := by
      cases hq : L.getD 16 false with
      | false => rfl
      | true => have := hA.closed 16 _ rfl hq ⟨15, .data⟩ (by simp) rfl; rw [show (⟨15, .data⟩ : Edge).on = 15 from rfl, Ar.getD_false hk] at this; cases this
    clear hA hp
    refine Reg.out_new (v := .pointer (some ⟨w.heap.size, 0, none⟩)) (w' := w.alloc (.cells Ans.zero.l.toArray 46)) ?_ ⟨(x.1, some w.heap.size), ⟨_, rfl, rfl⟩, fun b hb => (by rw [hI.no (Ar.getD_false hk)] at hb; cases hb), hI.alloc hk hSf (by decide) (by decide) _⟩
    (go_simp; try rfl)
  · refine Reg.GStepAt.plain (i := 16) rfl ?_
    intro x L ev w hI hk hp hA
    have e9 : ∃ bx, x.2 = some bx ∧ ev (.tmp 9) = .pointer (some ⟨bx, 0, none⟩) := hA.val 15 _ 9 rfl (hp ⟨15, .data⟩ (by simp) rfl) rfl
    have e43 : ev (.tmp 43) = .agg #[.bool r.2.2.1.ok, .float .f64 r.2.2.1.pri, .int .i64 r.2.2.1.val, .int .i64 r.2.2.1.n] := hA.val 13 _ 43 rfl (hp ⟨13, .data⟩ (by simp) rfl) rfl
    have hcc := hA.const
    clear hA hp
    obtain ⟨bx, hx, e9⟩ := e9
    have hbx := (hI.box bx hx).2.2.2.2
    rw [Ar.getD_false hk] at hbx
    obtain ⟨g0, x0⟩ := hbx.get 0 _ rfl
    obtain ⟨g1, x1⟩ := hbx.get 1 _ rfl
    obtain ⟨g2, x2⟩ := hbx.get 2 _ rfl
    obtain ⟨g3, x3⟩ := hbx.get 3 _ rfl
    refine Ar.out_skip (w' := setBox w bx r.2.2.1.s) ?_ ⟨x, trivial, Ar.Pres.refl _ _ _, hI.store hk (by decide) (by decide) hx⟩
    clear hbx
    simp only [setBox]
    go_simp
  · refine Reg.GStepAt.plain (i := 17) rfl ?_
    intro x L ev w hI hk hp hA
    have e44 : ev (.tmp 44) = .bool r.2.2.2 := hA.val 14 _ 44 rfl (hp ⟨14, .data⟩ (by simp) rfl) rfl
    have hcc := hA.const
    clear hA hp
    refine Reg.out_value (v := .bool r.2.2.2) ?_ ⟨x, rfl, Ar.Pres.refl _ _ _, hI.quiet 17 (by decide) (by decide) (by decide)⟩
    go_simp
  intro x L act wz hall hI hF
  have q31 : act.eval (.tmp 31) = .pointer (some ⟨eb, 0, none⟩) := hF.val 0 _ 31 rfl (hall 0 (by simp)) rfl
  have q32 : act.eval (.tmp 32) = .pointer (some ⟨eb, 0, none⟩) := hF.val 1 _ 32 rfl (hall 1 (by simp)) rfl
  have q33 : act.eval (.tmp 33) = .pointer (some ⟨eb, 2, none⟩) := hF.val 2 _ 33 rfl (hall 2 (by simp)) rfl
  have q34 : act.eval (.tmp 34) = .iface 151 (.agg #[.int .i64 sh]) := hF.val 3 _ 34 rfl (hall 3 (by simp)) rfl
  have q35 : act.eval (.tmp 35) = .pointer (some ⟨eb, 0, none⟩) := hF.val 4 _ 35 rfl (hall 4 (by simp)) rfl
  have q36 : act.eval (.tmp 36) = .pointer (some ⟨eb, 0, none⟩) := hF.val 5 _ 36 rfl (hall 5 (by simp)) rfl
  have q37 : act.eval (.tmp 37) = .pointer (some ⟨eb, 3, none⟩) := hF.val 6 _ 37 rfl (hall 6 (by simp)) rfl
  have q38 : act.eval (.tmp 38) = .pointer (some ⟨mb, 0, none⟩) := hF.val 7 _ 38 rfl (hall 7 (by simp)) rfl
  have q39 : act.eval (.tmp 39) = .pointer (some ⟨fb, 0, none⟩) := hF.val 8 _ 39 rfl (hall 8 (by simp)) rfl
  have q40 : act.eval (.tmp 40) = .iface 151 (.agg #[.int .i64 sh]) := hF.val 9 _ 40 rfl (hall 9 (by simp)) rfl
  have q41 : act.eval (.tmp 41) = .iface 151 (.agg #[.int .i64 sh]) := hF.val 10 _ 41 rfl (hall 10 (by simp)) rfl
  have q42 : act.eval (.tmp 42) = .tuple #[.agg #[.bool r.2.2.1.ok, .float .f64 r.2.2.1.pri, .int .i64 r.2.2.1.val, .int .i64 r.2.2.1.n], .bool r.2.2.2] := hF.val 11 _ 42 rfl (hall 11 (by simp)) rfl
  have q30 : act.eval (.tmp 30) = .tuple #[.agg #[.bool r.2.2.1.ok, .float .f64 r.2.2.1.pri, .int .i64 r.2.2.1.val, .int .i64 r.2.2.1.n], .bool r.2.2.2] := hF.val 12 _ 30 rfl (hall 12 (by simp)) rfl
  have q43 : act.eval (.tmp 43) = .agg #[.bool r.2.2.1.ok, .float .f64 r.2.2.1.pri, .int .i64 r.2.2.1.val, .int .i64 r.2.2.1.n] := hF.val 13 _ 43 rfl (hall 13 (by simp)) rfl
  have q44 : act.eval (.tmp 44) = .bool r.2.2.2 := hF.val 14 _ 44 rfl (hall 14 (by simp)) rfl
  have q9 : ∃ bx, x.2 = some bx ∧ act.eval (.tmp 9) = .pointer (some ⟨bx, 0, none⟩) := hF.val 15 _ 9 rfl (hall 15 (by simp)) rfl
  obtain ⟨bx, hx, q9⟩ := q9
  have q10 : act.eval (.tmp 10) = .bool r.2.2.2 := hF.val 17 _ 10 rfl (hall 17 (by simp)) rfl
  have hact := hF.act [31, 32, 33, 34, 35, 36, 37, 38, 39, 40, 41, 42, 30, 43, 44, 9, 10] (by kernel_rfl)
  have hst := hI.st
  rw [hall 11 (by simp), if_pos rfl] at hst
  have hchg := hI.chg
  have hgrw := hI.grow
  obtain ⟨hx0, hx1, hx2, hx3, hbx⟩ := hI.box bx hx
  rw [hall 16 (by simp), if_pos rfl] at hbx
  clear hF hall hI
  simp only [List.foldl_cons, List.foldl_nil] at hact
  rw [q31, q32, q33, q34, q35, q36, q37, q38, q39, q40, q41, q42, q30, q43, q44, q9, q10] at hact
  clear q31 q32 q33 q34 q35 q36 q37 q38 q39 q40 q41 q42 q30 q43 q44 q9 q10
  simp only [List.setIfInBounds_toArray, List.set_cons_succ, List.set_cons_zero] at hact
  subst hact
  obtain ⟨O', P', hM', hF', hD', hGO, hGP, _⟩ := hst
  obtain ⟨hE1, hV1, hb01, hlt1⟩ := H1.out
  obtain ⟨hne, hlt, hfb⟩ := HNE.out
  obtain ⟨M2, F2, A, d⟩ := r
  obtain ⟨aok, api, av, an⟩ := A
  dsimp only at *
  have hvb := HVB.out
  have hEz := hE1.but hchg hne
  have hVz := hV1.but hchg (fun e => by have := hlt vb e; omega)
  have hvl := hV1.lt
  have hne1 : vb ≠ eb := by omega
  have hne2 : bx ≠ eb := by have := hE1.lt; omega
  have hfbP : P' fb := hF'.ob
  have hneP : ∀ k, O' k ∨ P' k → k ≠ eb := fun k hk e => by
    subst e
    rcases hk with q | q
    · rcases hGO _ q with s | s
      · exact hne (.inl s)
      · omega
    · rcases hGP _ q with s | s
      · exact hne (.inr s)
      · omega
  have hnfe : fb ≠ eb := hneP fb (.inr hfbP)
  obtain ⟨z11, y11⟩ := hEz.get 11 _ rfl
  have hzl := hEz.lt
  have hstI : (steps : Int) < 4611686018427387904 := by omega
  obtain ⟨W2, hW2⟩ : ∃ W2, wz.setCell ⟨eb, 11, none⟩ (.int .i64 ((steps : Int) + 1)) = W2 := ⟨_, rfl⟩
  have hc2 : But (fun j => j = eb) wz W2 := by rw [← hW2]; exact (But.refl (fun j => j = eb) wz).set1 eb 11 rfl _
  have hE2 : BoxAt W2 eb (ecells kind param 151 (.agg #[.int .i64 sh]) mb Q closed (((steps + 1 : Nat)) : Int)) := by rw [← hW2]; exact hEz.set 11 (.int .i64 ((steps : Int) + 1))
  have hV2 := hVz.but hc2 hne1
  have hB2 := hbx.but hc2 hne2
  have hM2 := hM'.but hc2 (fun k hk e => hneP k (.inl hk) e)
  have hF2 := hF'.but hc2 (fun k hk e => hneP k (.inr hk) e)
  have hchg2 : But (fun k => O k ∨ P k ∨ k = eb) w W2 := ((But.of_below hb01).then hchg (fun k _ e => e.elim .inl (fun q => .inr (.inl q)))).then hc2 (fun k _ e => .inr (.inr e))
  have hGO2 : Grown O w W2 O' := fun k hk => (hGO k hk).imp id (fun q => ⟨by have := hb01.size; omega, by have := hc2.size; omega⟩)
  have hGP2 : Grown P w W2 P' := fun k hk => (hGP k hk).imp id (fun q => ⟨by have := hb01.size; omega, by have := hc2.size; omega⟩)
  have HZ := hidq (And.intro hne1 (And.intro hnfe (And.intro hneP hD')))
  have hbxv : bx ≠ vb := by omega
  have hvO : ∀ k, O' k ∨ P' k → k ≠ vb := fun k hk e => by
    subst e
    rcases hk with q | q
    · rcases hGO _ q with s | s
      · have := hlt _ (.inl s); omega
      · omega
    · rcases hGP _ q with s | s
      · have := hlt _ (.inr s); omega
      · omega
  have HVO := hidq hvO
  have hfv : fb ≠ vb := hvO fb (.inr hfbP)
  cases d with
  | false =>
    have hvb2 := HVB.out
    obtain ⟨Wv, hWv⟩ : ∃ Wv, setBox W2 vb [(0, .int .i64 (t : Int)), (1, .int .i64 F2.kind), (2, .float .f64 F2.pri), (3, .int .i64 F2.val), (4, .int .i64 F2.d0), (5, .int .i64 F2.d1), (6, .bool false), (7, .bool aok), (8, .float .f64 api), (9, .int .i64 av), (10, .int .i64 an)] = Wv := ⟨_, rfl⟩
    have hbv : But (fun j => j = vb) W2 Wv := by rw [← hWv]; exact setBox_but vb [(0, .int .i64 (t : Int)), (1, .int .i64 F2.kind), (2, .float .f64 F2.pri), (3, .int .i64 F2.val), (4, .int .i64 F2.d0), (5, .int .i64 F2.d1), (6, .bool false), (7, .bool aok), (8, .float .f64 api), (9, .int .i64 av), (10, .int .i64 an)] W2
    have hQV : BoxAt Wv vb [.int .i64 (t : Int), .int .i64 F2.kind, .float .f64 F2.pri, .int .i64 F2.val, .int .i64 F2.d0, .int .i64 F2.d1, .bool false, .bool aok, .float .f64 api, .int .i64 av, .int .i64 an] := by rw [← hWv]; exact (setBox_box [(0, .int .i64 (t : Int)), (1, .int .i64 F2.kind), (2, .float .f64 F2.pri), (3, .int .i64 F2.val), (4, .int .i64 F2.d0), (5, .int .i64 F2.d1), (6, .bool false), (7, .bool aok), (8, .float .f64 api), (9, .int .i64 av), (10, .int .i64 an)] hV2)
    dsimp only [setBox] at hWv
    have HWv := hidq hWv
    have HE := hidq (show PickEnd eb kind param 151 (.agg #[.int .i64 sh]) mb Q closed steps t fb O P (M2, F2, ⟨aok, api, av, an⟩, false) w (.returned (.tuple #[evV t F2 ⟨aok, api, av, an⟩ false, .bool true])) Wv.drew from by
      refine ⟨rfl, (hE2.but hbv (fun e => hne1 e.symm)).drew, O', P', (hM2.but hbv (fun k hk e => hvO k (.inl hk) e)).below (Below.refl _ _).drew, (hF2.but hbv (fun k hk e => hvO k (.inr hk) e)).below (Below.refl _ _).drew, hD', Er.Grown.up hGO2 hbv.size, Er.Grown.up hGP2 hbv.size, ((hchg2.then hbv (fun k hk e => by omega)).drew)⟩)
    have q0 := (hQV.get 0 _ rfl).1
    have q1 := (hQV.get 1 _ rfl).1
    have q2 := (hQV.get 2 _ rfl).1
    have q3 := (hQV.get 3 _ rfl).1
    have q4 := (hQV.get 4 _ rfl).1
    have q5 := (hQV.get 5 _ rfl).1
    have q6 := (hQV.get 6 _ rfl).1
    have q7 := (hQV.get 7 _ rfl).1
    have q8 := (hQV.get 8 _ rfl).1
    have q9 := (hQV.get 9 _ rfl).1
    have q10 := (hQV.get 10 _ rfl).1
    have HQZ := hidq (And.intro q0 (And.intro q1 (And.intro q2 (And.intro q3 (And.intro q4 (And.intro q5 (And.intro q6 (And.intro q7 (And.intro q8 (And.intro q9 q10))))))))))
    clear q0 q1 q2 q3 q4 q5 q6 q7 q8 q9 q10 hQV hbv hvb2 hWv
    obtain ⟨a0, k0, a1, k1, hFb, _⟩ := hF2.box
    obtain ⟨p0, _⟩ := hFb.get 0 _ rfl
    obtain ⟨p1, _⟩ := hFb.get 1 _ rfl
    obtain ⟨p2, _⟩ := hFb.get 2 _ rfl
    obtain ⟨p3, _⟩ := hFb.get 3 _ rfl
    obtain ⟨p4, _⟩ := hFb.get 4 _ rfl
    have hpl := hFb.lt
    obtain ⟨b0, _⟩ := hB2.get 0 _ rfl
    obtain ⟨b1, _⟩ := hB2.get 1 _ rfl
    obtain ⟨b2, _⟩ := hB2.get 2 _ rfl
    obtain ⟨b3, _⟩ := hB2.get 3 _ rfl
    have hbl := hB2.lt
    obtain ⟨v0, u0⟩ := hV2.get 0 _ rfl
    obtain ⟨v1, u1⟩ := hV2.get 1 _ rfl
    obtain ⟨v2, u2⟩ := hV2.get 2 _ rfl
    obtain ⟨v3, u3⟩ := hV2.get 3 _ rfl
    obtain ⟨v4, u4⟩ := hV2.get 4 _ rfl
    obtain ⟨v5, u5⟩ := hV2.get 5 _ rfl
    obtain ⟨v6, u6⟩ := hV2.get 6 _ rfl
    obtain ⟨v7, u7⟩ := hV2.get 7 _ rfl
    obtain ⟨v8, u8⟩ := hV2.get 8 _ rfl
    obtain ⟨v9, u9⟩ := hV2.get 9 _ rfl
    obtain ⟨v10, u10⟩ := hV2.get 10 _ rfl
    have hvl := hV2.lt
    clear hx0 hx1 hx2 hx3 hx hbx hM' hF' hD' hGO hGP hE1 hV1 hb01 hlt1 hne hlt hfb hEz hVz hne1 hne2 hfbP hneP hc2 hE2 hB2 hM2 hF2 hchg2 hGO2 hGP2 hFb hchg hgrw hvO hvb hV2
    go_wp2_with fail
    go_region
    rw [HWv.out]
    clear HZ HVO H1 HNE HQ HB HVB
    go_wp2_with fail
    obtain ⟨q0, q1, q2, q3, q4, q5, q6, q7, q8, q9, q10⟩ := HQZ.out
    exact bodyPost_ret (v := .tuple #[evV t F2 ⟨aok, api, av, an⟩ false, .bool true]) (by simp [results, Tryz.results10, go_sem, q0, q1, q2, q3, q4, q5, q6, q7, q8, q9, q10]) rfl HE.out
  | true =>
    obtain ⟨z4, y4⟩ := hE2.get (4 + t) _ (ecells_thread kind param 151 (.agg #[.int .i64 sh]) mb Q closed (((steps + 1 : Nat)) : Int) t ht6)
    rw [HQ.out] at z4
    have hel2 := hE2.lt
    obtain ⟨W3, hW3⟩ : ∃ W3, W2.setCell ⟨eb, 4 + t, none⟩ (.pointer none) = W3 := ⟨_, rfl⟩
    have hc3 : But (fun j => j = eb) W2 W3 := by rw [← hW3]; exact (But.refl (fun j => j = eb) W2).set1 eb (4 + t) rfl _
    have hE3 : BoxAt W3 eb (ecells kind param 151 (.agg #[.int .i64 sh]) mb (qset Q t none) closed (((steps + 1 : Nat)) : Int)) := by rw [← hW3]; exact (hE2.set (4 + t) (eptr none)).same (ecells_set kind param 151 (.agg #[.int .i64 sh]) mb Q closed (((steps + 1 : Nat)) : Int) t ht6 none)
    have hV3 := hV2.but hc3 hne1
    have hB3 := hB2.but hc3 hne2
    have hM3 := hM2.but hc3 (fun k hk e => hneP k (.inl hk) e)
    have hF3 := hF2.but hc3 (fun k hk e => hneP k (.inr hk) e)
    have hchg3 : But (fun k => O k ∨ P k ∨ k = eb) w W3 := hchg2.then hc3 (fun k _ e => .inr (.inr e))
    have hGO3 := Er.Grown.up hGO2 hc3.size
    have hGP3 := Er.Grown.up hGP2 hc3.size
    have hV2 := hV3
    have hvb2 := HVB.out
    obtain ⟨Wv, hWv⟩ : ∃ Wv, setBox W3 vb [(0, .int .i64 (t : Int)), (1, .int .i64 F2.kind), (2, .float .f64 F2.pri), (3, .int .i64 F2.val), (4, .int .i64 F2.d0), (5, .int .i64 F2.d1), (6, .bool true), (7, .bool aok), (8, .float .f64 api), (9, .int .i64 av), (10, .int .i64 an)] = Wv := ⟨_, rfl⟩
    have hbv : But (fun j => j = vb) W3 Wv := by rw [← hWv]; exact setBox_but vb [(0, .int .i64 (t : Int)), (1, .int .i64 F2.kind), (2, .float .f64 F2.pri), (3, .int .i64 F2.val), (4, .int .i64 F2.d0), (5, .int .i64 F2.d1), (6, .bool true), (7, .bool aok), (8, .float .f64 api), (9, .int .i64 av), (10, .int .i64 an)] W3
    have hQV : BoxAt Wv vb [.int .i64 (t : Int), .int .i64 F2.kind, .float .f64 F2.pri, .int .i64 F2.val, .int .i64 F2.d0, .int .i64 F2.d1, .bool true, .bool aok, .float .f64 api, .int .i64 av, .int .i64 an] := by rw [← hWv]; exact (setBox_box [(0, .int .i64 (t : Int)), (1, .int .i64 F2.kind), (2, .float .f64 F2.pri), (3, .int .i64 F2.val), (4, .int .i64 F2.d0), (5, .int .i64 F2.d1), (6, .bool true), (7, .bool aok), (8, .float .f64 api), (9, .int .i64 av), (10, .int .i64 an)] hV2)
    dsimp only [setBox] at hWv
    have HWv := hidq hWv
    have HE := hidq (show PickEnd eb kind param 151 (.agg #[.int .i64 sh]) mb Q closed steps t fb O P (M2, F2, ⟨aok, api, av, an⟩, true) w (.returned (.tuple #[evV t F2 ⟨aok, api, av, an⟩ true, .bool true])) Wv.drew from by
      refine ⟨rfl, (hE3.but hbv (fun e => hne1 e.symm)).drew, O', P', (hM3.but hbv (fun k hk e => hvO k (.inl hk) e)).below (Below.refl _ _).drew, (hF3.but hbv (fun k hk e => hvO k (.inr hk) e)).below (Below.refl _ _).drew, hD', Er.Grown.up hGO3 hbv.size, Er.Grown.up hGP3 hbv.size, ((hchg3.then hbv (fun k hk e => by omega)).drew)⟩)
    have q0 := (hQV.get 0 _ rfl).1
    have q1 := (hQV.get 1 _ rfl).1
    have q2 := (hQV.get 2 _ rfl).1
    have q3 := (hQV.get 3 _ rfl).1
    have q4 := (hQV.get 4 _ rfl).1
    have q5 := (hQV.get 5 _ rfl).1
    have q6 := (hQV.get 6 _ rfl).1
    have q7 := (hQV.get 7 _ rfl).1
    have q8 := (hQV.get 8 _ rfl).1
    have q9 := (hQV.get 9 _ rfl).1
    have q10 := (hQV.get 10 _ rfl).1
    have HQZ := hidq (And.intro q0 (And.intro q1 (And.intro q2 (And.intro q3 (And.intro q4 (And.intro q5 (And.intro q6 (And.intro q7 (And.intro q8 (And.intro q9 q10))))))))))
    clear q0 q1 q2 q3 q4 q5 q6 q7 q8 q9 q10 hQV hbv hvb2 hWv
    obtain ⟨a0, k0, a1, k1, hFb, _⟩ := hF3.box
    obtain ⟨p0, _⟩ := hFb.get 0 _ rfl
    obtain ⟨p1, _⟩ := hFb.get 1 _ rfl
    obtain ⟨p2, _⟩ := hFb.get 2 _ rfl
    obtain ⟨p3, _⟩ := hFb.get 3 _ rfl
    obtain ⟨p4, _⟩ := hFb.get 4 _ rfl
    have hpl := hFb.lt
    obtain ⟨b0, _⟩ := hB3.get 0 _ rfl
    obtain ⟨b1, _⟩ := hB3.get 1 _ rfl
    obtain ⟨b2, _⟩ := hB3.get 2 _ rfl
    obtain ⟨b3, _⟩ := hB3.get 3 _ rfl
    have hbl := hB3.lt
    obtain ⟨v0, u0⟩ := hV3.get 0 _ rfl
    obtain ⟨v1, u1⟩ := hV3.get 1 _ rfl
    obtain ⟨v2, u2⟩ := hV3.get 2 _ rfl
    obtain ⟨v3, u3⟩ := hV3.get 3 _ rfl
    obtain ⟨v4, u4⟩ := hV3.get 4 _ rfl
    obtain ⟨v5, u5⟩ := hV3.get 5 _ rfl
    obtain ⟨v6, u6⟩ := hV3.get 6 _ rfl
    obtain ⟨v7, u7⟩ := hV3.get 7 _ rfl
    obtain ⟨v8, u8⟩ := hV3.get 8 _ rfl
    obtain ⟨v9, u9⟩ := hV3.get 9 _ rfl
    obtain ⟨v10, u10⟩ := hV3.get 10 _ rfl
    have hvl := hV3.lt
    clear hx0 hx1 hx2 hx3 hx hbx hM' hF' hD' hGO hGP hE1 hV1 hb01 hlt1 hne hlt hfb hEz hVz hne1 hne2 hfbP hneP hc2 hE2 hB2 hM2 hF2 hchg2 hGO2 hGP2 hFb hchg hgrw hvO hvb hV2 hV3 hB3 hM3 hF3 hchg3 hGO3 hGP3 hE3 hc3
    go_wp2_with fail
    go_region
    rw [HWv.out]
    clear HZ HVO H1 HNE HQ HB HVB
    go_wp2_with fail
    obtain ⟨q0, q1, q2, q3, q4, q5, q6, q7, q8, q9, q10⟩ := HQZ.out
    exact bodyPost_ret (v := .tuple #[evV t F2 ⟨aok, api, av, an⟩ true, .bool true]) (by simp [results, Tryz.results10, go_sem, q0, q1, q2, q3, q4, q5, q6, q7, q8, q9, q10]) rfl HE.out
end Go.Proofs.YtbcmilfajeanbaaGreat
