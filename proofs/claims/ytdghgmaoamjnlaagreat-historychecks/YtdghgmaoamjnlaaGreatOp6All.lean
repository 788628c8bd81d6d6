/-
  Layer 13: a step is picked, of a machine of one kind: contract.
  Layer 13: a new engine: contracts.
  Layer 14: a call as it lies in memory; is it done, is one ahead of another one: contracts.
  Layer 14: a recorder as it lies in memory; a new one: contracts.
  Layer 6's reference: the operations of a kind: contract.
  Layer 6: Check: contracts.
-/
import Derived.Test.YtdghgmaoamjnlaaGreatGhostAll
import Derived.Test.YtdghgmaoamjnlaaGreatStepReg13All
import Derived.Test.YtdghgmaoamjnlaaGreatSlGAll
import Derived.Test.YtdghgmaoamjnlaaGreatKNew9All
namespace Go.Proofs.YtdghgmaoamjnlaaGreat
open Go.RowKit Go.Sort

def pickTR (eb fb mb : Nat) (r : Mem × Fr × Ans × Bool) (sh : Int) : List (Value → Ar.Gh → World → Prop) :=
  [fun u0 _ _ => u0 = .pointer (some ⟨eb, 0, none⟩),
   fun u0 _ _ => u0 = .pointer (some ⟨eb, 0, none⟩),
   fun u0 _ _ => u0 = .pointer (some ⟨eb, 2, none⟩),
   fun u0 _ _ => u0 = .iface 217 (.agg #[.int .i64 sh]),
   fun u0 _ _ => u0 = .pointer (some ⟨eb, 0, none⟩),
   fun u0 _ _ => u0 = .pointer (some ⟨eb, 0, none⟩),
   fun u0 _ _ => u0 = .pointer (some ⟨eb, 3, none⟩),
   fun u0 _ _ => u0 = .pointer (some ⟨mb, 0, none⟩),
   fun u0 _ _ => u0 = .pointer (some ⟨fb, 0, none⟩),
   fun u0 _ _ => u0 = .iface 217 (.agg #[.int .i64 sh]),
   fun u0 _ _ => u0 = .iface 217 (.agg #[.int .i64 sh]),
   fun u0 _ _ => u0 = .tuple #[.agg #[.bool r.2.2.1.ok, .float .f64 r.2.2.1.pri, .int .i64 r.2.2.1.val, .int .i64 r.2.2.1.n], .bool r.2.2.2],
   fun u0 _ _ => u0 = .tuple #[.agg #[.bool r.2.2.1.ok, .float .f64 r.2.2.1.pri, .int .i64 r.2.2.1.val, .int .i64 r.2.2.1.n], .bool r.2.2.2],
   fun u0 _ _ => u0 = .agg #[.bool r.2.2.1.ok, .float .f64 r.2.2.1.pri, .int .i64 r.2.2.1.val, .int .i64 r.2.2.1.n],
   fun u0 _ _ => u0 = .bool r.2.2.2,
   fun u0 x _ => ∃ bx, x.2 = some bx ∧ u0 = .pointer (some ⟨bx, 0, none⟩),
   fun _ _ _ => True,
   fun u0 _ _ => u0 = .bool r.2.2.2]
theorem pickTR_kept (eb fb mb : Nat) (r : Mem × Fr × Ans × Bool) (sh : Int) : Reg.GAllKept Ar.Pres (pickTR eb fb mb r sh) :=
  ⟨(fun _ _ _ _ _ _ h => h), (fun _ _ _ _ _ _ h => h), (fun _ _ _ _ _ _ h => h), (fun _ _ _ _ _ _ h => h), (fun _ _ _ _ _ _ h => h), (fun _ _ _ _ _ _ h => h), (fun _ _ _ _ _ _ h => h), (fun _ _ _ _ _ _ h => h), (fun _ _ _ _ _ _ h => h), (fun _ _ _ _ _ _ h => h), (fun _ _ _ _ _ _ h => h), (fun _ _ _ _ _ _ h => h), (fun _ _ _ _ _ _ h => h), (fun _ _ _ _ _ _ h => h), (fun _ _ _ _ _ _ h => h), (fun _ _ _ _ _ hp h => by obtain ⟨bx, h1, h2⟩ := h; exact ⟨bx, hp bx h1, h2⟩), (fun _ _ _ _ _ _ h => h), (fun _ _ _ _ _ _ h => h), trivial⟩

set_option maxRecDepth 20000 in
set_option maxHeartbeats 8000000 in
theorem pickT_any (sh : Int) (eb : Nat) (kind param : Int) (mb : Nat) (Q : Nat → Option Nat) (closed : Bool) (steps : Nat) (pick : Int) (t fb : Nat) (O P : Nat → Prop) (r : Mem × Fr × Ans × Bool) (w : World)
    (hE : BoxAt w eb (ecells kind param 217 (.agg #[.int .i64 sh]) mb Q closed (steps : Int))) (hb : (busyTo Q 6)[(into pick (busyTo Q 6).length).toNat]? = some t) (hQ : Q t = some fb) (hst : steps < 4611686018427387904)
    (hlt : ∀ k, O k ∨ P k → k < w.heap.size) (hne : ¬ (O eb ∨ P eb)) (hfb : ∃ a0 k0 a1 k1 F0, BoxAt w fb (Fr.l F0 a0 k0 a1 k1))
    (hS : ∀ W, Below w.heap.size w W → Calls Tryz.prog 228 #[.agg #[.int .i64 sh], .pointer (some ⟨mb, 0, none⟩), .pointer (some ⟨fb, 0, none⟩)] W (StepEnd mb fb O P r W)) :
    Calls Tryz.prog 35 #[.pointer (some ⟨eb, 0, none⟩), .int .i64 pick] w (PickEnd eb kind param 217 (.agg #[.int .i64 sh]) mb Q closed steps t fb O P r w) := by
  have hsf := run_store_flt (P := Tryz.prog)
  have hms : ∀ w, (method 430 217 (.agg #[.int .i64 sh]) "Step").run Tryz.prog w = .ok (228, (.agg #[.int .i64 sh])) w := fun w => by kernel_rfl
  obtain ⟨vb, hvb⟩ : ∃ vb, w.heap.size = vb := ⟨_, rfl⟩
  obtain ⟨W0, hW0⟩ : ∃ W0, w.alloc (.cells #[.int .i64 0, .int .i64 0, .float .f64 0, .int .i64 0, .int .i64 0, .int .i64 0, .bool false, .bool false, .float .f64 0, .int .i64 0, .int .i64 0] 101) = W0 := ⟨_, rfl⟩
  have hV0 := BoxAt.new w [.int .i64 0, .int .i64 0, .float .f64 0, .int .i64 0, .int .i64 0, .int .i64 0, .bool false, .bool false, .float .f64 0, .int .i64 0, .int .i64 0] 101
  rw [show w.alloc (.cells [.int .i64 0, .int .i64 0, .float .f64 0, .int .i64 0, .int .i64 0, .int .i64 0, .bool false, .bool false, .float .f64 0, .int .i64 0, .int .i64 0].toArray 101) = W0 from hW0, hvb] at hV0
  have hb0 : Below w.heap.size w W0 := by rw [← hW0]; exact (Below.refl _ _).alloc (Nat.le_refl _) _
  have hn6 := busyTo_le Q 6
  have ht6 : t < 6 := by
    have := List.mem_of_getElem? hb
    exact (busyTo_mem.1 this).1
  have hBz := busy_any eb kind param 217 (.agg #[.int .i64 sh]) mb Q closed (steps : Int) W0 (hE.below hb0)
  obtain ⟨n, hn⟩ : ∃ n, (busyTo Q 6).length = n := ⟨_, rfl⟩
  obtain ⟨l, hl⟩ : ∃ l, busyTo Q 6 = l := ⟨_, rfl⟩
  have hBE : ∀ e w', BusyEnd Q W0 e w' → ∃ a cap, e = .returned (.slice a n cap) ∧ SlAt 1 w' a cap n (vals l) ∧ Below W0.heap.size W0 w' := by
    rintro e w' ⟨a, cap, h1, h2, h3, h4⟩
    rw [hn, hl] at *
    exact ⟨a, cap, h1, h2, h4⟩
  replace hBz := hBz.mono hBE
  clear hBE
  rw [hn, hl] at hb
  have hnl : l.length = n := by rw [← hl]; exact hn
  rw [hn] at hn6
  have hn1 : 1 ≤ n := by
    have := (List.getElem?_eq_some_iff.1 hb).1
    omega
  obtain ⟨j, hj, hjn⟩ : ∃ j : Nat, into pick (n : Int) = (j : Int) ∧ j < n := by
    have := into_rng (d := pick) (n := (n : Int)) (by omega)
    exact ⟨(into pick (n : Int)).toNat, by omega, by omega⟩
  rw [hj] at hb
  have hb' : l[j]? = some t := hb
  have hIn := fun w => into_any pick (n : Int) w (by omega)
  rw [hj] at hIn
  have hne0 : ((n : Int) == 0) = false := by simp; omega
  have hne0' : (n == 0) = false := by simp; omega
  have HH := hidq (And.intro hE (And.intro hV0 (And.intro hb0 (And.intro hlt (And.intro hne hfb)))))
  have HS0 := hidq hS
  have HQ := hidq hQ
  have HB := hidq hb'
  have HI := hidq hIn
  have hel := hE.lt
  have HVB := hidq hvb
  clear hE hV0 hb0 hlt hne hfb hS hQ hb hb' hn hl hnl hj hIn
  go_enter Tryz.func35, Tryz.ntmps35
  go_wp2_with fail
  refine hBz.mono ?_
  rintro e w1 ⟨a, cap, rfl, hSl, hb1⟩
  clear hBz
  obtain ⟨hE, hV0, hb0, hlt, hne, hfb⟩ := HH.out
  obtain ⟨g, rfl, hgl, hgc⟩ := hSl.cell (t := j) (u := .int .i64 (t : Int)) (by simp [vals, HB.out])
  have hb01 := hb0.trans (hb1.mono hb0.size)
  have hE1 := hE.below hb01
  have hV1 := hV0.below hb1
  have hthr := (hE1.get (4 + t) _ (ecells_thread kind param 217 (.agg #[.int .i64 sh]) mb Q closed (steps : Int) t ht6)).1
  rw [HQ.out] at hthr
  replace hthr : w1.cell? ⟨eb, 4 + t, none⟩ = some (.pointer (some ⟨fb, 0, none⟩)) := hthr
  have hel1 := hE1.lt
  have H1 := hidq (And.intro hE1 (And.intro hV1 (And.intro hb01 (show ∀ k, O k ∨ P k → k < w1.heap.size from fun k hk => Nat.lt_of_lt_of_le (hlt k hk) hb01.size))))
  have hS1 := hidq (fun W (hW : Below w1.heap.size w1 W) => HS0.out W (hb01.trans (hW.mono hb01.size)))
  have hcp := hSl.le
  have HNE := hidq (And.intro hne (And.intro hlt hfb))
  clear hSl hE hV0 hb0 hlt hne hfb hb1 hb01 hE1 hV1 HH HS0
  clear hW0
  go_wp2_with fail
  refine (HI.out _).mono ?_
  rintro e w2 ⟨rfl, hw2⟩
  replace hw2 := hw2.symm
  subst hw2
  clear HI
  go_wp2_with fail
  refine Reg.wp_region_ghost (Reg.gofList (pickTR eb fb mb r sh)) Ar.Pres (Er.GI w1 mb fb O P r 11 15 16) (O, none) (by kernel_rfl) (by kernel_rfl) (Reg.GAllKept.at _ (pickTR_kept eb fb mb r sh)) (Er.GI.start w1 mb fb O P r 11 15 16 H1.out.2.2.2 _) ⟨?_, ?_, ?_, ?_, ?_, ?_, ?_, ?_, ?_, ?_, ?_, ?_, ?_, ?_, ?_, ?_, ?_, ?_, trivial⟩ ?_
  · refine Reg.GStepAt.plain (i := 0) rfl ?_
    intro x L ev w hI hk hp hA
    have e0 : ev (.tmp 0) = .pointer (some ⟨eb, 0, none⟩) := hA.oldNone 0 (by kernel_rfl)
    have hcc := hA.const
    clear hA hp
    refine Reg.out_value (v := .pointer (some ⟨eb, 0, none⟩)) ?_ ⟨x, rfl, Ar.Pres.refl _ _ _, hI.quiet 0 (by decide) (by decide) (by decide)⟩
    go_simp
  · refine Reg.GStepAt.plain (i := 1) rfl ?_
    intro x L ev w hI hk hp hA
    have e31 : ev (.tmp 31) = .pointer (some ⟨eb, 0, none⟩) := hA.val 0 _ 31 rfl (hp ⟨0, .data⟩ (by simp) rfl) rfl
    have hcc := hA.const
    clear hA hp
    refine Reg.out_value (v := .pointer (some ⟨eb, 0, none⟩)) ?_ ⟨x, rfl, Ar.Pres.refl _ _ _, hI.quiet 1 (by decide) (by decide) (by decide)⟩
    go_simp
  · refine Reg.GStepAt.plain (i := 2) rfl ?_
    intro x L ev w hI hk hp hA
    have e32 : ev (.tmp 32) = .pointer (some ⟨eb, 0, none⟩) := hA.val 1 _ 32 rfl (hp ⟨1, .data⟩ (by simp) rfl) rfl
    have hcc := hA.const
    clear hA hp
    refine Reg.out_value (v := .pointer (some ⟨eb, 2, none⟩)) ?_ ⟨x, rfl, Ar.Pres.refl _ _ _, hI.quiet 2 (by decide) (by decide) (by decide)⟩
    go_simp
  · refine Reg.GStepAt.plain (i := 3) rfl ?_
    intro x L ev w hI hk hp hA
    have e33 : ev (.tmp 33) = .pointer (some ⟨eb, 2, none⟩) := hA.val 2 _ 33 rfl (hp ⟨2, .data⟩ (by simp) rfl) rfl
    have hcc := hA.const
    clear hA hp
    have f2 := ((H1.out.1.but hI.chg HNE.out.1).get 2 _ rfl).1
    have f3 := ((H1.out.1.but hI.chg HNE.out.1).get 3 _ rfl).1
    have hel := (H1.out.1.but hI.chg HNE.out.1).lt
    refine Reg.out_value (v := .iface 217 (.agg #[.int .i64 sh])) ?_ ⟨x, rfl, Ar.Pres.refl _ _ _, hI.quiet 3 (by decide) (by decide) (by decide)⟩
    go_simp
  · refine Reg.GStepAt.plain (i := 4) rfl ?_
    intro x L ev w hI hk hp hA
    have e0 : ev (.tmp 0) = .pointer (some ⟨eb, 0, none⟩) := hA.oldNone 0 (by kernel_rfl)
    have hcc := hA.const
    clear hA hp
    refine Reg.out_value (v := .pointer (some ⟨eb, 0, none⟩)) ?_ ⟨x, rfl, Ar.Pres.refl _ _ _, hI.quiet 4 (by decide) (by decide) (by decide)⟩
    go_simp
  · refine Reg.GStepAt.plain (i := 5) rfl ?_
    intro x L ev w hI hk hp hA
    have e35 : ev (.tmp 35) = .pointer (some ⟨eb, 0, none⟩) := hA.val 4 _ 35 rfl (hp ⟨4, .data⟩ (by simp) rfl) rfl
    have hcc := hA.const
    clear hA hp
    refine Reg.out_value (v := .pointer (some ⟨eb, 0, none⟩)) ?_ ⟨x, rfl, Ar.Pres.refl _ _ _, hI.quiet 5 (by decide) (by decide) (by decide)⟩
    go_simp
  · refine Reg.GStepAt.plain (i := 6) rfl ?_
    intro x L ev w hI hk hp hA
    have e36 : ev (.tmp 36) = .pointer (some ⟨eb, 0, none⟩) := hA.val 5 _ 36 rfl (hp ⟨5, .data⟩ (by simp) rfl) rfl
    have hcc := hA.const
    clear hA hp
    refine Reg.out_value (v := .pointer (some ⟨eb, 3, none⟩)) ?_ ⟨x, rfl, Ar.Pres.refl _ _ _, hI.quiet 6 (by decide) (by decide) (by decide)⟩
    go_simp
  · refine Reg.GStepAt.plain (i := 7) rfl ?_
    intro x L ev w hI hk hp hA
    have e37 : ev (.tmp 37) = .pointer (some ⟨eb, 3, none⟩) := hA.val 6 _ 37 rfl (hp ⟨6, .data⟩ (by simp) rfl) rfl
    have hcc := hA.const
    clear hA hp
    have f2 := ((H1.out.1.but hI.chg HNE.out.1).get 2 _ rfl).1
    have f3 := ((H1.out.1.but hI.chg HNE.out.1).get 3 _ rfl).1
    have hel := (H1.out.1.but hI.chg HNE.out.1).lt
    refine Reg.out_value (v := .pointer (some ⟨mb, 0, none⟩)) ?_ ⟨x, rfl, Ar.Pres.refl _ _ _, hI.quiet 7 (by decide) (by decide) (by decide)⟩
    go_simp
  · refine Reg.GStepAt.plain (i := 8) rfl ?_
    intro x L ev w hI hk hp hA
    have e8 : ev (.tmp 8) = .pointer (some ⟨fb, 0, none⟩) := hA.oldNone 8 (by kernel_rfl)
    have hcc := hA.const
    clear hA hp
    refine Reg.out_value (v := .pointer (some ⟨fb, 0, none⟩)) ?_ ⟨x, rfl, Ar.Pres.refl _ _ _, hI.quiet 8 (by decide) (by decide) (by decide)⟩
    go_simp
  · refine Reg.GStepAt.plain (i := 9) rfl ?_
    intro x L ev w hI hk hp hA
    have e34 : ev (.tmp 34) = .iface 217 (.agg #[.int .i64 sh]) := hA.val 3 _ 34 rfl (hp ⟨3, .data⟩ (by simp) rfl) rfl
    have hcc := hA.const
    clear hA hp
    refine Reg.out_value (v := .iface 217 (.agg #[.int .i64 sh])) ?_ ⟨x, rfl, Ar.Pres.refl _ _ _, hI.quiet 9 (by decide) (by decide) (by decide)⟩
    go_simp
  · refine Reg.GStepAt.plain (i := 10) rfl ?_
    intro x L ev w hI hk hp hA
    have e34 : ev (.tmp 34) = .iface 217 (.agg #[.int .i64 sh]) := hA.val 3 _ 34 rfl (hp ⟨3, .data⟩ (by simp) rfl) rfl
    have hcc := hA.const
    clear hA hp
    refine Reg.out_value (v := .iface 217 (.agg #[.int .i64 sh])) ?_ ⟨x, rfl, Ar.Pres.refl _ _ _, hI.quiet 10 (by decide) (by decide) (by decide)⟩
    go_simp
  · refine Reg.GStepAt.plain (i := 11) rfl ?_
    intro x L ev w hI hk hp hA
    have e41 : ev (.tmp 41) = .iface 217 (.agg #[.int .i64 sh]) := hA.val 10 _ 41 rfl (hp ⟨10, .data⟩ (by simp) rfl) rfl
    have e38 : ev (.tmp 38) = .pointer (some ⟨mb, 0, none⟩) := hA.val 7 _ 38 rfl (hp ⟨7, .data⟩ (by simp) rfl) rfl
    have e39 : ev (.tmp 39) = .pointer (some ⟨fb, 0, none⟩) := hA.val 8 _ 39 rfl (hp ⟨8, .data⟩ (by simp) rfl) rfl
    have hcc := hA.const
    clear hA hp
    refine Reg.out_call (f := 228) (args := #[.agg #[.int .i64 sh], .pointer (some ⟨mb, 0, none⟩), .pointer (some ⟨fb, 0, none⟩)]) (w0 := w) ?_ ?_
    · go_simp
    refine (hS1.out w (hI.pre hk)).mono ?_
    rintro e w' ⟨rfl, O', P', h1, h2, h3, h4, h5, h6⟩
    exact ⟨_, rfl, (fun k => O' k ∨ P' k, x.2), rfl, fun _ h => h, hI.call hk (by decide) (by decide) h1 h2 h3 h4 h5 h6⟩
  · refine Reg.GStepAt.plain (i := 12) rfl ?_
    intro x L ev w hI hk hp hA
    have e42 : ev (.tmp 42) = .tuple #[.agg #[.bool r.2.2.1.ok, .float .f64 r.2.2.1.pri, .int .i64 r.2.2.1.val, .int .i64 r.2.2.1.n], .bool r.2.2.2] := hA.val 11 _ 42 rfl (hp ⟨11, .data⟩ (by simp) rfl) rfl
    have hcc := hA.const
    clear hA hp
    refine Reg.out_value (v := .tuple #[.agg #[.bool r.2.2.1.ok, .float .f64 r.2.2.1.pri, .int .i64 r.2.2.1.val, .int .i64 r.2.2.1.n], .bool r.2.2.2]) ?_ ⟨x, rfl, Ar.Pres.refl _ _ _, hI.quiet 12 (by decide) (by decide) (by decide)⟩
    go_simp
  · refine Reg.GStepAt.plain (i := 13) rfl ?_
    intro x L ev w hI hk hp hA
    have e30 : ev (.tmp 30) = .tuple #[.agg #[.bool r.2.2.1.ok, .float .f64 r.2.2.1.pri, .int .i64 r.2.2.1.val, .int .i64 r.2.2.1.n], .bool r.2.2.2] := hA.val 12 _ 30 rfl (hp ⟨12, .data⟩ (by simp) rfl) rfl
    have hcc := hA.const
    clear hA hp
    refine Reg.out_value (v := .agg #[.bool r.2.2.1.ok, .float .f64 r.2.2.1.pri, .int .i64 r.2.2.1.val, .int .i64 r.2.2.1.n]) ?_ ⟨x, rfl, Ar.Pres.refl _ _ _, hI.quiet 13 (by decide) (by decide) (by decide)⟩
    go_simp
  · refine Reg.GStepAt.plain (i := 14) rfl ?_
    intro x L ev w hI hk hp hA
    have e30 : ev (.tmp 30) = .tuple #[.agg #[.bool r.2.2.1.ok, .float .f64 r.2.2.1.pri, .int .i64 r.2.2.1.val, .int .i64 r.2.2.1.n], .bool r.2.2.2] := hA.val 12 _ 30 rfl (hp ⟨12, .data⟩ (by simp) rfl) rfl
    have hcc := hA.const
    clear hA hp
    refine Reg.out_value (v := .bool r.2.2.2) ?_ ⟨x, rfl, Ar.Pres.refl _ _ _, hI.quiet 14 (by decide) (by decide) (by decide)⟩
    go_simp
  · refine Reg.GStepAt.plain (i := 15) rfl ?_
    intro x L ev w hI hk hp hA
    have hcc := hA.const
    have hSf : L.getD 16 false = false := by
      cases hq : L.getD 16 false with
      | false => rfl
      | true => have := hA.closed 16 _ rfl hq ⟨15, .data⟩ (by simp) rfl; rw [show (⟨15, .data⟩ : Edge).on = 15 from rfl, Ar.getD_false hk] at this; cases this
    clear hA hp
    refine Reg.out_new (v := .pointer (some ⟨w.heap.size, 0, none⟩)) (w' := w.alloc (.cells Ans.zero.l.toArray 66)) ?_ ⟨(x.1, some w.heap.size), ⟨_, rfl, rfl⟩, fun b hb => (by rw [hI.no (Ar.getD_false hk)] at hb; cases hb), hI.alloc hk hSf (by decide) (by decide) _⟩
    (go_simp; try rfl)
  · refine Reg.GStepAt.plain (i := 16) rfl ?_
    intro x L ev w hI hk hp hA
    have e9 : ∃ bx, x.2 = some bx ∧ ev (.tmp 9) = .pointer (some ⟨bx, 0, none⟩) := hA.val 15 _ 9 rfl (hp ⟨15, .data⟩ (by simp) rfl) rfl
    have e43 : ev (.tmp 43) = .agg #[.bool r.2.2.1.ok, .float .f64 r.2.2.1.pri, .int .i64 r.2.2.1.val, .int .i64 r.2.2.1.n] := hA.val 13 _ 43 rfl (hp ⟨13, .data⟩ (by simp) rfl) rfl
    have hcc := hA.const
    clear hA hp
    obtain ⟨bx, hx, e9⟩ := e9
    have hbx := (hI.box bx hx).2.2.2.2
    rw [Ar.getD_false hk] at hbx
    obtain ⟨g0, x0⟩ := hbx.get 0 _ rfl
    obtain ⟨g1, x1⟩ := hbx.get 1 _ rfl
    obtain ⟨g2, x2⟩ := hbx.get 2 _ rfl
    obtain ⟨g3, x3⟩ := hbx.get 3 _ rfl
    refine Ar.out_skip (w' := setBox w bx r.2.2.1.s) ?_ ⟨x, trivial, Ar.Pres.refl _ _ _, hI.store hk (by decide) (by decide) hx⟩
    clear hbx
    simp only [setBox]
    go_simp
  · refine Reg.GStepAt.plain (i := 17) rfl ?_
    intro x L ev w hI hk hp hA
    have e44 : ev (.tmp 44) = .bool r.2.2.2 := hA.val 14 _ 44 rfl (hp ⟨14, .data⟩ (by simp) rfl) rfl
    have hcc := hA.const
    clear hA hp
    refine Reg.out_value (v := .bool r.2.2.2) ?_ ⟨x, rfl, Ar.Pres.refl _ _ _, hI.quiet 17 (by decide) (by decide) (by decide)⟩
    go_simp
  intro x L act wz hall hI hF
  have q31 : act.eval (.tmp 31) = .pointer (some ⟨eb, 0, none⟩) := hF.val 0 _ 31 rfl (hall 0 (by simp)) rfl
  have q32 : act.eval (.tmp 32) = .pointer (some ⟨eb, 0, none⟩) := hF.val 1 _ 32 rfl (hall 1 (by simp)) rfl
  have q33 : act.eval (.tmp 33) = .pointer (some ⟨eb, 2, none⟩) := hF.val 2 _ 33 rfl (hall 2 (by simp)) rfl
  have q34 : act.eval (.tmp 34) = .iface 217 (.agg #[.int .i64 sh]) := hF.val 3 _ 34 rfl (hall 3 (by simp)) rfl
  have q35 : act.eval (.tmp 35) = .pointer (some ⟨eb, 0, none⟩) := hF.val 4 _ 35 rfl (hall 4 (by simp)) rfl
  have q36 : act.eval (.tmp 36) = .pointer (some ⟨eb, 0, none⟩) := hF.val 5 _ 36 rfl (hall 5 (by simp)) rfl
  have q37 : act.eval (.tmp 37) = .pointer (some ⟨eb, 3, none⟩) := hF.val 6 _ 37 rfl (hall 6 (by simp)) rfl
  have q38 : act.eval (.tmp 38) = .pointer (some ⟨mb, 0, none⟩) := hF.val 7 _ 38 rfl (hall 7 (by simp)) rfl
  have q39 : act.eval (.tmp 39) = .pointer (some ⟨fb, 0, none⟩) := hF.val 8 _ 39 rfl (hall 8 (by simp)) rfl
  have q40 : act.eval (.tmp 40) = .iface 217 (.agg #[.int .i64 sh]) := hF.val 9 _ 40 rfl (hall 9 (by simp)) rfl
  have q41 : act.eval (.tmp 41) = .iface 217 (.agg #[.int .i64 sh]) := hF.val 10 _ 41 rfl (hall 10 (by simp)) rfl
  have q42 : act.eval (.tmp 42) = .tuple #[.agg #[.bool r.2.2.1.ok, .float .f64 r.2.2.1.pri, .int .i64 r.2.2.1.val, .int .i64 r.2.2.1.n], .bool r.2.2.2] := hF.val 11 _ 42 rfl (hall 11 (by simp)) rfl
  have q30 : act.eval (.tmp 30) = .tuple #[.agg #[.bool r.2.2.1.ok, .float .f64 r.2.2.1.pri, .int .i64 r.2.2.1.val, .int .i64 r.2.2.1.n], .bool r.2.2.2] := hF.val 12 _ 30 rfl (hall 12 (by simp)) rfl
  have q43 : act.eval (.tmp 43) = .agg #[.bool r.2.2.1.ok, .float .f64 r.2.2.1.pri, .int .i64 r.2.2.1.val, .int .i64 r.2.2.1.n] := hF.val 13 _ 43 rfl (hall 13 (by simp)) rfl
  have q44 : act.eval (.tmp 44) = .bool r.2.2.2 := hF.val 14 _ 44 rfl (hall 14 (by simp)) rfl
  have q9 : ∃ bx, x.2 = some bx ∧ act.eval (.tmp 9) = .pointer (some ⟨bx, 0, none⟩) := hF.val 15 _ 9 rfl (hall 15 (by simp)) rfl
  obtain ⟨bx, hx, q9⟩ := q9
  have q10 : act.eval (.tmp 10) = .bool r.2.2.2 := hF.val 17 _ 10 rfl (hall 17 (by simp)) rfl
  have hact := hF.act [31, 32, 33, 34, 35, 36, 37, 38, 39, 40, 41, 42, 30, 43, 44, 9, 10] (by kernel_rfl)
  have hst := hI.st
  rw [hall 11 (by simp), if_pos rfl] at hst
  have hchg := hI.chg
  have hgrw := hI.grow
  obtain ⟨hx0, hx1, hx2, hx3, hbx⟩ := hI.box bx hx
  rw [hall 16 (by simp), if_pos rfl] at hbx
  clear hF hall hI
  simp only [List.foldl_cons, List.foldl_nil] at hact
  rw [q31, q32, q33, q34, q35, q36, q37, q38, q39, q40, q41, q42, q30, q43, q44, q9, q10] at hact
  clear q31 q32 q33 q34 q35 q36 q37 q38 q39 q40 q41 q42 q30 q43 q44 q9 q10
  simp only [List.setIfInBounds_toArray, List.set_cons_succ, List.set_cons_zero] at hact
  subst hact
  obtain ⟨O', P', hM', hF', hD', hGO, hGP, _⟩ := hst
  obtain ⟨hE1, hV1, hb01, hlt1⟩ := H1.out
  obtain ⟨hne, hlt, hfb⟩ := HNE.out
  obtain ⟨M2, F2, A, d⟩ := r
  obtain ⟨aok, api, av, an⟩ := A
  dsimp only at *
  have hvb := HVB.out
  have hEz := hE1.but hchg hne
  have hVz := hV1.but hchg (fun e => by have := hlt vb e; omega)
  have hvl := hV1.lt
  have hne1 : vb ≠ eb := by omega
  have hne2 : bx ≠ eb := by have := hE1.lt; omega
  have hfbP : P' fb := hF'.ob
  have hneP : ∀ k, O' k ∨ P' k → k ≠ eb := fun k hk e => by
    subst e
    rcases hk with q | q
    · rcases hGO _ q with s | s
      · exact hne (.inl s)
      · omega
    · rcases hGP _ q with s | s
      · exact hne (.inr s)
      · omega
  have hnfe : fb ≠ eb := hneP fb (.inr hfbP)
  obtain ⟨z11, y11⟩ := hEz.get 11 _ rfl
  have hzl := hEz.lt
  have hstI : (steps : Int) < 4611686018427387904 := by omega
  obtain ⟨W2, hW2⟩ : ∃ W2, wz.setCell ⟨eb, 11, none⟩ (.int .i64 ((steps : Int) + 1)) = W2 := ⟨_, rfl⟩
  have hc2 : But (fun j => j = eb) wz W2 := by rw [← hW2]; exact (But.refl (fun j => j = eb) wz).set1 eb 11 rfl _
  have hE2 : BoxAt W2 eb (ecells kind param 217 (.agg #[.int .i64 sh]) mb Q closed (((steps + 1 : Nat)) : Int)) := by rw [← hW2]; exact hEz.set 11 (.int .i64 ((steps : Int) + 1))
  have hV2 := hVz.but hc2 hne1
  have hB2 := hbx.but hc2 hne2
  have hM2 := hM'.but hc2 (fun k hk e => hneP k (.inl hk) e)
  have hF2 := hF'.but hc2 (fun k hk e => hneP k (.inr hk) e)
  have hchg2 : But (fun k => O k ∨ P k ∨ k = eb) w W2 := ((But.of_below hb01).then hchg (fun k _ e => e.elim .inl (fun q => .inr (.inl q)))).then hc2 (fun k _ e => .inr (.inr e))
  have hGO2 : Grown O w W2 O' := fun k hk => (hGO k hk).imp id (fun q => ⟨by have := hb01.size; omega, by have := hc2.size; omega⟩)
  have hGP2 : Grown P w W2 P' := fun k hk => (hGP k hk).imp id (fun q => ⟨by have := hb01.size; omega, by have := hc2.size; omega⟩)
  have HZ := hidq (And.intro hne1 (And.intro hnfe (And.intro hneP hD')))
  have hbxv : bx ≠ vb := by omega
  have hvO : ∀ k, O' k ∨ P' k → k ≠ vb := fun k hk e => by
    subst e
    rcases hk with q | q
    · rcases hGO _ q with s | s
      · have := hlt _ (.inl s); omega
      · omega
    · rcases hGP _ q with s | s
      · have := hlt _ (.inr s); omega
      · omega
  have HVO := hidq hvO
  have hfv : fb ≠ vb := hvO fb (.inr hfbP)
  cases d with
  | false =>
    have hvb2 := HVB.out
    obtain ⟨Wv, hWv⟩ : ∃ Wv, setBox W2 vb [(0, .int .i64 (t : Int)), (1, .int .i64 F2.kind), (2, .float .f64 F2.pri), (3, .int .i64 F2.val), (4, .int .i64 F2.d0), (5, .int .i64 F2.d1), (6, .bool false), (7, .bool aok), (8, .float .f64 api), (9, .int .i64 av), (10, .int .i64 an)] = Wv := ⟨_, rfl⟩
    have hbv : But (fun j => j = vb) W2 Wv := by rw [← hWv]; exact setBox_but vb [(0, .int .i64 (t : Int)), (1, .int .i64 F2.kind), (2, .float .f64 F2.pri), (3, .int .i64 F2.val), (4, .int .i64 F2.d0), (5, .int .i64 F2.d1), (6, .bool false), (7, .bool aok), (8, .float .f64 api), (9, .int .i64 av), (10, .int .i64 an)] W2
    have hQV : BoxAt Wv vb [.int .i64 (t : Int), .int .i64 F2.kind, .float .f64 F2.pri, .int .i64 F2.val, .int .i64 F2.d0, .int .i64 F2.d1, .bool false, .bool aok, .float .f64 api, .int .i64 av, .int .i64 an] := by rw [← hWv]; exact (setBox_box [(0, .int .i64 (t : Int)), (1, .int .i64 F2.kind), (2, .float .f64 F2.pri), (3, .int .i64 F2.val), (4, .int .i64 F2.d0), (5, .int .i64 F2.d1), (6, .bool false), (7, .bool aok), (8, .float .f64 api), (9, .int .i64 av), (10, .int .i64 an)] hV2)
    dsimp only [setBox] at hWv
    have HWv := hidq hWv
    have HE := hidq (show PickEnd eb kind param 217 (.agg #[.int .i64 sh]) mb Q closed steps t fb O P (M2, F2, ⟨aok, api, av, an⟩, false) w (.returned (.tuple #[evV t F2 ⟨aok, api, av, an⟩ false, .bool true])) Wv.drew from by
      refine ⟨rfl, (hE2.but hbv (fun e => hne1 e.symm)).drew, O', P', (hM2.but hbv (fun k hk e => hvO k (.inl hk) e)).below (Below.refl _ _).drew, (hF2.but hbv (fun k hk e => hvO k (.inr hk) e)).below (Below.refl _ _).drew, hD', Er.Grown.up hGO2 hbv.size, Er.Grown.up hGP2 hbv.size, ((hchg2.then hbv (fun k hk e => by omega)).drew)⟩)
    have q0 := (hQV.get 0 _ rfl).1
    have q1 := (hQV.get 1 _ rfl).1
    have q2 := (hQV.get 2 _ rfl).1
    have q3 := (hQV.get 3 _ rfl).1
    have q4 := (hQV.get 4 _ rfl).1
    have q5 := (hQV.get 5 _ rfl).1
    have q6 := (hQV.get 6 _ rfl).1
    have q7 := (hQV.get 7 _ rfl).1
    have q8 := (hQV.get 8 _ rfl).1
    have q9 := (hQV.get 9 _ rfl).1
    have q10 := (hQV.get 10 _ rfl).1
    have HQZ := hidq (And.intro q0 (And.intro q1 (And.intro q2 (And.intro q3 (And.intro q4 (And.intro q5 (And.intro q6 (And.intro q7 (And.intro q8 (And.intro q9 q10))))))))))
    clear q0 q1 q2 q3 q4 q5 q6 q7 q8 q9 q10 hQV hbv hvb2 hWv
    obtain ⟨a0, k0, a1, k1, hFb, _⟩ := hF2.box
    obtain ⟨p0, _⟩ := hFb.get 0 _ rfl
    obtain ⟨p1, _⟩ := hFb.get 1 _ rfl
    obtain ⟨p2, _⟩ := hFb.get 2 _ rfl
    obtain ⟨p3, _⟩ := hFb.get 3 _ rfl
    obtain ⟨p4, _⟩ := hFb.get 4 _ rfl
    have hpl := hFb.lt
    obtain ⟨b0, _⟩ := hB2.get 0 _ rfl
    obtain ⟨b1, _⟩ := hB2.get 1 _ rfl
    obtain ⟨b2, _⟩ := hB2.get 2 _ rfl
    obtain ⟨b3, _⟩ := hB2.get 3 _ rfl
    have hbl := hB2.lt
    obtain ⟨v0, u0⟩ := hV2.get 0 _ rfl
    obtain ⟨v1, u1⟩ := hV2.get 1 _ rfl
    obtain ⟨v2, u2⟩ := hV2.get 2 _ rfl
    obtain ⟨v3, u3⟩ := hV2.get 3 _ rfl
    obtain ⟨v4, u4⟩ := hV2.get 4 _ rfl
    obtain ⟨v5, u5⟩ := hV2.get 5 _ rfl
    obtain ⟨v6, u6⟩ := hV2.get 6 _ rfl
    obtain ⟨v7, u7⟩ := hV2.get 7 _ rfl
    obtain ⟨v8, u8⟩ := hV2.get 8 _ rfl
    obtain ⟨v9, u9⟩ := hV2.get 9 _ rfl
    obtain ⟨v10, u10⟩ := hV2.get 10 _ rfl
    have hvl := hV2.lt
    clear hx0 hx1 hx2 hx3 hx hbx hM' hF' hD' hGO hGP hE1 hV1 hb01 hlt1 hne hlt hfb hEz hVz hne1 hne2 hfbP hneP hc2 hE2 hB2 hM2 hF2 hchg2 hGO2 hGP2 hFb hchg hgrw hvO hvb hV2
    go_wp2_with fail
    go_region
    rw [HWv.out]
    clear HZ HVO H1 HNE HQ HB HVB
    go_wp2_with fail
    obtain ⟨q0, q1, q2, q3, q4, q5, q6, q7, q8, q9, q10⟩ := HQZ.out
    exact bodyPost_ret (v := .tuple #[evV t F2 ⟨aok, api, av, an⟩ false, .bool true]) (by simp [results, Tryz.results35, go_sem, q0, q1, q2, q3, q4, q5, q6, q7, q8, q9, q10]) rfl HE.out
  | true =>
    obtain ⟨z4, y4⟩ := hE2.get (4 + t) _ (ecells_thread kind param 217 (.agg #[.int .i64 sh]) mb Q closed (((steps + 1 : Nat)) : Int) t ht6)
    rw [HQ.out] at z4
    have hel2 := hE2.lt
    obtain ⟨W3, hW3⟩ : ∃ W3, W2.setCell ⟨eb, 4 + t, none⟩ (.pointer none) = W3 := ⟨_, rfl⟩
    have hc3 : But (fun j => j = eb) W2 W3 := by rw [← hW3]; exact (But.refl (fun j => j = eb) W2).set1 eb (4 + t) rfl _
    have hE3 : BoxAt W3 eb (ecells kind param 217 (.agg #[.int .i64 sh]) mb (qset Q t none) closed (((steps + 1 : Nat)) : Int)) := by rw [← hW3]; exact (hE2.set (4 + t) (eptr none)).same (ecells_set kind param 217 (.agg #[.int .i64 sh]) mb Q closed (((steps + 1 : Nat)) : Int) t ht6 none)
    have hV3 := hV2.but hc3 hne1
    have hB3 := hB2.but hc3 hne2
    have hM3 := hM2.but hc3 (fun k hk e => hneP k (.inl hk) e)
    have hF3 := hF2.but hc3 (fun k hk e => hneP k (.inr hk) e)
    have hchg3 : But (fun k => O k ∨ P k ∨ k = eb) w W3 := hchg2.then hc3 (fun k _ e => .inr (.inr e))
    have hGO3 := Er.Grown.up hGO2 hc3.size
    have hGP3 := Er.Grown.up hGP2 hc3.size
    have hV2 := hV3
    have hvb2 := HVB.out
    obtain ⟨Wv, hWv⟩ : ∃ Wv, setBox W3 vb [(0, .int .i64 (t : Int)), (1, .int .i64 F2.kind), (2, .float .f64 F2.pri), (3, .int .i64 F2.val), (4, .int .i64 F2.d0), (5, .int .i64 F2.d1), (6, .bool true), (7, .bool aok), (8, .float .f64 api), (9, .int .i64 av), (10, .int .i64 an)] = Wv := ⟨_, rfl⟩
    have hbv : But (fun j => j = vb) W3 Wv := by rw [← hWv]; exact setBox_but vb [(0, .int .i64 (t : Int)), (1, .int .i64 F2.kind), (2, .float .f64 F2.pri), (3, .int .i64 F2.val), (4, .int .i64 F2.d0), (5, .int .i64 F2.d1), (6, .bool true), (7, .bool aok), (8, .float .f64 api), (9, .int .i64 av), (10, .int .i64 an)] W3
    have hQV : BoxAt Wv vb [.int .i64 (t : Int), .int .i64 F2.kind, .float .f64 F2.pri, .int .i64 F2.val, .int .i64 F2.d0, .int .i64 F2.d1, .bool true, .bool aok, .float .f64 api, .int .i64 av, .int .i64 an] := by rw [← hWv]; exact (setBox_box [(0, .int .i64 (t : Int)), (1, .int .i64 F2.kind), (2, .float .f64 F2.pri), (3, .int .i64 F2.val), (4, .int .i64 F2.d0), (5, .int .i64 F2.d1), (6, .bool true), (7, .bool aok), (8, .float .f64 api), (9, .int .i64 av), (10, .int .i64 an)] hV2)
    dsimp only [setBox] at hWv
    have HWv := hidq hWv
    have HE := hidq (show PickEnd eb kind param 217 (.agg #[.int .i64 sh]) mb Q closed steps t fb O P (M2, F2, ⟨aok, api, av, an⟩, true) w (.returned (.tuple #[evV t F2 ⟨aok, api, av, an⟩ true, .bool true])) Wv.drew from by
      refine ⟨rfl, (hE3.but hbv (fun e => hne1 e.symm)).drew, O', P', (hM3.but hbv (fun k hk e => hvO k (.inl hk) e)).below (Below.refl _ _).drew, (hF3.but hbv (fun k hk e => hvO k (.inr hk) e)).below (Below.refl _ _).drew, hD', Er.Grown.up hGO3 hbv.size, Er.Grown.up hGP3 hbv.size, ((hchg3.then hbv (fun k hk e => by omega)).drew)⟩)
    have q0 := (hQV.get 0 _ rfl).1
    have q1 := (hQV.get 1 _ rfl).1
    have q2 := (hQV.get 2 _ rfl).1
    have q3 := (hQV.get 3 _ rfl).1
    have q4 := (hQV.get 4 _ rfl).1
    have q5 := (hQV.get 5 _ rfl).1
    have q6 := (hQV.get 6 _ rfl).1
    have q7 := (hQV.get 7 _ rfl).1
    have q8 := (hQV.get 8 _ rfl).1
    have q9 := (hQV.get 9 _ rfl).1
    have q10 := (hQV.get 10 _ rfl).1
    have HQZ := hidq (And.intro q0 (And.intro q1 (And.intro q2 (And.intro q3 (And.intro q4 (And.intro q5 (And.intro q6 (And.intro q7 (And.intro q8 (And.intro q9 q10))))))))))
    clear q0 q1 q2 q3 q4 q5 q6 q7 q8 q9 q10 hQV hbv hvb2 hWv
    obtain ⟨a0, k0, a1, k1, hFb, _⟩ := hF3.box
    obtain ⟨p0, _⟩ := hFb.get 0 _ rfl
    obtain ⟨p1, _⟩ := hFb.get 1 _ rfl
    obtain ⟨p2, _⟩ := hFb.get 2 _ rfl
    obtain ⟨p3, _⟩ := hFb.get 3 _ rfl
    obtain ⟨p4, _⟩ := hFb.get 4 _ rfl
    have hpl := hFb.lt
    obtain ⟨b0, _⟩ := hB3.get 0 _ rfl
    obtain ⟨b1, _⟩ := hB3.get 1 _ rfl
    obtain ⟨b2, _⟩ := hB3.get 2 _ rfl
    obtain ⟨b3, _⟩ := hB3.get 3 _ rfl
    have hbl := hB3.lt
    obtain ⟨v0, u0⟩ := hV3.get 0 _ rfl
    obtain ⟨v1, u1⟩ := hV3.get 1 _ rfl
    obtain ⟨v2, u2⟩ := hV3.get 2 _ rfl
    obtain ⟨v3, u3⟩ := hV3.get 3 _ rfl
    obtain ⟨v4, u4⟩ := hV3.get 4 _ rfl
    obtain ⟨v5, u5⟩ := hV3.get 5 _ rfl
    obtain ⟨v6, u6⟩ := hV3.get 6 _ rfl
    obtain ⟨v7, u7⟩ := hV3.get 7 _ rfl
    obtain ⟨v8, u8⟩ := hV3.get 8 _ rfl
    obtain ⟨v9, u9⟩ := hV3.get 9 _ rfl
    obtain ⟨v10, u10⟩ := hV3.get 10 _ rfl
    have hvl := hV3.lt
    clear hx0 hx1 hx2 hx3 hx hbx hM' hF' hD' hGO hGP hE1 hV1 hb01 hlt1 hne hlt hfb hEz hVz hne1 hne2 hfbP hneP hc2 hE2 hB2 hM2 hF2 hchg2 hGO2 hGP2 hFb hchg hgrw hvO hvb hV2 hV3 hB3 hM3 hF3 hchg3 hGO3 hGP3 hE3 hc3
    go_wp2_with fail
    go_region
    rw [HWv.out]
    clear HZ HVO H1 HNE HQ HB HVB
    go_wp2_with fail
    obtain ⟨q0, q1, q2, q3, q4, q5, q6, q7, q8, q9, q10⟩ := HQZ.out
    exact bodyPost_ret (v := .tuple #[evV t F2 ⟨aok, api, av, an⟩ true, .bool true]) (by simp [results, Tryz.results35, go_sem, q0, q1, q2, q3, q4, q5, q6, q7, q8, q9, q10]) rfl HE.out
end Go.Proofs.YtdghgmaoamjnlaaGreat

namespace Go.Proofs.YtdghgmaoamjnlaaGreat
open Go.RowKit Go.Sort

/-- How an engine is made: w1 is the world in which its machine was made. -/
def WithEnd (K : Nat → TypeId → Value → World → Prop) (kind param r : Int) (mb : Nat) (w : World) (e : Ending) (w' : World) : Prop :=
  Below w.heap.size w w' ∧ (¬ r = 0 → e = .returned (.tuple #[.pointer none, .int .i64 r])) ∧
    (r = 0 → ∃ T v eb w1, e = .returned (.tuple #[.pointer (some ⟨eb, 0, none⟩), .int .i64 0]) ∧ w.heap.size ≤ eb ∧ w1.heap.size = eb ∧ BoxAt w' eb (ecells kind param T v mb (fun _ => none) false 0) ∧ K w.heap.size T v w1 ∧ Below w1.heap.size w1 w')

theorem ewith_any (K : Nat → TypeId → Value → World → Prop) (kind p r : Int) (hM : ∀ w, Calls Tryz.prog 79 #[.int .i64 kind, .int .i64 p] w (MachEnd K r w)) (mb : Nat) (w : World) :
    Calls Tryz.prog 32 #[.int .i64 kind, .int .i64 p, .pointer (some ⟨mb, 0, none⟩)] w (WithEnd K kind p r mb w) := by
  by_cases hr : r = 0
  · subst hr
    go_enter Tryz.func32, Tryz.ntmps32
    go_wp2_with fail
    refine (hM _).mono ?_
    rintro e w1 ⟨T, v, rfl, hk, hb⟩
    have HE := hidq (And.intro hk hb)
    clear hk hb hM
    go_wp2
    go_ret2
    obtain ⟨hk, hb⟩ := HE.out
    have hba : Below w1.heap.size w1 (w1.alloc (.cells (ecells kind p T v mb (fun _ => none) false 0).toArray 137)) := (Below.refl _ _).alloc (Nat.le_refl _) _
    exact ⟨hb.trans (hba.mono hb.size), fun h => absurd rfl h, fun _ => ⟨T, v, w1.heap.size, w1, rfl, hb.size, rfl, BoxAt.new w1 _ _, hk, hba⟩⟩
  · have hne : (r == 0) = false := by simpa using hr
    have HR := hidq hr
    clear hr
    go_enter Tryz.func32, Tryz.ntmps32
    go_wp2_with fail
    refine (hM _).mono ?_
    rintro e w1 ⟨T, v, rfl, hk, hb⟩
    have HE := hidq hb
    clear hk hb hM
    go_wp2
    go_ret2
    exact ⟨HE.out, fun _ => rfl, fun h => absurd h HR.out⟩

/-- How a new engine is made: its memory at mb, L is behind that; w1 is the world in which its machine was made. -/
def NewEnd13 (K : Nat → TypeId → Value → World → Prop) (kind param r : Int) (w : World) (e : Ending) (w' : World) : Prop :=
  Below w.heap.size w w' ∧ (¬ r = 0 → e = .returned (.tuple #[.pointer none, .int .i64 r])) ∧
    (r = 0 → ∃ T v eb mb L w1, e = .returned (.tuple #[.pointer (some ⟨eb, 0, none⟩), .int .i64 0]) ∧ w.heap.size ≤ mb ∧ mb < L ∧ L ≤ eb ∧ w1.heap.size = eb ∧ MemAt w' mb (fun k => k = mb) Mem.empty ∧ BoxAt w' eb (ecells kind param T v mb (fun _ => none) false 0) ∧ K L T v w1 ∧ Below w1.heap.size w1 w')
theorem new13_any (K : Nat → TypeId → Value → World → Prop) (kind p r : Int) (hM : ∀ w, Calls Tryz.prog 79 #[.int .i64 kind, .int .i64 p] w (MachEnd K r w)) (w : World) :
    Calls Tryz.prog 12 #[.int .i64 kind, .int .i64 p] w (NewEnd13 K kind p r w) := by
  have hW := fun mb w => ewith_any K kind p r hM mb w
  clear hM
  go_enter Tryz.func12, Tryz.ntmps12
  go_wp2_with fail
  refine (new5_any _).mono ?_
  rintro e w1 ⟨rfl, hM1, hb1⟩
  obtain ⟨mb, hmb⟩ : ∃ mb, w.heap.size = mb := ⟨_, rfl⟩
  have hms := hM1.lt _ hM1.ob
  rw [hmb] at hM1 hms ⊢
  have H1 := hidq (And.intro hM1 (And.intro hb1 (And.intro hmb hms)))
  clear hM1 hb1 hmb hms
  go_wp2_with fail
  refine (hW mb _).mono ?_
  by_cases hr : r = 0
  · rintro e w2 ⟨hb2, _, h2⟩
    obtain ⟨T, v, eb, wm, rfl, hle, hwm, hB, hk, hbm⟩ := h2 hr
    have H2 := hidq (And.intro hb2 (And.intro hle (And.intro hB (And.intro hk (And.intro hr (And.intro hwm hbm))))))
    clear hb2 h2 hle hB hk hW hr hwm hbm
    go_wp2
    go_ret2
    obtain ⟨hM1, hb1, hmb, hms⟩ := H1.out
    obtain ⟨hb2, hle, hB, hk, hr, hwm, hbm⟩ := H2.out
    exact ⟨by rw [← hmb] at *; exact hb1.trans (hb2.mono hb1.size), fun h => absurd hr h, fun _ => ⟨T, v, eb, mb, w1.heap.size, wm, rfl, by omega, hms, hle, hwm, hM1.below hb2, hB, hk, hbm⟩⟩
  · rintro e w2 ⟨hb2, h2, _⟩
    have he := h2 hr
    subst he
    have H2 := hidq (And.intro hb2 hr)
    clear hb2 h2 hW hr
    go_wp2
    go_ret2
    obtain ⟨hM1, hb1, hmb, hms⟩ := H1.out
    obtain ⟨hb2, hr⟩ := H2.out
    exact ⟨by rw [← hmb] at *; exact hb1.trans (hb2.mono hb1.size), fun _ => rfl, fun h => absurd h hr⟩
end Go.Proofs.YtdghgmaoamjnlaaGreat

namespace Go.Proofs.YtdghgmaoamjnlaaGreat
open Go.RowKit Go.Sort

/-- A call. -/
structure Cl where
  thread : Int
  kind : Int
  pri : Nat
  val : Int
  d0 : Int
  d1 : Int
  beg : Int
  fin : Int
  ans : Ans
abbrev Cl.l (c : Cl) : List Value := [.int .i64 c.thread, .int .i64 c.kind, .float .f64 c.pri, .int .i64 c.val, .int .i64 c.d0, .int .i64 c.d1, .int .i64 c.beg, .int .i64 c.fin, .bool c.ans.ok, .float .f64 c.ans.pri, .int .i64 c.ans.val, .int .i64 c.ans.n]
abbrev Cl.v (c : Cl) : Value := .agg #[.int .i64 c.thread, .int .i64 c.kind, .float .f64 c.pri, .int .i64 c.val, .int .i64 c.d0, .int .i64 c.d1, .int .i64 c.beg, .int .i64 c.fin, .bool c.ans.ok, .float .f64 c.ans.pri, .int .i64 c.ans.val, .int .i64 c.ans.n]
def Cl.done (c : Cl) : Bool := decide (0 ≤ c.fin)
def Cl.ahead (c d : Cl) : Bool := decide (0 ≤ c.fin ∧ c.fin < d.beg)

theorem cdone_any (c : Cl) (w : World) : Calls Tryz.prog 86 #[c.v] w fun e w' => e = .returned (.bool c.done) ∧ Below w.heap.size w w' := by
  have hb : Below w.heap.size w (w.alloc (.cells c.l.toArray 68)) := (Below.refl _ _).alloc (Nat.le_refl _) _
  have HB := hidq hb
  clear hb
  cases hd : c.done
  · have h0 : decide (0 ≤ c.fin) = false := hd
    clear hd
    go_enter Tryz.func86, Tryz.ntmps86
    go_wp2
    go_ret
    exact ⟨rfl, HB.out⟩
  · have h0 : decide (0 ≤ c.fin) = true := hd
    clear hd
    go_enter Tryz.func86, Tryz.ntmps86
    go_wp2
    go_ret
    exact ⟨rfl, HB.out⟩

set_option maxHeartbeats 2000000 in
theorem cahead_any (c d : Cl) (w : World) : Calls Tryz.prog 45 #[c.v, d.v] w fun e w' => e = .returned (.bool (c.ahead d)) ∧ Below w.heap.size w w' := by
  obtain ⟨W, hW, hb, hs, h1, h2⟩ := two_new w c.l d.l 68 68 0
  obtain ⟨b, hbb⟩ : ∃ b, w.heap.size = b := ⟨_, rfl⟩
  have hW' : (w.alloc (.cells c.l.toArray 68)).alloc (.cells d.l.toArray 68) = W := hW
  rw [hbb] at h1 h2 hs
  have hdn := fun w => cdone_any c w
  have HB := hidq hb
  have HBB := hidq hbb
  have f7 := fun W' (hW : Below W.heap.size W W') => ((h1.below hW).get 7 _ rfl).1
  have f6 := fun W' (hW : Below W.heap.size W W') => ((h2.below hW).get 6 _ rfl).1
  have hl1 := h1.lt
  have hl2 := h2.lt
  have c0 := (h1.get 0 _ rfl).1
  have c1 := (h1.get 1 _ rfl).1
  have c2 := (h1.get 2 _ rfl).1
  have c3 := (h1.get 3 _ rfl).1
  have c4 := (h1.get 4 _ rfl).1
  have c5 := (h1.get 5 _ rfl).1
  have c6 := (h1.get 6 _ rfl).1
  have c7 := (h1.get 7 _ rfl).1
  have c8 := (h1.get 8 _ rfl).1
  have c9 := (h1.get 9 _ rfl).1
  have c10 := (h1.get 10 _ rfl).1
  have c11 := (h1.get 11 _ rfl).1
  have HF := hidq (And.intro f7 f6)
  have hS := hs
  clear hW hb h1 h2 f7 f6
  by_cases hd : c.done = true
  · rw [hd] at hdn
    have h0 : 0 ≤ c.fin := of_decide_eq_true hd
    by_cases hlt : c.fin < d.beg
    · have hr : c.ahead d = true := decide_eq_true ⟨h0, hlt⟩
      rw [hr]
      clear hr hd
      go_enter Tryz.func45, Tryz.ntmps45
      go_wp2_with fail
      refine (hdn _).mono ?_
      rintro e w1 ⟨rfl, hb1⟩
      have f7 := HF.out.1 _ hb1
      have f6 := HF.out.2 _ hb1
      have hsz := hb1.size
      have HX := hidq (HB.out.trans (hb1.mono HB.out.size))
      clear hb1
      go_wp2_with fail
      go_ret
      exact ⟨rfl, HX.out⟩
    · have hr : c.ahead d = false := decide_eq_false (fun e => hlt e.2)
      have hl0 : decide (c.fin < d.beg) = false := decide_eq_false hlt
      rw [hr]
      clear hr hd
      go_enter Tryz.func45, Tryz.ntmps45
      go_wp2_with fail
      refine (hdn _).mono ?_
      rintro e w1 ⟨rfl, hb1⟩
      have f7 := HF.out.1 _ hb1
      have f6 := HF.out.2 _ hb1
      have hsz := hb1.size
      have HX := hidq (HB.out.trans (hb1.mono HB.out.size))
      clear hb1
      go_wp2_with fail
      go_ret
      exact ⟨rfl, HX.out⟩
  · have hd' : c.done = false := by cases e : c.done <;> simp_all
    have hr : c.ahead d = false := decide_eq_false (fun e => hd (decide_eq_true e.1))
    rw [hd'] at hdn
    rw [hr]
    clear hr hd hd'
    go_enter Tryz.func45, Tryz.ntmps45
    go_wp2_with fail
    refine (hdn _).mono ?_
    rintro e w1 ⟨rfl, hb1⟩
    have HX := hidq (HB.out.trans (hb1.mono HB.out.size))
    clear hb1
    go_wp2_with fail
    go_ret
    exact ⟨rfl, HX.out⟩
end Go.Proofs.YtdghgmaoamjnlaaGreat

namespace Go.Proofs.YtdghgmaoamjnlaaGreat
open Go.RowKit Go.Sort

/-- A recorder's cells: the engine, the calls, what each thread is at. -/
abbrev rcells (eb : Nat) (a : Option Addr) (n cap : Nat) (U : Nat → Option Nat) : List Value :=
  [.pointer (some ⟨eb, 0, none⟩), .slice a n cap, eptr (U 0), eptr (U 1), eptr (U 2), eptr (U 3), eptr (U 4), eptr (U 5)]
theorem rcells_thread (eb : Nat) (a : Option Addr) (n cap : Nat) (U : Nat → Option Nat) (k : Nat) (hk : k < 6) : (rcells eb a n cap U)[2 + k]? = some (eptr (U k)) := by
  have : k = 0 ∨ k = 1 ∨ k = 2 ∨ k = 3 ∨ k = 4 ∨ k = 5 := by omega
  rcases this with rfl | rfl | rfl | rfl | rfl | rfl <;> rfl
theorem rcells_set (eb : Nat) (a : Option Addr) (n cap : Nat) (U : Nat → Option Nat) (k : Nat) (hk : k < 6) (q : Option Nat) : (rcells eb a n cap U).set (2 + k) (eptr q) = rcells eb a n cap (qset U k q) := by
  have : k = 0 ∨ k = 1 ∨ k = 2 ∨ k = 3 ∨ k = 4 ∨ k = 5 := by omega
  rcases this with rfl | rfl | rfl | rfl | rfl | rfl <;> rfl
/-- Pointers in a row. -/
def ptrs (cs : List (Nat × Cl)) : List Value := cs.map fun p => .pointer (some ⟨p.1, 0, none⟩)
theorem ptrs_length (cs : List (Nat × Cl)) : (ptrs cs).length = cs.length := by simp [ptrs]
theorem ptrs_snoc (cs : List (Nat × Cl)) (b : Nat) (c : Cl) : ptrs (cs ++ [(b, c)]) = ptrs cs ++ [.pointer (some ⟨b, 0, none⟩)] := by simp [ptrs]
/-- The blocks that a recorder owns. -/
def RK (rb : Nat) (a : Option Addr) (cs : List (Nat × Cl)) (k : Nat) : Prop := k = rb ∨ inB a k ∨ ∃ p ∈ cs, p.1 = k
/-- A recorder at block rb. -/
structure RecAt (w : World) (rb eb : Nat) (a : Option Addr) (cap : Nat) (cs : List (Nat × Cl)) (U : Nat → Option Nat) : Prop where
  box : BoxAt w rb (rcells eb a cs.length cap U)
  sl : SlAt 1 w a cap cs.length (ptrs cs)
  cl : ∀ p ∈ cs, BoxAt w p.1 p.2.l
  nd : cs.Pairwise (fun p q => p.1 ≠ q.1)
  nb : ∀ p ∈ cs, p.1 ≠ rb ∧ ¬ inB a p.1
  na : ¬ inB a rb
theorem RecAt.lt {w : World} {rb eb : Nat} {a : Option Addr} {cap : Nat} {cs : List (Nat × Cl)} {U : Nat → Option Nat} (h : RecAt w rb eb a cap cs U) : ∀ k, RK rb a cs k → k < w.heap.size := by
  rintro k (rfl | hk | ⟨p, hp, rfl⟩)
  · exact h.box.lt
  · exact h.sl.lt k hk
  · exact (h.cl p hp).lt
theorem RecAt.but {w w' : World} {rb eb : Nat} {a : Option Addr} {cap : Nat} {cs : List (Nat × Cl)} {U : Nat → Option Nat} {S : Nat → Prop} (h : RecAt w rb eb a cap cs U) (hb : But S w w') (hS : ∀ k, RK rb a cs k → ¬ S k) : RecAt w' rb eb a cap cs U :=
  ⟨h.box.but hb (hS rb (.inl rfl)), h.sl.but hb (fun j hj => hS j (.inr (.inl hj))), fun p hp => (h.cl p hp).but hb (hS p.1 (.inr (.inr ⟨p, hp, rfl⟩))), h.nd, h.nb, h.na⟩
theorem RecAt.below {w w' : World} {rb eb : Nat} {a : Option Addr} {cap : Nat} {cs : List (Nat × Cl)} {U : Nat → Option Nat} (h : RecAt w rb eb a cap cs U) (hb : Below w.heap.size w w') : RecAt w' rb eb a cap cs U :=
  h.but (S := fun _ => False) (But.of_below hb) (fun _ _ e => e)
theorem RecAt.new {w : World} {rb eb : Nat} (h : BoxAt w rb (rcells eb none 0 0 (fun _ => none))) : RecAt w rb eb none 0 [] (fun _ => none) :=
  ⟨h, SlAt.nil _ _, (fun p hp => by cases hp), List.Pairwise.nil, (fun p hp => by cases hp), (fun ⟨x, hx, _⟩ => by cases hx)⟩

theorem of14_any (eb : Nat) (w : World) : Calls Tryz.prog 14 #[.pointer (some ⟨eb, 0, none⟩)] w fun e w' => e = .returned (.pointer (some ⟨w.heap.size, 0, none⟩)) ∧ RecAt w' w.heap.size eb none 0 [] (fun _ => none) ∧ Below w.heap.size w w' := by
  go_enter Tryz.func14, Tryz.ntmps14
  go_wp2
  go_ret
  exact ⟨rfl, RecAt.new (BoxAt.new w (rcells eb none 0 0 (fun _ => none)) _), (Below.refl _ _).alloc (Nat.le_refl _) _⟩
theorem forget_nil (r : Value) (w : World) : Calls Tryz.prog 103 #[r, .pointer none] w fun e w' => e = .returned (.tuple #[]) ∧ w' = w := by
  go_enter Tryz.func103, Tryz.ntmps103
  go_wp2
  exact bodyPost_end (results_none Tryz.results103 _ _ _) rfl ⟨rfl, rfl⟩
theorem plainH : PlainK Tryz.prog 1 41 42 := by
  have h : (Tryz.prog.info? 42).map (fun i => (i.zero, i.size, i.bytes)) = some (some (.pointer none), 1, 8) := by kernel_rfl
  obtain ⟨i, hi, he⟩ := Option.map_eq_some_iff.1 h
  simp only [Prod.mk.injEq] at he
  exact ⟨i, _, Tryz.underlying41, hi, he.1, he.2.1, rfl, by rw [he.2.2]; decide⟩
end Go.Proofs.YtdghgmaoamjnlaaGreat

namespace Go.Proofs.YtdghgmaoamjnlaaGreat
open Go.RowKit

theorem rof_any (k : Int) (w : World) : Calls Tryz.prog 94 #[.int .i64 k] w fun e w' => e = .returned (.tuple #[.int .i64 (opFrom k), .int .i64 (opTo k)]) ∧ w' = w := by
  rcases kinds k with rfl | rfl | rfl | rfl | h
  · go_enter Tryz.func94, Tryz.ntmps94
    go_wp2
    go_ret2
    exact ⟨rfl, rfl⟩
  · go_enter Tryz.func94, Tryz.ntmps94
    go_wp2
    go_ret2
    exact ⟨rfl, rfl⟩
  · go_enter Tryz.func94, Tryz.ntmps94
    go_wp2
    go_ret2
    exact ⟨rfl, rfl⟩
  · go_enter Tryz.func94, Tryz.ntmps94
    go_wp2
    go_ret2
    exact ⟨rfl, rfl⟩
  · rw [(opl_none h).2.1, (opl_none h).2.2]
    obtain ⟨h1, h2, h3, h4⟩ := h
    go_enter Tryz.func94, Tryz.ntmps94
    go_wp2
    go_ret2
    exact ⟨rfl, rfl⟩
end Go.Proofs.YtdghgmaoamjnlaaGreat

namespace Go.Proofs.YtdghgmaoamjnlaaGreat
open Go.RowKit

theorem opindex_any (a : Option Addr) (cap n : Nat) (l : List Int) (x : Int) (w : World) (h : IntsAt w a l) (hl : l.length = n) (hn : n ≤ 1000) :
    Calls Tryz.prog 150 #[.slice a n cap, .int .i64 x] w fun e w' => ∃ r : Int, e = .returned (.int .i64 r) ∧ (0 ≤ r ↔ x ∈ l) ∧ w' = w := by
  have hn1 : (n : Int) ≤ 1000 := by omega
  have HL : Hid (l.length = n) := hl
  clear hl
  go_enter Tryz.func150, Tryz.ntmps150
  go_wp2
  go_loop [8] (fun s => ∃ k : Nat, k ≤ n ∧ s = .int .i64 (k : Int) ∧ ∀ j, j < k → ¬ x = l[j]!) (fun s => n - (intOf s).toNat)
  case atStart => exact ⟨0, Nat.zero_le _, rfl, fun j hj => absurd hj (Nat.not_lt_zero _)⟩
  case round =>
    obtain ⟨k, hk, rfl, hno⟩ := hrel
    by_cases hlt : k < n
    · obtain ⟨b, rfl, hb, hc⟩ := h k (by rw [HL]; exact hlt)
      have k1 : (k : Int) < (n : Int) := by omega
      have hm : l[k]! ∈ l := by rw [getElem!_pos l k (by rw [HL]; exact hlt)]; exact List.getElem_mem _
      by_cases e : x = l[k]!
      · have HX : Hid (x ∈ l) := by rw [e]; exact hm
        have HE : Hid (∀ _ : Unit, x = l[k]!) := fun _ => e
        have hcx : w.cell? ⟨b, k, none⟩ = some (.int .i64 x) := by rw [e]; exact hc
        clear e hc hno hm
        go_wp2
        go_ret
        exact ⟨k, rfl, ⟨fun _ => HX, fun _ => by omega⟩, rfl⟩
      · have HN : Hid (∀ j, j < k + 1 → ¬ x = l[j]!) := fun j hj => by
          rcases Nat.lt_succ_iff_lt_or_eq.1 hj with h1 | h1
          · exact hno j h1
          · rw [h1]; exact e
        generalize l[k]! = y at *
        have eb : (x == y) = false := by simpa using e
        clear e hno hm
        go_wp2
        go_round
        case rel => exact ⟨k + 1, by omega, by go_num, HN⟩
        case measure => simp [intOf]; omega
    · have hkn : k = n := by omega
      have HX : Hid (¬ x ∈ l) := fun hm => by
        obtain ⟨j, hj, ej⟩ := List.getElem_of_mem hm
        have := hno j (by rw [HL] at hj; omega)
        rw [getElem!_pos l j hj] at this
        exact this ej.symm
      have hd : decide ((k : Int) < (n : Int)) = false := decide_eq_false (by omega)
      clear hno hkn
      go_wp2
      go_ret
      exact ⟨-1, rfl, ⟨fun h => absurd h (by decide), fun h => absurd h HX⟩, rfl⟩

theorem contains_any (a : Option Addr) (cap n : Nat) (l : List Int) (x : Int) (w : World) (h : IntsAt w a l) (hl : l.length = n) (hn : n ≤ 1000) :
    Calls Tryz.prog 121 #[.slice a n cap, .int .i64 x] w fun e w' => e = .returned (.bool (decide (x ∈ l))) ∧ w' = w := by
  have hI := opindex_any a cap n l x w h hl hn
  clear h hl hn
  by_cases hx : x ∈ l
  · rw [decide_eq_true hx]
    go_enter Tryz.func121, Tryz.ntmps121
    go_wp2_with fail
    refine hI.mono ?_
    rintro e w' ⟨r, rfl, hr, hw⟩
    replace hw := hw.symm; subst hw
    have h0 := hr.2 hx
    clear hr hx hI
    go_wp2
    go_ret
    exact ⟨rfl, rfl⟩
  · rw [decide_eq_false hx]
    go_enter Tryz.func121, Tryz.ntmps121
    go_wp2_with fail
    refine hI.mono ?_
    rintro e w' ⟨r, rfl, hr, hw⟩
    replace hw := hw.symm; subst hw
    have h0 : decide (0 ≤ r) = false := decide_eq_false (fun h => hx (hr.1 h))
    clear hr hx hI
    go_wp2
    go_ret
    exact ⟨rfl, rfl⟩

/-- May it be done? -/
def chk (kind k v : Int) : Int := if ¬ (opFrom kind ≤ k ∧ k ≤ opTo kind) then 6 else if k = 5 ∧ (v < 0 ∨ 4294967296 < v) then 4 else 0
theorem chk6 {kind k v : Int} (h : ¬ (opFrom kind ≤ k ∧ k ≤ opTo kind)) : chk kind k v = 6 := if_pos h
theorem chk4 {kind k v : Int} (h : opFrom kind ≤ k ∧ k ≤ opTo kind) (h2 : k = 5 ∧ (v < 0 ∨ 4294967296 < v)) : chk kind k v = 4 := by unfold chk; rw [if_neg (fun e => e h), if_pos h2]
theorem chk0 {kind k v : Int} (h : opFrom kind ≤ k ∧ k ≤ opTo kind) (h2 : ¬ (k = 5 ∧ (v < 0 ∨ 4294967296 < v))) : chk kind k v = 0 := by unfold chk; rw [if_neg (fun e => e h), if_neg h2]

abbrev boxO (k : Int) (f : Nat) (v d0 d1 : Int) : Obj := .cells #[.int .i64 k, .float .f64 f, .int .i64 v, .int .i64 d0, .int .i64 d1] 64

set_option maxHeartbeats 2000000 in
theorem check_any (kind k v d0 d1 : Int) (f : Nat) (w : World) :
    Calls Tryz.prog 80 #[.agg #[.int .i64 k, .float .f64 f, .int .i64 v, .int .i64 d0, .int .i64 d1], .int .i64 kind] w fun e w' => e = .returned (.int .i64 (chk kind k v)) ∧ Below w.heap.size w w' := by
  have hO := fun w => of_any kind w
  have hC := fun a w h => contains_any a (opl kind).length _ (opl kind) k w h rfl (by have := (opl_length kind).2; omega)
  have hm := (op_rng kind).2.2.2.2 k
  generalize opl kind = l at *
  generalize l.length = n at *
  have hz : ∀ w1, Below (w.alloc (boxO k f v d0 d1)).drew.heap.size (w.alloc (boxO k f v d0 d1)).drew w1 → w1.cell? ⟨w.heap.size, 0, none⟩ = some (.int .i64 k) ∧ w1.cell? ⟨w.heap.size, 2, none⟩ = some (.int .i64 v) := fun w1 hb => by
    constructor
    · rw [hb.cell (p := ⟨w.heap.size, 0, none⟩) (by simp)]; simp
    · rw [hb.cell (p := ⟨w.heap.size, 2, none⟩) (by simp)]; simp
  have hB0 : ∀ w1, Below (w.alloc (boxO k f v d0 d1)).drew.heap.size (w.alloc (boxO k f v d0 d1)).drew w1 → Below w.heap.size w w1 := fun w1 hb =>
    (((Below.refl _ _).alloc (Nat.le_refl _) _).drew).trans (hb.mono (by simp))
  have hfin : opFrom kind ≤ k ∧ k ≤ opTo kind → Hid (∀ _ : Unit, decide (k ∈ l) = true) := fun h _ => decide_eq_true (hm.2 h)
  by_cases hin : opFrom kind ≤ k ∧ k ≤ opTo kind
  · rw [hfin hin ()] at hC
    by_cases h5 : k = 5
    · by_cases hv : v < 0
      · rw [chk4 hin ⟨h5, .inl hv⟩]
        subst h5
        clear hm hin hfin
        go_enter Tryz.func80, Tryz.ntmps80
        go_wp2
        go_region_with (first | (go_at_call 105; refine (hO _).mono ?_; rintro e w1 ⟨a, rfl, hi, hb⟩; obtain ⟨hz1, hz2⟩ := hz _ hb) | (go_at_call 121; refine (hC a _ hi).mono ?_; rintro e w1 ⟨rfl, hw⟩; replace hw := hw.symm; subst hw))
        all_goals go_wp2
        all_goals go_ret
        all_goals exact ⟨rfl, hB0 _ hb⟩
      · have hv0 : decide (v < 0) = false := decide_eq_false hv
        by_cases hv1 : 4294967296 < v
        · rw [chk4 hin ⟨h5, .inr hv1⟩]
          subst h5
          clear hm hin hfin hv
          go_enter Tryz.func80, Tryz.ntmps80
          go_wp2
          go_region_with (first | (go_at_call 105; refine (hO _).mono ?_; rintro e w1 ⟨a, rfl, hi, hb⟩; obtain ⟨hz1, hz2⟩ := hz _ hb) | (go_at_call 121; refine (hC a _ hi).mono ?_; rintro e w1 ⟨rfl, hw⟩; replace hw := hw.symm; subst hw))
          all_goals go_wp2
          all_goals go_ret
          all_goals exact ⟨rfl, hB0 _ hb⟩
        · rw [chk0 hin (fun e => e.2.elim hv hv1)]
          have hv2 : decide (4294967296 < v) = false := decide_eq_false hv1
          subst h5
          clear hm hin hfin hv hv1
          go_enter Tryz.func80, Tryz.ntmps80
          go_wp2
          go_region_with (first | (go_at_call 105; refine (hO _).mono ?_; rintro e w1 ⟨a, rfl, hi, hb⟩; obtain ⟨hz1, hz2⟩ := hz _ hb) | (go_at_call 121; refine (hC a _ hi).mono ?_; rintro e w1 ⟨rfl, hw⟩; replace hw := hw.symm; subst hw))
          all_goals go_wp2
          all_goals go_ret
          all_goals exact ⟨rfl, hB0 _ hb⟩
    · rw [chk0 hin (fun e => h5 e.1)]
      have hk5 : (k == 5) = false := by simpa using h5
      clear hm hin hfin h5
      go_enter Tryz.func80, Tryz.ntmps80
      go_wp2
      go_region_with (first | (go_at_call 105; refine (hO _).mono ?_; rintro e w1 ⟨a, rfl, hi, hb⟩; obtain ⟨hz1, hz2⟩ := hz _ hb) | (go_at_call 121; refine (hC a _ hi).mono ?_; rintro e w1 ⟨rfl, hw⟩; replace hw := hw.symm; subst hw))
      all_goals go_wp2
      all_goals go_ret
      all_goals exact ⟨rfl, hB0 _ hb⟩
  · rw [chk6 hin]
    have hd : decide (k ∈ l) = false := decide_eq_false (fun e => hin (hm.1 e))
    rw [hd] at hC
    clear hd hm hin hfin
    go_enter Tryz.func80, Tryz.ntmps80
    go_wp2
    go_region_with (first | (go_at_call 105; refine (hO _).mono ?_; rintro e w1 ⟨a, rfl, hi, hb⟩; obtain ⟨hz1, hz2⟩ := hz _ hb) | (go_at_call 121; refine (hC a _ hi).mono ?_; rintro e w1 ⟨rfl, hw⟩; replace hw := hw.symm; subst hw))
    all_goals go_wp2
    all_goals go_ret
    all_goals exact ⟨rfl, hB0 _ hb⟩

set_option maxHeartbeats 2000000 in
theorem rcheck_any (kind k v : Int) (w : World) : Calls Tryz.prog 70 #[.int .i64 kind, .int .i64 k, .int .i64 v] w fun e w' => e = .returned (.int .i64 (chk kind k v)) ∧ w' = w := by
  have hO := fun w => rof_any kind w
  obtain ⟨fr, hfr⟩ : ∃ x, opFrom kind = x := ⟨_, rfl⟩
  obtain ⟨to, hto⟩ : ∃ x, opTo kind = x := ⟨_, rfl⟩
  rw [hfr, hto] at hO
  by_cases h1 : k < fr
  · rw [chk6 (by omega)]
    clear hfr hto
    go_enter Tryz.func70, Tryz.ntmps70
    go_wp2_with (go_at_call 94; refine (hO _).mono ?_; rintro e w1 ⟨rfl, hw⟩; replace hw := hw.symm; subst hw)
    go_ret
    exact ⟨rfl, rfl⟩
  · have h1' : decide (k < fr) = false := decide_eq_false h1
    by_cases h2 : to < k
    · rw [chk6 (by omega)]
      clear hfr hto
      go_enter Tryz.func70, Tryz.ntmps70
      go_wp2_with (go_at_call 94; refine (hO _).mono ?_; rintro e w1 ⟨rfl, hw⟩; replace hw := hw.symm; subst hw)
      go_ret
      exact ⟨rfl, rfl⟩
    · have h2' : decide (to < k) = false := decide_eq_false h2
      have hin : opFrom kind ≤ k ∧ k ≤ opTo kind := by omega
      by_cases h5 : k = 5
      · by_cases hv : v < 0
        · rw [chk4 hin ⟨h5, .inl hv⟩]
          subst h5
          clear hin hfr hto h1 h2
          go_enter Tryz.func70, Tryz.ntmps70
          go_wp2_with (go_at_call 94; refine (hO _).mono ?_; rintro e w1 ⟨rfl, hw⟩; replace hw := hw.symm; subst hw)
          go_ret
          exact ⟨rfl, rfl⟩
        · have hv0 : decide (v < 0) = false := decide_eq_false hv
          by_cases hv1 : 4294967296 < v
          · rw [chk4 hin ⟨h5, .inr hv1⟩]
            subst h5
            clear hin hfr hto h1 h2 hv
            go_enter Tryz.func70, Tryz.ntmps70
            go_wp2_with (go_at_call 94; refine (hO _).mono ?_; rintro e w1 ⟨rfl, hw⟩; replace hw := hw.symm; subst hw)
            go_ret
            exact ⟨rfl, rfl⟩
          · rw [chk0 hin (fun e => e.2.elim hv hv1)]
            have hv2 : decide (4294967296 < v) = false := decide_eq_false hv1
            subst h5
            clear hin hfr hto h1 h2 hv hv1
            go_enter Tryz.func70, Tryz.ntmps70
            go_wp2_with (go_at_call 94; refine (hO _).mono ?_; rintro e w1 ⟨rfl, hw⟩; replace hw := hw.symm; subst hw)
            go_ret
            exact ⟨rfl, rfl⟩
      · rw [chk0 hin (fun e => h5 e.1)]
        have hk5 : (k == 5) = false := by simpa using h5
        clear hin hfr hto h1 h2 h5
        go_enter Tryz.func70, Tryz.ntmps70
        go_wp2_with (go_at_call 94; refine (hO _).mono ?_; rintro e w1 ⟨rfl, hw⟩; replace hw := hw.symm; subst hw)
        go_ret
        exact ⟨rfl, rfl⟩
end Go.Proofs.YtdghgmaoamjnlaaGreat
