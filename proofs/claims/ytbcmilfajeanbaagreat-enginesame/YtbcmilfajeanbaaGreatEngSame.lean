/-
  Layer 13: its law of two engines: the call returns true.
-/
import Derived.Test.YtbcmilfajeanbaaGreatKind12All
import Derived.Test.YtbcmilfajeanbaaGreatRefOp6All
import Derived.Test.YtbcmilfajeanbaaGreatSame12All
namespace Go.Proofs.YtbcmilfajeanbaaGreat
open Go.RowKit Go.Sort

def AnyW (_ _ : World) : Prop := True
theorem AnyW.refl (w : World) : AnyW w w := trivial
/-- While both begin: iA, iB: who has begun. -/
structure RI (kd pr : Int) (lo : Nat) (X : Nat → Prop) (ea eb : Nat) (M : Mem) (F Fx : Nat → Option Fr) (s : Nat) (W1 : World) (L : Array Bool) (w : World) : Prop where
  two : TwoE kd pr lo X ea eb M M (if L.getD 7 false = true then Fx else F) (if L.getD 15 false = true then Fx else F) s s w
  but : But (Turn lo X) W1 w
section
variable {kd pr : Int} {lo : Nat} {X : Nat → Prop} {ea eb : Nat} {M : Mem} {F Fx : Nat → Option Fr} {s : Nat} {W1 : World} {L : Array Bool} {w w' : World}
theorem RI.start (h : TwoE kd pr lo X ea eb M M F F s s W1) (n : Nat) : RI kd pr lo X ea eb M F Fx s W1 (Array.replicate n false) W1.drew := by
  have hz : ∀ i, (Array.replicate n false).getD i false = false := fun i => by
    rw [Array.getD_eq_getD_getElem?, Array.getElem?_replicate]
    split <;> rfl
  refine ⟨?_, (But.refl _ _).drew⟩
  rw [hz, hz]
  exact h.drew
theorem RI.quiet (h : RI kd pr lo X ea eb M F Fx s W1 L w) (i : Nat) (h1 : i ≠ 7) (h2 : i ≠ 15) : RI kd pr lo X ea eb M F Fx s W1 (L.setIfInBounds i true) w :=
  ⟨by rw [Reg.getD_setb h1, Reg.getD_setb h2]; exact h.two, h.but⟩
theorem RI.below (h : RI kd pr lo X ea eb M F Fx s W1 L w) (hb : Below w.heap.size w w') : RI kd pr lo X ea eb M F Fx s W1 L w' :=
  ⟨h.two.below hb, h.but.trans (But.of_below hb)⟩
theorem RI.callA {A : Ac13} {E : Int} (h : RI kd pr lo X ea eb M F Fx s W1 L w) (hk : L.getD 7 true = false) (hE : begG kd false F A.thread (ownK kd A.k) (ownV kd A.k A.x) = E) (hF : begF F E A.thread (Fr.of (ownK kd A.k) (nf A.p) (ownV kd A.k A.x) A.d0 A.d1) = Fx) (hp : nf A.p < 18446744073709551616) :
    Calls Tryz.prog 8 #[.pointer (some ⟨ea, 0, none⟩), .int .i64 A.thread, .agg #[.int .i64 (ownK kd A.k), .float .f64 (nf A.p), .int .i64 (ownV kd A.k A.x), .int .i64 A.d0, .int .i64 A.d1]] w fun e w' =>
      e = .returned (.int .i64 E) ∧ RI kd pr lo X ea eb M F Fx s W1 (L.setIfInBounds 7 true) w' := by
  have h2 := h.two
  rw [Reg.getD_true hk] at h2
  refine (TwoE.beginA h2 A.thread (ownK kd A.k) (ownV kd A.k A.x) A.d0 A.d1 (nf A.p) hp).mono ?_
  rintro e w' ⟨he, ht, hb⟩
  rw [if_neg (by decide), hE] at he ht
  rw [hF] at ht
  exact ⟨he, by rw [Reg.getD_sets hk, Reg.getD_setb (by decide), if_pos rfl]; exact ht, h.but.trans hb⟩
theorem RI.callB {A : Ac13} {E : Int} (h : RI kd pr lo X ea eb M F Fx s W1 L w) (hk : L.getD 15 true = false) (hE : begG kd false F A.thread (ownK kd A.k) (ownV kd A.k A.x) = E) (hF : begF F E A.thread (Fr.of (ownK kd A.k) (nf A.p) (ownV kd A.k A.x) A.d0 A.d1) = Fx) (hp : nf A.p < 18446744073709551616) :
    Calls Tryz.prog 8 #[.pointer (some ⟨eb, 0, none⟩), .int .i64 A.thread, .agg #[.int .i64 (ownK kd A.k), .float .f64 (nf A.p), .int .i64 (ownV kd A.k A.x), .int .i64 A.d0, .int .i64 A.d1]] w fun e w' =>
      e = .returned (.int .i64 E) ∧ RI kd pr lo X ea eb M F Fx s W1 (L.setIfInBounds 15 true) w' := by
  have h2 := h.two.swap
  rw [Reg.getD_true hk] at h2
  refine (TwoE.beginA h2 A.thread (ownK kd A.k) (ownV kd A.k A.x) A.d0 A.d1 (nf A.p) hp).mono ?_
  rintro e w' ⟨he, ht, hb⟩
  rw [if_neg (by decide), hE] at he ht
  rw [hF] at ht
  exact ⟨he, by rw [Reg.getD_sets hk, Reg.getD_setb (by decide), if_pos rfl]; exact ht.swap, h.but.trans hb⟩
end
def esam (ea eb xb : Nat) (kd : Int) (A : Ac13) (E : Int) : List (Value → World → Prop) :=
  [fun v _ => v = .pointer (some ⟨ea, 0, none⟩),
   fun v _ => v = .pointer (some ⟨xb, 1, none⟩),
   fun v _ => v = .int .i64 A.thread,
   fun v _ => v = .int .i64 kd,
   fun v _ => v = .pointer (some ⟨xb, 3, none⟩),
   fun v _ => v = .agg #[.int .i64 A.k, .int .u64 A.p, .int .i64 A.x, .int .i64 A.d0, .int .i64 A.d1],
   fun v _ => v = .agg #[.int .i64 (ownK kd A.k), .float .f64 (nf A.p), .int .i64 (ownV kd A.k A.x), .int .i64 A.d0, .int .i64 A.d1],
   fun v _ => v = .int .i64 E,
   fun v _ => v = .pointer (some ⟨eb, 0, none⟩),
   fun v _ => v = .pointer (some ⟨xb, 1, none⟩),
   fun v _ => v = .int .i64 A.thread,
   fun v _ => v = .int .i64 kd,
   fun v _ => v = .pointer (some ⟨xb, 3, none⟩),
   fun v _ => v = .agg #[.int .i64 A.k, .int .u64 A.p, .int .i64 A.x, .int .i64 A.d0, .int .i64 A.d1],
   fun v _ => v = .agg #[.int .i64 (ownK kd A.k), .float .f64 (nf A.p), .int .i64 (ownV kd A.k A.x), .int .i64 A.d0, .int .i64 A.d1],
   fun v _ => v = .int .i64 E,
   fun v _ => v = .bool false]
theorem esam_kept (ea eb xb : Nat) (kd : Int) (A : Ac13) (E : Int) : Reg.AllKept AnyW (esam ea eb xb kd A E) :=
  ⟨(fun _ _ _ _ h => h), (fun _ _ _ _ h => h), (fun _ _ _ _ h => h), (fun _ _ _ _ h => h), (fun _ _ _ _ h => h), (fun _ _ _ _ h => h), (fun _ _ _ _ h => h), (fun _ _ _ _ h => h), (fun _ _ _ _ h => h), (fun _ _ _ _ h => h), (fun _ _ _ _ h => h), (fun _ _ _ _ h => h), (fun _ _ _ _ h => h), (fun _ _ _ _ h => h), (fun _ _ _ _ h => h), (fun _ _ _ _ h => h), (fun _ _ _ _ h => h), trivial⟩

set_option maxRecDepth 20000 in
set_option maxHeartbeats 8000000 in
theorem engineSame_any (k0 p0 : Int) (a : Option Addr) (n cap : Nat) (w : World) (h : Acts13 w a n) :
    Calls Tryz.prog 3 #[.int .i64 k0, .int .i64 p0, .slice a n cap] w fun e w' => e = .returned (.bool true) ∧ Below w.heap.size w w' := by
  have hsf := run_store_flt (P := Tryz.prog)
  have H0 := hidq h
  obtain ⟨lo, hlo⟩ : ∃ lo, w.heap.size = lo := ⟨_, rfl⟩
  clear h
  go_enter Tryz.func3, Tryz.ntmps3
  go_wp2_with fail
  refine (awake13_any _).mono ?_
  rintro e w1 ⟨rfl, hb1⟩
  have HB1 := hidq hb1
  clear hb1
  go_wp2_with fail
  refine (kind12_any _ _ _).mono ?_
  rintro e w2 ⟨⟨kd, pr, rfl, hL⟩, hb2⟩
  have HB2 := hidq (And.intro (HB1.out.trans (hb2.mono HB1.out.size)) hL)
  clear hb2
  go_wp2_with fail
  refine (newK_any kd pr hL _).mono ?_
  rintro e w3 ⟨ea, rfl, hb3, hA⟩
  have HB3 := hidq (And.intro hb3 hA)
  clear hb3 hA
  go_wp2_with fail
  refine (newK_any kd pr hL _).mono ?_
  rintro e w4 ⟨eb, rfl, hb4, hB⟩
  have HT0 := hidq (show TwoE kd pr lo (fun _ => False) ea eb Mem.empty Mem.empty (fun _ => none) (fun _ => none) 0 0 w4 ∧ Below w.heap.size w w4 from by
    obtain ⟨q1, _⟩ := HB2.out
    obtain ⟨q2, q3⟩ := HB3.out
    have s1 := q1.size
    have s2 := q2.size
    have s3 := hb4.size
    refine ⟨⟨⟨_, _, q3.below hb4, hB, fun k hk e => ?_, fun k hk => ⟨?_, id⟩, fun k hk => ⟨?_, id⟩⟩, fun k hk => hk.elim, by omega⟩, (q1.trans (q2.mono s1)).trans (hb4.mono (by omega))⟩
    · have := hk.2; have := e.1; omega
    · have := hk.1; omega
    · have := hk.1; omega)
  clear hb4 hB HB1 HB3 hL
  go_wp2
  go_loopw [11] (fun i wr => ∃ (j : Nat) (M : Mem) (F : Nat → Option Fr) (s : Nat), i = .int .i64 (j : Int) ∧ j ≤ 120 ∧ TwoE kd pr lo (fun _ => False) ea eb M M F F s s wr ∧ M.clock ≤ j ∧ s ≤ j ∧ Below w.heap.size w wr) (fun i _ => 120 - (intOf i).toNat)
  case atStart => exact ⟨0, Mem.empty, fun _ => none, 0, rfl, by decide, HT0.out.1, Nat.le_refl _, Nat.le_refl _, HT0.out.2⟩
  case round =>
    obtain ⟨j, M, F, s, rfl, hj, hT, hck, hst, hB⟩ := hrel
    clear HT0
    by_cases hlt : j < n ∧ j < 120
    · obtain ⟨g, off, rfl, hgl, A, ⟨c0, c1, c2, c3⟩, ⟨c4, c5, c6, c7⟩, hp0, hp1⟩ := H0.out j hlt.1
      have e0 := (hB.cell (p := ⟨g, off + j * 8, none⟩) hgl).trans c0
      have e1 := (hB.cell (p := ⟨g, off + j * 8 + 1, none⟩) hgl).trans c1
      have e2 := (hB.cell (p := ⟨g, off + j * 8 + 2, none⟩) hgl).trans c2
      have e3 := (hB.cell (p := ⟨g, off + j * 8 + 3, none⟩) hgl).trans c3
      have e4 := (hB.cell (p := ⟨g, off + j * 8 + 4, none⟩) hgl).trans c4
      have e5 := (hB.cell (p := ⟨g, off + j * 8 + 5, none⟩) hgl).trans c5
      have e6 := (hB.cell (p := ⟨g, off + j * 8 + 6, none⟩) hgl).trans c6
      have e7 := (hB.cell (p := ⟨g, off + j * 8 + 7, none⟩) hgl).trans c7
      have hgw : g < wr.heap.size := Nat.lt_of_lt_of_le hgl hB.size
      have hj1 : (j : Int) < (n : Int) := by omega
      have hj2 : (j : Int) < 120 := by omega
      have hnp : nf A.p < 18446744073709551616 := nf_lt hp1
      have hrm : 0 ≤ (bits .and .i64 A.kind 255).tmod 14 := by rw [i64_and255, Int.tmod_eq_emod_of_nonneg (by omega)]; omega
      have HJ := hidq (And.intro hlt (And.intro hj (And.intro hck (And.intro hst hnp))))
      obtain ⟨xb, hxb⟩ : ∃ xb, wr.heap.size = xb := ⟨_, rfl⟩
      have hal := (Below.refl wr.heap.size wr).alloc (Nat.le_refl _) (.cells #[.int .i64 A.kind, .int .i64 A.thread, .int .i64 A.pick, .int .i64 A.k, .int .u64 A.p, .int .i64 A.x, .int .i64 A.d0, .int .i64 A.d1] 36)
      have HX := hidq (show TwoE kd pr lo (fun k => False ∨ k = xb) ea eb M M F F s s (wr.alloc (.cells #[.int .i64 A.kind, .int .i64 A.thread, .int .i64 A.pick, .int .i64 A.k, .int .u64 A.p, .int .i64 A.x, .int .i64 A.d0, .int .i64 A.d1] 36)) ∧ BoxAt (wr.alloc (.cells #[.int .i64 A.kind, .int .i64 A.thread, .int .i64 A.pick, .int .i64 A.k, .int .u64 A.p, .int .i64 A.x, .int .i64 A.d0, .int .i64 A.d1] 36)) xb [.int .i64 A.kind, .int .i64 A.thread, .int .i64 A.pick, .int .i64 A.k, .int .u64 A.p, .int .i64 A.x, .int .i64 A.d0, .int .i64 A.d1] ∧ Below w.heap.size w (wr.alloc (.cells #[.int .i64 A.kind, .int .i64 A.thread, .int .i64 A.pick, .int .i64 A.k, .int .u64 A.p, .int .i64 A.x, .int .i64 A.d0, .int .i64 A.d1] 36)) from by
        rw [← hxb]
        exact ⟨hT.box hal (by simp), BoxAt.new wr _ _, hB.trans (hal.mono hB.size)⟩)
      clear c0 c1 c2 c3 c4 c5 c6 c7 hT hB hal hlt hj hck hst hnp hgl hp0 hp1
      by_cases h3 : (bits .and .i64 A.kind 255).tmod 14 < 3
      · clear hrm
        go_upto_region 14 with fail
        try rw [hxb]
        obtain ⟨W1, hW1⟩ : ∃ W1, wr.alloc (.cells #[.int .i64 A.kind, .int .i64 A.thread, .int .i64 A.pick, .int .i64 A.k, .int .u64 A.p, .int .i64 A.x, .int .i64 A.d0, .int .i64 A.d1] 36) = W1 := ⟨_, rfl⟩
        rw [hW1] at HX ⊢
        clear e0 e1 e2 e3 e4 e5 e6 e7 hgw hW1
        obtain ⟨X, hX⟩ : ∃ X : Nat → Prop, (fun k => False ∨ k = xb) = X := ⟨_, rfl⟩
        have hXx : X xb := by rw [← hX]; exact .inr rfl
        rw [hX] at HX
        obtain ⟨E, hE⟩ : ∃ E, begG kd false F A.thread (ownK kd A.k) (ownV kd A.k A.x) = E := ⟨_, rfl⟩
        obtain ⟨Fx, hFx⟩ : ∃ Fx, begF F E A.thread (Fr.of (ownK kd A.k) (nf A.p) (ownV kd A.k A.x) A.d0 A.d1) = Fx := ⟨_, rfl⟩
        have HP := hidq (And.intro hE (And.intro hFx HJ.out.2.2.2.2))
        have HT := hidq HX.out.1
        have FX := hidq (fun W (hW : But (Turn lo X) W1 W) => (show W.cell? ⟨xb, 0, none⟩ = some (.int .i64 A.kind) ∧ W.cell? ⟨xb, 1, none⟩ = some (.int .i64 A.thread) ∧ W.cell? ⟨xb, 2, none⟩ = some (.int .i64 A.pick) ∧ W.cell? ⟨xb, 3, none⟩ = some (.int .i64 A.k) ∧ W.cell? ⟨xb, 4, none⟩ = some (.int .u64 A.p) ∧ W.cell? ⟨xb, 5, none⟩ = some (.int .i64 A.x) ∧ W.cell? ⟨xb, 6, none⟩ = some (.int .i64 A.d0) ∧ W.cell? ⟨xb, 7, none⟩ = some (.int .i64 A.d1) from by
          have q := HX.out.2.1.but hW (fun e => e.2 hXx)
          exact ⟨(q.get 0 _ rfl).1, (q.get 1 _ rfl).1, (q.get 2 _ rfl).1, (q.get 3 _ rfl).1, (q.get 4 _ rfl).1, (q.get 5 _ rfl).1, (q.get 6 _ rfl).1, (q.get 7 _ rfl).1⟩))
        clear hE hFx
        have hrefl : ∀ w : World, AnyW w w := AnyW.refl
        refine Reg.wp_region_props (Reg.ofList (esam ea eb xb kd A E)) AnyW (RI kd pr lo X ea eb M F Fx s W1) (by kernel_rfl) (by kernel_rfl) (Reg.AllKept.at _ (esam_kept ea eb xb kd A E)) hrefl (RI.start HT.out _) ⟨?_, ?_, ?_, ?_, ?_, ?_, ?_, ?_, ?_, ?_, ?_, ?_, ?_, ?_, ?_, ?_, ?_, trivial⟩ ?_
        · refine Reg.StepAt.plain (i := 0) rfl ?_
          intro L ev w hI hk hp hA
          have e7 : ev (.tmp 7) = .pointer (some ⟨ea, 0, none⟩) := hA.oldNone 7 (by kernel_rfl)
          have hcc := hA.const
          clear hA hp
          refine Reg.out_value (v := .pointer (some ⟨ea, 0, none⟩)) ?_ ⟨rfl, hrefl _, (hI.quiet 0 (by decide) (by decide))⟩
          go_simp
        · refine Reg.StepAt.plain (i := 1) rfl ?_
          intro L ev w hI hk hp hA
          have e12 : ev (.tmp 12) = .pointer (some ⟨xb, 0, none⟩) := hA.oldNone 12 (by kernel_rfl)
          have hcc := hA.const
          clear hA hp
          refine Reg.out_value (v := .pointer (some ⟨xb, 1, none⟩)) ?_ ⟨rfl, hrefl _, (hI.quiet 1 (by decide) (by decide))⟩
          go_simp
        · refine Reg.StepAt.plain (i := 2) rfl ?_
          intro L ev w hI hk hp hA
          have e73 : ev (.tmp 73) = .pointer (some ⟨xb, 1, none⟩) := hA.val 1 _ 73 rfl (hp ⟨1, .data⟩ (by simp) rfl) rfl
          have hcc := hA.const
          clear hA hp
          obtain ⟨f0, f1, f2, f3, f4, f5, f6, f7⟩ := FX.out w hI.but
          refine Reg.out_value (v := .int .i64 A.thread) ?_ ⟨rfl, hrefl _, (hI.quiet 2 (by decide) (by decide))⟩
          go_simp
        · refine Reg.StepAt.plain (i := 3) rfl ?_
          intro L ev w hI hk hp hA
          have e0 : ev (.tmp 0) = .int .i64 kd := hA.oldNone 0 (by kernel_rfl)
          have hcc := hA.const
          clear hA hp
          refine Reg.out_value (v := .int .i64 kd) ?_ ⟨rfl, hrefl _, (hI.quiet 3 (by decide) (by decide))⟩
          go_simp
        · refine Reg.StepAt.plain (i := 4) rfl ?_
          intro L ev w hI hk hp hA
          have e12 : ev (.tmp 12) = .pointer (some ⟨xb, 0, none⟩) := hA.oldNone 12 (by kernel_rfl)
          have hcc := hA.const
          clear hA hp
          refine Reg.out_value (v := .pointer (some ⟨xb, 3, none⟩)) ?_ ⟨rfl, hrefl _, (hI.quiet 4 (by decide) (by decide))⟩
          go_simp
        · refine Reg.StepAt.plain (i := 5) rfl ?_
          intro L ev w hI hk hp hA
          have e76 : ev (.tmp 76) = .pointer (some ⟨xb, 3, none⟩) := hA.val 4 _ 76 rfl (hp ⟨4, .data⟩ (by simp) rfl) rfl
          have hcc := hA.const
          clear hA hp
          obtain ⟨f0, f1, f2, f3, f4, f5, f6, f7⟩ := FX.out w hI.but
          refine Reg.out_value (v := .agg #[.int .i64 A.k, .int .u64 A.p, .int .i64 A.x, .int .i64 A.d0, .int .i64 A.d1]) ?_ ⟨rfl, hrefl _, (hI.quiet 5 (by decide) (by decide))⟩
          go_simp
        · refine Reg.StepAt.plain (i := 6) rfl ?_
          intro L ev w hI hk hp hA
          have e75 : ev (.tmp 75) = .int .i64 kd := hA.val 3 _ 75 rfl (hp ⟨3, .data⟩ (by simp) rfl) rfl
          have e77 : ev (.tmp 77) = .agg #[.int .i64 A.k, .int .u64 A.p, .int .i64 A.x, .int .i64 A.d0, .int .i64 A.d1] := hA.val 5 _ 77 rfl (hp ⟨5, .data⟩ (by simp) rfl) rfl
          have hcc := hA.const
          have hcf := hA.func
          clear hA hp
          refine Reg.out_call (f := 9) (args := #[.int .i64 kd, .agg #[.int .i64 A.k, .int .u64 A.p, .int .i64 A.x, .int .i64 A.d0, .int .i64 A.d1]]) (w0 := w) ?_ ?_
          · go_simp
          refine (own6_any kd A.k A.p A.x A.d0 A.d1 w).mono ?_
          rintro e w' ⟨rfl, hb'⟩
          exact ⟨_, rfl, rfl, trivial, (hI.below hb').quiet 6 (by decide) (by decide)⟩
        · refine Reg.StepAt.plain (i := 7) rfl ?_
          intro L ev w hI hk hp hA
          have e72 : ev (.tmp 72) = .pointer (some ⟨ea, 0, none⟩) := hA.val 0 _ 72 rfl (hp ⟨0, .data⟩ (by simp) rfl) rfl
          have e74 : ev (.tmp 74) = .int .i64 A.thread := hA.val 2 _ 74 rfl (hp ⟨2, .data⟩ (by simp) rfl) rfl
          have e78 : ev (.tmp 78) = .agg #[.int .i64 (ownK kd A.k), .float .f64 (nf A.p), .int .i64 (ownV kd A.k A.x), .int .i64 A.d0, .int .i64 A.d1] := hA.val 6 _ 78 rfl (hp ⟨6, .data⟩ (by simp) rfl) rfl
          have hcc := hA.const
          have hcf := hA.func
          clear hA hp
          refine Reg.out_call (f := 8) (args := #[.pointer (some ⟨ea, 0, none⟩), .int .i64 A.thread, .agg #[.int .i64 (ownK kd A.k), .float .f64 (nf A.p), .int .i64 (ownV kd A.k A.x), .int .i64 A.d0, .int .i64 A.d1]]) (w0 := w) ?_ ?_
          · go_simp
          refine (hI.callA hk HP.out.1 HP.out.2.1 HP.out.2.2).mono ?_
          rintro e w' ⟨rfl, hI'⟩
          exact ⟨_, rfl, rfl, trivial, hI'⟩
        · refine Reg.StepAt.plain (i := 8) rfl ?_
          intro L ev w hI hk hp hA
          have e9 : ev (.tmp 9) = .pointer (some ⟨eb, 0, none⟩) := hA.oldNone 9 (by kernel_rfl)
          have hcc := hA.const
          clear hA hp
          refine Reg.out_value (v := .pointer (some ⟨eb, 0, none⟩)) ?_ ⟨rfl, hrefl _, (hI.quiet 8 (by decide) (by decide))⟩
          go_simp
        · refine Reg.StepAt.plain (i := 9) rfl ?_
          intro L ev w hI hk hp hA
          have e12 : ev (.tmp 12) = .pointer (some ⟨xb, 0, none⟩) := hA.oldNone 12 (by kernel_rfl)
          have hcc := hA.const
          clear hA hp
          refine Reg.out_value (v := .pointer (some ⟨xb, 1, none⟩)) ?_ ⟨rfl, hrefl _, (hI.quiet 9 (by decide) (by decide))⟩
          go_simp
        · refine Reg.StepAt.plain (i := 10) rfl ?_
          intro L ev w hI hk hp hA
          have e81 : ev (.tmp 81) = .pointer (some ⟨xb, 1, none⟩) := hA.val 9 _ 81 rfl (hp ⟨9, .data⟩ (by simp) rfl) rfl
          have hcc := hA.const
          clear hA hp
          obtain ⟨f0, f1, f2, f3, f4, f5, f6, f7⟩ := FX.out w hI.but
          refine Reg.out_value (v := .int .i64 A.thread) ?_ ⟨rfl, hrefl _, (hI.quiet 10 (by decide) (by decide))⟩
          go_simp
        · refine Reg.StepAt.plain (i := 11) rfl ?_
          intro L ev w hI hk hp hA
          have e0 : ev (.tmp 0) = .int .i64 kd := hA.oldNone 0 (by kernel_rfl)
          have hcc := hA.const
          clear hA hp
          refine Reg.out_value (v := .int .i64 kd) ?_ ⟨rfl, hrefl _, (hI.quiet 11 (by decide) (by decide))⟩
          go_simp
        · refine Reg.StepAt.plain (i := 12) rfl ?_
          intro L ev w hI hk hp hA
          have e12 : ev (.tmp 12) = .pointer (some ⟨xb, 0, none⟩) := hA.oldNone 12 (by kernel_rfl)
          have hcc := hA.const
          clear hA hp
          refine Reg.out_value (v := .pointer (some ⟨xb, 3, none⟩)) ?_ ⟨rfl, hrefl _, (hI.quiet 12 (by decide) (by decide))⟩
          go_simp
        · refine Reg.StepAt.plain (i := 13) rfl ?_
          intro L ev w hI hk hp hA
          have e84 : ev (.tmp 84) = .pointer (some ⟨xb, 3, none⟩) := hA.val 12 _ 84 rfl (hp ⟨12, .data⟩ (by simp) rfl) rfl
          have hcc := hA.const
          clear hA hp
          obtain ⟨f0, f1, f2, f3, f4, f5, f6, f7⟩ := FX.out w hI.but
          refine Reg.out_value (v := .agg #[.int .i64 A.k, .int .u64 A.p, .int .i64 A.x, .int .i64 A.d0, .int .i64 A.d1]) ?_ ⟨rfl, hrefl _, (hI.quiet 13 (by decide) (by decide))⟩
          go_simp
        · refine Reg.StepAt.plain (i := 14) rfl ?_
          intro L ev w hI hk hp hA
          have e83 : ev (.tmp 83) = .int .i64 kd := hA.val 11 _ 83 rfl (hp ⟨11, .data⟩ (by simp) rfl) rfl
          have e85 : ev (.tmp 85) = .agg #[.int .i64 A.k, .int .u64 A.p, .int .i64 A.x, .int .i64 A.d0, .int .i64 A.d1] := hA.val 13 _ 85 rfl (hp ⟨13, .data⟩ (by simp) rfl) rfl
          have hcc := hA.const
          have hcf := hA.func
          clear hA hp
          refine Reg.out_call (f := 9) (args := #[.int .i64 kd, .agg #[.int .i64 A.k, .int .u64 A.p, .int .i64 A.x, .int .i64 A.d0, .int .i64 A.d1]]) (w0 := w) ?_ ?_
          · go_simp
          refine (own6_any kd A.k A.p A.x A.d0 A.d1 w).mono ?_
          rintro e w' ⟨rfl, hb'⟩
          exact ⟨_, rfl, rfl, trivial, (hI.below hb').quiet 14 (by decide) (by decide)⟩
        · refine Reg.StepAt.plain (i := 15) rfl ?_
          intro L ev w hI hk hp hA
          have e80 : ev (.tmp 80) = .pointer (some ⟨eb, 0, none⟩) := hA.val 8 _ 80 rfl (hp ⟨8, .data⟩ (by simp) rfl) rfl
          have e82 : ev (.tmp 82) = .int .i64 A.thread := hA.val 10 _ 82 rfl (hp ⟨10, .data⟩ (by simp) rfl) rfl
          have e86 : ev (.tmp 86) = .agg #[.int .i64 (ownK kd A.k), .float .f64 (nf A.p), .int .i64 (ownV kd A.k A.x), .int .i64 A.d0, .int .i64 A.d1] := hA.val 14 _ 86 rfl (hp ⟨14, .data⟩ (by simp) rfl) rfl
          have hcc := hA.const
          have hcf := hA.func
          clear hA hp
          refine Reg.out_call (f := 8) (args := #[.pointer (some ⟨eb, 0, none⟩), .int .i64 A.thread, .agg #[.int .i64 (ownK kd A.k), .float .f64 (nf A.p), .int .i64 (ownV kd A.k A.x), .int .i64 A.d0, .int .i64 A.d1]]) (w0 := w) ?_ ?_
          · go_simp
          refine (hI.callB hk HP.out.1 HP.out.2.1 HP.out.2.2).mono ?_
          rintro e w' ⟨rfl, hI'⟩
          exact ⟨_, rfl, rfl, trivial, hI'⟩
        · refine Reg.StepAt.plain (i := 16) rfl ?_
          intro L ev w hI hk hp hA
          have e79 : ev (.tmp 79) = .int .i64 E := hA.val 7 _ 79 rfl (hp ⟨7, .data⟩ (by simp) rfl) rfl
          have e87 : ev (.tmp 87) = .int .i64 E := hA.val 15 _ 87 rfl (hp ⟨15, .data⟩ (by simp) rfl) rfl
          have hcc := hA.const
          clear hA hp
          refine Reg.out_value (v := .bool false) ?_ ⟨rfl, trivial, (hI.quiet 16 (by decide) (by decide))⟩
          go_simp
        intro L act wz hall hI hF
        have g72 : act.eval (.tmp 72) = .pointer (some ⟨ea, 0, none⟩) := hF.val 0 _ 72 rfl (hall 0 (by simp)) rfl
        have g73 : act.eval (.tmp 73) = .pointer (some ⟨xb, 1, none⟩) := hF.val 1 _ 73 rfl (hall 1 (by simp)) rfl
        have g74 : act.eval (.tmp 74) = .int .i64 A.thread := hF.val 2 _ 74 rfl (hall 2 (by simp)) rfl
        have g75 : act.eval (.tmp 75) = .int .i64 kd := hF.val 3 _ 75 rfl (hall 3 (by simp)) rfl
        have g76 : act.eval (.tmp 76) = .pointer (some ⟨xb, 3, none⟩) := hF.val 4 _ 76 rfl (hall 4 (by simp)) rfl
        have g77 : act.eval (.tmp 77) = .agg #[.int .i64 A.k, .int .u64 A.p, .int .i64 A.x, .int .i64 A.d0, .int .i64 A.d1] := hF.val 5 _ 77 rfl (hall 5 (by simp)) rfl
        have g78 : act.eval (.tmp 78) = .agg #[.int .i64 (ownK kd A.k), .float .f64 (nf A.p), .int .i64 (ownV kd A.k A.x), .int .i64 A.d0, .int .i64 A.d1] := hF.val 6 _ 78 rfl (hall 6 (by simp)) rfl
        have g79 : act.eval (.tmp 79) = .int .i64 E := hF.val 7 _ 79 rfl (hall 7 (by simp)) rfl
        have g80 : act.eval (.tmp 80) = .pointer (some ⟨eb, 0, none⟩) := hF.val 8 _ 80 rfl (hall 8 (by simp)) rfl
        have g81 : act.eval (.tmp 81) = .pointer (some ⟨xb, 1, none⟩) := hF.val 9 _ 81 rfl (hall 9 (by simp)) rfl
        have g82 : act.eval (.tmp 82) = .int .i64 A.thread := hF.val 10 _ 82 rfl (hall 10 (by simp)) rfl
        have g83 : act.eval (.tmp 83) = .int .i64 kd := hF.val 11 _ 83 rfl (hall 11 (by simp)) rfl
        have g84 : act.eval (.tmp 84) = .pointer (some ⟨xb, 3, none⟩) := hF.val 12 _ 84 rfl (hall 12 (by simp)) rfl
        have g85 : act.eval (.tmp 85) = .agg #[.int .i64 A.k, .int .u64 A.p, .int .i64 A.x, .int .i64 A.d0, .int .i64 A.d1] := hF.val 13 _ 85 rfl (hall 13 (by simp)) rfl
        have g86 : act.eval (.tmp 86) = .agg #[.int .i64 (ownK kd A.k), .float .f64 (nf A.p), .int .i64 (ownV kd A.k A.x), .int .i64 A.d0, .int .i64 A.d1] := hF.val 14 _ 86 rfl (hall 14 (by simp)) rfl
        have g87 : act.eval (.tmp 87) = .int .i64 E := hF.val 15 _ 87 rfl (hall 15 (by simp)) rfl
        have g88 : act.eval (.tmp 88) = .bool false := hF.val 16 _ 88 rfl (hall 16 (by simp)) rfl
        have hact := hF.act [72, 73, 74, 75, 76, 77, 78, 79, 80, 81, 82, 83, 84, 85, 86, 87, 88] (by kernel_rfl)
        have hTwo : TwoE kd pr lo X ea eb M M Fx Fx s s wz := by have := hI.two; rw [if_pos (hall 7 (by simp)), if_pos (hall 15 (by simp))] at this; exact this
        have hBt := hI.but
        clear hF hall
        simp only [List.foldl_cons, List.foldl_nil] at hact
        rw [g72, g73, g74, g75, g76, g77, g78, g79, g80, g81, g82, g83, g84, g85, g86, g87, g88] at hact
        clear g72 g73 g74 g75 g76 g77 g78 g79 g80 g81 g82 g83 g84 g85 g86 g87 g88
        simp only [List.setIfInBounds_toArray, List.set_cons_succ, List.set_cons_zero] at hact
        subst hact
        have HN := hidq (show TwoE kd pr lo (fun _ => False) ea eb M M Fx Fx s s wz ∧ Below w.heap.size w wz from ⟨hTwo.less (fun _ e => e.elim), HX.out.2.2.trans (hBt.below HX.out.2.2.size (fun k e => by have := e.1; omega))⟩)
        clear hI hTwo hBt FX HT HX HP
        go_wp2
        go_roundw
        case rel =>
          obtain ⟨⟨q1, q2⟩, q3, q4, q5, _⟩ := HJ.out
          exact ⟨j + 1, M, Fx, s, by go_num, by omega, HN.out.1, by omega, by omega, HN.out.2⟩
        case measure => simp [intOf]; omega
      · have h3' : 3 ≤ (bits .and .i64 A.kind 255).tmod 14 := by omega
        have hPA := TwoE.pickA HX.out.1 A.pick (by have := HJ.out.2.2.2.1; omega) (by have := HJ.out.2.2.1; omega)
        have hev := HX.out.1.ev_ok A.pick
        have hclk := pickS_clk (kind := kd) (param := pr) (pick := A.pick) (M := M) (F := F) (steps := s)
        have hR0 : pickS (stK kd pr) A.pick M F s = pickS (stK kd pr) A.pick M F s := rfl
        generalize hR : pickS (stK kd pr) A.pick M F s = R at hPA hev hclk
        obtain ⟨t, k, v, d0, d1, av, an, pri, ap, dn, ok, hev, hap⟩ := hev
        rw [hev] at hPA
        have HR := hidq (And.intro hR (And.intro hev (And.intro hclk hap)))
        clear hR hev hclk h3 hR0
        go_wp2_with fail
        try rw [hxb]
        refine hPA.mono ?_
        rintro e w2 ⟨rfl, hT2, hb2⟩
        clear hPA
        obtain ⟨vb, hvb⟩ : ∃ vb, w2.heap.size = vb := ⟨_, rfl⟩
        have hae := (Below.refl w2.heap.size w2).alloc (Nat.le_refl _) (.cells #[.int .i64 t, .int .i64 k, .float .f64 pri, .int .i64 v, .int .i64 d0, .int .i64 d1, .bool dn, .bool ok, .float .f64 ap, .int .i64 av, .int .i64 an] 48)
        have hV2 := BoxAt.new w2 [.int .i64 t, .int .i64 k, .float .f64 pri, .int .i64 v, .int .i64 d0, .int .i64 d1, .bool dn, .bool ok, .float .f64 ap, .int .i64 av, .int .i64 an] 48
        have hT2' := (hT2.box hae (by simp)).swap
        rw [hvb] at hV2 hT2'
        have hBw := hb2.below HX.out.2.2.size (fun k e => by have := e.1; omega)
        have hW2 : Below w.heap.size w w2 := HX.out.2.2.trans hBw
        have hPB := TwoE.pickA hT2' A.pick (by have := HJ.out.2.2.2.1; omega) (by have := HJ.out.2.2.1; omega)
        rw [HR.out.1, HR.out.2.1] at hPB
        have HV := hidq (show BoxAt (w2.alloc (.cells #[.int .i64 t, .int .i64 k, .float .f64 pri, .int .i64 v, .int .i64 d0, .int .i64 d1, .bool dn, .bool ok, .float .f64 ap, .int .i64 av, .int .i64 an] 48)) vb [.int .i64 t, .int .i64 k, .float .f64 pri, .int .i64 v, .int .i64 d0, .int .i64 d1, .bool dn, .bool ok, .float .f64 ap, .int .i64 av, .int .i64 an] ∧ Below w.heap.size w (w2.alloc (.cells #[.int .i64 t, .int .i64 k, .float .f64 pri, .int .i64 v, .int .i64 d0, .int .i64 d1, .bool dn, .bool ok, .float .f64 ap, .int .i64 av, .int .i64 an] 48)) from ⟨hV2, hW2.trans (hae.mono hW2.size)⟩)
        have hXb := (HX.out.2.1.but hb2 (fun e => e.2 (.inr rfl))).below hae
        have xp := (hXb.get 2 _ rfl).1
        have hxl := hXb.lt
        have xq := ((HX.out.2.1.but hb2 (fun e => e.2 (.inr rfl))).get 2 _ rfl).1
        have hxl2 := (HX.out.2.1.but hb2 (fun e => e.2 (.inr rfl))).lt
        clear hT2 hb2 hae hV2 hT2' hBw hW2 HX hXb
        go_wp2_with fail
        try rw [hvb]
        refine hPB.mono ?_
        rintro e w3 ⟨rfl, hT3, hb3⟩
        clear hPB xp hxl xq hxl2
        have hV3 := HV.out.1.but hb3 (fun e => e.2 (.inr rfl))
        have hvl := hV3.lt
        have v0 := (hV3.get 0 _ rfl).1
        have v6 := (hV3.get 6 _ rfl).1
        have v7 := (hV3.get 7 _ rfl).1
        have v8 := (hV3.get 8 _ rfl).1
        have v9 := (hV3.get 9 _ rfl).1
        have v10 := (hV3.get 10 _ rfl).1
        have hW3 : Below w.heap.size w w3 := HV.out.2.trans (hb3.below HV.out.2.size (fun k e => by have := e.1; omega))
        have HN := hidq (show TwoE kd pr lo (fun _ => False) ea eb R.M R.M R.F R.F R.steps R.steps w3 ∧ Below w.heap.size w w3 from ⟨hT3.swap.less (fun _ e => e.elim), hW3⟩)
        have hC := hidq (fun W => icmp_any ap ap av av W HR.out.2.2.2 HR.out.2.2.2)
        rw [show cmpN ap av ap av = 0 by rw [cmpN_same (by rw [cmpI_zero]), cmpI_zero]] at hC
        clear hV3 hT3 hb3 hW3 HV
        go_wp2_with fail
        refine (hC.out _).mono ?_
        rintro e w4 ⟨rfl, hw4⟩
        have HW4 := hidq (show Below w3.heap.size w3 w4 from by
          rw [hw4]
          exact (((Below.refl _ _).alloc (Nat.le_refl _) _).alloc (by simp) _).alloc (by simp; omega) _)
        clear hw4 hC v0 v6 v7 v8 v9 v10 hvl
        go_wp2
        go_roundw
        case rel =>
          obtain ⟨⟨q1, q2⟩, q3, q4, q5, _⟩ := HJ.out
          obtain ⟨r1, r2⟩ := HR.out.2.2.1
          exact ⟨j + 1, R.M, R.F, R.steps, by go_num, by omega, HN.out.1.below HW4.out, by omega, by omega, HN.out.2.trans (HW4.out.mono HN.out.2.size)⟩
        case measure => have := HJ.out.1; simp [intOf]; omega
    · obtain ⟨Sa, Sb, hA, hBe, _⟩ := hT.ex
      have hL := HB2.out.2
      have hlen := hA.itlen hL
      have hVA := hA.value hL
      have hSa := fun W (hW : Below wr.heap.size wr W) => (hA.below hW).steps_
      have hSb := fun W (hW : Below wr.heap.size wr W) => (hBe.below hW).steps_
      have hMa := fun W (hW : Below wr.heap.size wr W) => (hA.below hW).memory_
      have hMb := fun W (hW : Below wr.heap.size wr W) => (hBe.below hW).memory_
      have hVB := fun W (hW : Below wr.heap.size wr W) => (hBe.below hW).value hL
      unfold ValEnd at hVA hVB
      obtain ⟨K, hK⟩ : ∃ K, vIt kd pr M = K := ⟨_, rfl⟩
      obtain ⟨N, hN⟩ : ∃ N, vN kd pr M = N := ⟨_, rfl⟩
      obtain ⟨nk, hnk⟩ : ∃ nk, K.length = nk := ⟨_, rfl⟩
      rw [hK] at hVA hVB hlen
      rw [hN, hnk] at hVA hVB
      rw [hnk] at hlen
      have HA := hidq (And.intro hSa (And.intro hSb (And.intro hMa (And.intro hMb (And.intro hVB (And.intro hlen hnk))))))
      have HB := hidq hB
      clear hSa hSb hMa hMb hVB hlen hnk hK hN hA hBe hT hL hB
      rcases Classical.em (j < n) with hjn | hjn
      · have hj1 : (j : Int) < (n : Int) := by omega
        have hj2 : ¬ (j : Int) < 120 := by omega
        clear hlt hjn
        go_wp2_with fail
        refine hVA.mono ?_
        rintro e w5 ⟨a1, cap1, rfl, hS1, _, hb5⟩
        have H5 := hidq (And.intro hb5 hS1)
        clear hb5 hS1 hVA
        go_wp2_with fail
        refine (HA.out.2.2.2.2.1 _ H5.out.1).mono ?_
        rintro e w6 ⟨a2, cap2, rfl, hS2, _, hb6⟩
        have H6 := hidq (show Below wr.heap.size wr w6 ∧ SlAt 2 w6 a1 cap1 nk (flatI (kts K)) ∧ SlAt 2 w6 a2 cap2 nk (flatI (kts K)) from ⟨H5.out.1.trans (hb6.mono H5.out.1.size), H5.out.2.below hb6, hS2⟩)
        clear hb6 hS2 H5
        go_wp2_with fail
        refine (wsame_any kd kd N N a1 a2 cap1 cap2 nk nk K K _ HA.out.2.2.2.2.2.2 HA.out.2.2.2.2.2.2 H6.out.2.1 H6.out.2.2 HA.out.2.2.2.2.2.1).mono ?_
        rw [sameW_self]
        rintro e w7 ⟨rfl, hb7⟩
        have H7 := hidq (H6.out.1.trans (hb7.mono H6.out.1.size))
        clear hb7 H6
        go_wp2_with fail
        refine (HA.out.1 _ H7.out).mono ?_
        rintro e w8 ⟨rfl, hw⟩
        replace hw := hw.symm
        subst hw
        go_wp2_with fail
        refine (HA.out.2.1 _ H7.out).mono ?_
        rintro e w8 ⟨rfl, hw⟩
        replace hw := hw.symm
        subst hw
        obtain ⟨ma, hm1, hm2⟩ := HA.out.2.2.1 _ H7.out
        obtain ⟨mc, hm3, hm4⟩ := HA.out.2.2.2.1 _ H7.out
        have HM := hidq (And.intro hm2 (And.intro hm3 hm4))
        clear hm2 hm3 hm4
        go_wp2_with fail
        refine hm1.mono ?_
        rintro e w8 ⟨rfl, hw⟩
        replace hw := hw.symm
        subst hw
        clear hm1
        go_wp2_with fail
        refine (HM.out.1 _ (Below.refl _ _)).mono ?_
        rintro e w8 ⟨rfl, hw⟩
        replace hw := hw.symm
        subst hw
        go_wp2_with fail
        refine HM.out.2.1.mono ?_
        rintro e w8 ⟨rfl, hw⟩
        replace hw := hw.symm
        subst hw
        go_wp2_with fail
        refine (HM.out.2.2 _ (Below.refl _ _)).mono ?_
        rintro e w8 ⟨rfl, hw⟩
        replace hw := hw.symm
        subst hw
        go_wp2
        go_ret
        exact ⟨rfl, HB.out.trans (H7.out.mono HB.out.size)⟩
      · have hj1 : ¬ (j : Int) < (n : Int) := by omega
        clear hlt hjn
        go_wp2_with fail
        refine hVA.mono ?_
        rintro e w5 ⟨a1, cap1, rfl, hS1, _, hb5⟩
        have H5 := hidq (And.intro hb5 hS1)
        clear hb5 hS1 hVA
        go_wp2_with fail
        refine (HA.out.2.2.2.2.1 _ H5.out.1).mono ?_
        rintro e w6 ⟨a2, cap2, rfl, hS2, _, hb6⟩
        have H6 := hidq (show Below wr.heap.size wr w6 ∧ SlAt 2 w6 a1 cap1 nk (flatI (kts K)) ∧ SlAt 2 w6 a2 cap2 nk (flatI (kts K)) from ⟨H5.out.1.trans (hb6.mono H5.out.1.size), H5.out.2.below hb6, hS2⟩)
        clear hb6 hS2 H5
        go_wp2_with fail
        refine (wsame_any kd kd N N a1 a2 cap1 cap2 nk nk K K _ HA.out.2.2.2.2.2.2 HA.out.2.2.2.2.2.2 H6.out.2.1 H6.out.2.2 HA.out.2.2.2.2.2.1).mono ?_
        rw [sameW_self]
        rintro e w7 ⟨rfl, hb7⟩
        have H7 := hidq (H6.out.1.trans (hb7.mono H6.out.1.size))
        clear hb7 H6
        go_wp2_with fail
        refine (HA.out.1 _ H7.out).mono ?_
        rintro e w8 ⟨rfl, hw⟩
        replace hw := hw.symm
        subst hw
        go_wp2_with fail
        refine (HA.out.2.1 _ H7.out).mono ?_
        rintro e w8 ⟨rfl, hw⟩
        replace hw := hw.symm
        subst hw
        obtain ⟨ma, hm1, hm2⟩ := HA.out.2.2.1 _ H7.out
        obtain ⟨mc, hm3, hm4⟩ := HA.out.2.2.2.1 _ H7.out
        have HM := hidq (And.intro hm2 (And.intro hm3 hm4))
        clear hm2 hm3 hm4
        go_wp2_with fail
        refine hm1.mono ?_
        rintro e w8 ⟨rfl, hw⟩
        replace hw := hw.symm
        subst hw
        clear hm1
        go_wp2_with fail
        refine (HM.out.1 _ (Below.refl _ _)).mono ?_
        rintro e w8 ⟨rfl, hw⟩
        replace hw := hw.symm
        subst hw
        go_wp2_with fail
        refine HM.out.2.1.mono ?_
        rintro e w8 ⟨rfl, hw⟩
        replace hw := hw.symm
        subst hw
        go_wp2_with fail
        refine (HM.out.2.2 _ (Below.refl _ _)).mono ?_
        rintro e w8 ⟨rfl, hw⟩
        replace hw := hw.symm
        subst hw
        go_wp2
        go_ret
        exact ⟨rfl, HB.out.trans (H7.out.mono HB.out.size)⟩
end Go.Proofs.YtbcmilfajeanbaaGreat
