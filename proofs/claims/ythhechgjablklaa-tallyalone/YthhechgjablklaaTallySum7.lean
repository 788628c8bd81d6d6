/-
  Layer 7: a Tally's Sum: contract.
-/
import Derived.Test.YthhechgjablklaaTally7
import Derived.Test.YthhechgjablklaaTail
namespace Go.Proofs.Ythhechgjablklaa
open Go.RowKit Go.Sort

def sum7R (b fb : Nat) (M : Mem) (F : Fr) : List (Value → World → Prop) :=
  [fun v _ => v = .pointer (some ⟨fb, 0, none⟩),
   fun v _ => v = .pointer (some ⟨fb, 0, none⟩),
   fun v _ => v = .pointer (some ⟨fb, 9, none⟩),
   fun v _ => v = .int .i64 F.total,
   fun v _ => v = .pointer (some ⟨b, 0, none⟩),
   fun v _ => v = .pointer (some ⟨fb, 0, none⟩),
   fun v _ => v = .pointer (some ⟨fb, 0, none⟩),
   fun v _ => v = .pointer (some ⟨fb, 6, none⟩),
   fun v _ => v = .int .i64 F.at_,
   fun v _ => ∃ a c, v = .agg #[.int .u64 (M.look F.at_).ver, .int .i64 (M.look F.at_).n, .slice a (M.look F.at_).L.length c],
   fun v _ => ∃ a c, v = .agg #[.int .i64 (M.look F.at_).n, .slice a (M.look F.at_).L.length c],
   fun v _ => v = .int .i64 (M.look F.at_).n,
   fun v _ => v = .int .i64 (wrap64 (F.total + (M.look F.at_).n))]
theorem sum7R_kept (b fb : Nat) (M : Mem) (F : Fr) : Reg.AllKept Reg.Keeps (sum7R b fb M F) :=
  ⟨(fun _ _ _ _ h => h), (fun _ _ _ _ h => h), (fun _ _ _ _ h => h), (fun _ _ _ _ h => h), (fun _ _ _ _ h => h), (fun _ _ _ _ h => h), (fun _ _ _ _ h => h), (fun _ _ _ _ h => h), (fun _ _ _ _ h => h), (fun _ _ _ _ h => h), (fun _ _ _ _ h => h), (fun _ _ _ _ h => h), (fun _ _ _ _ h => h), trivial⟩

/-- What a step of Sum does. -/
def sumR (sh : Int) (M : Mem) (F : Fr) : Mem × Fr × Ans × Bool :=
  if F.at_ + 1 < sh then (M, { F with total := wrap64 (F.total + (M.look F.at_).n), at_ := F.at_ + 1 }, Ans.zero, false)
  else (M, { F with total := wrap64 (F.total + (M.look F.at_).n), at_ := F.at_ + 1 }, ⟨true, 0, 0, wrap64 (F.total + (M.look F.at_).n)⟩, true)
theorem sumR_lt {sh : Int} {M : Mem} {F : Fr} (h : F.at_ + 1 < sh) : sumR sh M F = (M, { F with total := wrap64 (F.total + (M.look F.at_).n), at_ := F.at_ + 1 }, Ans.zero, false) := if_pos h
theorem sumR_ge {sh : Int} {M : Mem} {F : Fr} (h : ¬ F.at_ + 1 < sh) : sumR sh M F = (M, { F with total := wrap64 (F.total + (M.look F.at_).n), at_ := F.at_ + 1 }, ⟨true, 0, 0, wrap64 (F.total + (M.look F.at_).n)⟩, true) := if_neg h
set_option maxRecDepth 20000 in
set_option maxHeartbeats 4000000 in
theorem tsum_any (sh : Int) (w : World) (b fb : Nat) (O P : Nat → Prop) (M : Mem) (F : Fr) (h : MemAt w b O M) (hf : FrAt w fb P F) (hd : ∀ k, O k → ¬ P k) (hs : 1 ≤ sh ∧ sh ≤ 16) (hat : 0 ≤ F.at_ ∧ F.at_ < sh) :
    Calls Try.prog 141 #[.agg #[.int .i64 sh], .pointer (some ⟨b, 0, none⟩), .pointer (some ⟨fb, 0, none⟩)] w
      (StepEnd b fb O P (sumR sh M F) w) := by
  obtain ⟨a0, k0, a1, k1, hB, hS0, hS1, hi0, hi1⟩ := hf.box
  have hfl := hB.lt
  have hsf := run_store_flt (P := Try.prog)
  have hf0 := fldC_1
  have hf1 := fldV_0
  obtain ⟨c6, _⟩ := hB.get 6 _ rfl
  obtain ⟨c9, _⟩ := hB.get 9 _ rfl
  have hO : ¬ O fb := fun e => hd _ e hf.ob
  have HH := hidq (And.intro h (And.intro hf hd))
  have HB := hidq (And.intro hB (And.intro hS0 (And.intro hS1 (And.intro hi0 hi1))))
  go_enter Try.func141, Try.ntmps141
  go_wp2_with fail
  obtain ⟨W1, hW1, hb0, hsz0, hR0, hA0⟩ := two_new w [.int .i64 sh] Ans.zero.l 103 98 0
  rw [show ((w.alloc (.cells #[.int .i64 sh] 103)).alloc (.cells #[.bool false, .float .f64 0, .int .i64 0, .int .i64 0] 98)) = W1 from hW1]
  clear hW1
  have hR := hidq (fun W (hW : Below W1.heap.size W1 W) => read5_any b O M F.at_ W (h.below (hb0.trans (hW.mono hb0.size))))
  have FC := hidq (fun W (hW : Below W1.heap.size W1 W) => And.intro (((hb0.trans (hW.mono hb0.size)).cell (p := ⟨fb, 9, none⟩) hfl).trans c9) (((hb0.trans (hW.mono hb0.size)).cell (p := ⟨fb, 6, none⟩) hfl).trans c6))
  clear h hf hd hB hS0 hS1 hi0 hi1
  have hrefl : ∀ w : World, Reg.Keeps w w := Reg.Keeps.refl
  refine Reg.wp_region_props_tail 13 (Reg.ofList (sum7R b fb M F)) Reg.Keeps (fun _ w => Reg.Keeps W1 w) (by kernel_rfl) (by kernel_rfl) (by kernel_rfl) (Reg.AllKept.at _ (sum7R_kept b fb M F)) hrefl (Reg.Keeps.drewN (Reg.Keeps.refl _) 1) ⟨?_, ?_, ?_, ?_, ?_, ?_, ?_, ?_, ?_, ?_, ?_, ?_, ?_, trivial⟩ ?_
  · refine Reg.StepAt.plain (i := 0) rfl ?_
    intro L ev w hI hk hp hA
    have e2 : ev (.tmp 2) = .pointer (some ⟨fb, 0, none⟩) := hA.oldNone 2 (by kernel_rfl)
    have hcc := hA.const
    clear hA hp
    refine Reg.out_value (v := .pointer (some ⟨fb, 0, none⟩)) ?_ ⟨rfl, hrefl _, hI⟩
    go_simp
  · refine Reg.StepAt.plain (i := 1) rfl ?_
    intro L ev w hI hk hp hA
    have e8 : ev (.tmp 8) = .pointer (some ⟨fb, 0, none⟩) := hA.val 0 _ 8 rfl (hp ⟨0, .data⟩ (by simp) rfl) rfl
    have hcc := hA.const
    clear hA hp
    refine Reg.out_value (v := .pointer (some ⟨fb, 0, none⟩)) ?_ ⟨rfl, hrefl _, hI⟩
    go_simp
  · refine Reg.StepAt.plain (i := 2) rfl ?_
    intro L ev w hI hk hp hA
    have e9 : ev (.tmp 9) = .pointer (some ⟨fb, 0, none⟩) := hA.val 1 _ 9 rfl (hp ⟨1, .data⟩ (by simp) rfl) rfl
    have hcc := hA.const
    clear hA hp
    refine Reg.out_value (v := .pointer (some ⟨fb, 9, none⟩)) ?_ ⟨rfl, hrefl _, hI⟩
    go_simp
  · refine Reg.StepAt.plain (i := 3) rfl ?_
    intro L ev w hI hk hp hA
    have e10 : ev (.tmp 10) = .pointer (some ⟨fb, 9, none⟩) := hA.val 2 _ 10 rfl (hp ⟨2, .data⟩ (by simp) rfl) rfl
    have hcc := hA.const
    clear hA hp
    obtain ⟨f9, f6⟩ := FC.out w hI
    refine Reg.out_value (v := .int .i64 F.total) ?_ ⟨rfl, hrefl _, hI⟩
    go_simp
  · refine Reg.StepAt.plain (i := 4) rfl ?_
    intro L ev w hI hk hp hA
    have e1 : ev (.tmp 1) = .pointer (some ⟨b, 0, none⟩) := hA.oldNone 1 (by kernel_rfl)
    have hcc := hA.const
    clear hA hp
    refine Reg.out_value (v := .pointer (some ⟨b, 0, none⟩)) ?_ ⟨rfl, hrefl _, hI⟩
    go_simp
  · refine Reg.StepAt.plain (i := 5) rfl ?_
    intro L ev w hI hk hp hA
    have e2 : ev (.tmp 2) = .pointer (some ⟨fb, 0, none⟩) := hA.oldNone 2 (by kernel_rfl)
    have hcc := hA.const
    clear hA hp
    refine Reg.out_value (v := .pointer (some ⟨fb, 0, none⟩)) ?_ ⟨rfl, hrefl _, hI⟩
    go_simp
  · refine Reg.StepAt.plain (i := 6) rfl ?_
    intro L ev w hI hk hp hA
    have e13 : ev (.tmp 13) = .pointer (some ⟨fb, 0, none⟩) := hA.val 5 _ 13 rfl (hp ⟨5, .data⟩ (by simp) rfl) rfl
    have hcc := hA.const
    clear hA hp
    refine Reg.out_value (v := .pointer (some ⟨fb, 0, none⟩)) ?_ ⟨rfl, hrefl _, hI⟩
    go_simp
  · refine Reg.StepAt.plain (i := 7) rfl ?_
    intro L ev w hI hk hp hA
    have e14 : ev (.tmp 14) = .pointer (some ⟨fb, 0, none⟩) := hA.val 6 _ 14 rfl (hp ⟨6, .data⟩ (by simp) rfl) rfl
    have hcc := hA.const
    clear hA hp
    refine Reg.out_value (v := .pointer (some ⟨fb, 6, none⟩)) ?_ ⟨rfl, hrefl _, hI⟩
    go_simp
  · refine Reg.StepAt.plain (i := 8) rfl ?_
    intro L ev w hI hk hp hA
    have e15 : ev (.tmp 15) = .pointer (some ⟨fb, 6, none⟩) := hA.val 7 _ 15 rfl (hp ⟨7, .data⟩ (by simp) rfl) rfl
    have hcc := hA.const
    clear hA hp
    obtain ⟨f9, f6⟩ := FC.out w hI
    refine Reg.out_value (v := .int .i64 F.at_) ?_ ⟨rfl, hrefl _, hI⟩
    go_simp
  · refine Reg.StepAt.plain (i := 9) rfl ?_
    intro L ev w hI hk hp hA
    have e12 : ev (.tmp 12) = .pointer (some ⟨b, 0, none⟩) := hA.val 4 _ 12 rfl (hp ⟨4, .data⟩ (by simp) rfl) rfl
    have e16 : ev (.tmp 16) = .int .i64 F.at_ := hA.val 8 _ 16 rfl (hp ⟨8, .data⟩ (by simp) rfl) rfl
    have hcc := hA.const
    have hcf := hA.func
    clear hA hp
    refine Reg.out_call (f := 34) (args := #[.pointer (some ⟨b, 0, none⟩), .int .i64 F.at_]) (w0 := w) ?_ ?_
    · go_simp
    refine (hR.out w hI).mono ?_
    rintro e w' ⟨a', c', rfl, _, _, hb'⟩
    exact ⟨_, rfl, ⟨a', c', rfl⟩, hb', Reg.Keeps.trans hI hb'⟩
  · refine Reg.StepAt.plain (i := 10) rfl ?_
    intro L ev w hI hk hp hA
    have e17 : (fun v _ => ∃ a c, v = .agg #[.int .u64 (M.look F.at_).ver, .int .i64 (M.look F.at_).n, .slice a (M.look F.at_).L.length c]) (ev (.tmp 17)) w := hA.val 9 _ 17 rfl (hp ⟨9, .data⟩ (by simp) rfl) rfl
    have hcc := hA.const
    clear hA hp
    obtain ⟨a, c, e17⟩ := e17
    refine Reg.out_value (v := .agg #[.int .i64 (M.look F.at_).n, .slice a (M.look F.at_).L.length c]) ?_ ⟨⟨a, c, rfl⟩, hrefl _, hI⟩
    go_simp
  · refine Reg.StepAt.plain (i := 11) rfl ?_
    intro L ev w hI hk hp hA
    have e18 : (fun v _ => ∃ a c, v = .agg #[.int .i64 (M.look F.at_).n, .slice a (M.look F.at_).L.length c]) (ev (.tmp 18)) w := hA.val 10 _ 18 rfl (hp ⟨10, .data⟩ (by simp) rfl) rfl
    have hcc := hA.const
    clear hA hp
    obtain ⟨a, c, e18⟩ := e18
    refine Reg.out_value (v := .int .i64 (M.look F.at_).n) ?_ ⟨rfl, hrefl _, hI⟩
    go_simp
  · refine Reg.StepAt.plain (i := 12) rfl ?_
    intro L ev w hI hk hp hA
    have e11 : ev (.tmp 11) = .int .i64 F.total := hA.val 3 _ 11 rfl (hp ⟨3, .data⟩ (by simp) rfl) rfl
    have e19 : ev (.tmp 19) = .int .i64 (M.look F.at_).n := hA.val 11 _ 19 rfl (hp ⟨11, .data⟩ (by simp) rfl) rfl
    have hcc := hA.const
    clear hA hp
    refine Reg.out_value (v := .int .i64 (wrap64 (F.total + (M.look F.at_).n))) ?_ ⟨rfl, hrefl _, hI⟩
    (go_simp; unfold wrap64; exact IntKind.wrap_i64 _)
  intro act wz hI hF
  have g8 : act.eval (.tmp 8) = .pointer (some ⟨fb, 0, none⟩) := hF.val 0 _ 8 rfl (by kernel_rfl) rfl
  have g9 : act.eval (.tmp 9) = .pointer (some ⟨fb, 0, none⟩) := hF.val 1 _ 9 rfl (by kernel_rfl) rfl
  have g10 : act.eval (.tmp 10) = .pointer (some ⟨fb, 9, none⟩) := hF.val 2 _ 10 rfl (by kernel_rfl) rfl
  have g11 : act.eval (.tmp 11) = .int .i64 F.total := hF.val 3 _ 11 rfl (by kernel_rfl) rfl
  have g12 : act.eval (.tmp 12) = .pointer (some ⟨b, 0, none⟩) := hF.val 4 _ 12 rfl (by kernel_rfl) rfl
  have g13 : act.eval (.tmp 13) = .pointer (some ⟨fb, 0, none⟩) := hF.val 5 _ 13 rfl (by kernel_rfl) rfl
  have g14 : act.eval (.tmp 14) = .pointer (some ⟨fb, 0, none⟩) := hF.val 6 _ 14 rfl (by kernel_rfl) rfl
  have g15 : act.eval (.tmp 15) = .pointer (some ⟨fb, 6, none⟩) := hF.val 7 _ 15 rfl (by kernel_rfl) rfl
  have g16 : act.eval (.tmp 16) = .int .i64 F.at_ := hF.val 8 _ 16 rfl (by kernel_rfl) rfl
  have g17 : (fun v _ => ∃ a c, v = .agg #[.int .u64 (M.look F.at_).ver, .int .i64 (M.look F.at_).n, .slice a (M.look F.at_).L.length c]) (act.eval (.tmp 17)) wz := hF.val 9 _ 17 rfl (by kernel_rfl) rfl
  have g18 : (fun v _ => ∃ a c, v = .agg #[.int .i64 (M.look F.at_).n, .slice a (M.look F.at_).L.length c]) (act.eval (.tmp 18)) wz := hF.val 10 _ 18 rfl (by kernel_rfl) rfl
  have g19 : act.eval (.tmp 19) = .int .i64 (M.look F.at_).n := hF.val 11 _ 19 rfl (by kernel_rfl) rfl
  have g20 : act.eval (.tmp 20) = .int .i64 (wrap64 (F.total + (M.look F.at_).n)) := hF.val 12 _ 20 rfl (by kernel_rfl) rfl
  have hact := hF.actHead [8, 9, 10, 11, 12, 13, 14, 15, 16, 17, 18, 19, 20] (by kernel_rfl)
  clear hF
  simp only [List.foldl_cons, List.foldl_nil] at hact
  rw [g8, g9, g10, g11, g12, g13, g14, g15, g16, g19, g20] at hact
  clear g8 g9 g10 g11 g12 g13 g14 g15 g16 g19 g20
  generalize act.eval (.tmp 17) = u17 at hact g17
  generalize act.eval (.tmp 18) = u18 at hact g18
  simp only [List.setIfInBounds_toArray, List.set_cons_succ, List.set_cons_zero] at hact
  subst hact
  simp only [List.drop_succ_cons, List.drop_zero]
  have hb2 : Below w.heap.size w wz := hb0.trans (Below.mono hI hb0.size)
  have hA2 := hA0.below (show Below W1.heap.size W1 wz from hI)
  have hR2 := hR0.below (show Below W1.heap.size W1 wz from hI)
  have hsz : w.heap.size + 2 ≤ wz.heap.size := by have : W1.heap.size ≤ wz.heap.size := hI.size; omega
  obtain ⟨HM, HF, HD⟩ := HH.out
  obtain ⟨hB, hS0, hS1, hi0, hi1⟩ := HB.out
  have hB2 := hB.below hb2
  have FIN := hidq (fun (n : Nat) (A : Ans) (dn : Bool) => stepEnd_ofN n (F' := { F with total := wrap64 (F.total + (M.look F.at_).n), at_ := F.at_ + 1 }) (A := A) (d := dn) [(9, .int .i64 (wrap64 (F.total + (M.look F.at_).n))), (6, .int .i64 (F.at_ + 1))]
    (HM.below hb2) (Grown.refl O w wz) (But.of_below hb2) HF.ob hB2 rfl hA2 (by omega) (fun e => by have := HM.lt _ e; omega) hO (by omega)
    (hS0.below hb2) (fun j hj => by have := HF.lt _ (hi0 j hj).1; exact ⟨(hi0 j hj).2, by omega, fun e => HD _ e (hi0 j hj).1, .inl (hi0 j hj).1⟩)
    (hS1.below hb2) (fun j hj => by have := HF.lt _ (hi1 j hj).1; exact ⟨(hi1 j hj).2, by omega, fun e => HD _ e (hi1 j hj).1, .inl (hi1 j hj).1⟩))
  obtain ⟨d6, y6⟩ := hB2.get 6 _ rfl
  obtain ⟨d9, y9⟩ := hB2.get 9 _ rfl
  obtain ⟨g0, x0⟩ := hA2.get 0 _ rfl
  obtain ⟨g1, x1⟩ := hA2.get 1 _ rfl
  obtain ⟨g2, x2⟩ := hA2.get 2 _ rfl
  obtain ⟨g3, x3⟩ := hA2.get 3 _ rfl
  have r0 := (hR2.get 0 _ rfl).1
  have hfa : ¬ fb = w.heap.size + 1 := by omega
  have hfb : ¬ fb = w.heap.size := by omega
  clear hb2 hA2 hR2 hB2 HM HF HD hB hS0 hS1 hi0 hi1 hb0 hA0 HH HB hR FC hI c6 c9
  have hat2 : F.at_ < 9223372036854775807 := by omega
  by_cases hlt : F.at_ + 1 < sh
  · have HS := hidq (sumR_lt (M := M) hlt)
    generalize wrap64 (F.total + (M.look F.at_).n) = tot at *
    go_wp2
    go_quiet (fail)
    go_wp2
    exact ret_ans Try.results141 (FIN.out nq Ans.zero false).1 rfl rfl rfl (by rw [HS.out]; exact (FIN.out nq Ans.zero false).2)
  · have HS := hidq (sumR_ge (M := M) hlt)
    generalize wrap64 (F.total + (M.look F.at_).n) = tot at *
    have hdl : decide (F.at_ + 1 < sh) = false := decide_eq_false hlt
    go_wp2
    go_quiet (fail)
    go_wp2
    exact ret_ans Try.results141 (FIN.out nq ⟨true, 0, 0, tot⟩ true).1 rfl rfl rfl (by rw [HS.out]; exact (FIN.out nq ⟨true, 0, 0, tot⟩ true).2)
end Go.Proofs.Ythhechgjablklaa
