/-
  Layer 11: a token's step: contract.
  Layer 11: a new Net: contract.
-/
import Derived.Test.YtbcmilfajeanbaaGreatNetDAll
import Derived.Test.YtbcmilfajeanbaaGreatTail
import Derived.Test.YtbcmilfajeanbaaGreatWirePl0All
namespace Go.Proofs.YtbcmilfajeanbaaGreat
open Go.RowKit Go.Sort

def nstep4R (n nb fb vw : Nat) (F : Fr) : List (Value → World → Prop) :=
  [fun v _ => v = .pointer (some ⟨fb, 0, none⟩),
   fun v _ => v = .pointer (some ⟨fb, 0, none⟩),
   fun v _ => v = .pointer (some ⟨fb, 0, none⟩),
   fun v _ => v = .pointer (some ⟨fb, 0, none⟩),
   fun v _ => v = .pointer (some ⟨fb, 3, none⟩),
   fun v _ => v = .pointer (some ⟨fb, 3, none⟩),
   fun v _ => v = .int .i64 F.d0,
   fun v _ => v = .pointer (some ⟨nb, 0, none⟩),
   fun v _ => v = .pointer (some ⟨nb, 0, none⟩),
   fun v _ => v = .int .i64 (n : Int),
   fun v _ => v = .int .i64 (vw : Int),
   fun v _ => v = .pointer (some ⟨fb, 0, none⟩),
   fun v _ => v = .pointer (some ⟨fb, 6, none⟩)]
theorem nstep4R_kept (n nb fb vw : Nat) (F : Fr) : Reg.AllKept Reg.Keeps (nstep4R n nb fb vw F) :=
  ⟨(fun _ _ _ _ h => h), (fun _ _ _ _ h => h), (fun _ _ _ _ h => h), (fun _ _ _ _ h => h), (fun _ _ _ _ h => h), (fun _ _ _ _ h => h), (fun _ _ _ _ h => h), (fun _ _ _ _ h => h), (fun _ _ _ _ h => h), (fun _ _ _ _ h => h), (fun _ _ _ _ h => h), (fun _ _ _ _ h => h), (fun _ _ _ _ h => h), trivial⟩

set_option maxRecDepth 20000 in
set_option maxHeartbeats 8000000 in
theorem nstep_is (n c gc oc : Nat) (ga oa : Option Addr) (D : Nat → Prop) (G : List (Nat × Nat)) (Os : List Nat) (hc : c ≤ 100) (hn1 : 1 ≤ n) (hn16 : n ≤ 16) (hOs : ∀ v, v < n → v ∈ Os) : IsStepN 154 n c gc oc ga oa D G Os (nGood n c) (nStep n c G Os) := by
  intro w b fb O P M F hpl hdd h hf hd hg hck
  have hvn := nWire_lt hn1 hg
  obtain ⟨hk, hp0, hp1, ha0, ha1, hok⟩ := hg
  obtain ⟨p, hp⟩ : ∃ p : Nat, F.pc = (p : Int) := ⟨F.pc.toNat, by omega⟩
  have hpc : p ≤ c := by omega
  obtain ⟨v, hv⟩ : ∃ v, nWire n F = v := ⟨_, rfl⟩
  obtain ⟨pl, hpv⟩ : ∃ pl, Os.idxOf v = pl := ⟨_, rfl⟩
  have hst1 : nAhead G p v = none → nStep n c G Os M F = (bump M (c + pl), { F with at_ := (v : Int) }, ⟨true, 0, 0, (pl : Int) + (n : Int) * (M.cell (c + pl)).n⟩, true) := fun ho => by
    rw [nStep_none (by rw [hp, hv]; exact ho), hv, hpv]
  have hst2 : ∀ i g, nAhead G p v = some i → G[i]? = some g → nStep n c G Os M F = (bump M i, { F with pc := ((i + 1 : Nat) : Int), at_ := (((if (M.cell i).n % 2 = 0 then g.1 else g.2) : Nat) : Int) }, Ans.zero, false) := fun i g ho hgi =>
    nStep_some (by rw [hp, hv]; exact ho) hgi
  have HST := hidq (And.intro hst1 hst2)
  have HK := hidq (And.intro hok (And.intro hck (And.intro (hOs v (by rw [← hv]; exact hvn)) hpv)))
  have HDD := hidq hdd
  clear hst1 hst2 hok hck hvn hpv hOs
  obtain ⟨nb, hnb⟩ : ∃ nb, w.heap.size = nb := ⟨_, rfl⟩
  obtain ⟨W1, hW1, hb1, hs1, hN1, hA1⟩ := two_new w [.int .i64 (n : Int), .slice ga c gc, .slice oa n oc] Ans.zero.l 141 46 0
  have hW1' : (w.alloc (.cells #[.int .i64 (n : Int), .slice ga c gc, .slice oa n oc] 141)).alloc (.cells #[.bool false, .float .f64 0, .int .i64 0, .int .i64 0] 46) = W1 := hW1
  rw [hnb] at hN1 hA1 hs1
  clear hW1
  have hsf := run_store_flt (P := Tryz.prog)
  have hf1 := hf.below hb1
  have hM1 := h.below hb1
  have hpl1 := hpl.below hb1
  obtain ⟨a0, k0, a1, k1, hB, _⟩ := hf1.box
  have f0 := (hB.get 0 _ rfl).1
  have f3 := (hB.get 3 _ rfl).1
  have f5 := (hB.get 5 _ rfl).1
  obtain ⟨f6, y6⟩ := hB.get 6 _ rfl
  have hfl1 := hB.lt
  rw [hk] at f0
  rw [hp] at f5
  have HO := hidq (And.intro h.lt (And.intro hf.lt (And.intro hd (And.intro hf.ob (And.intro hnb hs1)))))
  by_cases hz : p = 0
  · have hv2 : into F.d0 (n : Int) = (v : Int) := by
      have := into_rng (d := F.d0) (n := (n : Int)) (by omega)
      rw [← hv]; unfold nWire; rw [if_pos (by rw [hp, hz]; rfl)]; omega
    have hI0 := hidq (fun W => (show Calls Tryz.prog 35 #[.int .i64 F.d0, .int .i64 (n : Int)] W fun e w' => e = .returned (.int .i64 (v : Int)) ∧ w' = W from by
      have := into_any F.d0 (n : Int) W (by omega)
      rw [hv2] at this
      exact this))
    have FC := hidq (fun W (hW : Below W1.heap.size W1 W) => And.intro ((hW.cell (p := ⟨fb, 3, none⟩) hfl1).trans f3) ((hN1.below hW).get 0 _ rfl).1)
    have HM := hidq (And.intro hM1 (And.intro hf1 (And.intro hpl1 (And.intro hN1 (And.intro hA1 (And.intro hb1 (And.intro (fun e => hd _ e hf.ob) (And.intro hdd hp))))))))
    have f5z : W1.cell? ⟨fb, 5, none⟩ = some (.int .i64 0) := by rw [hz] at f5; exact f5
    clear hpl hdd h hf hd hk hp0 hp1 ha0 ha1 hp hv hf1 hM1 hpl1 hB hN1 hA1 hb1 hs1 hv2 f3 f5 hz
    have hrefl : ∀ w : World, Reg.Keeps w w := Reg.Keeps.refl
    obtain ⟨vw, hvw⟩ : ∃ vw, vw = v := ⟨v, rfl⟩
    subst hvw
    go_enter Tryz.func154, Tryz.ntmps154
    go_wp2_with fail
    try rw [hW1']
    have hrefl : ∀ w : World, Reg.Keeps w w := Reg.Keeps.refl
    refine Reg.wp_region_props_tail 13 (Reg.ofList (nstep4R n nb fb vw F)) Reg.Keeps (fun _ w => Reg.Keeps W1 w) (by kernel_rfl) (by kernel_rfl) (by kernel_rfl) (Reg.AllKept.at _ (nstep4R_kept n nb fb vw F)) hrefl (Reg.Keeps.drewN (Reg.Keeps.refl _) 1) ⟨?_, ?_, ?_, ?_, ?_, ?_, ?_, ?_, ?_, ?_, ?_, ?_, ?_, trivial⟩ ?_
    · refine Reg.StepAt.plain (i := 0) rfl ?_
      intro L ev w hI hk hp hA
      have e2 : ev (.tmp 2) = .pointer (some ⟨fb, 0, none⟩) := hA.oldNone 2 (by kernel_rfl)
      have hcc := hA.const
      clear hA hp
      refine Reg.out_value (v := .pointer (some ⟨fb, 0, none⟩)) ?_ ⟨rfl, hrefl _, hI⟩
      go_simp
    · refine Reg.StepAt.plain (i := 1) rfl ?_
      intro L ev w hI hk hp hA
      have e2 : ev (.tmp 2) = .pointer (some ⟨fb, 0, none⟩) := hA.oldNone 2 (by kernel_rfl)
      have hcc := hA.const
      clear hA hp
      refine Reg.out_value (v := .pointer (some ⟨fb, 0, none⟩)) ?_ ⟨rfl, hrefl _, hI⟩
      go_simp
    · refine Reg.StepAt.plain (i := 2) rfl ?_
      intro L ev w hI hk hp hA
      have e23 : ev (.tmp 23) = .pointer (some ⟨fb, 0, none⟩) := hA.val 1 _ 23 rfl (hp ⟨1, .data⟩ (by simp) rfl) rfl
      have hcc := hA.const
      clear hA hp
      refine Reg.out_value (v := .pointer (some ⟨fb, 0, none⟩)) ?_ ⟨rfl, hrefl _, hI⟩
      go_simp
    · refine Reg.StepAt.plain (i := 3) rfl ?_
      intro L ev w hI hk hp hA
      have e24 : ev (.tmp 24) = .pointer (some ⟨fb, 0, none⟩) := hA.val 2 _ 24 rfl (hp ⟨2, .data⟩ (by simp) rfl) rfl
      have hcc := hA.const
      clear hA hp
      refine Reg.out_value (v := .pointer (some ⟨fb, 0, none⟩)) ?_ ⟨rfl, hrefl _, hI⟩
      go_simp
    · refine Reg.StepAt.plain (i := 4) rfl ?_
      intro L ev w hI hk hp hA
      have e25 : ev (.tmp 25) = .pointer (some ⟨fb, 0, none⟩) := hA.val 3 _ 25 rfl (hp ⟨3, .data⟩ (by simp) rfl) rfl
      have hcc := hA.const
      clear hA hp
      refine Reg.out_value (v := .pointer (some ⟨fb, 3, none⟩)) ?_ ⟨rfl, hrefl _, hI⟩
      go_simp
    · refine Reg.StepAt.plain (i := 5) rfl ?_
      intro L ev w hI hk hp hA
      have e26 : ev (.tmp 26) = .pointer (some ⟨fb, 3, none⟩) := hA.val 4 _ 26 rfl (hp ⟨4, .data⟩ (by simp) rfl) rfl
      have hcc := hA.const
      clear hA hp
      refine Reg.out_value (v := .pointer (some ⟨fb, 3, none⟩)) ?_ ⟨rfl, hrefl _, hI⟩
      go_simp
    · refine Reg.StepAt.plain (i := 6) rfl ?_
      intro L ev w hI hk hp hA
      have e27 : ev (.tmp 27) = .pointer (some ⟨fb, 3, none⟩) := hA.val 5 _ 27 rfl (hp ⟨5, .data⟩ (by simp) rfl) rfl
      have hcc := hA.const
      clear hA hp
      obtain ⟨f3, m0⟩ := FC.out w hI
      refine Reg.out_value (v := .int .i64 F.d0) ?_ ⟨rfl, hrefl _, hI⟩
      go_simp
    · refine Reg.StepAt.plain (i := 7) rfl ?_
      intro L ev w hI hk hp hA
      have e3 : ev (.tmp 3) = .pointer (some ⟨nb, 0, none⟩) := hA.oldNone 3 (by kernel_rfl)
      have hcc := hA.const
      clear hA hp
      refine Reg.out_value (v := .pointer (some ⟨nb, 0, none⟩)) ?_ ⟨rfl, hrefl _, hI⟩
      go_simp
    · refine Reg.StepAt.plain (i := 8) rfl ?_
      intro L ev w hI hk hp hA
      have e29 : ev (.tmp 29) = .pointer (some ⟨nb, 0, none⟩) := hA.val 7 _ 29 rfl (hp ⟨7, .data⟩ (by simp) rfl) rfl
      have hcc := hA.const
      clear hA hp
      refine Reg.out_value (v := .pointer (some ⟨nb, 0, none⟩)) ?_ ⟨rfl, hrefl _, hI⟩
      go_simp
    · refine Reg.StepAt.plain (i := 9) rfl ?_
      intro L ev w hI hk hp hA
      have e30 : ev (.tmp 30) = .pointer (some ⟨nb, 0, none⟩) := hA.val 8 _ 30 rfl (hp ⟨8, .data⟩ (by simp) rfl) rfl
      have hcc := hA.const
      clear hA hp
      obtain ⟨f3, m0⟩ := FC.out w hI
      refine Reg.out_value (v := .int .i64 (n : Int)) ?_ ⟨rfl, hrefl _, hI⟩
      go_simp
    · refine Reg.StepAt.plain (i := 10) rfl ?_
      intro L ev w hI hk hp hA
      have e28 : ev (.tmp 28) = .int .i64 F.d0 := hA.val 6 _ 28 rfl (hp ⟨6, .data⟩ (by simp) rfl) rfl
      have e31 : ev (.tmp 31) = .int .i64 (n : Int) := hA.val 9 _ 31 rfl (hp ⟨9, .data⟩ (by simp) rfl) rfl
      have hcc := hA.const
      have hcf := hA.func
      clear hA hp
      refine Reg.out_call (f := 35) (args := #[.int .i64 F.d0, .int .i64 (n : Int)]) (w0 := w) ?_ ?_
      · go_simp
      refine (hI0.out w).mono ?_
      rintro e w' ⟨rfl, hw⟩
      subst hw; exact ⟨_, rfl, rfl, hrefl _, hI⟩
    · refine Reg.StepAt.plain (i := 11) rfl ?_
      intro L ev w hI hk hp hA
      have e22 : ev (.tmp 22) = .pointer (some ⟨fb, 0, none⟩) := hA.val 0 _ 22 rfl (hp ⟨0, .data⟩ (by simp) rfl) rfl
      have hcc := hA.const
      clear hA hp
      refine Reg.out_value (v := .pointer (some ⟨fb, 0, none⟩)) ?_ ⟨rfl, hrefl _, hI⟩
      go_simp
    · refine Reg.StepAt.plain (i := 12) rfl ?_
      intro L ev w hI hk hp hA
      have e33 : ev (.tmp 33) = .pointer (some ⟨fb, 0, none⟩) := hA.val 11 _ 33 rfl (hp ⟨11, .data⟩ (by simp) rfl) rfl
      have hcc := hA.const
      clear hA hp
      refine Reg.out_value (v := .pointer (some ⟨fb, 6, none⟩)) ?_ ⟨rfl, hrefl _, hI⟩
      go_simp
    intro act wz hI hF
    have g22 : act.eval (.tmp 22) = .pointer (some ⟨fb, 0, none⟩) := hF.val 0 _ 22 rfl (by kernel_rfl) rfl
    have g23 : act.eval (.tmp 23) = .pointer (some ⟨fb, 0, none⟩) := hF.val 1 _ 23 rfl (by kernel_rfl) rfl
    have g24 : act.eval (.tmp 24) = .pointer (some ⟨fb, 0, none⟩) := hF.val 2 _ 24 rfl (by kernel_rfl) rfl
    have g25 : act.eval (.tmp 25) = .pointer (some ⟨fb, 0, none⟩) := hF.val 3 _ 25 rfl (by kernel_rfl) rfl
    have g26 : act.eval (.tmp 26) = .pointer (some ⟨fb, 3, none⟩) := hF.val 4 _ 26 rfl (by kernel_rfl) rfl
    have g27 : act.eval (.tmp 27) = .pointer (some ⟨fb, 3, none⟩) := hF.val 5 _ 27 rfl (by kernel_rfl) rfl
    have g28 : act.eval (.tmp 28) = .int .i64 F.d0 := hF.val 6 _ 28 rfl (by kernel_rfl) rfl
    have g29 : act.eval (.tmp 29) = .pointer (some ⟨nb, 0, none⟩) := hF.val 7 _ 29 rfl (by kernel_rfl) rfl
    have g30 : act.eval (.tmp 30) = .pointer (some ⟨nb, 0, none⟩) := hF.val 8 _ 30 rfl (by kernel_rfl) rfl
    have g31 : act.eval (.tmp 31) = .int .i64 (n : Int) := hF.val 9 _ 31 rfl (by kernel_rfl) rfl
    have g32 : act.eval (.tmp 32) = .int .i64 (vw : Int) := hF.val 10 _ 32 rfl (by kernel_rfl) rfl
    have g33 : act.eval (.tmp 33) = .pointer (some ⟨fb, 0, none⟩) := hF.val 11 _ 33 rfl (by kernel_rfl) rfl
    have g34 : act.eval (.tmp 34) = .pointer (some ⟨fb, 6, none⟩) := hF.val 12 _ 34 rfl (by kernel_rfl) rfl
    have hact := hF.actHead [22, 23, 24, 25, 26, 27, 28, 29, 30, 31, 32, 33, 34] (by kernel_rfl)
    clear hF
    simp only [List.foldl_cons, List.foldl_nil] at hact
    rw [g22, g23, g24, g25, g26, g27, g28, g29, g30, g31, g32, g33, g34] at hact
    clear g22 g23 g24 g25 g26 g27 g28 g29 g30 g31 g32 g33 g34
    simp only [List.setIfInBounds_toArray, List.set_cons_succ, List.set_cons_zero] at hact
    subst hact
    simp only [List.drop_succ_cons, List.drop_zero]
    obtain ⟨v, hvw⟩ : ∃ v, v = vw := ⟨vw, rfl⟩
    subst hvw
    clear hW1' f0 f5z f6 y6 hfl1
    obtain ⟨hM1, hf1, hpl1, hN1, hA1, hb1, hOf, hdd, hp⟩ := HM.out
    have hI1 : Below W1.heap.size W1 wz := hI
    have hf2 := hf1.below hI1
    obtain ⟨a0', k0', a1', k1', hBz, _⟩ := hf2.box
    obtain ⟨f6, y6⟩ := hBz.get 6 _ rfl
    have hfl2 := hBz.lt
    have hft := hf2.turn (F' := { F with at_ := (v : Int) }) 6 (.int .i64 (v : Int)) (fun _ _ _ _ => rfl) rfl rfl
    have hbt : But (fun j => j = fb) wz (wz.setCell ⟨fb, 6, none⟩ (.int .i64 (v : Int))) := (But.refl (fun j => j = fb) wz).set1 fb 6 rfl _
    obtain ⟨Wz, hWz⟩ : ∃ Wz, wz.setCell ⟨fb, 6, none⟩ (.int .i64 (v : Int)) = Wz := ⟨_, rfl⟩
    rw [hWz] at hft hbt
    have hszz : Wz.heap.size = wz.heap.size := by rw [← hWz, World.size_setCell]
    have hb0z : Below w.heap.size w wz := hb1.trans (hI1.mono hb1.size)
    obtain ⟨hOl, hPl, hd, hPf, hnb2, hs2⟩ := HO.out
    have hne : nb ≠ fb := by have := hPl _ hPf; omega
    have hne2 : nb + 1 ≠ fb := by have := hPl _ hPf; omega
    have hNz := (hN1.below hI1).but hbt hne
    obtain ⟨a2', k2', a3', k3', hBz2, _⟩ := hft.box
    have HZ := hidq (And.intro ((But.of_below hb0z).then hbt (fun j _ e => (.inr (e ▸ hPf) : O j ∨ P j))) (And.intro ((hM1.below hI1).but hbt (fun k hk e => hOf (e ▸ hk))) (And.intro hft (And.intro ((hpl1.below hI1).but hbt (fun k hk e => (hdd k hk).2 (e ▸ hPf))) (And.intro hNz (And.intro ((hA1.below hI1).but hbt hne2) (And.intro hBz2.lt (And.intro (show Wz.cell? ⟨fb, 5, none⟩ = some (.int .i64 (p : Int)) from by have := (hBz2.get 5 _ rfl).1; rw [this]; show some (Value.int .i64 F.pc) = _; rw [hp]) (hBz2.get 6 _ rfl).1))))))))
    have z0 := (hNz.get 0 _ rfl).1
    have z1 := (hNz.get 1 _ rfl).1
    have z2 := (hNz.get 2 _ rfl).1
    have hzl := hNz.lt
    replace HO := hidq (And.intro hOl (And.intro hPl (And.intro hd (And.intro hPf (And.intro hnb2 (show nb + 2 ≤ Wz.heap.size by have := hI1.size; omega))))))
    clear hM1 hf1 hpl1 hN1 hA1 hb1 hOf hdd hp hI1 hI hf2 hBz hft hbt hszz hb0z hOl hPl hd hPf hnb2 hs2 hne hne2 hNz hBz2 HM hI0 FC hnb
    go_wp2_with fail
    clear f6 y6 hfl2

    have hA0 := nahead_any n c gc oc ga oa D G Os Wz fb p v HZ.out.2.2.2.1 HZ.out.2.2.2.2.2.2.1 HZ.out.2.2.2.2.2.2.2.1 HZ.out.2.2.2.2.2.2.2.2 hpc hc
    cases ho : nAhead G p v with
    | none =>
      have HS := hidq (HST.out.1 ho)
      rw [ho] at hA0
      have hA : Calls Tryz.prog 155 #[.agg #[.int .i64 (n : Int), .slice ga c gc, .slice oa n oc], .pointer (some ⟨fb, 0, none⟩)] Wz fun e w' => e = .returned (.tuple #[.int .i64 0, .bool false]) ∧ Below Wz.heap.size Wz w' := hA0
      have HA := hidq hA
      clear hA hA0 ho HST
      refine HA.out.mono ?_
      rintro e w3 ⟨rfl, hb3⟩
      clear HA
      obtain ⟨hbz, hMz, hFz, hplz, hNz, hAz, hflz, hc5, hc6⟩ := HZ.out
      have hNb3 := hNz.below hb3
      have n30 := (hNb3.get 0 _ rfl).1
      have n31 := (hNb3.get 1 _ rfl).1
      have n32 := (hNb3.get 2 _ rfl).1
      have hnl3 := hNb3.lt
      have hL := hidq (nleave_any n c gc oc ga oa D G Os w3 b fb v pl O M (hplz.below hb3) (hMz.below hb3) (Nat.lt_of_lt_of_le hflz hb3.size) ((hb3.cell (p := ⟨fb, 6, none⟩) hflz).trans hc6) HK.out.1 HK.out.2.1 hc hn16 HK.out.2.2.1 HK.out.2.2.2)
      have HY := hidq (And.intro (hbz.then (But.of_below (S := fun _ => False) hb3) (fun _ _ e => False.elim e)) (And.intro (hFz.below hb3) (And.intro (hAz.below hb3) hb3.size)))
      clear hbz hMz hFz hplz hNz hAz hflz hc5 hc6 hNb3 hb3 HZ z0 z1 z2 hzl
      go_wp2_with fail
      refine hL.out.mono ?_
      rintro e w4 ⟨rfl, O4, hM4, hG4, hb4⟩
      obtain ⟨hb03, hF3, hA3, hs3⟩ := HY.out
      obtain ⟨hOl, hPl, hd, hPf, hnb, hzs⟩ := HO.out
      have haO : ¬ O (nb + 1) := fun e => by have := hOl _ e; omega
      have haP : ¬ P (nb + 1) := fun e => by have := hPl _ e; omega
      have hs4 := hb4.size
      have hA4 := hA3.but hb4 haO
      obtain ⟨g0, x0⟩ := hA4.get 0 _ rfl
      obtain ⟨g1, x1⟩ := hA4.get 1 _ rfl
      obtain ⟨g2, x2⟩ := hA4.get 2 _ rfl
      obtain ⟨g3, x3⟩ := hA4.get 3 _ rfl
      have hal := hA4.lt
      have hd4 : ∀ k, O4 k → ¬ P k := fun k hk e => by
        rcases hG4 k hk with q | q
        · exact hd k q e
        · have := hPl k e; omega
      have FIN := hidq (stepEnd_fr (A := ⟨true, 0, 0, (pl : Int) + (n : Int) * (M.cell (c + pl)).n⟩) (d := true) (F' := { F with at_ := (v : Int) }) [] hM4 (fun k hk => (hG4 k hk).imp id (fun e => ⟨by omega, e.2⟩)) (hF3.but hb4 (fun k hk e => hd k e hk)) (Grown.refl _ w w4) hd4 (hb03.then hb4 (fun j _ e => .inl e)) hPf hA4 (by omega) (fun e => by
        rcases hG4 _ e with q | q
        · exact haO q
        · omega) haP (fun _ _ _ _ => rfl) rfl rfl)
      generalize (pl : Int) + (n : Int) * (M.cell (c + pl)).n = N at *
      clear hb03 hF3 hA3 hs3 hOl hPl hd hPf hnb hzs haO haP hs4 hA4 hd4 hM4 hG4 hb4 HY HO hL HK n30 n31 n32
      go_wp2_with fail
      exact ret_ans (A := ⟨true, 0, 0, N⟩) Tryz.results154 FIN.out.1 rfl rfl rfl (by rw [HS.out]; exact FIN.out.2)
    | some i =>
      obtain ⟨_, g, hgi, _⟩ := nAhead_some _ (Nat.le_refl _) ho
      have HS := hidq (HST.out.2 i g ho hgi)
      rw [ho] at hA0
      have hA : Calls Tryz.prog 155 #[.agg #[.int .i64 (n : Int), .slice ga c gc, .slice oa n oc], .pointer (some ⟨fb, 0, none⟩)] Wz fun e w' => e = .returned (.tuple #[.int .i64 (i : Int), .bool true]) ∧ Below Wz.heap.size Wz w' := hA0
      have HA := hidq hA
      have HG := hidq hgi
      clear hA hA0 ho HST hgi
      refine HA.out.mono ?_
      rintro e w3 ⟨rfl, hb3⟩
      clear HA
      obtain ⟨hbz, hMz, hFz, hplz, hNz, hAz, hflz, hc5, hc6⟩ := HZ.out
      have hNb3 := hNz.below hb3
      have n30 := (hNb3.get 0 _ rfl).1
      have n31 := (hNb3.get 1 _ rfl).1
      have n32 := (hNb3.get 2 _ rfl).1
      have hnl3 := hNb3.lt
      have hL := hidq (npass_any n c gc oc ga oa D G Os w3 b fb i O P M _ g (hplz.below hb3) HDD.out (hMz.below hb3) (hFz.below hb3) HO.out.2.2.1 HK.out.1 HK.out.2.1 HG.out hc)
      have HY := hidq (And.intro (hbz.then (But.of_below (S := fun _ => False) hb3) (fun _ _ e => False.elim e)) (And.intro (hAz.below hb3) hb3.size))
      clear hbz hMz hFz hplz hNz hAz hflz hc5 hc6 hNb3 hb3 HZ z0 z1 z2 hzl
      generalize hF5 : ({ F with pc := ((i + 1 : Nat) : Int), at_ := (((if (M.cell i).n % 2 = 0 then g.1 else g.2) : Nat) : Int) } : Fr) = F5 at *
      have HL2 := hL
      clear hL hF5
      go_wp2_with fail
      refine HL2.out.mono ?_
      rintro e w4 ⟨rfl, O4, P4, hM4, hF4, hd4, hG4, hGP4, hb4⟩
      obtain ⟨hb03, hA3, hs3⟩ := HY.out
      obtain ⟨hOl, hPl, hd, hPf, hnb, hzs⟩ := HO.out
      have haO : ¬ O (nb + 1) := fun e => by have := hOl _ e; omega
      have haP : ¬ P (nb + 1) := fun e => by have := hPl _ e; omega
      have hs4 := hb4.size
      have hA4 := hA3.but hb4 (fun e => e.elim haO haP)
      obtain ⟨g0, x0⟩ := hA4.get 0 _ rfl
      obtain ⟨g1, x1⟩ := hA4.get 1 _ rfl
      obtain ⟨g2, x2⟩ := hA4.get 2 _ rfl
      obtain ⟨g3, x3⟩ := hA4.get 3 _ rfl
      have hal := hA4.lt
      have FIN := hidq (stepEnd_fr (A := Ans.zero) (d := false) (F' := F5) [] hM4 (fun k hk => (hG4 k hk).imp id (fun e => ⟨by omega, e.2⟩)) hF4 (fun k hk => (hGP4 k hk).imp id (fun e => ⟨by omega, e.2⟩)) hd4 (hb03.then hb4 (fun j _ e => e)) hPf hA4 (by omega) (fun e => by
        rcases hG4 _ e with q | q
        · exact haO q
        · omega) (fun e => by
        rcases hGP4 _ e with q | q
        · exact haP q
        · omega) (fun _ _ _ _ => rfl) rfl rfl)
      clear hb03 hA3 hs3 hOl hPl hd hPf hnb hzs haO haP hs4 hA4 hd4 hM4 hF4 hG4 hGP4 hb4 HY HO HL2 HK n30 n31 n32
      go_wp2_with fail
      exact ret_ans (A := Ans.zero) Tryz.results154 FIN.out.1 rfl rfl rfl (by rw [HS.out]; exact FIN.out.2)
  · have hv2 : F.at_ = (v : Int) := by rw [← hv]; unfold nWire; rw [if_neg (by omega)]; omega
    rw [hv2] at f6
    have hp2 : ((p : Int) == 0) = false := by simp; omega
    have hp3 : (p == 0) = false := by simpa using hz
    have hF2 : ({ F with at_ := (v : Int) } : Fr) = F := by rw [← hv2]
    have HZ := hidq (And.intro (show But (fun k => O k ∨ P k) w W1 from But.of_below hb1) (And.intro hM1 (And.intro (show FrAt W1 fb P { F with at_ := (v : Int) } from by rw [hF2]; exact hf1) (And.intro hpl1 (And.intro hN1 (And.intro hA1 (And.intro hfl1 (And.intro f5 f6))))))))
    have z0 := (hN1.get 0 _ rfl).1
    have z1 := (hN1.get 1 _ rfl).1
    have z2 := (hN1.get 2 _ rfl).1
    have hzl := hN1.lt
    replace HO := hidq (And.intro h.lt (And.intro hf.lt (And.intro hd (And.intro hf.ob (And.intro hnb (show nb + 2 ≤ W1.heap.size by omega))))))
    clear hpl hdd h hf hd hk hp0 hp1 ha0 ha1 hp hv hf1 hM1 hpl1 hB hN1 hA1 hb1 hs1 f3 hv2 hF2 y6
    generalize W1 = Wz at *
    go_enter Tryz.func154, Tryz.ntmps154
    go_wp2_with fail
    try rw [hW1']
    clear hW1' f0 f5 f6 hfl1 hnb

    have hA0 := nahead_any n c gc oc ga oa D G Os Wz fb p v HZ.out.2.2.2.1 HZ.out.2.2.2.2.2.2.1 HZ.out.2.2.2.2.2.2.2.1 HZ.out.2.2.2.2.2.2.2.2 hpc hc
    cases ho : nAhead G p v with
    | none =>
      have HS := hidq (HST.out.1 ho)
      rw [ho] at hA0
      have hA : Calls Tryz.prog 155 #[.agg #[.int .i64 (n : Int), .slice ga c gc, .slice oa n oc], .pointer (some ⟨fb, 0, none⟩)] Wz fun e w' => e = .returned (.tuple #[.int .i64 0, .bool false]) ∧ Below Wz.heap.size Wz w' := hA0
      have HA := hidq hA
      clear hA hA0 ho HST
      refine HA.out.mono ?_
      rintro e w3 ⟨rfl, hb3⟩
      clear HA
      obtain ⟨hbz, hMz, hFz, hplz, hNz, hAz, hflz, hc5, hc6⟩ := HZ.out
      have hNb3 := hNz.below hb3
      have n30 := (hNb3.get 0 _ rfl).1
      have n31 := (hNb3.get 1 _ rfl).1
      have n32 := (hNb3.get 2 _ rfl).1
      have hnl3 := hNb3.lt
      have hL := hidq (nleave_any n c gc oc ga oa D G Os w3 b fb v pl O M (hplz.below hb3) (hMz.below hb3) (Nat.lt_of_lt_of_le hflz hb3.size) ((hb3.cell (p := ⟨fb, 6, none⟩) hflz).trans hc6) HK.out.1 HK.out.2.1 hc hn16 HK.out.2.2.1 HK.out.2.2.2)
      have HY := hidq (And.intro (hbz.then (But.of_below (S := fun _ => False) hb3) (fun _ _ e => False.elim e)) (And.intro (hFz.below hb3) (And.intro (hAz.below hb3) hb3.size)))
      clear hbz hMz hFz hplz hNz hAz hflz hc5 hc6 hNb3 hb3 HZ z0 z1 z2 hzl
      go_wp2_with fail
      refine hL.out.mono ?_
      rintro e w4 ⟨rfl, O4, hM4, hG4, hb4⟩
      obtain ⟨hb03, hF3, hA3, hs3⟩ := HY.out
      obtain ⟨hOl, hPl, hd, hPf, hnb, hzs⟩ := HO.out
      have haO : ¬ O (nb + 1) := fun e => by have := hOl _ e; omega
      have haP : ¬ P (nb + 1) := fun e => by have := hPl _ e; omega
      have hs4 := hb4.size
      have hA4 := hA3.but hb4 haO
      obtain ⟨g0, x0⟩ := hA4.get 0 _ rfl
      obtain ⟨g1, x1⟩ := hA4.get 1 _ rfl
      obtain ⟨g2, x2⟩ := hA4.get 2 _ rfl
      obtain ⟨g3, x3⟩ := hA4.get 3 _ rfl
      have hal := hA4.lt
      have hd4 : ∀ k, O4 k → ¬ P k := fun k hk e => by
        rcases hG4 k hk with q | q
        · exact hd k q e
        · have := hPl k e; omega
      have FIN := hidq (stepEnd_fr (A := ⟨true, 0, 0, (pl : Int) + (n : Int) * (M.cell (c + pl)).n⟩) (d := true) (F' := { F with at_ := (v : Int) }) [] hM4 (fun k hk => (hG4 k hk).imp id (fun e => ⟨by omega, e.2⟩)) (hF3.but hb4 (fun k hk e => hd k e hk)) (Grown.refl _ w w4) hd4 (hb03.then hb4 (fun j _ e => .inl e)) hPf hA4 (by omega) (fun e => by
        rcases hG4 _ e with q | q
        · exact haO q
        · omega) haP (fun _ _ _ _ => rfl) rfl rfl)
      generalize (pl : Int) + (n : Int) * (M.cell (c + pl)).n = N at *
      clear hb03 hF3 hA3 hs3 hOl hPl hd hPf hnb hzs haO haP hs4 hA4 hd4 hM4 hG4 hb4 HY HO hL HK n30 n31 n32
      go_wp2_with fail
      exact ret_ans (A := ⟨true, 0, 0, N⟩) Tryz.results154 FIN.out.1 rfl rfl rfl (by rw [HS.out]; exact FIN.out.2)
    | some i =>
      obtain ⟨_, g, hgi, _⟩ := nAhead_some _ (Nat.le_refl _) ho
      have HS := hidq (HST.out.2 i g ho hgi)
      rw [ho] at hA0
      have hA : Calls Tryz.prog 155 #[.agg #[.int .i64 (n : Int), .slice ga c gc, .slice oa n oc], .pointer (some ⟨fb, 0, none⟩)] Wz fun e w' => e = .returned (.tuple #[.int .i64 (i : Int), .bool true]) ∧ Below Wz.heap.size Wz w' := hA0
      have HA := hidq hA
      have HG := hidq hgi
      clear hA hA0 ho HST hgi
      refine HA.out.mono ?_
      rintro e w3 ⟨rfl, hb3⟩
      clear HA
      obtain ⟨hbz, hMz, hFz, hplz, hNz, hAz, hflz, hc5, hc6⟩ := HZ.out
      have hNb3 := hNz.below hb3
      have n30 := (hNb3.get 0 _ rfl).1
      have n31 := (hNb3.get 1 _ rfl).1
      have n32 := (hNb3.get 2 _ rfl).1
      have hnl3 := hNb3.lt
      have hL := hidq (npass_any n c gc oc ga oa D G Os w3 b fb i O P M _ g (hplz.below hb3) HDD.out (hMz.below hb3) (hFz.below hb3) HO.out.2.2.1 HK.out.1 HK.out.2.1 HG.out hc)
      have HY := hidq (And.intro (hbz.then (But.of_below (S := fun _ => False) hb3) (fun _ _ e => False.elim e)) (And.intro (hAz.below hb3) hb3.size))
      clear hbz hMz hFz hplz hNz hAz hflz hc5 hc6 hNb3 hb3 HZ z0 z1 z2 hzl
      generalize hF5 : ({ F with pc := ((i + 1 : Nat) : Int), at_ := (((if (M.cell i).n % 2 = 0 then g.1 else g.2) : Nat) : Int) } : Fr) = F5 at *
      have HL2 := hL
      clear hL hF5
      go_wp2_with fail
      refine HL2.out.mono ?_
      rintro e w4 ⟨rfl, O4, P4, hM4, hF4, hd4, hG4, hGP4, hb4⟩
      obtain ⟨hb03, hA3, hs3⟩ := HY.out
      obtain ⟨hOl, hPl, hd, hPf, hnb, hzs⟩ := HO.out
      have haO : ¬ O (nb + 1) := fun e => by have := hOl _ e; omega
      have haP : ¬ P (nb + 1) := fun e => by have := hPl _ e; omega
      have hs4 := hb4.size
      have hA4 := hA3.but hb4 (fun e => e.elim haO haP)
      obtain ⟨g0, x0⟩ := hA4.get 0 _ rfl
      obtain ⟨g1, x1⟩ := hA4.get 1 _ rfl
      obtain ⟨g2, x2⟩ := hA4.get 2 _ rfl
      obtain ⟨g3, x3⟩ := hA4.get 3 _ rfl
      have hal := hA4.lt
      have FIN := hidq (stepEnd_fr (A := Ans.zero) (d := false) (F' := F5) [] hM4 (fun k hk => (hG4 k hk).imp id (fun e => ⟨by omega, e.2⟩)) hF4 (fun k hk => (hGP4 k hk).imp id (fun e => ⟨by omega, e.2⟩)) hd4 (hb03.then hb4 (fun j _ e => e)) hPf hA4 (by omega) (fun e => by
        rcases hG4 _ e with q | q
        · exact haO q
        · omega) (fun e => by
        rcases hGP4 _ e with q | q
        · exact haP q
        · omega) (fun _ _ _ _ => rfl) rfl rfl)
      clear hb03 hA3 hs3 hOl hPl hd hPf hnb hzs haO haP hs4 hA4 hd4 hM4 hF4 hG4 hGP4 hb4 HY HO HL2 HK n30 n31 n32
      go_wp2_with fail
      exact ret_ans (A := Ans.zero) Tryz.results154 FIN.out.1 rfl rfl rfl (by rw [HS.out]; exact FIN.out.2)
end Go.Proofs.YtbcmilfajeanbaaGreat

namespace Go.Proofs.YtbcmilfajeanbaaGreat
open Go.RowKit Go.Sort

set_option maxRecDepth 20000 in
set_option maxHeartbeats 4000000 in
theorem nnew_ok (d n : Nat) (hd : d ≤ 4) (hn : n = 2 ^ d) (w : World) : Calls Tryz.prog 68 #[.int .i64 (n : Int)] w (MakeNew d n w) := by
  obtain ⟨rb, hrb⟩ : ∃ rb, w.heap.size = rb := ⟨_, rfl⟩
  obtain ⟨W0, hW0⟩ : ∃ W0, w.alloc (.cells #[.int .i64 0, .slice none 0 0, .slice none 0 0] 141) = W0 := ⟨_, rfl⟩
  have hB0 := BoxAt.new w [.int .i64 0, .slice none 0 0, .slice none 0 0] 141
  rw [show w.alloc (.cells [.int .i64 0, .slice none 0 0, .slice none 0 0].toArray 141) = W0 from hW0, hrb] at hB0
  have hb0 : Below w.heap.size w W0 := by rw [← hW0]; exact (Below.refl _ _).alloc (Nat.le_refl _) _
  have hM := hidq (make_new d n hd hn W0)
  have H0 := hidq (And.intro hB0 hb0)
  clear hB0 hb0 hd hn
  go_enter Tryz.func68, Tryz.ntmps68
  go_wp2_with fail
  refine hM.out.mono ?_
  rintro e w1 ⟨ga, gc, oa, oc, rfl, hS, hN, hf1, hf2, hb1⟩
  obtain ⟨hB0, hb0⟩ := H0.out
  obtain ⟨W2, hW2⟩ : ∃ W2, w1.alloc (.cells #[.int .i64 (n : Int), .slice ga (cg d) gc, .slice oa n oc] 139) = W2 := ⟨_, rfl⟩
  have hB2 := BoxAt.new w1 [.int .i64 (n : Int), .slice ga (cg d) gc, .slice oa n oc] 139
  rw [show w1.alloc (.cells [.int .i64 (n : Int), .slice ga (cg d) gc, .slice oa n oc].toArray 139) = W2 from hW2] at hB2
  have hb2 : Below w1.heap.size w1 W2 := by rw [← hW2]; exact (Below.refl _ _).alloc (Nat.le_refl _) _
  have hR2 := (hB0.below hb1).below hb2
  have hb02 : Below w.heap.size w W2 := (hb0.trans (hb1.mono hb0.size)).trans (hb2.mono (by have := hb0.size; have := hb1.size; omega))
  have p0 := (hB2.get 0 _ rfl).1
  have p1 := (hB2.get 1 _ rfl).1
  have p2 := (hB2.get 2 _ rfl).1
  have hpl := hB2.lt
  obtain ⟨r0, y0⟩ := hR2.get 0 _ rfl
  obtain ⟨r1, y1⟩ := hR2.get 1 _ rfl
  obtain ⟨r2, y2⟩ := hR2.get 2 _ rfl
  have hrl := hR2.lt
  have hR3 := setBox_box [(0, .int .i64 (n : Int)), (1, .slice ga (cg d) gc), (2, .slice oa n oc)] hR2
  have hb3 := setBox_but rb [(0, .int .i64 (n : Int)), (1, .slice ga (cg d) gc), (2, .slice oa n oc)] W2
  have HE := hidq (show MakeNew d n w (.returned (.tuple #[.agg #[.int .i64 (n : Int), .slice ga (cg d) gc, .slice oa n oc], .int .i64 0])) (setBox W2 rb [(0, .int .i64 (n : Int)), (1, .slice ga (cg d) gc), (2, .slice oa n oc)]) from by
    have hs0 := hB0.lt
    have hs01 := hb0.size
    refine ⟨ga, gc, oa, oc, rfl, (hS.below hb2).but hb3 (fun j hj e => ?_), fun i v hv => ?_, fun j hj => ?_, fun j hj => ?_, hb02.trans (hb3.below hb02.size (fun j e => by omega))⟩
    · have := hf1 j hj; omega
    · obtain ⟨b, off, e1, e2, _, e4⟩ := (hN.below hb2) i v hv
      have := hf2 b ⟨_, e1, rfl⟩
      exact ⟨b, off, e1, Nat.lt_of_lt_of_le e2 hb3.size, id, by rw [hb3.cell (p := ⟨b, off + i, none⟩) e2 (show ¬ b = rb by omega)]; exact e4⟩
    · have := hf1 j hj; omega
    · have := hf2 j hj; omega)
  have q0 := (hR3.get 0 _ rfl).1
  have q1 := (hR3.get 1 _ rfl).1
  have q2 := (hR3.get 2 _ rfl).1
  dsimp only [setBox] at q0 q1 q2
  clear hS hN hf1 hf2 hb1 hB0 hb0 hB2 hb2 hR2 hb02 hR3 hb3 H0 hM
  go_wp2_with fail
  exact bodyPost_ret (v := .tuple #[.agg #[.int .i64 (n : Int), .slice ga (cg d) gc, .slice oa n oc], .int .i64 0]) (by simp [results, Tryz.results68, go_sem, q0, q1, q2]) rfl HE.out

set_option maxRecDepth 20000 in
set_option maxHeartbeats 4000000 in
theorem nnew_no (p : Int) (w : World) (h : legal 4 p = 5) : Calls Tryz.prog 68 #[.int .i64 p] w fun e w' => e = .returned (.tuple #[.agg #[.int .i64 0, .slice none 0 0, .slice none 0 0], .int .i64 5]) ∧ Below w.heap.size w w' := by
  obtain ⟨rb, hrb⟩ : ∃ rb, w.heap.size = rb := ⟨_, rfl⟩
  obtain ⟨W0, hW0⟩ : ∃ W0, w.alloc (.cells #[.int .i64 0, .slice none 0 0, .slice none 0 0] 141) = W0 := ⟨_, rfl⟩
  have hB0 := BoxAt.new w [.int .i64 0, .slice none 0 0, .slice none 0 0] 141
  rw [show w.alloc (.cells [.int .i64 0, .slice none 0 0, .slice none 0 0].toArray 141) = W0 from hW0, hrb] at hB0
  have hb0 : Below w.heap.size w W0 := by rw [← hW0]; exact (Below.refl _ _).alloc (Nat.le_refl _) _
  have hM := hidq (make_no p W0 h)
  have H0 := hidq (And.intro hB0 hb0)
  clear hB0 hb0 h
  go_enter Tryz.func68, Tryz.ntmps68
  go_wp2_with fail
  refine hM.out.mono ?_
  rintro e w1 ⟨rfl, hb1⟩
  obtain ⟨hB0, hb0⟩ := H0.out
  obtain ⟨W2, hW2⟩ : ∃ W2, w1.alloc (.cells #[.int .i64 0, .slice none 0 0, .slice none 0 0] 139) = W2 := ⟨_, rfl⟩
  have hb2 : Below w1.heap.size w1 W2 := by rw [← hW2]; exact (Below.refl _ _).alloc (Nat.le_refl _) _
  have hR2 := (hB0.below hb1).below hb2
  have hb02 : Below w.heap.size w W2 := (hb0.trans (hb1.mono hb0.size)).trans (hb2.mono (by have := hb0.size; have := hb1.size; omega))
  obtain ⟨r0, y0⟩ := hR2.get 0 _ rfl
  obtain ⟨r1, y1⟩ := hR2.get 1 _ rfl
  obtain ⟨r2, y2⟩ := hR2.get 2 _ rfl
  have hrl := hR2.lt
  obtain ⟨W3, hW3⟩ : ∃ W3, W2.setCells rb 0 [.int .i64 0, .slice none 0 0, .slice none 0 0] = W3 := ⟨_, rfl⟩
  have hB3 : BoxAt W3 rb [.int .i64 0, .slice none 0 0, .slice none 0 0] := by rw [← hW3]; exact box_cells (cs := [.int .i64 0, .slice none 0 0, .slice none 0 0]) hR2 rfl
  have hb3 : But (fun j => j = rb) W2 W3 := by rw [← hW3]; exact but_setCells _ _ _ _ _ (But.refl _ _)
  have q0 := (hB3.get 0 _ rfl).1
  have q1 := (hB3.get 1 _ rfl).1
  have q2 := (hB3.get 2 _ rfl).1
  have HE := hidq (hb02.trans (hb3.below hb02.size (fun j e => by omega)))
  subst hW2
  have HW3 := hidq hW3
  clear hb1 hB0 hb0 hb2 hR2 hb02 hB3 hb3 H0 hM hW3
  go_wp2_with fail
  have hW3' := HW3.out
  simp only [World.setCells, Nat.zero_add, Nat.reduceAdd] at hW3'
  rw [hW3']
  exact bodyPost_ret (v := .tuple #[.agg #[.int .i64 0, .slice none 0 0, .slice none 0 0], .int .i64 5]) (by simp [results, Tryz.results68, go_sem, q0, q1, q2]) rfl ⟨rfl, HE.out⟩

/-- What holds of a plan that is made. -/
theorem net_facts (d n : Nat) (hd : d ≤ 4) (hn : n = 2 ^ d) : (Wr.count d (List.range n)).1.length = cg d ∧ (Wr.count d (List.range n)).2.length = n ∧ (∀ g ∈ (Wr.count d (List.range n)).1, g.1 ≠ g.2 ∧ g.1 < n ∧ g.2 < n) ∧ (Wr.count d (List.range n)).2.Nodup ∧ (∀ v, v < n → v ∈ (Wr.count d (List.range n)).2) ∧ (∀ s, Wr.Ev (Wr.run (Wr.count d (List.range n)).1 s) n (Wr.count d (List.range n)).2 (Wr.sum s (List.range n))) ∧ cg d + 1 ≤ 100 ∧ 1 ≤ n ∧ n ≤ 16 := by
  obtain ⟨_, h1, h16⟩ := legal_pow hd hn
  obtain ⟨pf1, pf2, _, _⟩ := plan_facts d hd
  have hcgl := count_gates d (List.range (2 ^ d)) (by simp)
  have houl := Wr.count_length d (List.range (2 ^ d)) (by simp)
  have hev := fun s => Wr.count_even d (List.range (2 ^ d)) s List.nodup_range (by simp)
  have hpm := Wr.count_perm d (List.range (2 ^ d)) (by simp)
  rw [← hn] at pf1 pf2 hcgl houl hev hpm
  refine ⟨hcgl, houl, pf1, pf2, fun v hv => hpm.mem_iff.2 (List.mem_range.2 hv), hev, ?_, h1, h16⟩
  have : d = 0 ∨ d = 1 ∨ d = 2 ∨ d = 3 ∨ d = 4 := by omega
  rcases this with rfl | rfl | rfl | rfl | rfl <;> decide
/-- A width, its gates, its places. -/
structure PF (n c : Nat) (G : List (Nat × Nat)) (Os : List Nat) : Prop where
  ex : ∃ d, d ≤ 4 ∧ n = 2 ^ d ∧ c = cg d ∧ G = (Wr.count d (List.range n)).1 ∧ Os = (Wr.count d (List.range n)).2
/-- How a Net is made. -/
def NewEnd (n c : Nat) (G : List (Nat × Nat)) (Os : List Nat) (w : World) (e : Ending) (w' : World) : Prop :=
  ∃ ga gc oa oc, e = .returned (.tuple #[.agg #[.int .i64 (n : Int), .slice ga c gc, .slice oa n oc], .int .i64 0]) ∧ NP w' (fun j => j < w'.heap.size) ga gc c oa n G Os ∧ Below w.heap.size w w'
theorem nnew_any (d n : Nat) (hd : d ≤ 4) (hn : n = 2 ^ d) : ∃ c G Os, PF n c G Os ∧ ∀ w : World, Calls Tryz.prog 68 #[.int .i64 (n : Int)] w (NewEnd n c G Os w) := by
  refine ⟨cg d, _, _, ⟨d, hd, hn, rfl, rfl, rfl⟩, fun w => (nnew_ok d n hd hn w).mono ?_⟩
  rintro e w' ⟨ga, gc, oa, oc, rfl, hS, hN, _, _, hb⟩
  obtain ⟨f1, f2, _, _, _, _, _, f7, _⟩ := net_facts d n hd hn
  refine ⟨ga, gc, oa, oc, rfl, ⟨hS, hN, hS.lt, fun j hj => ?_, fun j hj => hj, f1, f2⟩, hb⟩
  obtain ⟨b, off, e1, e2, _⟩ := hN 0 _ (List.getElem?_eq_getElem (by omega))
  obtain ⟨x, hx, rfl⟩ := hj
  rw [e1] at hx; cases hx
  exact e2
theorem PF.le {n c : Nat} {G : List (Nat × Nat)} {Os : List Nat} (h : PF n c G Os) : 1 ≤ n ∧ n ≤ 16 ∧ c + 1 ≤ 100 := by
  obtain ⟨d, hd, hn, hc, _, _⟩ := h.ex
  obtain ⟨_, _, _, _, _, _, f7, f8, f9⟩ := net_facts d n hd hn
  omega
end Go.Proofs.YtbcmilfajeanbaaGreat
