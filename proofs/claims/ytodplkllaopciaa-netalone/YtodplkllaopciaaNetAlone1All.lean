/-
  Layer 11: a token's step: contract.
  Layer 11: a new Net; a token alone on it: contracts.
  Layer 11: what the laws ask first: contract.
  An operation alone within a statement that draws its order: the machine in its box, the memory, and a new box for the answer.
  Layer 11's law of tokens one by one: the call returns true.
-/
import Derived.Test.YtodplkllaopciaaNetDAll
import Derived.Test.YtodplkllaopciaaTail
import Derived.Test.YtodplkllaopciaaAloneG6All
import Derived.Test.YtodplkllaopciaaWireDAll
namespace Go.Proofs.Ytodplkllaopciaa
open Go.RowKit Go.Sort

def nstep4R (n nb fb vw : Nat) (F : Fr) : List (Value → World → Prop) :=
  [fun v _ => v = .pointer (some ⟨fb, 0, none⟩),
   fun v _ => v = .pointer (some ⟨fb, 0, none⟩),
   fun v _ => v = .pointer (some ⟨fb, 0, none⟩),
   fun v _ => v = .pointer (some ⟨fb, 0, none⟩),
   fun v _ => v = .pointer (some ⟨fb, 3, none⟩),
   fun v _ => v = .pointer (some ⟨fb, 3, none⟩),
   fun v _ => v = .int .i64 F.d0,
   fun v _ => v = .pointer (some ⟨nb, 0, none⟩),
   fun v _ => v = .pointer (some ⟨nb, 0, none⟩),
   fun v _ => v = .int .i64 (n : Int),
   fun v _ => v = .int .i64 (vw : Int),
   fun v _ => v = .pointer (some ⟨fb, 0, none⟩),
   fun v _ => v = .pointer (some ⟨fb, 6, none⟩)]
theorem nstep4R_kept (n nb fb vw : Nat) (F : Fr) : Reg.AllKept Reg.Keeps (nstep4R n nb fb vw F) :=
  ⟨(fun _ _ _ _ h => h), (fun _ _ _ _ h => h), (fun _ _ _ _ h => h), (fun _ _ _ _ h => h), (fun _ _ _ _ h => h), (fun _ _ _ _ h => h), (fun _ _ _ _ h => h), (fun _ _ _ _ h => h), (fun _ _ _ _ h => h), (fun _ _ _ _ h => h), (fun _ _ _ _ h => h), (fun _ _ _ _ h => h), (fun _ _ _ _ h => h), trivial⟩

set_option maxRecDepth 20000 in
set_option maxHeartbeats 8000000 in
theorem nstep_is (n c gc oc : Nat) (ga oa : Option Addr) (D : Nat → Prop) (G : List (Nat × Nat)) (Os : List Nat) (hc : c ≤ 100) (hn1 : 1 ≤ n) (hn16 : n ≤ 16) (hOs : ∀ v, v < n → v ∈ Os) : IsStepN 12 n c gc oc ga oa D G Os (nGood n c) (nStep n c G Os) := by
  intro w b fb O P M F hpl hdd h hf hd hg hck
  have hvn := nWire_lt hn1 hg
  obtain ⟨hk, hp0, hp1, ha0, ha1, hok⟩ := hg
  obtain ⟨p, hp⟩ : ∃ p : Nat, F.pc = (p : Int) := ⟨F.pc.toNat, by omega⟩
  have hpc : p ≤ c := by omega
  obtain ⟨v, hv⟩ : ∃ v, nWire n F = v := ⟨_, rfl⟩
  obtain ⟨pl, hpv⟩ : ∃ pl, Os.idxOf v = pl := ⟨_, rfl⟩
  have hst1 : nAhead G p v = none → nStep n c G Os M F = (bump M (c + pl), { F with at_ := (v : Int) }, ⟨true, 0, 0, (pl : Int) + (n : Int) * (M.cell (c + pl)).n⟩, true) := fun ho => by
    rw [nStep_none (by rw [hp, hv]; exact ho), hv, hpv]
  have hst2 : ∀ i g, nAhead G p v = some i → G[i]? = some g → nStep n c G Os M F = (bump M i, { F with pc := ((i + 1 : Nat) : Int), at_ := (((if (M.cell i).n % 2 = 0 then g.1 else g.2) : Nat) : Int) }, Ans.zero, false) := fun i g ho hgi =>
    nStep_some (by rw [hp, hv]; exact ho) hgi
  have HST := hidq (And.intro hst1 hst2)
  have HK := hidq (And.intro hok (And.intro hck (And.intro (hOs v (by rw [← hv]; exact hvn)) hpv)))
  have HDD := hidq hdd
  clear hst1 hst2 hok hck hvn hpv hOs
  obtain ⟨nb, hnb⟩ : ∃ nb, w.heap.size = nb := ⟨_, rfl⟩
  obtain ⟨W1, hW1, hb1, hs1, hN1, hA1⟩ := two_new w [.int .i64 (n : Int), .slice ga c gc, .slice oa n oc] Ans.zero.l 28 39 0
  have hW1' : (w.alloc (.cells #[.int .i64 (n : Int), .slice ga c gc, .slice oa n oc] 28)).alloc (.cells #[.bool false, .float .f64 0, .int .i64 0, .int .i64 0] 39) = W1 := hW1
  rw [hnb] at hN1 hA1 hs1
  clear hW1
  have hsf := run_store_flt (P := Try.prog)
  have hf1 := hf.below hb1
  have hM1 := h.below hb1
  have hpl1 := hpl.below hb1
  obtain ⟨a0, k0, a1, k1, hB, _⟩ := hf1.box
  have f0 := (hB.get 0 _ rfl).1
  have f3 := (hB.get 3 _ rfl).1
  have f5 := (hB.get 5 _ rfl).1
  obtain ⟨f6, y6⟩ := hB.get 6 _ rfl
  have hfl1 := hB.lt
  rw [hk] at f0
  rw [hp] at f5
  have HO := hidq (And.intro h.lt (And.intro hf.lt (And.intro hd (And.intro hf.ob (And.intro hnb hs1)))))
  by_cases hz : p = 0
  · have hv2 : into F.d0 (n : Int) = (v : Int) := by
      have := into_rng (d := F.d0) (n := (n : Int)) (by omega)
      rw [← hv]; unfold nWire; rw [if_pos (by rw [hp, hz]; rfl)]; omega
    have hI0 := hidq (fun W => (show Calls Try.prog 17 #[.int .i64 F.d0, .int .i64 (n : Int)] W fun e w' => e = .returned (.int .i64 (v : Int)) ∧ w' = W from by
      have := into_any F.d0 (n : Int) W (by omega)
      rw [hv2] at this
      exact this))
    have FC := hidq (fun W (hW : Below W1.heap.size W1 W) => And.intro ((hW.cell (p := ⟨fb, 3, none⟩) hfl1).trans f3) ((hN1.below hW).get 0 _ rfl).1)
    have HM := hidq (And.intro hM1 (And.intro hf1 (And.intro hpl1 (And.intro hN1 (And.intro hA1 (And.intro hb1 (And.intro (fun e => hd _ e hf.ob) (And.intro hdd hp))))))))
    have f5z : W1.cell? ⟨fb, 5, none⟩ = some (.int .i64 0) := by rw [hz] at f5; exact f5
    clear hpl hdd h hf hd hk hp0 hp1 ha0 ha1 hp hv hf1 hM1 hpl1 hB hN1 hA1 hb1 hs1 hv2 f3 f5 hz
    have hrefl : ∀ w : World, Reg.Keeps w w := Reg.Keeps.refl
    obtain ⟨vw, hvw⟩ : ∃ vw, vw = v := ⟨v, rfl⟩
    subst hvw
    go_enter Try.func12, Try.ntmps12
    go_wp2_with fail
    try rw [hW1']
    have hrefl : ∀ w : World, Reg.Keeps w w := Reg.Keeps.refl
    refine Reg.wp_region_props_tail 13 (Reg.ofList (nstep4R n nb fb vw F)) Reg.Keeps (fun _ w => Reg.Keeps W1 w) (by kernel_rfl) (by kernel_rfl) (by kernel_rfl) (Reg.AllKept.at _ (nstep4R_kept n nb fb vw F)) hrefl (Reg.Keeps.drewN (Reg.Keeps.refl _) 1) ⟨?_, ?_, ?_, ?_, ?_, ?_, ?_, ?_, ?_, ?_, ?_, ?_, ?_, trivial⟩ ?_
    · refine Reg.StepAt.plain (i := 0) rfl ?_
      intro L ev w hI hk hp hA
      have e2 : ev (.tmp 2) = .pointer (some ⟨fb, 0, none⟩) := hA.oldNone 2 (by kernel_rfl)
      have hcc := hA.const
      clear hA hp
      refine Reg.out_value (v := .pointer (some ⟨fb, 0, none⟩)) ?_ ⟨rfl, hrefl _, hI⟩
      go_simp
    · refine Reg.StepAt.plain (i := 1) rfl ?_
      intro L ev w hI hk hp hA
      have e2 : ev (.tmp 2) = .pointer (some ⟨fb, 0, none⟩) := hA.oldNone 2 (by kernel_rfl)
      have hcc := hA.const
      clear hA hp
      refine Reg.out_value (v := .pointer (some ⟨fb, 0, none⟩)) ?_ ⟨rfl, hrefl _, hI⟩
      go_simp
    · refine Reg.StepAt.plain (i := 2) rfl ?_
      intro L ev w hI hk hp hA
      have e23 : ev (.tmp 23) = .pointer (some ⟨fb, 0, none⟩) := hA.val 1 _ 23 rfl (hp ⟨1, .data⟩ (by simp) rfl) rfl
      have hcc := hA.const
      clear hA hp
      refine Reg.out_value (v := .pointer (some ⟨fb, 0, none⟩)) ?_ ⟨rfl, hrefl _, hI⟩
      go_simp
    · refine Reg.StepAt.plain (i := 3) rfl ?_
      intro L ev w hI hk hp hA
      have e24 : ev (.tmp 24) = .pointer (some ⟨fb, 0, none⟩) := hA.val 2 _ 24 rfl (hp ⟨2, .data⟩ (by simp) rfl) rfl
      have hcc := hA.const
      clear hA hp
      refine Reg.out_value (v := .pointer (some ⟨fb, 0, none⟩)) ?_ ⟨rfl, hrefl _, hI⟩
      go_simp
    · refine Reg.StepAt.plain (i := 4) rfl ?_
      intro L ev w hI hk hp hA
      have e25 : ev (.tmp 25) = .pointer (some ⟨fb, 0, none⟩) := hA.val 3 _ 25 rfl (hp ⟨3, .data⟩ (by simp) rfl) rfl
      have hcc := hA.const
      clear hA hp
      refine Reg.out_value (v := .pointer (some ⟨fb, 3, none⟩)) ?_ ⟨rfl, hrefl _, hI⟩
      go_simp
    · refine Reg.StepAt.plain (i := 5) rfl ?_
      intro L ev w hI hk hp hA
      have e26 : ev (.tmp 26) = .pointer (some ⟨fb, 3, none⟩) := hA.val 4 _ 26 rfl (hp ⟨4, .data⟩ (by simp) rfl) rfl
      have hcc := hA.const
      clear hA hp
      refine Reg.out_value (v := .pointer (some ⟨fb, 3, none⟩)) ?_ ⟨rfl, hrefl _, hI⟩
      go_simp
    · refine Reg.StepAt.plain (i := 6) rfl ?_
      intro L ev w hI hk hp hA
      have e27 : ev (.tmp 27) = .pointer (some ⟨fb, 3, none⟩) := hA.val 5 _ 27 rfl (hp ⟨5, .data⟩ (by simp) rfl) rfl
      have hcc := hA.const
      clear hA hp
      obtain ⟨f3, m0⟩ := FC.out w hI
      refine Reg.out_value (v := .int .i64 F.d0) ?_ ⟨rfl, hrefl _, hI⟩
      go_simp
    · refine Reg.StepAt.plain (i := 7) rfl ?_
      intro L ev w hI hk hp hA
      have e3 : ev (.tmp 3) = .pointer (some ⟨nb, 0, none⟩) := hA.oldNone 3 (by kernel_rfl)
      have hcc := hA.const
      clear hA hp
      refine Reg.out_value (v := .pointer (some ⟨nb, 0, none⟩)) ?_ ⟨rfl, hrefl _, hI⟩
      go_simp
    · refine Reg.StepAt.plain (i := 8) rfl ?_
      intro L ev w hI hk hp hA
      have e29 : ev (.tmp 29) = .pointer (some ⟨nb, 0, none⟩) := hA.val 7 _ 29 rfl (hp ⟨7, .data⟩ (by simp) rfl) rfl
      have hcc := hA.const
      clear hA hp
      refine Reg.out_value (v := .pointer (some ⟨nb, 0, none⟩)) ?_ ⟨rfl, hrefl _, hI⟩
      go_simp
    · refine Reg.StepAt.plain (i := 9) rfl ?_
      intro L ev w hI hk hp hA
      have e30 : ev (.tmp 30) = .pointer (some ⟨nb, 0, none⟩) := hA.val 8 _ 30 rfl (hp ⟨8, .data⟩ (by simp) rfl) rfl
      have hcc := hA.const
      clear hA hp
      obtain ⟨f3, m0⟩ := FC.out w hI
      refine Reg.out_value (v := .int .i64 (n : Int)) ?_ ⟨rfl, hrefl _, hI⟩
      go_simp
    · refine Reg.StepAt.plain (i := 10) rfl ?_
      intro L ev w hI hk hp hA
      have e28 : ev (.tmp 28) = .int .i64 F.d0 := hA.val 6 _ 28 rfl (hp ⟨6, .data⟩ (by simp) rfl) rfl
      have e31 : ev (.tmp 31) = .int .i64 (n : Int) := hA.val 9 _ 31 rfl (hp ⟨9, .data⟩ (by simp) rfl) rfl
      have hcc := hA.const
      have hcf := hA.func
      clear hA hp
      refine Reg.out_call (f := 17) (args := #[.int .i64 F.d0, .int .i64 (n : Int)]) (w0 := w) ?_ ?_
      · go_simp
      refine (hI0.out w).mono ?_
      rintro e w' ⟨rfl, hw⟩
      subst hw; exact ⟨_, rfl, rfl, hrefl _, hI⟩
    · refine Reg.StepAt.plain (i := 11) rfl ?_
      intro L ev w hI hk hp hA
      have e22 : ev (.tmp 22) = .pointer (some ⟨fb, 0, none⟩) := hA.val 0 _ 22 rfl (hp ⟨0, .data⟩ (by simp) rfl) rfl
      have hcc := hA.const
      clear hA hp
      refine Reg.out_value (v := .pointer (some ⟨fb, 0, none⟩)) ?_ ⟨rfl, hrefl _, hI⟩
      go_simp
    · refine Reg.StepAt.plain (i := 12) rfl ?_
      intro L ev w hI hk hp hA
      have e33 : ev (.tmp 33) = .pointer (some ⟨fb, 0, none⟩) := hA.val 11 _ 33 rfl (hp ⟨11, .data⟩ (by simp) rfl) rfl
      have hcc := hA.const
      clear hA hp
      refine Reg.out_value (v := .pointer (some ⟨fb, 6, none⟩)) ?_ ⟨rfl, hrefl _, hI⟩
      go_simp
    intro act wz hI hF
    have g22 : act.eval (.tmp 22) = .pointer (some ⟨fb, 0, none⟩) := hF.val 0 _ 22 rfl (by kernel_rfl) rfl
    have g23 : act.eval (.tmp 23) = .pointer (some ⟨fb, 0, none⟩) := hF.val 1 _ 23 rfl (by kernel_rfl) rfl
    have g24 : act.eval (.tmp 24) = .pointer (some ⟨fb, 0, none⟩) := hF.val 2 _ 24 rfl (by kernel_rfl) rfl
    have g25 : act.eval (.tmp 25) = .pointer (some ⟨fb, 0, none⟩) := hF.val 3 _ 25 rfl (by kernel_rfl) rfl
    have g26 : act.eval (.tmp 26) = .pointer (some ⟨fb, 3, none⟩) := hF.val 4 _ 26 rfl (by kernel_rfl) rfl
    have g27 : act.eval (.tmp 27) = .pointer (some ⟨fb, 3, none⟩) := hF.val 5 _ 27 rfl (by kernel_rfl) rfl
    have g28 : act.eval (.tmp 28) = .int .i64 F.d0 := hF.val 6 _ 28 rfl (by kernel_rfl) rfl
    have g29 : act.eval (.tmp 29) = .pointer (some ⟨nb, 0, none⟩) := hF.val 7 _ 29 rfl (by kernel_rfl) rfl
    have g30 : act.eval (.tmp 30) = .pointer (some ⟨nb, 0, none⟩) := hF.val 8 _ 30 rfl (by kernel_rfl) rfl
    have g31 : act.eval (.tmp 31) = .int .i64 (n : Int) := hF.val 9 _ 31 rfl (by kernel_rfl) rfl
    have g32 : act.eval (.tmp 32) = .int .i64 (vw : Int) := hF.val 10 _ 32 rfl (by kernel_rfl) rfl
    have g33 : act.eval (.tmp 33) = .pointer (some ⟨fb, 0, none⟩) := hF.val 11 _ 33 rfl (by kernel_rfl) rfl
    have g34 : act.eval (.tmp 34) = .pointer (some ⟨fb, 6, none⟩) := hF.val 12 _ 34 rfl (by kernel_rfl) rfl
    have hact := hF.actHead [22, 23, 24, 25, 26, 27, 28, 29, 30, 31, 32, 33, 34] (by kernel_rfl)
    clear hF
    simp only [List.foldl_cons, List.foldl_nil] at hact
    rw [g22, g23, g24, g25, g26, g27, g28, g29, g30, g31, g32, g33, g34] at hact
    clear g22 g23 g24 g25 g26 g27 g28 g29 g30 g31 g32 g33 g34
    simp only [List.setIfInBounds_toArray, List.set_cons_succ, List.set_cons_zero] at hact
    subst hact
    simp only [List.drop_succ_cons, List.drop_zero]
    obtain ⟨v, hvw⟩ : ∃ v, v = vw := ⟨vw, rfl⟩
    subst hvw
    clear hW1' f0 f5z f6 y6 hfl1
    obtain ⟨hM1, hf1, hpl1, hN1, hA1, hb1, hOf, hdd, hp⟩ := HM.out
    have hI1 : Below W1.heap.size W1 wz := hI
    have hf2 := hf1.below hI1
    obtain ⟨a0', k0', a1', k1', hBz, _⟩ := hf2.box
    obtain ⟨f6, y6⟩ := hBz.get 6 _ rfl
    have hfl2 := hBz.lt
    have hft := hf2.turn (F' := { F with at_ := (v : Int) }) 6 (.int .i64 (v : Int)) (fun _ _ _ _ => rfl) rfl rfl
    have hbt : But (fun j => j = fb) wz (wz.setCell ⟨fb, 6, none⟩ (.int .i64 (v : Int))) := (But.refl (fun j => j = fb) wz).set1 fb 6 rfl _
    obtain ⟨Wz, hWz⟩ : ∃ Wz, wz.setCell ⟨fb, 6, none⟩ (.int .i64 (v : Int)) = Wz := ⟨_, rfl⟩
    rw [hWz] at hft hbt
    have hszz : Wz.heap.size = wz.heap.size := by rw [← hWz, World.size_setCell]
    have hb0z : Below w.heap.size w wz := hb1.trans (hI1.mono hb1.size)
    obtain ⟨hOl, hPl, hd, hPf, hnb2, hs2⟩ := HO.out
    have hne : nb ≠ fb := by have := hPl _ hPf; omega
    have hne2 : nb + 1 ≠ fb := by have := hPl _ hPf; omega
    have hNz := (hN1.below hI1).but hbt hne
    obtain ⟨a2', k2', a3', k3', hBz2, _⟩ := hft.box
    have HZ := hidq (And.intro ((But.of_below hb0z).then hbt (fun j _ e => (.inr (e ▸ hPf) : O j ∨ P j))) (And.intro ((hM1.below hI1).but hbt (fun k hk e => hOf (e ▸ hk))) (And.intro hft (And.intro ((hpl1.below hI1).but hbt (fun k hk e => (hdd k hk).2 (e ▸ hPf))) (And.intro hNz (And.intro ((hA1.below hI1).but hbt hne2) (And.intro hBz2.lt (And.intro (show Wz.cell? ⟨fb, 5, none⟩ = some (.int .i64 (p : Int)) from by have := (hBz2.get 5 _ rfl).1; rw [this]; show some (Value.int .i64 F.pc) = _; rw [hp]) (hBz2.get 6 _ rfl).1))))))))
    have z0 := (hNz.get 0 _ rfl).1
    have z1 := (hNz.get 1 _ rfl).1
    have z2 := (hNz.get 2 _ rfl).1
    have hzl := hNz.lt
    replace HO := hidq (And.intro hOl (And.intro hPl (And.intro hd (And.intro hPf (And.intro hnb2 (show nb + 2 ≤ Wz.heap.size by have := hI1.size; omega))))))
    clear hM1 hf1 hpl1 hN1 hA1 hb1 hOf hdd hp hI1 hI hf2 hBz hft hbt hszz hb0z hOl hPl hd hPf hnb2 hs2 hne hne2 hNz hBz2 HM hI0 FC hnb
    go_wp2_with fail
    clear f6 y6 hfl2

    have hA0 := ahead_any n c gc oc ga oa D G Os Wz fb p v HZ.out.2.2.2.1 HZ.out.2.2.2.2.2.2.1 HZ.out.2.2.2.2.2.2.2.1 HZ.out.2.2.2.2.2.2.2.2 hpc hc
    cases ho : nAhead G p v with
    | none =>
      have HS := hidq (HST.out.1 ho)
      rw [ho] at hA0
      have hA : Calls Try.prog 18 #[.agg #[.int .i64 (n : Int), .slice ga c gc, .slice oa n oc], .pointer (some ⟨fb, 0, none⟩)] Wz fun e w' => e = .returned (.tuple #[.int .i64 0, .bool false]) ∧ Below Wz.heap.size Wz w' := hA0
      have HA := hidq hA
      clear hA hA0 ho HST
      refine HA.out.mono ?_
      rintro e w3 ⟨rfl, hb3⟩
      clear HA
      obtain ⟨hbz, hMz, hFz, hplz, hNz, hAz, hflz, hc5, hc6⟩ := HZ.out
      have hNb3 := hNz.below hb3
      have n30 := (hNb3.get 0 _ rfl).1
      have n31 := (hNb3.get 1 _ rfl).1
      have n32 := (hNb3.get 2 _ rfl).1
      have hnl3 := hNb3.lt
      have hL := hidq (nleave_any n c gc oc ga oa D G Os w3 b fb v pl O M (hplz.below hb3) (hMz.below hb3) (Nat.lt_of_lt_of_le hflz hb3.size) ((hb3.cell (p := ⟨fb, 6, none⟩) hflz).trans hc6) HK.out.1 HK.out.2.1 hc hn16 HK.out.2.2.1 HK.out.2.2.2)
      have HY := hidq (And.intro (hbz.then (But.of_below (S := fun _ => False) hb3) (fun _ _ e => False.elim e)) (And.intro (hFz.below hb3) (And.intro (hAz.below hb3) hb3.size)))
      clear hbz hMz hFz hplz hNz hAz hflz hc5 hc6 hNb3 hb3 HZ z0 z1 z2 hzl
      go_wp2_with fail
      refine hL.out.mono ?_
      rintro e w4 ⟨rfl, O4, hM4, hG4, hb4⟩
      obtain ⟨hb03, hF3, hA3, hs3⟩ := HY.out
      obtain ⟨hOl, hPl, hd, hPf, hnb, hzs⟩ := HO.out
      have haO : ¬ O (nb + 1) := fun e => by have := hOl _ e; omega
      have haP : ¬ P (nb + 1) := fun e => by have := hPl _ e; omega
      have hs4 := hb4.size
      have hA4 := hA3.but hb4 haO
      obtain ⟨g0, x0⟩ := hA4.get 0 _ rfl
      obtain ⟨g1, x1⟩ := hA4.get 1 _ rfl
      obtain ⟨g2, x2⟩ := hA4.get 2 _ rfl
      obtain ⟨g3, x3⟩ := hA4.get 3 _ rfl
      have hal := hA4.lt
      have hd4 : ∀ k, O4 k → ¬ P k := fun k hk e => by
        rcases hG4 k hk with q | q
        · exact hd k q e
        · have := hPl k e; omega
      have FIN := hidq (stepEnd_fr (A := ⟨true, 0, 0, (pl : Int) + (n : Int) * (M.cell (c + pl)).n⟩) (d := true) (F' := { F with at_ := (v : Int) }) [] hM4 (fun k hk => (hG4 k hk).imp id (fun e => ⟨by omega, e.2⟩)) (hF3.but hb4 (fun k hk e => hd k e hk)) (Grown.refl _ w w4) hd4 (hb03.then hb4 (fun j _ e => .inl e)) hPf hA4 (by omega) (fun e => by
        rcases hG4 _ e with q | q
        · exact haO q
        · omega) haP (fun _ _ _ _ => rfl) rfl rfl)
      generalize (pl : Int) + (n : Int) * (M.cell (c + pl)).n = N at *
      clear hb03 hF3 hA3 hs3 hOl hPl hd hPf hnb hzs haO haP hs4 hA4 hd4 hM4 hG4 hb4 HY HO hL HK n30 n31 n32
      go_wp2_with fail
      exact ret_ans (A := ⟨true, 0, 0, N⟩) Try.results12 FIN.out.1 rfl rfl rfl (by rw [HS.out]; exact FIN.out.2)
    | some i =>
      obtain ⟨_, g, hgi, _⟩ := nAhead_some _ (Nat.le_refl _) ho
      have HS := hidq (HST.out.2 i g ho hgi)
      rw [ho] at hA0
      have hA : Calls Try.prog 18 #[.agg #[.int .i64 (n : Int), .slice ga c gc, .slice oa n oc], .pointer (some ⟨fb, 0, none⟩)] Wz fun e w' => e = .returned (.tuple #[.int .i64 (i : Int), .bool true]) ∧ Below Wz.heap.size Wz w' := hA0
      have HA := hidq hA
      have HG := hidq hgi
      clear hA hA0 ho HST hgi
      refine HA.out.mono ?_
      rintro e w3 ⟨rfl, hb3⟩
      clear HA
      obtain ⟨hbz, hMz, hFz, hplz, hNz, hAz, hflz, hc5, hc6⟩ := HZ.out
      have hNb3 := hNz.below hb3
      have n30 := (hNb3.get 0 _ rfl).1
      have n31 := (hNb3.get 1 _ rfl).1
      have n32 := (hNb3.get 2 _ rfl).1
      have hnl3 := hNb3.lt
      have hL := hidq (npass_any n c gc oc ga oa D G Os w3 b fb i O P M _ g (hplz.below hb3) HDD.out (hMz.below hb3) (hFz.below hb3) HO.out.2.2.1 HK.out.1 HK.out.2.1 HG.out hc)
      have HY := hidq (And.intro (hbz.then (But.of_below (S := fun _ => False) hb3) (fun _ _ e => False.elim e)) (And.intro (hAz.below hb3) hb3.size))
      clear hbz hMz hFz hplz hNz hAz hflz hc5 hc6 hNb3 hb3 HZ z0 z1 z2 hzl
      generalize hF5 : ({ F with pc := ((i + 1 : Nat) : Int), at_ := (((if (M.cell i).n % 2 = 0 then g.1 else g.2) : Nat) : Int) } : Fr) = F5 at *
      have HL2 := hL
      clear hL hF5
      go_wp2_with fail
      refine HL2.out.mono ?_
      rintro e w4 ⟨rfl, O4, P4, hM4, hF4, hd4, hG4, hGP4, hb4⟩
      obtain ⟨hb03, hA3, hs3⟩ := HY.out
      obtain ⟨hOl, hPl, hd, hPf, hnb, hzs⟩ := HO.out
      have haO : ¬ O (nb + 1) := fun e => by have := hOl _ e; omega
      have haP : ¬ P (nb + 1) := fun e => by have := hPl _ e; omega
      have hs4 := hb4.size
      have hA4 := hA3.but hb4 (fun e => e.elim haO haP)
      obtain ⟨g0, x0⟩ := hA4.get 0 _ rfl
      obtain ⟨g1, x1⟩ := hA4.get 1 _ rfl
      obtain ⟨g2, x2⟩ := hA4.get 2 _ rfl
      obtain ⟨g3, x3⟩ := hA4.get 3 _ rfl
      have hal := hA4.lt
      have FIN := hidq (stepEnd_fr (A := Ans.zero) (d := false) (F' := F5) [] hM4 (fun k hk => (hG4 k hk).imp id (fun e => ⟨by omega, e.2⟩)) hF4 (fun k hk => (hGP4 k hk).imp id (fun e => ⟨by omega, e.2⟩)) hd4 (hb03.then hb4 (fun j _ e => e)) hPf hA4 (by omega) (fun e => by
        rcases hG4 _ e with q | q
        · exact haO q
        · omega) (fun e => by
        rcases hGP4 _ e with q | q
        · exact haP q
        · omega) (fun _ _ _ _ => rfl) rfl rfl)
      clear hb03 hA3 hs3 hOl hPl hd hPf hnb hzs haO haP hs4 hA4 hd4 hM4 hF4 hG4 hGP4 hb4 HY HO HL2 HK n30 n31 n32
      go_wp2_with fail
      exact ret_ans (A := Ans.zero) Try.results12 FIN.out.1 rfl rfl rfl (by rw [HS.out]; exact FIN.out.2)
  · have hv2 : F.at_ = (v : Int) := by rw [← hv]; unfold nWire; rw [if_neg (by omega)]; omega
    rw [hv2] at f6
    have hp2 : ((p : Int) == 0) = false := by simp; omega
    have hp3 : (p == 0) = false := by simpa using hz
    have hF2 : ({ F with at_ := (v : Int) } : Fr) = F := by rw [← hv2]
    have HZ := hidq (And.intro (show But (fun k => O k ∨ P k) w W1 from But.of_below hb1) (And.intro hM1 (And.intro (show FrAt W1 fb P { F with at_ := (v : Int) } from by rw [hF2]; exact hf1) (And.intro hpl1 (And.intro hN1 (And.intro hA1 (And.intro hfl1 (And.intro f5 f6))))))))
    have z0 := (hN1.get 0 _ rfl).1
    have z1 := (hN1.get 1 _ rfl).1
    have z2 := (hN1.get 2 _ rfl).1
    have hzl := hN1.lt
    replace HO := hidq (And.intro h.lt (And.intro hf.lt (And.intro hd (And.intro hf.ob (And.intro hnb (show nb + 2 ≤ W1.heap.size by omega))))))
    clear hpl hdd h hf hd hk hp0 hp1 ha0 ha1 hp hv hf1 hM1 hpl1 hB hN1 hA1 hb1 hs1 f3 hv2 hF2 y6
    generalize W1 = Wz at *
    go_enter Try.func12, Try.ntmps12
    go_wp2_with fail
    try rw [hW1']
    clear hW1' f0 f5 f6 hfl1 hnb

    have hA0 := ahead_any n c gc oc ga oa D G Os Wz fb p v HZ.out.2.2.2.1 HZ.out.2.2.2.2.2.2.1 HZ.out.2.2.2.2.2.2.2.1 HZ.out.2.2.2.2.2.2.2.2 hpc hc
    cases ho : nAhead G p v with
    | none =>
      have HS := hidq (HST.out.1 ho)
      rw [ho] at hA0
      have hA : Calls Try.prog 18 #[.agg #[.int .i64 (n : Int), .slice ga c gc, .slice oa n oc], .pointer (some ⟨fb, 0, none⟩)] Wz fun e w' => e = .returned (.tuple #[.int .i64 0, .bool false]) ∧ Below Wz.heap.size Wz w' := hA0
      have HA := hidq hA
      clear hA hA0 ho HST
      refine HA.out.mono ?_
      rintro e w3 ⟨rfl, hb3⟩
      clear HA
      obtain ⟨hbz, hMz, hFz, hplz, hNz, hAz, hflz, hc5, hc6⟩ := HZ.out
      have hNb3 := hNz.below hb3
      have n30 := (hNb3.get 0 _ rfl).1
      have n31 := (hNb3.get 1 _ rfl).1
      have n32 := (hNb3.get 2 _ rfl).1
      have hnl3 := hNb3.lt
      have hL := hidq (nleave_any n c gc oc ga oa D G Os w3 b fb v pl O M (hplz.below hb3) (hMz.below hb3) (Nat.lt_of_lt_of_le hflz hb3.size) ((hb3.cell (p := ⟨fb, 6, none⟩) hflz).trans hc6) HK.out.1 HK.out.2.1 hc hn16 HK.out.2.2.1 HK.out.2.2.2)
      have HY := hidq (And.intro (hbz.then (But.of_below (S := fun _ => False) hb3) (fun _ _ e => False.elim e)) (And.intro (hFz.below hb3) (And.intro (hAz.below hb3) hb3.size)))
      clear hbz hMz hFz hplz hNz hAz hflz hc5 hc6 hNb3 hb3 HZ z0 z1 z2 hzl
      go_wp2_with fail
      refine hL.out.mono ?_
      rintro e w4 ⟨rfl, O4, hM4, hG4, hb4⟩
      obtain ⟨hb03, hF3, hA3, hs3⟩ := HY.out
      obtain ⟨hOl, hPl, hd, hPf, hnb, hzs⟩ := HO.out
      have haO : ¬ O (nb + 1) := fun e => by have := hOl _ e; omega
      have haP : ¬ P (nb + 1) := fun e => by have := hPl _ e; omega
      have hs4 := hb4.size
      have hA4 := hA3.but hb4 haO
      obtain ⟨g0, x0⟩ := hA4.get 0 _ rfl
      obtain ⟨g1, x1⟩ := hA4.get 1 _ rfl
      obtain ⟨g2, x2⟩ := hA4.get 2 _ rfl
      obtain ⟨g3, x3⟩ := hA4.get 3 _ rfl
      have hal := hA4.lt
      have hd4 : ∀ k, O4 k → ¬ P k := fun k hk e => by
        rcases hG4 k hk with q | q
        · exact hd k q e
        · have := hPl k e; omega
      have FIN := hidq (stepEnd_fr (A := ⟨true, 0, 0, (pl : Int) + (n : Int) * (M.cell (c + pl)).n⟩) (d := true) (F' := { F with at_ := (v : Int) }) [] hM4 (fun k hk => (hG4 k hk).imp id (fun e => ⟨by omega, e.2⟩)) (hF3.but hb4 (fun k hk e => hd k e hk)) (Grown.refl _ w w4) hd4 (hb03.then hb4 (fun j _ e => .inl e)) hPf hA4 (by omega) (fun e => by
        rcases hG4 _ e with q | q
        · exact haO q
        · omega) haP (fun _ _ _ _ => rfl) rfl rfl)
      generalize (pl : Int) + (n : Int) * (M.cell (c + pl)).n = N at *
      clear hb03 hF3 hA3 hs3 hOl hPl hd hPf hnb hzs haO haP hs4 hA4 hd4 hM4 hG4 hb4 HY HO hL HK n30 n31 n32
      go_wp2_with fail
      exact ret_ans (A := ⟨true, 0, 0, N⟩) Try.results12 FIN.out.1 rfl rfl rfl (by rw [HS.out]; exact FIN.out.2)
    | some i =>
      obtain ⟨_, g, hgi, _⟩ := nAhead_some _ (Nat.le_refl _) ho
      have HS := hidq (HST.out.2 i g ho hgi)
      rw [ho] at hA0
      have hA : Calls Try.prog 18 #[.agg #[.int .i64 (n : Int), .slice ga c gc, .slice oa n oc], .pointer (some ⟨fb, 0, none⟩)] Wz fun e w' => e = .returned (.tuple #[.int .i64 (i : Int), .bool true]) ∧ Below Wz.heap.size Wz w' := hA0
      have HA := hidq hA
      have HG := hidq hgi
      clear hA hA0 ho HST hgi
      refine HA.out.mono ?_
      rintro e w3 ⟨rfl, hb3⟩
      clear HA
      obtain ⟨hbz, hMz, hFz, hplz, hNz, hAz, hflz, hc5, hc6⟩ := HZ.out
      have hNb3 := hNz.below hb3
      have n30 := (hNb3.get 0 _ rfl).1
      have n31 := (hNb3.get 1 _ rfl).1
      have n32 := (hNb3.get 2 _ rfl).1
      have hnl3 := hNb3.lt
      have hL := hidq (npass_any n c gc oc ga oa D G Os w3 b fb i O P M _ g (hplz.below hb3) HDD.out (hMz.below hb3) (hFz.below hb3) HO.out.2.2.1 HK.out.1 HK.out.2.1 HG.out hc)
      have HY := hidq (And.intro (hbz.then (But.of_below (S := fun _ => False) hb3) (fun _ _ e => False.elim e)) (And.intro (hAz.below hb3) hb3.size))
      clear hbz hMz hFz hplz hNz hAz hflz hc5 hc6 hNb3 hb3 HZ z0 z1 z2 hzl
      generalize hF5 : ({ F with pc := ((i + 1 : Nat) : Int), at_ := (((if (M.cell i).n % 2 = 0 then g.1 else g.2) : Nat) : Int) } : Fr) = F5 at *
      have HL2 := hL
      clear hL hF5
      go_wp2_with fail
      refine HL2.out.mono ?_
      rintro e w4 ⟨rfl, O4, P4, hM4, hF4, hd4, hG4, hGP4, hb4⟩
      obtain ⟨hb03, hA3, hs3⟩ := HY.out
      obtain ⟨hOl, hPl, hd, hPf, hnb, hzs⟩ := HO.out
      have haO : ¬ O (nb + 1) := fun e => by have := hOl _ e; omega
      have haP : ¬ P (nb + 1) := fun e => by have := hPl _ e; omega
      have hs4 := hb4.size
      have hA4 := hA3.but hb4 (fun e => e.elim haO haP)
      obtain ⟨g0, x0⟩ := hA4.get 0 _ rfl
      obtain ⟨g1, x1⟩ := hA4.get 1 _ rfl
      obtain ⟨g2, x2⟩ := hA4.get 2 _ rfl
      obtain ⟨g3, x3⟩ := hA4.get 3 _ rfl
      have hal := hA4.lt
      have FIN := hidq (stepEnd_fr (A := Ans.zero) (d := false) (F' := F5) [] hM4 (fun k hk => (hG4 k hk).imp id (fun e => ⟨by omega, e.2⟩)) hF4 (fun k hk => (hGP4 k hk).imp id (fun e => ⟨by omega, e.2⟩)) hd4 (hb03.then hb4 (fun j _ e => e)) hPf hA4 (by omega) (fun e => by
        rcases hG4 _ e with q | q
        · exact haO q
        · omega) (fun e => by
        rcases hGP4 _ e with q | q
        · exact haP q
        · omega) (fun _ _ _ _ => rfl) rfl rfl)
      clear hb03 hA3 hs3 hOl hPl hd hPf hnb hzs haO haP hs4 hA4 hd4 hM4 hF4 hG4 hGP4 hb4 HY HO HL2 HK n30 n31 n32
      go_wp2_with fail
      exact ret_ans (A := Ans.zero) Try.results12 FIN.out.1 rfl rfl rfl (by rw [HS.out]; exact FIN.out.2)
end Go.Proofs.Ytodplkllaopciaa

namespace Go.Proofs.Ytodplkllaopciaa
open Go.RowKit Go.Sort

set_option maxRecDepth 20000 in
set_option maxHeartbeats 4000000 in
theorem nnew_ok (d n : Nat) (hd : d ≤ 4) (hn : n = 2 ^ d) (w : World) : Calls Try.prog 6 #[.int .i64 (n : Int)] w (MakeNew d n w) := by
  obtain ⟨rb, hrb⟩ : ∃ rb, w.heap.size = rb := ⟨_, rfl⟩
  obtain ⟨W0, hW0⟩ : ∃ W0, w.alloc (.cells #[.int .i64 0, .slice none 0 0, .slice none 0 0] 28) = W0 := ⟨_, rfl⟩
  have hB0 := BoxAt.new w [.int .i64 0, .slice none 0 0, .slice none 0 0] 28
  rw [show w.alloc (.cells [.int .i64 0, .slice none 0 0, .slice none 0 0].toArray 28) = W0 from hW0, hrb] at hB0
  have hb0 : Below w.heap.size w W0 := by rw [← hW0]; exact (Below.refl _ _).alloc (Nat.le_refl _) _
  have hM := hidq (make_new d n hd hn W0)
  have H0 := hidq (And.intro hB0 hb0)
  clear hB0 hb0 hd hn
  go_enter Try.func6, Try.ntmps6
  go_wp2_with fail
  refine hM.out.mono ?_
  rintro e w1 ⟨ga, gc, oa, oc, rfl, hS, hN, hf1, hf2, hb1⟩
  obtain ⟨hB0, hb0⟩ := H0.out
  obtain ⟨W2, hW2⟩ : ∃ W2, w1.alloc (.cells #[.int .i64 (n : Int), .slice ga (cg d) gc, .slice oa n oc] 26) = W2 := ⟨_, rfl⟩
  have hB2 := BoxAt.new w1 [.int .i64 (n : Int), .slice ga (cg d) gc, .slice oa n oc] 26
  rw [show w1.alloc (.cells [.int .i64 (n : Int), .slice ga (cg d) gc, .slice oa n oc].toArray 26) = W2 from hW2] at hB2
  have hb2 : Below w1.heap.size w1 W2 := by rw [← hW2]; exact (Below.refl _ _).alloc (Nat.le_refl _) _
  have hR2 := (hB0.below hb1).below hb2
  have hb02 : Below w.heap.size w W2 := (hb0.trans (hb1.mono hb0.size)).trans (hb2.mono (by have := hb0.size; have := hb1.size; omega))
  have p0 := (hB2.get 0 _ rfl).1
  have p1 := (hB2.get 1 _ rfl).1
  have p2 := (hB2.get 2 _ rfl).1
  have hpl := hB2.lt
  obtain ⟨r0, y0⟩ := hR2.get 0 _ rfl
  obtain ⟨r1, y1⟩ := hR2.get 1 _ rfl
  obtain ⟨r2, y2⟩ := hR2.get 2 _ rfl
  have hrl := hR2.lt
  have hR3 := setBox_box [(0, .int .i64 (n : Int)), (1, .slice ga (cg d) gc), (2, .slice oa n oc)] hR2
  have hb3 := setBox_but rb [(0, .int .i64 (n : Int)), (1, .slice ga (cg d) gc), (2, .slice oa n oc)] W2
  have HE := hidq (show MakeNew d n w (.returned (.tuple #[.agg #[.int .i64 (n : Int), .slice ga (cg d) gc, .slice oa n oc], .int .i64 0])) (setBox W2 rb [(0, .int .i64 (n : Int)), (1, .slice ga (cg d) gc), (2, .slice oa n oc)]) from by
    have hs0 := hB0.lt
    have hs01 := hb0.size
    refine ⟨ga, gc, oa, oc, rfl, (hS.below hb2).but hb3 (fun j hj e => ?_), fun i v hv => ?_, fun j hj => ?_, fun j hj => ?_, hb02.trans (hb3.below hb02.size (fun j e => by omega))⟩
    · have := hf1 j hj; omega
    · obtain ⟨b, off, e1, e2, _, e4⟩ := (hN.below hb2) i v hv
      have := hf2 b ⟨_, e1, rfl⟩
      exact ⟨b, off, e1, Nat.lt_of_lt_of_le e2 hb3.size, id, by rw [hb3.cell (p := ⟨b, off + i, none⟩) e2 (show ¬ b = rb by omega)]; exact e4⟩
    · have := hf1 j hj; omega
    · have := hf2 j hj; omega)
  have q0 := (hR3.get 0 _ rfl).1
  have q1 := (hR3.get 1 _ rfl).1
  have q2 := (hR3.get 2 _ rfl).1
  dsimp only [setBox] at q0 q1 q2
  clear hS hN hf1 hf2 hb1 hB0 hb0 hB2 hb2 hR2 hb02 hR3 hb3 H0 hM
  go_wp2_with fail
  exact bodyPost_ret (v := .tuple #[.agg #[.int .i64 (n : Int), .slice ga (cg d) gc, .slice oa n oc], .int .i64 0]) (by simp [results, Try.results6, go_sem, q0, q1, q2]) rfl HE.out

set_option maxRecDepth 20000 in
set_option maxHeartbeats 4000000 in
theorem nnew_no (p : Int) (w : World) (h : legal 4 p = 5) : Calls Try.prog 6 #[.int .i64 p] w fun e w' => e = .returned (.tuple #[.agg #[.int .i64 0, .slice none 0 0, .slice none 0 0], .int .i64 5]) ∧ Below w.heap.size w w' := by
  obtain ⟨rb, hrb⟩ : ∃ rb, w.heap.size = rb := ⟨_, rfl⟩
  obtain ⟨W0, hW0⟩ : ∃ W0, w.alloc (.cells #[.int .i64 0, .slice none 0 0, .slice none 0 0] 28) = W0 := ⟨_, rfl⟩
  have hB0 := BoxAt.new w [.int .i64 0, .slice none 0 0, .slice none 0 0] 28
  rw [show w.alloc (.cells [.int .i64 0, .slice none 0 0, .slice none 0 0].toArray 28) = W0 from hW0, hrb] at hB0
  have hb0 : Below w.heap.size w W0 := by rw [← hW0]; exact (Below.refl _ _).alloc (Nat.le_refl _) _
  have hM := hidq (make_no p W0 h)
  have H0 := hidq (And.intro hB0 hb0)
  clear hB0 hb0 h
  go_enter Try.func6, Try.ntmps6
  go_wp2_with fail
  refine hM.out.mono ?_
  rintro e w1 ⟨rfl, hb1⟩
  obtain ⟨hB0, hb0⟩ := H0.out
  obtain ⟨W2, hW2⟩ : ∃ W2, w1.alloc (.cells #[.int .i64 0, .slice none 0 0, .slice none 0 0] 26) = W2 := ⟨_, rfl⟩
  have hb2 : Below w1.heap.size w1 W2 := by rw [← hW2]; exact (Below.refl _ _).alloc (Nat.le_refl _) _
  have hR2 := (hB0.below hb1).below hb2
  have hb02 : Below w.heap.size w W2 := (hb0.trans (hb1.mono hb0.size)).trans (hb2.mono (by have := hb0.size; have := hb1.size; omega))
  obtain ⟨r0, y0⟩ := hR2.get 0 _ rfl
  obtain ⟨r1, y1⟩ := hR2.get 1 _ rfl
  obtain ⟨r2, y2⟩ := hR2.get 2 _ rfl
  have hrl := hR2.lt
  obtain ⟨W3, hW3⟩ : ∃ W3, W2.setCells rb 0 [.int .i64 0, .slice none 0 0, .slice none 0 0] = W3 := ⟨_, rfl⟩
  have hB3 : BoxAt W3 rb [.int .i64 0, .slice none 0 0, .slice none 0 0] := by rw [← hW3]; exact box_cells (cs := [.int .i64 0, .slice none 0 0, .slice none 0 0]) hR2 rfl
  have hb3 : But (fun j => j = rb) W2 W3 := by rw [← hW3]; exact but_setCells _ _ _ _ _ (But.refl _ _)
  have q0 := (hB3.get 0 _ rfl).1
  have q1 := (hB3.get 1 _ rfl).1
  have q2 := (hB3.get 2 _ rfl).1
  have HE := hidq (hb02.trans (hb3.below hb02.size (fun j e => by omega)))
  subst hW2
  have HW3 := hidq hW3
  clear hb1 hB0 hb0 hb2 hR2 hb02 hB3 hb3 H0 hM hW3
  go_wp2_with fail
  have hW3' := HW3.out
  simp only [World.setCells, Nat.zero_add, Nat.reduceAdd] at hW3'
  rw [hW3']
  exact bodyPost_ret (v := .tuple #[.agg #[.int .i64 0, .slice none 0 0, .slice none 0 0], .int .i64 5]) (by simp [results, Try.results6, go_sem, q0, q1, q2]) rfl ⟨rfl, HE.out⟩

/-- What holds of a plan that is made. -/
theorem net_facts (d n : Nat) (hd : d ≤ 4) (hn : n = 2 ^ d) : (Wr.count d (List.range n)).1.length = cg d ∧ (Wr.count d (List.range n)).2.length = n ∧ (∀ g ∈ (Wr.count d (List.range n)).1, g.1 ≠ g.2 ∧ g.1 < n ∧ g.2 < n) ∧ (Wr.count d (List.range n)).2.Nodup ∧ (∀ v, v < n → v ∈ (Wr.count d (List.range n)).2) ∧ (∀ s, Wr.Ev (Wr.run (Wr.count d (List.range n)).1 s) n (Wr.count d (List.range n)).2 (Wr.sum s (List.range n))) ∧ cg d + 1 ≤ 100 ∧ 1 ≤ n ∧ n ≤ 16 := by
  obtain ⟨_, h1, h16⟩ := legal_pow hd hn
  obtain ⟨pf1, pf2, _, _⟩ := plan_facts d hd
  have hcgl := count_gates d (List.range (2 ^ d)) (by simp)
  have houl := Wr.count_length d (List.range (2 ^ d)) (by simp)
  have hev := fun s => Wr.count_even d (List.range (2 ^ d)) s List.nodup_range (by simp)
  have hpm := Wr.count_perm d (List.range (2 ^ d)) (by simp)
  rw [← hn] at pf1 pf2 hcgl houl hev hpm
  refine ⟨hcgl, houl, pf1, pf2, fun v hv => hpm.mem_iff.2 (List.mem_range.2 hv), hev, ?_, h1, h16⟩
  have : d = 0 ∨ d = 1 ∨ d = 2 ∨ d = 3 ∨ d = 4 := by omega
  rcases this with rfl | rfl | rfl | rfl | rfl <;> decide
/-- A width, its gates, its places. -/
structure PF (n c : Nat) (G : List (Nat × Nat)) (Os : List Nat) : Prop where
  ex : ∃ d, d ≤ 4 ∧ n = 2 ^ d ∧ c = cg d ∧ G = (Wr.count d (List.range n)).1 ∧ Os = (Wr.count d (List.range n)).2
/-- How a Net is made. -/
def NewEnd (n c : Nat) (G : List (Nat × Nat)) (Os : List Nat) (w : World) (e : Ending) (w' : World) : Prop :=
  ∃ ga gc oa oc, e = .returned (.tuple #[.agg #[.int .i64 (n : Int), .slice ga c gc, .slice oa n oc], .int .i64 0]) ∧ NP w' (fun j => j < w'.heap.size) ga gc c oa n G Os ∧ Below w.heap.size w w'
theorem nnew_any (d n : Nat) (hd : d ≤ 4) (hn : n = 2 ^ d) : ∃ c G Os, PF n c G Os ∧ ∀ w : World, Calls Try.prog 6 #[.int .i64 (n : Int)] w (NewEnd n c G Os w) := by
  refine ⟨cg d, _, _, ⟨d, hd, hn, rfl, rfl, rfl⟩, fun w => (nnew_ok d n hd hn w).mono ?_⟩
  rintro e w' ⟨ga, gc, oa, oc, rfl, hS, hN, _, _, hb⟩
  obtain ⟨f1, f2, _, _, _, _, _, f7, _⟩ := net_facts d n hd hn
  refine ⟨ga, gc, oa, oc, rfl, ⟨hS, hN, hS.lt, fun j hj => ?_, fun j hj => hj, f1, f2⟩, hb⟩
  obtain ⟨b, off, e1, e2, _⟩ := hN 0 _ (List.getElem?_eq_getElem (by omega))
  obtain ⟨x, hx, rfl⟩ := hj
  rw [e1] at hx; cases hx
  exact e2
theorem PF.le {n c : Nat} {G : List (Nat × Nat)} {Os : List Nat} (h : PF n c G Os) : 1 ≤ n ∧ n ≤ 16 ∧ c + 1 ≤ 100 := by
  obtain ⟨d, hd, hn, hc, _, _⟩ := h.ex
  obtain ⟨_, _, _, _, _, _, f7, f8, f9⟩ := net_facts d n hd hn
  omega
/-- A token alone. -/
theorem next_any (n c gc oc : Nat) (ga oa : Option Addr) (D : Nat → Prop) (G : List (Nat × Nat)) (Os : List Nat) (hP : PF n c G Os) (b i f : Nat) (M : Mem) (d0 d1 : Int) (hf : c + 1 ≤ f) (hf100 : f ≤ 100) (hi : i ≤ 1000) (h : NI n c G i M) :
    ∃ M', NI n c G (i + 1) M' ∧ ∀ (O : Nat → Prop) (w : World), NP w D ga gc c oa n G Os → (∀ k, D k → ¬ O k) → MemAt w b O M →
      Calls Try.prog 9 #[.iface 28 (.agg #[.int .i64 (n : Int), .slice ga c gc, .slice oa n oc]), .pointer (some ⟨b, 0, none⟩), .agg #[.int .i64 7, .float .f64 0, .int .i64 0, .int .i64 d0, .int .i64 d1], .int .i64 (f : Int)] w fun e w' =>
        e = .returned (.tuple #[.agg #[.bool true, .float .f64 0, .int .i64 0, .int .i64 (i : Int)], .bool true]) ∧ ∃ O', MemAt w' b O' M' ∧ Grown O w w' O' ∧ But O w w' := by
  obtain ⟨d, hd, hn, hc, hG, hO⟩ := hP.ex
  obtain ⟨f1, f2, f3, f4, f5, f6, f7, f8, f9⟩ := net_facts d n hd hn
  rw [← hG] at f1 f3 f6
  rw [← hO] at f2 f4 f5 f6
  rw [← hc] at f1 f7
  obtain ⟨M', e1, e2⟩ := h.next f d0 d1 f1 hf hf100 f8 f2 f4 f3 f6
  refine ⟨M', e2, fun O w hpl hdo hM => ?_⟩
  obtain ⟨s, hC, hE, hs, hok, hck⟩ := h
  have := aloneN_any n c gc oc ga oa D _ _ (nstep_is n c gc oc ga oa D G Os (by omega) f8 f9 f5) (nFine (n := n) _ f1 (fun g hg => (f3 g hg).2)) b O M 7 0 0 d0 d1 (f : Int) w hpl hdo hM ⟨rfl, Int.le_refl _, by show (0 : Int) ≤ _; omega, Int.le_refl _, by show (0 : Int) < _; omega, hok⟩ (by omega) (by omega)
  rw [show (f : Int).toNat = f by omega, e1] at this
  exact this
end Go.Proofs.Ytodplkllaopciaa

namespace Go.Proofs.Ytodplkllaopciaa
open Go.RowKit Go.Sort

theorem run_equalIn_flt {P : Program} (d : Nat) (t : TypeId) (a b : Nat) (w : World) (h : P.underlying t = some (.float .f64)) : (Op.equalIn (d + 1) t (.float .f64 a) (.float .f64 b)).run P w = .ok (Op.floatEq .f64 a b) w := by
  simp [Op.equalIn, run_underlying h]

/-- A Net in its box, its plan, a memory beside it. -/
structure NSt (w W : World) (sb : Nat) (n c gc oc : Nat) (ga oa : Option Addr) (G : List (Nat × Nat)) (Os : List Nat) (L0 mb : Nat) (O : Nat → Prop) (M : Mem) : Prop where
  st : St w W sb [.int .i64 (n : Int), .slice ga c gc, .slice oa n oc] mb O M
  np : NP W (fun j => j < L0) ga gc c oa n G Os
  up : ∀ k, O k → L0 ≤ k
section
variable {w W W' : World} {sb n c gc oc : Nat} {ga oa : Option Addr} {G : List (Nat × Nat)} {Os : List Nat} {L0 mb : Nat} {O O' : Nat → Prop} {M M' : Mem}
theorem NSt.call (h : NSt w W sb n c gc oc ga oa G Os L0 mb O M) (h1 : MemAt W' mb O' M') (h2 : Grown O W W' O') (h3 : But O W W') : NSt w W' sb n c gc oc ga oa G Os L0 mb O' M' := by
  refine ⟨h.st.call h1 h2 h3, h.np.but h3 (fun k hk e => by have := h.up k e; omega), fun k hk => ?_⟩
  rcases h2 k hk with e | e
  · exact h.up k e
  · have := h.up mb h.st.mem.ob
    have := h.st.mem.lt mb h.st.mem.ob
    omega
theorem NSt.below (h : NSt w W sb n c gc oc ga oa G Os L0 mb O M) (hb : Below W.heap.size W W') : NSt w W' sb n c gc oc ga oa G Os L0 mb O M :=
  ⟨h.st.below hb, h.np.below hb, h.up⟩
theorem NSt.apart (h : NSt w W sb n c gc oc ga oa G Os L0 mb O M) : ∀ k, k < L0 → ¬ O k := fun k hk e => by have := h.up k e; omega
theorem NSt.alloc (h : NSt w W sb n c gc oc ga oa G Os L0 mb O M) (o : Obj) : NSt w (W.alloc o) sb n c gc oc ga oa G Os L0 mb O M := h.below ((Below.refl _ _).alloc (Nat.le_refl _) o)
end

set_option maxRecDepth 20000 in
set_option maxHeartbeats 8000000 in
theorem awake11_any (w : World) : Calls Try.prog 5 #[] w fun e w' => e = .returned (.bool true) ∧ Below w.heap.size w w' := by
  obtain ⟨c, G, Os, hP, hN⟩ := nnew_any 2 4 (by decide) rfl
  have hc6 : c = 6 := by
    obtain ⟨d, hd, hn, hc, _⟩ := hP.ex
    have : d = 0 ∨ d = 1 ∨ d = 2 ∨ d = 3 ∨ d = 4 := by omega
    rcases this with rfl | rfl | rfl | rfl | rfl
    · cases hn
    · cases hn
    · rw [hc]; decide
    · cases hn
    · cases hn
  have hN4 : Calls Try.prog 6 #[.int .i64 4] w (NewEnd 4 c G Os w) := hN w
  obtain ⟨n, hn⟩ : ∃ n : Nat, n = 4 := ⟨_, rfl⟩
  rw [← hn] at hP
  have hN4' : Calls Try.prog 6 #[.int .i64 4] w (NewEnd n c G Os w) := by rw [hn]; exact hN4
  have hN3 := fun w => nnew_no 3 w (by decide)
  have hO : ∀ ga gc oa oc w, Calls Try.prog 15 #[.agg #[.int .i64 (n : Int), .slice ga c gc, .slice oa n oc], .int .i64 2] w fun e w' => e = .returned (.int .i64 8) ∧ Below w.heap.size w w' := fun ga gc oa oc w => by
    have := nout_any n c gc oc ga oa 2 (by omega) (by decide) w
    rw [hc6] at this ⊢
    exact this
  have hef := fun d a b w => run_equalIn_flt (P := Try.prog) d 35 a b w Try.underlying35
  have hq0 : Op.floatEq .f64 0 0 = true := by decide
  have hsf := run_store_flt (P := Try.prog)
  have HN := hidq (And.intro hN4' (And.intro hN3 (And.intro hO (And.intro hP hc6))))
  clear hN hN4 hN4' hN3 hO hP hc6 hn
  go_enter Try.func5, Try.ntmps5
  go_wp2_with fail
  refine HN.out.1.mono ?_
  rintro e w1 ⟨ga, gc, oa, oc, rfl, hNP, hb1⟩
  obtain ⟨sb, hsb⟩ : ∃ sb, w1.heap.size = sb := ⟨_, rfl⟩
  obtain ⟨W1, hW1⟩ : ∃ W1, w1.alloc (.cells #[.int .i64 (n : Int), .slice ga c gc, .slice oa n oc] 28) = W1 := ⟨_, rfl⟩
  have hB1 := BoxAt.new w1 [.int .i64 (n : Int), .slice ga c gc, .slice oa n oc] 28
  rw [show w1.alloc (.cells [.int .i64 (n : Int), .slice ga c gc, .slice oa n oc].toArray 28) = W1 from hW1, hsb] at hB1
  have hbW1 : Below w1.heap.size w1 W1 := by rw [← hW1]; exact (Below.refl _ _).alloc (Nat.le_refl _) _
  have H1 := hidq (And.intro (hNP.below hbW1) (And.intro hB1 (And.intro (hb1.trans (hbW1.mono hb1.size)) (And.intro hb1.size hsb))))
  clear hNP hB1 hbW1 hb1
  go_wp2_with fail
  refine (HN.out.2.1 _).mono ?_
  rintro e w2 ⟨rfl, hb2⟩
  obtain ⟨W2, hW2⟩ : ∃ W2, w2.alloc (.cells #[.int .i64 0, .slice none 0 0, .slice none 0 0] 28) = W2 := ⟨_, rfl⟩
  have hbW2 : Below w2.heap.size w2 W2 := by rw [← hW2]; exact (Below.refl _ _).alloc (Nat.le_refl _) _
  have hb12 : Below W1.heap.size W1 W2 := hb2.trans (hbW2.mono hb2.size)
  have H2 := hidq hb12
  have HW2 := hidq hW2
  clear hb2 hbW2 hb12 hW2 hW1 hsb
  go_wp2_with fail
  try rw [HW2.out]
  clear HW2
  refine (new5_any _).mono ?_
  rintro e w3 ⟨rfl, hM3, hb3⟩
  obtain ⟨mb, hmb⟩ : ∃ mb, W2.heap.size = mb := ⟨_, rfl⟩
  rw [hmb] at hM3 ⊢
  obtain ⟨hNP, hB1, hbw1, hs1, hsb⟩ := H1.out
  have hb13 : Below W1.heap.size W1 w3 := H2.out.trans (hb3.mono H2.out.size)
  have hS3 : NSt w w3 sb n c gc oc ga oa G Os sb mb (fun k => k = mb) Mem.empty := by
    have hs12 := H2.out.size
    have hsW := hbw1.size
    have := hB1.lt
    exact ⟨⟨hM3, fun k e => by omega, hB1.below hb13, hbw1.trans (hb13.mono hbw1.size)⟩, by rw [← hsb]; exact hNP.below hb13, fun k e => by omega⟩
  have r0 := (hS3.st.box.get 0 _ rfl).1
  have r1 := (hS3.st.box.get 1 _ rfl).1
  have r2 := (hS3.st.box.get 2 _ rfl).1
  have hsl := hS3.st.box.lt
  have HS3 := hidq hS3
  clear hS3 hM3 hb3 hNP hB1 hbw1 hs1 hsb hb13 H1 H2 hmb
  go_wp2_with fail
  refine (HN.out.2.2.1 ga gc oa oc _).mono ?_
  rintro e w4 ⟨rfl, hb4⟩
  have HS4 := hidq (HS3.out.below hb4)
  clear hb4 HS3 r0 r1 r2 hsl
  have r0 := (HS4.out.st.box.get 0 _ rfl).1
  have r1 := (HS4.out.st.box.get 1 _ rfl).1
  have r2 := (HS4.out.st.box.get 2 _ rfl).1
  have hsl := HS4.out.st.box.lt
  go_wp2_with fail
  obtain ⟨M1, hI1, hA1⟩ := next_any n c gc oc ga oa (fun j => j < sb) G Os HN.out.2.2.2.1 mb 0 9 Mem.empty 3 0 (by have := HN.out.2.2.2.2; omega) (by decide) (by decide) (NI.start n c G)
  refine (hA1 _ w4 HS4.out.np HS4.out.apart HS4.out.st.mem).mono ?_
  rintro e w5 ⟨rfl, O5, hM5, hG5, hB5⟩
  have HI1 := hidq hI1
  have HS5a := hidq (HS4.out.call hM5 hG5 hB5)
  clear hA1 hI1 hM5 hG5 hB5 HS4 r0 r1 r2 hsl
  obtain ⟨A1, hA1⟩ : ∃ A1, w5.alloc (.cells #[.bool true, .float .f64 0, .int .i64 0, .int .i64 0] 39) = A1 := ⟨_, rfl⟩
  have hBA := BoxAt.new w5 [.bool true, .float .f64 0, .int .i64 0, .int .i64 0] 39
  rw [show w5.alloc (.cells [.bool true, .float .f64 0, .int .i64 0, .int .i64 0].toArray 39) = A1 from hA1] at hBA
  have HS5 := hidq (HS5a.out.alloc (.cells #[.bool true, .float .f64 0, .int .i64 0, .int .i64 0] 39))
  rw [hA1] at HS5
  obtain ⟨ab, hab⟩ : ∃ ab, w5.heap.size = ab := ⟨_, rfl⟩
  rw [hab] at hBA
  have habs : mb < ab := by rw [← hab]; exact HS5a.out.st.mem.lt _ HS5a.out.st.mem.ob
  have r0 := (HS5.out.st.box.get 0 _ rfl).1
  have r1 := (HS5.out.st.box.get 1 _ rfl).1
  have r2 := (HS5.out.st.box.get 2 _ rfl).1
  have hsl := HS5.out.st.box.lt
  have HBA := hidq (And.intro hBA (show ¬ O5 ab from fun e => by have := HS5a.out.st.mem.lt _ e; omega))
  clear hBA HS5a
  subst hA1
  subst hab
  go_wp2_with fail
  obtain ⟨M2, hI2, hA2⟩ := next_any n c gc oc ga oa (fun j => j < sb) G Os HN.out.2.2.2.1 mb 1 9 M1 3 0 (by have := HN.out.2.2.2.2; omega) (by decide) (by decide) HI1.out
  refine (hA2 _ _ HS5.out.np HS5.out.apart HS5.out.st.mem).mono ?_
  rintro e w6 ⟨rfl, O6, hM6, hG6, hB6⟩
  have HS6 := hidq (HS5.out.call hM6 hG6 hB6)
  have hB6a := HBA.out.1.but hB6 HBA.out.2
  obtain ⟨A2, hA2'⟩ : ∃ A2, w6.alloc (.cells #[.bool true, .float .f64 0, .int .i64 0, .int .i64 1] 39) = A2 := ⟨_, rfl⟩
  have hBB := BoxAt.new w6 [.bool true, .float .f64 0, .int .i64 0, .int .i64 1] 39
  rw [show w6.alloc (.cells [.bool true, .float .f64 0, .int .i64 0, .int .i64 1].toArray 39) = A2 from hA2'] at hBB
  have hbA2 : Below w6.heap.size w6 A2 := by rw [← hA2']; exact (Below.refl _ _).alloc (Nat.le_refl _) _
  have g3 := ((hB6a.below hbA2).get 3 _ rfl).1
  have hgl := (hB6a.below hbA2).lt
  have HB := hidq (HS6.out.below hbA2).st.low
  have b0 := (hBB.get 0 _ rfl).1
  have b1 := (hBB.get 1 _ rfl).1
  have b2 := (hBB.get 2 _ rfl).1
  have b3 := (hBB.get 3 _ rfl).1
  have hbl := hBB.lt
  clear hA2 hI2 hM6 hG6 hB6 HS5 HS6 r0 r1 r2 hsl hB6a hBB hbA2 HBA HN HI1 habs
  subst hA2'
  go_wp2
  go_ret
  exact ⟨rfl, HB.out⟩
end Go.Proofs.Ytodplkllaopciaa

namespace Go.Proofs.Ytodplkllaopciaa
open Go.RowKit Go.Sort
namespace Ar

theorem getD_false {L : Array Bool} {i : Nat} (h : L.getD i true = false) : L.getD i false = false := by
  rw [Array.getD_eq_getD_getElem?] at *
  cases e : L[i]? with
  | none => simp
  | some b => rw [e] at h; simpa using h
theorem getD_set_ne {L : Array Bool} {k j : Nat} (h : j ≠ k) : (L.setIfInBounds k true).getD j false = L.getD j false := by
  rw [Array.getD_eq_getD_getElem?, Array.getD_eq_getD_getElem?, Array.getElem?_setIfInBounds, if_neg (fun e => h e.symm)]
theorem getD_set_same {L : Array Bool} {k : Nat} (h : L.getD k true = false) : (L.setIfInBounds k true).getD k false = true := by
  have hk : k < L.size := by
    rcases Nat.lt_or_ge k L.size with e | e
    · exact e
    · rw [Array.getD_eq_getD_getElem?, Array.getElem?_eq_none e] at h; cases h
  rw [Array.getD_eq_getD_getElem?, Array.getElem?_setIfInBounds, if_pos rfl, if_pos hk]; rfl
theorem out_skip {P : Program} {K : Value → World → Prop} {ev : Operand → Value} {o : Oper} {w w' : World} (hrun : (execOp ev o).run P w = .ok .skip w') (hk : K undef w') : Reg.Outcome P K ((execOp ev o).run P w) := by
  rw [hrun]; exact hk

/-- What the memory owns; where the answer's box lies. -/
abbrev Gh := (Nat → Prop) × Option Nat
def Pres (x : Gh) (_ : World) (x' : Gh) (_ : World) : Prop := ∀ b, x.2 = some b → x'.2 = some b
theorem Pres.refl (x : Gh) (w w' : World) : Pres x w x w' := fun _ h => h

/-- While it goes on: iA is the operation's number, iL the box's, iS the store's. -/
structure GI (w0 wS : World) (OS : Nat → Prop) (sb : Nat) (ls : List Value) (mb : Nat) (M0 M1 : Mem) (A : Ans) (iA iL iS : Nat) (x : Gh) (L : Array Bool) (w : World) : Prop where
  st : St w0 w sb ls mb x.1 (if L.getD iA false = true then M1 else M0)
  no : L.getD iL false = false → x.2 = none
  yes : L.getD iL false = true → ∃ bx, x.2 = some bx
  chg : But OS wS w
  grow : Grown OS wS w x.1
  box : ∀ bx, x.2 = some bx → wS.heap.size ≤ bx ∧ w0.heap.size ≤ bx ∧ ¬ x.1 bx ∧ bx ≠ sb ∧ BoxAt w bx (if L.getD iS false = true then A.l else Ans.zero.l)
section
variable {w0 wS : World} {OS : Nat → Prop} {sb mb iA iL iS : Nat} {ls : List Value} {M0 M1 : Mem} {A : Ans} {x : Gh} {L : Array Bool} {w w' : World} {O : Nat → Prop}
theorem GI.start (h : St w0 w sb ls mb O M0) (n : Nat) : GI w0 w O sb ls mb M0 M1 A iA iL iS (O, none) (Array.replicate n false) w.drew := by
  have hz : ∀ i, (Array.replicate n false).getD i false = false := fun i => by
    rw [Array.getD_eq_getD_getElem?, Array.getElem?_replicate]
    split <;> rfl
  refine ⟨?_, fun _ => rfl, fun e => ?_, (But.refl _ _).drew, Grown.refl _ _ _, fun bx hx => by cases hx⟩
  · rw [hz]; exact h.below (Below.refl _ _).drew
  · rw [hz] at e; cases e
theorem GI.quiet (h : GI w0 wS OS sb ls mb M0 M1 A iA iL iS x L w) (i : Nat) (h1 : iA ≠ i) (h2 : iL ≠ i) (h3 : iS ≠ i) : GI w0 wS OS sb ls mb M0 M1 A iA iL iS x (L.setIfInBounds i true) w := by
  refine ⟨?_, ?_, ?_, h.chg, h.grow, ?_⟩
  · rw [getD_set_ne h1]; exact h.st
  · rw [getD_set_ne h2]; exact h.no
  · rw [getD_set_ne h2]; exact h.yes
  · rw [getD_set_ne h3]; exact h.box
theorem GI.below (h : GI w0 wS OS sb ls mb M0 M1 A iA iL iS x L w) (hb : Below w.heap.size w w') : GI w0 wS OS sb ls mb M0 M1 A iA iL iS x L w' :=
  ⟨h.st.below hb, h.no, h.yes, h.chg.trans (But.of_below hb), fun k hk => (h.grow k hk).imp id (fun q => ⟨q.1, Nat.lt_of_lt_of_le q.2 hb.size⟩), fun bx hx => ⟨(h.box bx hx).1, (h.box bx hx).2.1, (h.box bx hx).2.2.1, (h.box bx hx).2.2.2.1, (h.box bx hx).2.2.2.2.below hb⟩⟩
theorem GI.mem0 (h : GI w0 wS OS sb ls mb M0 M1 A iA iL iS x L w) (hk : L.getD iA true = false) : MemAt w mb x.1 M0 := by
  have := h.st.mem
  rw [getD_false hk] at this
  exact this
theorem GI.call (h : GI w0 wS OS sb ls mb M0 M1 A iA iL iS x L w) (hk : L.getD iA true = false) (h2 : iL ≠ iA) (h3 : iS ≠ iA) {O' : Nat → Prop} (hM : MemAt w' mb O' M1) (hG : Grown x.1 w w' O') (hB : But x.1 w w') :
    GI w0 wS OS sb ls mb M0 M1 A iA iL iS (O', x.2) (L.setIfInBounds iA true) w' := by
  refine ⟨?_, ?_, ?_, h.chg.then hB (fun k hk e => (h.grow k e).elim id (fun q => by omega)), h.grow.trans hG h.chg.size hB.size, ?_⟩
  · rw [getD_set_same hk, if_pos rfl]
    exact h.st.call hM hG hB
  · rw [getD_set_ne h2]; exact h.no
  · rw [getD_set_ne h2]; exact h.yes
  · rw [getD_set_ne h3]
    intro bx hx
    obtain ⟨a0, a, b, c, d⟩ := h.box bx hx
    refine ⟨a0, a, fun e => ?_, c, d.but hB b⟩
    rcases hG bx e with q | q
    · exact b q
    · have := d.lt; omega
theorem GI.alloc (h : GI w0 wS OS sb ls mb M0 M1 A iA iL iS x L w) (hk : L.getD iL true = false) (hS : L.getD iS false = false) (h1 : iA ≠ iL) (h3 : iS ≠ iL) (t : TypeId) :
    GI w0 wS OS sb ls mb M0 M1 A iA iL iS (x.1, some w.heap.size) (L.setIfInBounds iL true) (w.alloc (.cells Ans.zero.l.toArray t)) := by
  refine ⟨?_, ?_, ?_, h.chg.alloc _, fun k hk => (h.grow k hk).imp id (fun q => ⟨q.1, by rw [World.size_alloc]; omega⟩), ?_⟩
  · rw [getD_set_ne h1]; exact h.st.alloc _
  · rw [getD_set_same hk]; intro e; cases e
  · intro _; exact ⟨_, rfl⟩
  · intro bx hx
    cases hx
    rw [getD_set_ne h3, hS]
    refine ⟨h.chg.size, h.st.low.size, fun e => ?_, fun e => ?_, BoxAt.new w Ans.zero.l t⟩
    · have := h.st.mem.lt _ e; omega
    · have := h.st.box.lt; omega
theorem GI.store (h : GI w0 wS OS sb ls mb M0 M1 A iA iL iS x L w) (hk : L.getD iS true = false) (h1 : iA ≠ iS) (h2 : iL ≠ iS) {bx : Nat} (hx : x.2 = some bx) : GI w0 wS OS sb ls mb M0 M1 A iA iL iS x (L.setIfInBounds iS true) (setBox w bx A.s) := by
  obtain ⟨a0, a, b, c, d⟩ := h.box bx hx
  rw [getD_false hk] at d
  have hb := setBox_but bx A.s w
  refine ⟨?_, ?_, ?_, h.chg.then hb (fun k hk e => by omega), fun k hk => (h.grow k hk).imp id (fun q => ⟨q.1, by rw [setBox_size]; exact q.2⟩), ?_⟩
  · rw [getD_set_ne h1]
    exact ⟨h.st.mem.but hb (fun k hk e => b (e ▸ hk)), h.st.own, h.st.box.but hb (fun e => c e.symm), h.st.low.trans (hb.below h.st.low.size (fun k e => by omega))⟩
  · rw [getD_set_ne h2]; exact h.no
  · rw [getD_set_ne h2]; exact h.yes
  · intro by_ hy
    rw [hx] at hy
    cases hy
    rw [getD_set_same hk, if_pos rfl]
    exact ⟨a0, a, b, c, setBox_box A.s d⟩
end
end Ar
end Go.Proofs.Ytodplkllaopciaa

namespace Go.Proofs.Ytodplkllaopciaa
open Go.RowKit Go.Sort

def netAl12R (mb n c gc oc ib io n1 c1 i : Nat) (ga oa : Option Addr) (z : Int) (A : Ans) : List (Value → Ar.Gh → World → Prop) :=
  [fun u0 _ _ => u0 = .agg #[.int .i64 (n : Int), .slice ga c gc, .slice oa n oc],
   fun u0 _ _ => u0 = .iface 28 (.agg #[.int .i64 (n : Int), .slice ga c gc, .slice oa n oc]),
   fun u0 _ _ => u0 = .pointer (some ⟨mb, 0, none⟩),
   fun u0 _ _ => u0 = .slice (some ⟨ib, io, none⟩) n1 c1,
   fun u0 _ _ => u0 = .int .i64 (i : Int),
   fun u0 _ _ => u0 = .pointer (some ⟨ib, io + i, none⟩),
   fun u0 _ _ => u0 = .int .i64 z,
   fun u0 _ _ => u0 = .agg #[.int .i64 z, .int .i64 0],
   fun u0 _ _ => u0 = .agg #[.int .i64 7, .float .f64 0, .int .i64 0, .int .i64 z, .int .i64 0],
   fun u0 _ _ => u0 = .tuple #[.agg #[.bool A.ok, .float .f64 A.pri, .int .i64 A.val, .int .i64 A.n], .bool true],
   fun u0 _ _ => u0 = .tuple #[.agg #[.bool A.ok, .float .f64 A.pri, .int .i64 A.val, .int .i64 A.n], .bool true],
   fun u0 _ _ => u0 = .agg #[.bool A.ok, .float .f64 A.pri, .int .i64 A.val, .int .i64 A.n],
   fun u0 _ _ => u0 = .bool true,
   fun u0 x _ => ∃ bx, x.2 = some bx ∧ u0 = .pointer (some ⟨bx, 0, none⟩),
   fun _ _ _ => True,
   fun u0 _ _ => u0 = .bool true]
theorem netAl12R_kept (mb n c gc oc ib io n1 c1 i : Nat) (ga oa : Option Addr) (z : Int) (A : Ans) : Reg.GAllKept Ar.Pres (netAl12R mb n c gc oc ib io n1 c1 i ga oa z A) :=
  ⟨(fun _ _ _ _ _ _ h => h), (fun _ _ _ _ _ _ h => h), (fun _ _ _ _ _ _ h => h), (fun _ _ _ _ _ _ h => h), (fun _ _ _ _ _ _ h => h), (fun _ _ _ _ _ _ h => h), (fun _ _ _ _ _ _ h => h), (fun _ _ _ _ _ _ h => h), (fun _ _ _ _ _ _ h => h), (fun _ _ _ _ _ _ h => h), (fun _ _ _ _ _ _ h => h), (fun _ _ _ _ _ _ h => h), (fun _ _ _ _ _ _ h => h), (fun _ _ _ _ _ hp h => by obtain ⟨bx, h1, h2⟩ := h; exact ⟨bx, hp bx h1, h2⟩), (fun _ _ _ _ _ _ h => h), (fun _ _ _ _ _ _ h => h), trivial⟩

/-- What holds between two tokens. -/
def NA (w : World) (sb n c gc oc : Nat) (ga oa : Option Addr) (G : List (Nat × Nat)) (Os : List Nat) (L0 mb i : Nat) (wr : World) : Prop :=
  ∃ (O : Nat → Prop) (M : Mem), NSt w wr sb n c gc oc ga oa G Os L0 mb O M ∧ NI n c G i M

set_option maxRecDepth 20000 in
set_option maxHeartbeats 16000000 in
theorem netAlone_any (a0 : Int) (a1 : Option Addr) (n1 c1 : Nat) (Z1 : Nat → Int) (w : World) (h1 : IntsIn w a1 n1 Z1) (_hl1 : n1 ≤ 9223372036854775807) :
    Calls Try.prog 3 #[.int .i64 a0, .slice a1 n1 c1] w fun e w' => e = .returned (.bool true) ∧ Below w.heap.size w w' := by
  have hA := awake11_any w
  have hL := fun W => rlegal4_any a0 W
  have hef := fun d a b w => run_equalIn_flt (P := Try.prog) d 35 a b w Try.underlying35
  have hq0 : Op.floatEq .f64 0 0 = true := by decide
  have hsf := run_store_flt (P := Try.prog)
  rcases legal4_cases a0 with hno | ⟨hyes, d, hd4, hdn⟩
  · have hN := hidq (fun W => nnew_no a0 W hno)
    rw [hno] at hL
    clear h1 hno
    go_enter Try.func3, Try.ntmps3
    go_wp2_with fail
    refine hA.mono ?_
    rintro e w1 ⟨rfl, hb1⟩
    go_wp2_with fail
    refine (hN.out _).mono ?_
    rintro e w2 ⟨rfl, hb2⟩
    have hb02 := hb1.trans (hb2.mono hb1.size)
    have HF := hidq (fun o => hb02.alloc (o := o) (by have := hb1.size; have := hb2.size; omega))
    clear hb1 hb2 hb02 hA hN
    go_wp2_with fail
    refine (hL _).mono ?_
    rintro e w3 ⟨rfl, hw3⟩
    subst hw3
    go_wp2
    go_ret
    exact ⟨rfl, HF.out _⟩
  · obtain ⟨n, hn⟩ : ∃ n, n = 2 ^ d := ⟨_, rfl⟩
    obtain ⟨c, G, Os, hP, hN⟩ := nnew_any d n hd4 hn
    rw [← hn] at hdn
    rw [hyes] at hL
    subst hdn
    have HN := hidq hN
    have HP := hidq hP
    have HZ := hidq h1
    clear hN hP h1 hyes hn hd4
    go_enter Try.func3, Try.ntmps3
    go_wp2_with fail
    refine hA.mono ?_
    rintro e w1 ⟨rfl, hb1⟩
    clear hA
    go_wp2_with fail
    refine (HN.out _).mono ?_
    rintro e w2 ⟨ga, gc, oa, oc, rfl, hNP, hb2⟩
    obtain ⟨sb, hsb⟩ : ∃ sb, w2.heap.size = sb := ⟨_, rfl⟩
    obtain ⟨W2, hW2⟩ : ∃ W2, w2.alloc (.cells #[.int .i64 (n : Int), .slice ga c gc, .slice oa n oc] 28) = W2 := ⟨_, rfl⟩
    have hB2 := BoxAt.new w2 [.int .i64 (n : Int), .slice ga c gc, .slice oa n oc] 28
    rw [show w2.alloc (.cells [.int .i64 (n : Int), .slice ga c gc, .slice oa n oc].toArray 28) = W2 from hW2, hsb] at hB2
    have hbW2 : Below w2.heap.size w2 W2 := by rw [← hW2]; exact (Below.refl _ _).alloc (Nat.le_refl _) _
    have H2 := hidq (And.intro (hNP.below hbW2) (And.intro hB2 (And.intro ((hb1.trans (hb2.mono hb1.size)).trans (hbW2.mono (by have := hb1.size; have := hb2.size; omega))) (And.intro (Nat.le_trans hb1.size hb2.size) hsb))))
    have HW2 := hidq hW2
    clear hNP hB2 hbW2 hb1 hb2 hW2 HN
    go_wp2_with fail
    try rw [HW2.out]
    refine (hL _).mono ?_
    rintro e w3 ⟨rfl, hw3⟩
    subst w3
    clear hL HW2
    go_wp2_with fail
    refine (new5_any _).mono ?_
    rintro e w4 ⟨rfl, hM4, hb4⟩
    obtain ⟨mb, hmb⟩ : ∃ mb, W2.heap.size = mb := ⟨_, rfl⟩
    rw [hmb] at hM4 ⊢
    obtain ⟨hNP, hB2, hbw2, hs2, hsb2⟩ := H2.out
    have hT0 : NA w sb n c gc oc ga oa G Os sb mb 0 w4 := by
      have hsW := hbw2.size
      have := hB2.lt
      exact ⟨_, _, ⟨⟨hM4, fun k e => by omega, hB2.below hb4, hbw2.trans (hb4.mono hbw2.size)⟩, by rw [← hsb2]; exact hNP.below hb4, fun k e => by omega⟩, NI.start n c G⟩
    have HT0 := hidq hT0
    clear hT0 hM4 hb4 hNP hB2 hbw2 hs2 hsb2 H2 hmb hsb
    go_wp2_with fail
    go_loopw [8] (fun s8 wr => ∃ i : Nat, s8 = .int .i64 (i : Int) ∧ i ≤ n1 ∧ i ≤ 40 ∧ Hid (NA w sb n c gc oc ga oa G Os sb mb i wr)) (fun s8 _ => 40 - (intOf s8).toNat)
    case atStart => exact ⟨0, rfl, Nat.zero_le _, Nat.zero_le _, HT0⟩
    case round =>
      obtain ⟨i, rfl, hi1, hi40, hT⟩ := hrel
      clear HT0
      obtain ⟨O, M, hS, hI⟩ := hT.out
      by_cases hlt : i < n1 ∧ i < 40
      · obtain ⟨hlt1, hlt2⟩ := hlt
        obtain ⟨ib, io, ha1, hibl, hzc⟩ := HZ.out i hlt1
        subst ha1
        obtain ⟨z, hz⟩ : ∃ z, Z1 i = z := ⟨_, rfl⟩
        rw [hz] at hzc
        have FZ := hidq (fun W (hW : Below w.heap.size w W) => (hW.cell (p := ⟨ib, io + i, none⟩) hibl).trans hzc)
        obtain ⟨M1, hI1, hAl⟩ := next_any n c gc oc ga oa (fun j => j < sb) G Os HP.out mb i 100 M z 0 HP.out.le.2.2 (by decide) (by omega) hI
        obtain ⟨A, hA⟩ : ∃ A : Ans, A = ⟨true, 0, 0, (i : Int)⟩ := ⟨_, rfl⟩
        have HAl := hidq (fun (O : Nat → Prop) (W : World) q1 q2 q3 => (show Calls Try.prog 9 #[.iface 28 (.agg #[.int .i64 (n : Int), .slice ga c gc, .slice oa n oc]), .pointer (some ⟨mb, 0, none⟩), .agg #[.int .i64 7, .float .f64 0, .int .i64 0, .int .i64 z, .int .i64 0], .int .i64 100] W fun e w' =>
          e = .returned (.tuple #[.agg #[.bool A.ok, .float .f64 A.pri, .int .i64 A.val, .int .i64 A.n], .bool true]) ∧ ∃ O', MemAt w' mb O' M1 ∧ Grown O W w' O' ∧ But O W w' from by rw [hA]; exact hAl O W q1 q2 q3))
        have HNP := hidq (fun W (hW : But O wr W) => hS.np.but hW (fun k hk e => hS.apart k hk e))
        have HAP := hidq (fun W (x : Nat → Prop) (hx : Grown O wr W x) => (show ∀ k, k < sb → ¬ x k from fun k hk e => by
          rcases hx k e with q | q
          · exact hS.apart k hk q
          · have := hS.st.box.lt; omega))
        have HS := hidq hS
        have HI1 := hidq hI1
        have HA := hidq hA
        have hltI : (i : Int) < (n1 : Int) := by omega
        have hlt40 : (i : Int) < 40 := by omega
        clear hS hI hT hI1 hAl hA hzc hz hibl
        go_wp2_with fail
        refine Reg.wp_region_ghost (Reg.gofList (netAl12R mb n c gc oc ib io n1 c1 i ga oa z A)) Ar.Pres (Ar.GI w wr O sb [.int .i64 (n : Int), .slice ga c gc, .slice oa n oc] mb M M1 A 9 13 14) (O, none) (by kernel_rfl) (by kernel_rfl) (Reg.GAllKept.at _ (netAl12R_kept mb n c gc oc ib io n1 c1 i ga oa z A)) (Ar.GI.start HS.out.st _) ⟨?_, ?_, ?_, ?_, ?_, ?_, ?_, ?_, ?_, ?_, ?_, ?_, ?_, ?_, ?_, ?_, trivial⟩ ?_
        · refine Reg.GStepAt.plain (i := 0) rfl ?_
          intro x L ev w hI hk hp hA
          have e5 : ev (.tmp 5) = .pointer (some ⟨sb, 0, none⟩) := hA.oldNone 5 (by kernel_rfl)
          have hcc := hA.const
          clear hA hp
          have f0 := (hI.st.box.get 0 _ rfl).1
          have f1 := (hI.st.box.get 1 _ rfl).1
          have f2 := (hI.st.box.get 2 _ rfl).1
          refine Reg.out_value (v := .agg #[.int .i64 (n : Int), .slice ga c gc, .slice oa n oc]) ?_ ⟨x, rfl, Ar.Pres.refl _ _ _, hI.quiet 0 (by decide) (by decide) (by decide)⟩
          go_simp
        · refine Reg.GStepAt.plain (i := 1) rfl ?_
          intro x L ev w hI hk hp hA
          have e47 : ev (.tmp 47) = .agg #[.int .i64 (n : Int), .slice ga c gc, .slice oa n oc] := hA.val 0 _ 47 rfl (hp ⟨0, .data⟩ (by simp) rfl) rfl
          have hcc := hA.const
          clear hA hp
          refine Reg.out_value (v := .iface 28 (.agg #[.int .i64 (n : Int), .slice ga c gc, .slice oa n oc])) ?_ ⟨x, rfl, Ar.Pres.refl _ _ _, hI.quiet 1 (by decide) (by decide) (by decide)⟩
          go_simp
        · refine Reg.GStepAt.plain (i := 2) rfl ?_
          intro x L ev w hI hk hp hA
          have e7 : ev (.tmp 7) = .pointer (some ⟨mb, 0, none⟩) := hA.oldNone 7 (by kernel_rfl)
          have hcc := hA.const
          clear hA hp
          refine Reg.out_value (v := .pointer (some ⟨mb, 0, none⟩)) ?_ ⟨x, rfl, Ar.Pres.refl _ _ _, hI.quiet 2 (by decide) (by decide) (by decide)⟩
          go_simp
        · refine Reg.GStepAt.plain (i := 3) rfl ?_
          intro x L ev w hI hk hp hA
          have e1 : ev (.tmp 1) = .slice (some ⟨ib, io, none⟩) n1 c1 := hA.oldNone 1 (by kernel_rfl)
          have hcc := hA.const
          clear hA hp
          refine Reg.out_value (v := .slice (some ⟨ib, io, none⟩) n1 c1) ?_ ⟨x, rfl, Ar.Pres.refl _ _ _, hI.quiet 3 (by decide) (by decide) (by decide)⟩
          go_simp
        · refine Reg.GStepAt.plain (i := 4) rfl ?_
          intro x L ev w hI hk hp hA
          have e8 : ev (.tmp 8) = .int .i64 (i : Int) := hA.oldNone 8 (by kernel_rfl)
          have hcc := hA.const
          clear hA hp
          refine Reg.out_value (v := .int .i64 (i : Int)) ?_ ⟨x, rfl, Ar.Pres.refl _ _ _, hI.quiet 4 (by decide) (by decide) (by decide)⟩
          go_simp
        · refine Reg.GStepAt.plain (i := 5) rfl ?_
          intro x L ev w hI hk hp hA
          have e50 : ev (.tmp 50) = .slice (some ⟨ib, io, none⟩) n1 c1 := hA.val 3 _ 50 rfl (hp ⟨3, .data⟩ (by simp) rfl) rfl
          have e51 : ev (.tmp 51) = .int .i64 (i : Int) := hA.val 4 _ 51 rfl (hp ⟨4, .data⟩ (by simp) rfl) rfl
          have hcc := hA.const
          clear hA hp
          refine Reg.out_value (v := .pointer (some ⟨ib, io + i, none⟩)) ?_ ⟨x, rfl, Ar.Pres.refl _ _ _, hI.quiet 5 (by decide) (by decide) (by decide)⟩
          go_simp
        · refine Reg.GStepAt.plain (i := 6) rfl ?_
          intro x L ev w hI hk hp hA
          have e52 : ev (.tmp 52) = .pointer (some ⟨ib, io + i, none⟩) := hA.val 5 _ 52 rfl (hp ⟨5, .data⟩ (by simp) rfl) rfl
          have hcc := hA.const
          clear hA hp
          have fz := FZ.out w hI.st.low
          refine Reg.out_value (v := .int .i64 z) ?_ ⟨x, rfl, Ar.Pres.refl _ _ _, hI.quiet 6 (by decide) (by decide) (by decide)⟩
          go_simp
        · refine Reg.GStepAt.plain (i := 7) rfl ?_
          intro x L ev w hI hk hp hA
          have e53 : ev (.tmp 53) = .int .i64 z := hA.val 6 _ 53 rfl (hp ⟨6, .data⟩ (by simp) rfl) rfl
          have hcc := hA.const
          clear hA hp
          refine Reg.out_value (v := .agg #[.int .i64 z, .int .i64 0]) ?_ ⟨x, rfl, Ar.Pres.refl _ _ _, hI.quiet 7 (by decide) (by decide) (by decide)⟩
          go_simp
        · refine Reg.GStepAt.plain (i := 8) rfl ?_
          intro x L ev w hI hk hp hA
          have e54 : ev (.tmp 54) = .agg #[.int .i64 z, .int .i64 0] := hA.val 7 _ 54 rfl (hp ⟨7, .data⟩ (by simp) rfl) rfl
          have hcc := hA.const
          clear hA hp
          refine Reg.out_value (v := .agg #[.int .i64 7, .float .f64 0, .int .i64 0, .int .i64 z, .int .i64 0]) ?_ ⟨x, rfl, Ar.Pres.refl _ _ _, hI.quiet 8 (by decide) (by decide) (by decide)⟩
          go_simp
        · refine Reg.GStepAt.plain (i := 9) rfl ?_
          intro x L ev w hI hk hp hA
          have e48 : ev (.tmp 48) = .iface 28 (.agg #[.int .i64 (n : Int), .slice ga c gc, .slice oa n oc]) := hA.val 1 _ 48 rfl (hp ⟨1, .data⟩ (by simp) rfl) rfl
          have e49 : ev (.tmp 49) = .pointer (some ⟨mb, 0, none⟩) := hA.val 2 _ 49 rfl (hp ⟨2, .data⟩ (by simp) rfl) rfl
          have e55 : ev (.tmp 55) = .agg #[.int .i64 7, .float .f64 0, .int .i64 0, .int .i64 z, .int .i64 0] := hA.val 8 _ 55 rfl (hp ⟨8, .data⟩ (by simp) rfl) rfl
          have hcc := hA.const
          have hcf := hA.func
          clear hA hp
          refine Reg.out_call (f := 9) (args := #[.iface 28 (.agg #[.int .i64 (n : Int), .slice ga c gc, .slice oa n oc]), .pointer (some ⟨mb, 0, none⟩), .agg #[.int .i64 7, .float .f64 0, .int .i64 0, .int .i64 z, .int .i64 0], .int .i64 100]) (w0 := w) ?_ ?_
          · go_simp
          refine (HAl.out x.1 w (HNP.out w hI.chg) (HAP.out w x.1 hI.grow) (hI.mem0 hk)).mono ?_
          rintro e w' ⟨rfl, O', h1, h2, h3⟩
          exact ⟨_, rfl, (O', x.2), rfl, fun _ h => h, hI.call hk (by decide) (by decide) h1 h2 h3⟩
        · refine Reg.GStepAt.plain (i := 10) rfl ?_
          intro x L ev w hI hk hp hA
          have e56 : ev (.tmp 56) = .tuple #[.agg #[.bool A.ok, .float .f64 A.pri, .int .i64 A.val, .int .i64 A.n], .bool true] := hA.val 9 _ 56 rfl (hp ⟨9, .data⟩ (by simp) rfl) rfl
          have hcc := hA.const
          clear hA hp
          refine Reg.out_value (v := .tuple #[.agg #[.bool A.ok, .float .f64 A.pri, .int .i64 A.val, .int .i64 A.n], .bool true]) ?_ ⟨x, rfl, Ar.Pres.refl _ _ _, hI.quiet 10 (by decide) (by decide) (by decide)⟩
          go_simp
        · refine Reg.GStepAt.plain (i := 11) rfl ?_
          intro x L ev w hI hk hp hA
          have e46 : ev (.tmp 46) = .tuple #[.agg #[.bool A.ok, .float .f64 A.pri, .int .i64 A.val, .int .i64 A.n], .bool true] := hA.val 10 _ 46 rfl (hp ⟨10, .data⟩ (by simp) rfl) rfl
          have hcc := hA.const
          clear hA hp
          refine Reg.out_value (v := .agg #[.bool A.ok, .float .f64 A.pri, .int .i64 A.val, .int .i64 A.n]) ?_ ⟨x, rfl, Ar.Pres.refl _ _ _, hI.quiet 11 (by decide) (by decide) (by decide)⟩
          go_simp
        · refine Reg.GStepAt.plain (i := 12) rfl ?_
          intro x L ev w hI hk hp hA
          have e46 : ev (.tmp 46) = .tuple #[.agg #[.bool A.ok, .float .f64 A.pri, .int .i64 A.val, .int .i64 A.n], .bool true] := hA.val 10 _ 46 rfl (hp ⟨10, .data⟩ (by simp) rfl) rfl
          have hcc := hA.const
          clear hA hp
          refine Reg.out_value (v := .bool true) ?_ ⟨x, rfl, Ar.Pres.refl _ _ _, hI.quiet 12 (by decide) (by decide) (by decide)⟩
          go_simp
        · refine Reg.GStepAt.plain (i := 13) rfl ?_
          intro x L ev w hI hk hp hA
          have hcc := hA.const
          have hSf : L.getD 14 false = false := by
            cases hq : L.getD 14 false with
            | false => rfl
            | true => have := hA.closed 14 _ rfl hq ⟨13, .data⟩ (by simp) rfl; rw [show (⟨13, .data⟩ : Edge).on = 13 from rfl, Ar.getD_false hk] at this; cases this
          clear hA hp
          refine Reg.out_new (v := .pointer (some ⟨w.heap.size, 0, none⟩)) (w' := w.alloc (.cells Ans.zero.l.toArray 39)) ?_ ⟨(x.1, some w.heap.size), ⟨_, rfl, rfl⟩, fun b hb => (by rw [hI.no (Ar.getD_false hk)] at hb; cases hb), hI.alloc hk hSf (by decide) (by decide) _⟩
          (go_simp; try rfl)
        · refine Reg.GStepAt.plain (i := 14) rfl ?_
          intro x L ev w hI hk hp hA
          have e9 : ∃ bx, x.2 = some bx ∧ ev (.tmp 9) = .pointer (some ⟨bx, 0, none⟩) := hA.val 13 _ 9 rfl (hp ⟨13, .data⟩ (by simp) rfl) rfl
          have e57 : ev (.tmp 57) = .agg #[.bool A.ok, .float .f64 A.pri, .int .i64 A.val, .int .i64 A.n] := hA.val 11 _ 57 rfl (hp ⟨11, .data⟩ (by simp) rfl) rfl
          have hcc := hA.const
          clear hA hp
          obtain ⟨bx, hx, e9⟩ := e9
          have hbx := (hI.box bx hx).2.2.2.2
          rw [Ar.getD_false hk] at hbx
          obtain ⟨g0, x0⟩ := hbx.get 0 _ rfl
          obtain ⟨g1, x1⟩ := hbx.get 1 _ rfl
          obtain ⟨g2, x2⟩ := hbx.get 2 _ rfl
          obtain ⟨g3, x3⟩ := hbx.get 3 _ rfl
          refine Ar.out_skip (w' := setBox w bx A.s) ?_ ⟨x, trivial, Ar.Pres.refl _ _ _, hI.store hk (by decide) (by decide) hx⟩
          clear hbx
          simp only [setBox]
          go_simp
        · refine Reg.GStepAt.plain (i := 15) rfl ?_
          intro x L ev w hI hk hp hA
          have e58 : ev (.tmp 58) = .bool true := hA.val 12 _ 58 rfl (hp ⟨12, .data⟩ (by simp) rfl) rfl
          have hcc := hA.const
          clear hA hp
          refine Reg.out_value (v := .bool true) ?_ ⟨x, rfl, Ar.Pres.refl _ _ _, hI.quiet 15 (by decide) (by decide) (by decide)⟩
          go_simp
        intro x L act wz hall hI hF
        have q47 : act.eval (.tmp 47) = .agg #[.int .i64 (n : Int), .slice ga c gc, .slice oa n oc] := hF.val 0 _ 47 rfl (hall 0 (by simp)) rfl
        have q48 : act.eval (.tmp 48) = .iface 28 (.agg #[.int .i64 (n : Int), .slice ga c gc, .slice oa n oc]) := hF.val 1 _ 48 rfl (hall 1 (by simp)) rfl
        have q49 : act.eval (.tmp 49) = .pointer (some ⟨mb, 0, none⟩) := hF.val 2 _ 49 rfl (hall 2 (by simp)) rfl
        have q50 : act.eval (.tmp 50) = .slice (some ⟨ib, io, none⟩) n1 c1 := hF.val 3 _ 50 rfl (hall 3 (by simp)) rfl
        have q51 : act.eval (.tmp 51) = .int .i64 (i : Int) := hF.val 4 _ 51 rfl (hall 4 (by simp)) rfl
        have q52 : act.eval (.tmp 52) = .pointer (some ⟨ib, io + i, none⟩) := hF.val 5 _ 52 rfl (hall 5 (by simp)) rfl
        have q53 : act.eval (.tmp 53) = .int .i64 z := hF.val 6 _ 53 rfl (hall 6 (by simp)) rfl
        have q54 : act.eval (.tmp 54) = .agg #[.int .i64 z, .int .i64 0] := hF.val 7 _ 54 rfl (hall 7 (by simp)) rfl
        have q55 : act.eval (.tmp 55) = .agg #[.int .i64 7, .float .f64 0, .int .i64 0, .int .i64 z, .int .i64 0] := hF.val 8 _ 55 rfl (hall 8 (by simp)) rfl
        have q56 : act.eval (.tmp 56) = .tuple #[.agg #[.bool A.ok, .float .f64 A.pri, .int .i64 A.val, .int .i64 A.n], .bool true] := hF.val 9 _ 56 rfl (hall 9 (by simp)) rfl
        have q46 : act.eval (.tmp 46) = .tuple #[.agg #[.bool A.ok, .float .f64 A.pri, .int .i64 A.val, .int .i64 A.n], .bool true] := hF.val 10 _ 46 rfl (hall 10 (by simp)) rfl
        have q57 : act.eval (.tmp 57) = .agg #[.bool A.ok, .float .f64 A.pri, .int .i64 A.val, .int .i64 A.n] := hF.val 11 _ 57 rfl (hall 11 (by simp)) rfl
        have q58 : act.eval (.tmp 58) = .bool true := hF.val 12 _ 58 rfl (hall 12 (by simp)) rfl
        have q9 : ∃ bx, x.2 = some bx ∧ act.eval (.tmp 9) = .pointer (some ⟨bx, 0, none⟩) := hF.val 13 _ 9 rfl (hall 13 (by simp)) rfl
        obtain ⟨bx, hx, q9⟩ := q9
        have q10 : act.eval (.tmp 10) = .bool true := hF.val 15 _ 10 rfl (hall 15 (by simp)) rfl
        have hact := hF.act [47, 48, 49, 50, 51, 52, 53, 54, 55, 56, 46, 57, 58, 9, 10] (by kernel_rfl)
        have hst := hI.st
        rw [hall 9 (by simp), if_pos rfl] at hst
        have hchg := hI.chg
        have hgrw := hI.grow
        obtain ⟨hx0, hx1, hx2, hx3, hbx⟩ := hI.box bx hx
        rw [hall 14 (by simp), if_pos rfl] at hbx
        clear hF hall hI
        simp only [List.foldl_cons, List.foldl_nil] at hact
        rw [q47, q48, q49, q50, q51, q52, q53, q54, q55, q56, q46, q57, q58, q9, q10] at hact
        clear q47 q48 q49 q50 q51 q52 q53 q54 q55 q56 q46 q57 q58 q9 q10
        simp only [List.setIfInBounds_toArray, List.set_cons_succ, List.set_cons_zero] at hact
        subst hact
        have HFIN := hidq (HS.out.call hst.mem hgrw hchg)
        rw [HA.out] at hbx
        have g0 := (hbx.get 0 _ rfl).1
        have g1 := (hbx.get 1 _ rfl).1
        have g2 := (hbx.get 2 _ rfl).1
        have g3 := (hbx.get 3 _ rfl).1
        have hgl := hbx.lt
        have HAE := HA.out
        subst HAE
        dsimp only [Ans.v] at *
        clear hst hchg hgrw hbx hx hx0 hx1 hx2 hx3 HA HS HNP HAP HAl FZ
        go_wp2
        go_roundw
        case rel => exact ⟨i + 1, by go_num, by omega, by omega, hidq ⟨_, _, HFIN.out, HI1.out⟩⟩
        case measure => simp [intOf]; omega
      · have HB := hidq hS.st.low
        have hnd : ¬ ((i : Int) < (n1 : Int)) ∨ ((i : Int) < (n1 : Int) ∧ ¬ ((i : Int) < 40)) := by omega
        clear hS hI hT
        rcases hnd with h | ⟨h, h'⟩
        · have hd1 : decide ((i : Int) < (n1 : Int)) = false := decide_eq_false h
          have hd2 : decide (i < n1) = false := decide_eq_false (by omega)
          go_wp2
          go_ret
          exact ⟨rfl, HB.out⟩
        · have hd1 : decide ((i : Int) < 40) = false := decide_eq_false h'
          have hd2 : decide (i < 40) = false := decide_eq_false (by omega)
          go_wp2
          go_ret
          exact ⟨rfl, HB.out⟩
end Go.Proofs.Ytodplkllaopciaa
