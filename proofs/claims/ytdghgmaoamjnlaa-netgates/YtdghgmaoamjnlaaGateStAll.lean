/-
  Layer 11: a token's step: contract.
  Layer 11: a new Net: contract.
  Layer 11: a token alone on a new Net: contract.
  Layer 11: what the laws ask first: contract.
  Tokens at a network's gates, in whatever order they step: how many have passed each gate.
  Tokens under way on a Net: what one step of one of them leaves.
  Tokens under way on a Net, moved by turns or one by one: all go out in time.
  Layer 10: widths; what a plan is: contracts, and the law of wires: the call returns true.
  Layer 10: how many pass: contract.
  Tokens under way on a Net: where they lie, and what a step of one of them leaves there.
-/
import Derived.Test.YtdghgmaoamjnlaaNetDAll
import Derived.Test.YtdghgmaoamjnlaaTail
import Derived.Test.YtdghgmaoamjnlaaNetMath
import Derived.Test.YtdghgmaoamjnlaaWireDAll
namespace Go.Proofs.Ytdghgmaoamjnlaa
open Go.RowKit Go.Sort

def nstep4R (n nb fb vw : Nat) (F : Fr) : List (Value → World → Prop) :=
  [fun v _ => v = .pointer (some ⟨fb, 0, none⟩),
   fun v _ => v = .pointer (some ⟨fb, 0, none⟩),
   fun v _ => v = .pointer (some ⟨fb, 0, none⟩),
   fun v _ => v = .pointer (some ⟨fb, 0, none⟩),
   fun v _ => v = .pointer (some ⟨fb, 3, none⟩),
   fun v _ => v = .pointer (some ⟨fb, 3, none⟩),
   fun v _ => v = .int .i64 F.d0,
   fun v _ => v = .pointer (some ⟨nb, 0, none⟩),
   fun v _ => v = .pointer (some ⟨nb, 0, none⟩),
   fun v _ => v = .int .i64 (n : Int),
   fun v _ => v = .int .i64 (vw : Int),
   fun v _ => v = .pointer (some ⟨fb, 0, none⟩),
   fun v _ => v = .pointer (some ⟨fb, 6, none⟩)]
theorem nstep4R_kept (n nb fb vw : Nat) (F : Fr) : Reg.AllKept Reg.Keeps (nstep4R n nb fb vw F) :=
  ⟨(fun _ _ _ _ h => h), (fun _ _ _ _ h => h), (fun _ _ _ _ h => h), (fun _ _ _ _ h => h), (fun _ _ _ _ h => h), (fun _ _ _ _ h => h), (fun _ _ _ _ h => h), (fun _ _ _ _ h => h), (fun _ _ _ _ h => h), (fun _ _ _ _ h => h), (fun _ _ _ _ h => h), (fun _ _ _ _ h => h), (fun _ _ _ _ h => h), trivial⟩

set_option maxRecDepth 20000 in
set_option maxHeartbeats 8000000 in
theorem nstep_is (n c gc oc : Nat) (ga oa : Option Addr) (D : Nat → Prop) (G : List (Nat × Nat)) (Os : List Nat) (hc : c ≤ 100) (hn1 : 1 ≤ n) (hn16 : n ≤ 16) (hOs : ∀ v, v < n → v ∈ Os) : IsStepN 17 n c gc oc ga oa D G Os (nGood n c) (nStep n c G Os) := by
  intro w b fb O P M F hpl hdd h hf hd hg hck
  have hvn := nWire_lt hn1 hg
  obtain ⟨hk, hp0, hp1, ha0, ha1, hok⟩ := hg
  obtain ⟨p, hp⟩ : ∃ p : Nat, F.pc = (p : Int) := ⟨F.pc.toNat, by omega⟩
  have hpc : p ≤ c := by omega
  obtain ⟨v, hv⟩ : ∃ v, nWire n F = v := ⟨_, rfl⟩
  obtain ⟨pl, hpv⟩ : ∃ pl, Os.idxOf v = pl := ⟨_, rfl⟩
  have hst1 : nAhead G p v = none → nStep n c G Os M F = (bump M (c + pl), { F with at_ := (v : Int) }, ⟨true, 0, 0, (pl : Int) + (n : Int) * (M.cell (c + pl)).n⟩, true) := fun ho => by
    rw [nStep_none (by rw [hp, hv]; exact ho), hv, hpv]
  have hst2 : ∀ i g, nAhead G p v = some i → G[i]? = some g → nStep n c G Os M F = (bump M i, { F with pc := ((i + 1 : Nat) : Int), at_ := (((if (M.cell i).n % 2 = 0 then g.1 else g.2) : Nat) : Int) }, Ans.zero, false) := fun i g ho hgi =>
    nStep_some (by rw [hp, hv]; exact ho) hgi
  have HST := hidq (And.intro hst1 hst2)
  have HK := hidq (And.intro hok (And.intro hck (And.intro (hOs v (by rw [← hv]; exact hvn)) hpv)))
  have HDD := hidq hdd
  clear hst1 hst2 hok hck hvn hpv hOs
  obtain ⟨nb, hnb⟩ : ∃ nb, w.heap.size = nb := ⟨_, rfl⟩
  obtain ⟨W1, hW1, hb1, hs1, hN1, hA1⟩ := two_new w [.int .i64 (n : Int), .slice ga c gc, .slice oa n oc] Ans.zero.l 52 30 0
  have hW1' : (w.alloc (.cells #[.int .i64 (n : Int), .slice ga c gc, .slice oa n oc] 52)).alloc (.cells #[.bool false, .float .f64 0, .int .i64 0, .int .i64 0] 30) = W1 := hW1
  rw [hnb] at hN1 hA1 hs1
  clear hW1
  have hsf := run_store_flt (P := Try.prog)
  have hf1 := hf.below hb1
  have hM1 := h.below hb1
  have hpl1 := hpl.below hb1
  obtain ⟨a0, k0, a1, k1, hB, _⟩ := hf1.box
  have f0 := (hB.get 0 _ rfl).1
  have f3 := (hB.get 3 _ rfl).1
  have f5 := (hB.get 5 _ rfl).1
  obtain ⟨f6, y6⟩ := hB.get 6 _ rfl
  have hfl1 := hB.lt
  rw [hk] at f0
  rw [hp] at f5
  have HO := hidq (And.intro h.lt (And.intro hf.lt (And.intro hd (And.intro hf.ob (And.intro hnb hs1)))))
  by_cases hz : p = 0
  · have hv2 : into F.d0 (n : Int) = (v : Int) := by
      have := into_rng (d := F.d0) (n := (n : Int)) (by omega)
      rw [← hv]; unfold nWire; rw [if_pos (by rw [hp, hz]; rfl)]; omega
    have hI0 := hidq (fun W => (show Calls Try.prog 55 #[.int .i64 F.d0, .int .i64 (n : Int)] W fun e w' => e = .returned (.int .i64 (v : Int)) ∧ w' = W from by
      have := into_any F.d0 (n : Int) W (by omega)
      rw [hv2] at this
      exact this))
    have FC := hidq (fun W (hW : Below W1.heap.size W1 W) => And.intro ((hW.cell (p := ⟨fb, 3, none⟩) hfl1).trans f3) ((hN1.below hW).get 0 _ rfl).1)
    have HM := hidq (And.intro hM1 (And.intro hf1 (And.intro hpl1 (And.intro hN1 (And.intro hA1 (And.intro hb1 (And.intro (fun e => hd _ e hf.ob) (And.intro hdd hp))))))))
    have f5z : W1.cell? ⟨fb, 5, none⟩ = some (.int .i64 0) := by rw [hz] at f5; exact f5
    clear hpl hdd h hf hd hk hp0 hp1 ha0 ha1 hp hv hf1 hM1 hpl1 hB hN1 hA1 hb1 hs1 hv2 f3 f5 hz
    have hrefl : ∀ w : World, Reg.Keeps w w := Reg.Keeps.refl
    obtain ⟨vw, hvw⟩ : ∃ vw, vw = v := ⟨v, rfl⟩
    subst hvw
    go_enter Try.func17, Try.ntmps17
    go_wp2_with fail
    try rw [hW1']
    have hrefl : ∀ w : World, Reg.Keeps w w := Reg.Keeps.refl
    refine Reg.wp_region_props_tail 13 (Reg.ofList (nstep4R n nb fb vw F)) Reg.Keeps (fun _ w => Reg.Keeps W1 w) (by kernel_rfl) (by kernel_rfl) (by kernel_rfl) (Reg.AllKept.at _ (nstep4R_kept n nb fb vw F)) hrefl (Reg.Keeps.drewN (Reg.Keeps.refl _) 1) ⟨?_, ?_, ?_, ?_, ?_, ?_, ?_, ?_, ?_, ?_, ?_, ?_, ?_, trivial⟩ ?_
    · refine Reg.StepAt.plain (i := 0) rfl ?_
      intro L ev w hI hk hp hA
      have e2 : ev (.tmp 2) = .pointer (some ⟨fb, 0, none⟩) := hA.oldNone 2 (by kernel_rfl)
      have hcc := hA.const
      clear hA hp
      refine Reg.out_value (v := .pointer (some ⟨fb, 0, none⟩)) ?_ ⟨rfl, hrefl _, hI⟩
      go_simp
    · refine Reg.StepAt.plain (i := 1) rfl ?_
      intro L ev w hI hk hp hA
      have e2 : ev (.tmp 2) = .pointer (some ⟨fb, 0, none⟩) := hA.oldNone 2 (by kernel_rfl)
      have hcc := hA.const
      clear hA hp
      refine Reg.out_value (v := .pointer (some ⟨fb, 0, none⟩)) ?_ ⟨rfl, hrefl _, hI⟩
      go_simp
    · refine Reg.StepAt.plain (i := 2) rfl ?_
      intro L ev w hI hk hp hA
      have e23 : ev (.tmp 23) = .pointer (some ⟨fb, 0, none⟩) := hA.val 1 _ 23 rfl (hp ⟨1, .data⟩ (by simp) rfl) rfl
      have hcc := hA.const
      clear hA hp
      refine Reg.out_value (v := .pointer (some ⟨fb, 0, none⟩)) ?_ ⟨rfl, hrefl _, hI⟩
      go_simp
    · refine Reg.StepAt.plain (i := 3) rfl ?_
      intro L ev w hI hk hp hA
      have e24 : ev (.tmp 24) = .pointer (some ⟨fb, 0, none⟩) := hA.val 2 _ 24 rfl (hp ⟨2, .data⟩ (by simp) rfl) rfl
      have hcc := hA.const
      clear hA hp
      refine Reg.out_value (v := .pointer (some ⟨fb, 0, none⟩)) ?_ ⟨rfl, hrefl _, hI⟩
      go_simp
    · refine Reg.StepAt.plain (i := 4) rfl ?_
      intro L ev w hI hk hp hA
      have e25 : ev (.tmp 25) = .pointer (some ⟨fb, 0, none⟩) := hA.val 3 _ 25 rfl (hp ⟨3, .data⟩ (by simp) rfl) rfl
      have hcc := hA.const
      clear hA hp
      refine Reg.out_value (v := .pointer (some ⟨fb, 3, none⟩)) ?_ ⟨rfl, hrefl _, hI⟩
      go_simp
    · refine Reg.StepAt.plain (i := 5) rfl ?_
      intro L ev w hI hk hp hA
      have e26 : ev (.tmp 26) = .pointer (some ⟨fb, 3, none⟩) := hA.val 4 _ 26 rfl (hp ⟨4, .data⟩ (by simp) rfl) rfl
      have hcc := hA.const
      clear hA hp
      refine Reg.out_value (v := .pointer (some ⟨fb, 3, none⟩)) ?_ ⟨rfl, hrefl _, hI⟩
      go_simp
    · refine Reg.StepAt.plain (i := 6) rfl ?_
      intro L ev w hI hk hp hA
      have e27 : ev (.tmp 27) = .pointer (some ⟨fb, 3, none⟩) := hA.val 5 _ 27 rfl (hp ⟨5, .data⟩ (by simp) rfl) rfl
      have hcc := hA.const
      clear hA hp
      obtain ⟨f3, m0⟩ := FC.out w hI
      refine Reg.out_value (v := .int .i64 F.d0) ?_ ⟨rfl, hrefl _, hI⟩
      go_simp
    · refine Reg.StepAt.plain (i := 7) rfl ?_
      intro L ev w hI hk hp hA
      have e3 : ev (.tmp 3) = .pointer (some ⟨nb, 0, none⟩) := hA.oldNone 3 (by kernel_rfl)
      have hcc := hA.const
      clear hA hp
      refine Reg.out_value (v := .pointer (some ⟨nb, 0, none⟩)) ?_ ⟨rfl, hrefl _, hI⟩
      go_simp
    · refine Reg.StepAt.plain (i := 8) rfl ?_
      intro L ev w hI hk hp hA
      have e29 : ev (.tmp 29) = .pointer (some ⟨nb, 0, none⟩) := hA.val 7 _ 29 rfl (hp ⟨7, .data⟩ (by simp) rfl) rfl
      have hcc := hA.const
      clear hA hp
      refine Reg.out_value (v := .pointer (some ⟨nb, 0, none⟩)) ?_ ⟨rfl, hrefl _, hI⟩
      go_simp
    · refine Reg.StepAt.plain (i := 9) rfl ?_
      intro L ev w hI hk hp hA
      have e30 : ev (.tmp 30) = .pointer (some ⟨nb, 0, none⟩) := hA.val 8 _ 30 rfl (hp ⟨8, .data⟩ (by simp) rfl) rfl
      have hcc := hA.const
      clear hA hp
      obtain ⟨f3, m0⟩ := FC.out w hI
      refine Reg.out_value (v := .int .i64 (n : Int)) ?_ ⟨rfl, hrefl _, hI⟩
      go_simp
    · refine Reg.StepAt.plain (i := 10) rfl ?_
      intro L ev w hI hk hp hA
      have e28 : ev (.tmp 28) = .int .i64 F.d0 := hA.val 6 _ 28 rfl (hp ⟨6, .data⟩ (by simp) rfl) rfl
      have e31 : ev (.tmp 31) = .int .i64 (n : Int) := hA.val 9 _ 31 rfl (hp ⟨9, .data⟩ (by simp) rfl) rfl
      have hcc := hA.const
      have hcf := hA.func
      clear hA hp
      refine Reg.out_call (f := 55) (args := #[.int .i64 F.d0, .int .i64 (n : Int)]) (w0 := w) ?_ ?_
      · go_simp
      refine (hI0.out w).mono ?_
      rintro e w' ⟨rfl, hw⟩
      subst hw; exact ⟨_, rfl, rfl, hrefl _, hI⟩
    · refine Reg.StepAt.plain (i := 11) rfl ?_
      intro L ev w hI hk hp hA
      have e22 : ev (.tmp 22) = .pointer (some ⟨fb, 0, none⟩) := hA.val 0 _ 22 rfl (hp ⟨0, .data⟩ (by simp) rfl) rfl
      have hcc := hA.const
      clear hA hp
      refine Reg.out_value (v := .pointer (some ⟨fb, 0, none⟩)) ?_ ⟨rfl, hrefl _, hI⟩
      go_simp
    · refine Reg.StepAt.plain (i := 12) rfl ?_
      intro L ev w hI hk hp hA
      have e33 : ev (.tmp 33) = .pointer (some ⟨fb, 0, none⟩) := hA.val 11 _ 33 rfl (hp ⟨11, .data⟩ (by simp) rfl) rfl
      have hcc := hA.const
      clear hA hp
      refine Reg.out_value (v := .pointer (some ⟨fb, 6, none⟩)) ?_ ⟨rfl, hrefl _, hI⟩
      go_simp
    intro act wz hI hF
    have g22 : act.eval (.tmp 22) = .pointer (some ⟨fb, 0, none⟩) := hF.val 0 _ 22 rfl (by kernel_rfl) rfl
    have g23 : act.eval (.tmp 23) = .pointer (some ⟨fb, 0, none⟩) := hF.val 1 _ 23 rfl (by kernel_rfl) rfl
    have g24 : act.eval (.tmp 24) = .pointer (some ⟨fb, 0, none⟩) := hF.val 2 _ 24 rfl (by kernel_rfl) rfl
    have g25 : act.eval (.tmp 25) = .pointer (some ⟨fb, 0, none⟩) := hF.val 3 _ 25 rfl (by kernel_rfl) rfl
    have g26 : act.eval (.tmp 26) = .pointer (some ⟨fb, 3, none⟩) := hF.val 4 _ 26 rfl (by kernel_rfl) rfl
    have g27 : act.eval (.tmp 27) = .pointer (some ⟨fb, 3, none⟩) := hF.val 5 _ 27 rfl (by kernel_rfl) rfl
    have g28 : act.eval (.tmp 28) = .int .i64 F.d0 := hF.val 6 _ 28 rfl (by kernel_rfl) rfl
    have g29 : act.eval (.tmp 29) = .pointer (some ⟨nb, 0, none⟩) := hF.val 7 _ 29 rfl (by kernel_rfl) rfl
    have g30 : act.eval (.tmp 30) = .pointer (some ⟨nb, 0, none⟩) := hF.val 8 _ 30 rfl (by kernel_rfl) rfl
    have g31 : act.eval (.tmp 31) = .int .i64 (n : Int) := hF.val 9 _ 31 rfl (by kernel_rfl) rfl
    have g32 : act.eval (.tmp 32) = .int .i64 (vw : Int) := hF.val 10 _ 32 rfl (by kernel_rfl) rfl
    have g33 : act.eval (.tmp 33) = .pointer (some ⟨fb, 0, none⟩) := hF.val 11 _ 33 rfl (by kernel_rfl) rfl
    have g34 : act.eval (.tmp 34) = .pointer (some ⟨fb, 6, none⟩) := hF.val 12 _ 34 rfl (by kernel_rfl) rfl
    have hact := hF.actHead [22, 23, 24, 25, 26, 27, 28, 29, 30, 31, 32, 33, 34] (by kernel_rfl)
    clear hF
    simp only [List.foldl_cons, List.foldl_nil] at hact
    rw [g22, g23, g24, g25, g26, g27, g28, g29, g30, g31, g32, g33, g34] at hact
    clear g22 g23 g24 g25 g26 g27 g28 g29 g30 g31 g32 g33 g34
    simp only [List.setIfInBounds_toArray, List.set_cons_succ, List.set_cons_zero] at hact
    subst hact
    simp only [List.drop_succ_cons, List.drop_zero]
    obtain ⟨v, hvw⟩ : ∃ v, v = vw := ⟨vw, rfl⟩
    subst hvw
    clear hW1' f0 f5z f6 y6 hfl1
    obtain ⟨hM1, hf1, hpl1, hN1, hA1, hb1, hOf, hdd, hp⟩ := HM.out
    have hI1 : Below W1.heap.size W1 wz := hI
    have hf2 := hf1.below hI1
    obtain ⟨a0', k0', a1', k1', hBz, _⟩ := hf2.box
    obtain ⟨f6, y6⟩ := hBz.get 6 _ rfl
    have hfl2 := hBz.lt
    have hft := hf2.turn (F' := { F with at_ := (v : Int) }) 6 (.int .i64 (v : Int)) (fun _ _ _ _ => rfl) rfl rfl
    have hbt : But (fun j => j = fb) wz (wz.setCell ⟨fb, 6, none⟩ (.int .i64 (v : Int))) := (But.refl (fun j => j = fb) wz).set1 fb 6 rfl _
    obtain ⟨Wz, hWz⟩ : ∃ Wz, wz.setCell ⟨fb, 6, none⟩ (.int .i64 (v : Int)) = Wz := ⟨_, rfl⟩
    rw [hWz] at hft hbt
    have hszz : Wz.heap.size = wz.heap.size := by rw [← hWz, World.size_setCell]
    have hb0z : Below w.heap.size w wz := hb1.trans (hI1.mono hb1.size)
    obtain ⟨hOl, hPl, hd, hPf, hnb2, hs2⟩ := HO.out
    have hne : nb ≠ fb := by have := hPl _ hPf; omega
    have hne2 : nb + 1 ≠ fb := by have := hPl _ hPf; omega
    have hNz := (hN1.below hI1).but hbt hne
    obtain ⟨a2', k2', a3', k3', hBz2, _⟩ := hft.box
    have HZ := hidq (And.intro ((But.of_below hb0z).then hbt (fun j _ e => (.inr (e ▸ hPf) : O j ∨ P j))) (And.intro ((hM1.below hI1).but hbt (fun k hk e => hOf (e ▸ hk))) (And.intro hft (And.intro ((hpl1.below hI1).but hbt (fun k hk e => (hdd k hk).2 (e ▸ hPf))) (And.intro hNz (And.intro ((hA1.below hI1).but hbt hne2) (And.intro hBz2.lt (And.intro (show Wz.cell? ⟨fb, 5, none⟩ = some (.int .i64 (p : Int)) from by have := (hBz2.get 5 _ rfl).1; rw [this]; show some (Value.int .i64 F.pc) = _; rw [hp]) (hBz2.get 6 _ rfl).1))))))))
    have z0 := (hNz.get 0 _ rfl).1
    have z1 := (hNz.get 1 _ rfl).1
    have z2 := (hNz.get 2 _ rfl).1
    have hzl := hNz.lt
    replace HO := hidq (And.intro hOl (And.intro hPl (And.intro hd (And.intro hPf (And.intro hnb2 (show nb + 2 ≤ Wz.heap.size by have := hI1.size; omega))))))
    clear hM1 hf1 hpl1 hN1 hA1 hb1 hOf hdd hp hI1 hI hf2 hBz hft hbt hszz hb0z hOl hPl hd hPf hnb2 hs2 hne hne2 hNz hBz2 HM hI0 FC hnb
    go_wp2_with fail
    clear f6 y6 hfl2

    have hA0 := ahead_any n c gc oc ga oa D G Os Wz fb p v HZ.out.2.2.2.1 HZ.out.2.2.2.2.2.2.1 HZ.out.2.2.2.2.2.2.2.1 HZ.out.2.2.2.2.2.2.2.2 hpc hc
    cases ho : nAhead G p v with
    | none =>
      have HS := hidq (HST.out.1 ho)
      rw [ho] at hA0
      have hA : Calls Try.prog 56 #[.agg #[.int .i64 (n : Int), .slice ga c gc, .slice oa n oc], .pointer (some ⟨fb, 0, none⟩)] Wz fun e w' => e = .returned (.tuple #[.int .i64 0, .bool false]) ∧ Below Wz.heap.size Wz w' := hA0
      have HA := hidq hA
      clear hA hA0 ho HST
      refine HA.out.mono ?_
      rintro e w3 ⟨rfl, hb3⟩
      clear HA
      obtain ⟨hbz, hMz, hFz, hplz, hNz, hAz, hflz, hc5, hc6⟩ := HZ.out
      have hNb3 := hNz.below hb3
      have n30 := (hNb3.get 0 _ rfl).1
      have n31 := (hNb3.get 1 _ rfl).1
      have n32 := (hNb3.get 2 _ rfl).1
      have hnl3 := hNb3.lt
      have hL := hidq (nleave_any n c gc oc ga oa D G Os w3 b fb v pl O M (hplz.below hb3) (hMz.below hb3) (Nat.lt_of_lt_of_le hflz hb3.size) ((hb3.cell (p := ⟨fb, 6, none⟩) hflz).trans hc6) HK.out.1 HK.out.2.1 hc hn16 HK.out.2.2.1 HK.out.2.2.2)
      have HY := hidq (And.intro (hbz.then (But.of_below (S := fun _ => False) hb3) (fun _ _ e => False.elim e)) (And.intro (hFz.below hb3) (And.intro (hAz.below hb3) hb3.size)))
      clear hbz hMz hFz hplz hNz hAz hflz hc5 hc6 hNb3 hb3 HZ z0 z1 z2 hzl
      go_wp2_with fail
      refine hL.out.mono ?_
      rintro e w4 ⟨rfl, O4, hM4, hG4, hb4⟩
      obtain ⟨hb03, hF3, hA3, hs3⟩ := HY.out
      obtain ⟨hOl, hPl, hd, hPf, hnb, hzs⟩ := HO.out
      have haO : ¬ O (nb + 1) := fun e => by have := hOl _ e; omega
      have haP : ¬ P (nb + 1) := fun e => by have := hPl _ e; omega
      have hs4 := hb4.size
      have hA4 := hA3.but hb4 haO
      obtain ⟨g0, x0⟩ := hA4.get 0 _ rfl
      obtain ⟨g1, x1⟩ := hA4.get 1 _ rfl
      obtain ⟨g2, x2⟩ := hA4.get 2 _ rfl
      obtain ⟨g3, x3⟩ := hA4.get 3 _ rfl
      have hal := hA4.lt
      have hd4 : ∀ k, O4 k → ¬ P k := fun k hk e => by
        rcases hG4 k hk with q | q
        · exact hd k q e
        · have := hPl k e; omega
      have FIN := hidq (stepEnd_fr (A := ⟨true, 0, 0, (pl : Int) + (n : Int) * (M.cell (c + pl)).n⟩) (d := true) (F' := { F with at_ := (v : Int) }) [] hM4 (fun k hk => (hG4 k hk).imp id (fun e => ⟨by omega, e.2⟩)) (hF3.but hb4 (fun k hk e => hd k e hk)) (Grown.refl _ w w4) hd4 (hb03.then hb4 (fun j _ e => .inl e)) hPf hA4 (by omega) (fun e => by
        rcases hG4 _ e with q | q
        · exact haO q
        · omega) haP (fun _ _ _ _ => rfl) rfl rfl)
      generalize (pl : Int) + (n : Int) * (M.cell (c + pl)).n = N at *
      clear hb03 hF3 hA3 hs3 hOl hPl hd hPf hnb hzs haO haP hs4 hA4 hd4 hM4 hG4 hb4 HY HO hL HK n30 n31 n32
      go_wp2_with fail
      exact ret_ans (A := ⟨true, 0, 0, N⟩) Try.results17 FIN.out.1 rfl rfl rfl (by rw [HS.out]; exact FIN.out.2)
    | some i =>
      obtain ⟨_, g, hgi, _⟩ := nAhead_some _ (Nat.le_refl _) ho
      have HS := hidq (HST.out.2 i g ho hgi)
      rw [ho] at hA0
      have hA : Calls Try.prog 56 #[.agg #[.int .i64 (n : Int), .slice ga c gc, .slice oa n oc], .pointer (some ⟨fb, 0, none⟩)] Wz fun e w' => e = .returned (.tuple #[.int .i64 (i : Int), .bool true]) ∧ Below Wz.heap.size Wz w' := hA0
      have HA := hidq hA
      have HG := hidq hgi
      clear hA hA0 ho HST hgi
      refine HA.out.mono ?_
      rintro e w3 ⟨rfl, hb3⟩
      clear HA
      obtain ⟨hbz, hMz, hFz, hplz, hNz, hAz, hflz, hc5, hc6⟩ := HZ.out
      have hNb3 := hNz.below hb3
      have n30 := (hNb3.get 0 _ rfl).1
      have n31 := (hNb3.get 1 _ rfl).1
      have n32 := (hNb3.get 2 _ rfl).1
      have hnl3 := hNb3.lt
      have hL := hidq (npass_any n c gc oc ga oa D G Os w3 b fb i O P M _ g (hplz.below hb3) HDD.out (hMz.below hb3) (hFz.below hb3) HO.out.2.2.1 HK.out.1 HK.out.2.1 HG.out hc)
      have HY := hidq (And.intro (hbz.then (But.of_below (S := fun _ => False) hb3) (fun _ _ e => False.elim e)) (And.intro (hAz.below hb3) hb3.size))
      clear hbz hMz hFz hplz hNz hAz hflz hc5 hc6 hNb3 hb3 HZ z0 z1 z2 hzl
      generalize hF5 : ({ F with pc := ((i + 1 : Nat) : Int), at_ := (((if (M.cell i).n % 2 = 0 then g.1 else g.2) : Nat) : Int) } : Fr) = F5 at *
      have HL2 := hL
      clear hL hF5
      go_wp2_with fail
      refine HL2.out.mono ?_
      rintro e w4 ⟨rfl, O4, P4, hM4, hF4, hd4, hG4, hGP4, hb4⟩
      obtain ⟨hb03, hA3, hs3⟩ := HY.out
      obtain ⟨hOl, hPl, hd, hPf, hnb, hzs⟩ := HO.out
      have haO : ¬ O (nb + 1) := fun e => by have := hOl _ e; omega
      have haP : ¬ P (nb + 1) := fun e => by have := hPl _ e; omega
      have hs4 := hb4.size
      have hA4 := hA3.but hb4 (fun e => e.elim haO haP)
      obtain ⟨g0, x0⟩ := hA4.get 0 _ rfl
      obtain ⟨g1, x1⟩ := hA4.get 1 _ rfl
      obtain ⟨g2, x2⟩ := hA4.get 2 _ rfl
      obtain ⟨g3, x3⟩ := hA4.get 3 _ rfl
      have hal := hA4.lt
      have FIN := hidq (stepEnd_fr (A := Ans.zero) (d := false) (F' := F5) [] hM4 (fun k hk => (hG4 k hk).imp id (fun e => ⟨by omega, e.2⟩)) hF4 (fun k hk => (hGP4 k hk).imp id (fun e => ⟨by omega, e.2⟩)) hd4 (hb03.then hb4 (fun j _ e => e)) hPf hA4 (by omega) (fun e => by
        rcases hG4 _ e with q | q
        · exact haO q
        · omega) (fun e => by
        rcases hGP4 _ e with q | q
        · exact haP q
        · omega) (fun _ _ _ _ => rfl) rfl rfl)
      clear hb03 hA3 hs3 hOl hPl hd hPf hnb hzs haO haP hs4 hA4 hd4 hM4 hF4 hG4 hGP4 hb4 HY HO HL2 HK n30 n31 n32
      go_wp2_with fail
      exact ret_ans (A := Ans.zero) Try.results17 FIN.out.1 rfl rfl rfl (by rw [HS.out]; exact FIN.out.2)
  · have hv2 : F.at_ = (v : Int) := by rw [← hv]; unfold nWire; rw [if_neg (by omega)]; omega
    rw [hv2] at f6
    have hp2 : ((p : Int) == 0) = false := by simp; omega
    have hp3 : (p == 0) = false := by simpa using hz
    have hF2 : ({ F with at_ := (v : Int) } : Fr) = F := by rw [← hv2]
    have HZ := hidq (And.intro (show But (fun k => O k ∨ P k) w W1 from But.of_below hb1) (And.intro hM1 (And.intro (show FrAt W1 fb P { F with at_ := (v : Int) } from by rw [hF2]; exact hf1) (And.intro hpl1 (And.intro hN1 (And.intro hA1 (And.intro hfl1 (And.intro f5 f6))))))))
    have z0 := (hN1.get 0 _ rfl).1
    have z1 := (hN1.get 1 _ rfl).1
    have z2 := (hN1.get 2 _ rfl).1
    have hzl := hN1.lt
    replace HO := hidq (And.intro h.lt (And.intro hf.lt (And.intro hd (And.intro hf.ob (And.intro hnb (show nb + 2 ≤ W1.heap.size by omega))))))
    clear hpl hdd h hf hd hk hp0 hp1 ha0 ha1 hp hv hf1 hM1 hpl1 hB hN1 hA1 hb1 hs1 f3 hv2 hF2 y6
    generalize W1 = Wz at *
    go_enter Try.func17, Try.ntmps17
    go_wp2_with fail
    try rw [hW1']
    clear hW1' f0 f5 f6 hfl1 hnb

    have hA0 := ahead_any n c gc oc ga oa D G Os Wz fb p v HZ.out.2.2.2.1 HZ.out.2.2.2.2.2.2.1 HZ.out.2.2.2.2.2.2.2.1 HZ.out.2.2.2.2.2.2.2.2 hpc hc
    cases ho : nAhead G p v with
    | none =>
      have HS := hidq (HST.out.1 ho)
      rw [ho] at hA0
      have hA : Calls Try.prog 56 #[.agg #[.int .i64 (n : Int), .slice ga c gc, .slice oa n oc], .pointer (some ⟨fb, 0, none⟩)] Wz fun e w' => e = .returned (.tuple #[.int .i64 0, .bool false]) ∧ Below Wz.heap.size Wz w' := hA0
      have HA := hidq hA
      clear hA hA0 ho HST
      refine HA.out.mono ?_
      rintro e w3 ⟨rfl, hb3⟩
      clear HA
      obtain ⟨hbz, hMz, hFz, hplz, hNz, hAz, hflz, hc5, hc6⟩ := HZ.out
      have hNb3 := hNz.below hb3
      have n30 := (hNb3.get 0 _ rfl).1
      have n31 := (hNb3.get 1 _ rfl).1
      have n32 := (hNb3.get 2 _ rfl).1
      have hnl3 := hNb3.lt
      have hL := hidq (nleave_any n c gc oc ga oa D G Os w3 b fb v pl O M (hplz.below hb3) (hMz.below hb3) (Nat.lt_of_lt_of_le hflz hb3.size) ((hb3.cell (p := ⟨fb, 6, none⟩) hflz).trans hc6) HK.out.1 HK.out.2.1 hc hn16 HK.out.2.2.1 HK.out.2.2.2)
      have HY := hidq (And.intro (hbz.then (But.of_below (S := fun _ => False) hb3) (fun _ _ e => False.elim e)) (And.intro (hFz.below hb3) (And.intro (hAz.below hb3) hb3.size)))
      clear hbz hMz hFz hplz hNz hAz hflz hc5 hc6 hNb3 hb3 HZ z0 z1 z2 hzl
      go_wp2_with fail
      refine hL.out.mono ?_
      rintro e w4 ⟨rfl, O4, hM4, hG4, hb4⟩
      obtain ⟨hb03, hF3, hA3, hs3⟩ := HY.out
      obtain ⟨hOl, hPl, hd, hPf, hnb, hzs⟩ := HO.out
      have haO : ¬ O (nb + 1) := fun e => by have := hOl _ e; omega
      have haP : ¬ P (nb + 1) := fun e => by have := hPl _ e; omega
      have hs4 := hb4.size
      have hA4 := hA3.but hb4 haO
      obtain ⟨g0, x0⟩ := hA4.get 0 _ rfl
      obtain ⟨g1, x1⟩ := hA4.get 1 _ rfl
      obtain ⟨g2, x2⟩ := hA4.get 2 _ rfl
      obtain ⟨g3, x3⟩ := hA4.get 3 _ rfl
      have hal := hA4.lt
      have hd4 : ∀ k, O4 k → ¬ P k := fun k hk e => by
        rcases hG4 k hk with q | q
        · exact hd k q e
        · have := hPl k e; omega
      have FIN := hidq (stepEnd_fr (A := ⟨true, 0, 0, (pl : Int) + (n : Int) * (M.cell (c + pl)).n⟩) (d := true) (F' := { F with at_ := (v : Int) }) [] hM4 (fun k hk => (hG4 k hk).imp id (fun e => ⟨by omega, e.2⟩)) (hF3.but hb4 (fun k hk e => hd k e hk)) (Grown.refl _ w w4) hd4 (hb03.then hb4 (fun j _ e => .inl e)) hPf hA4 (by omega) (fun e => by
        rcases hG4 _ e with q | q
        · exact haO q
        · omega) haP (fun _ _ _ _ => rfl) rfl rfl)
      generalize (pl : Int) + (n : Int) * (M.cell (c + pl)).n = N at *
      clear hb03 hF3 hA3 hs3 hOl hPl hd hPf hnb hzs haO haP hs4 hA4 hd4 hM4 hG4 hb4 HY HO hL HK n30 n31 n32
      go_wp2_with fail
      exact ret_ans (A := ⟨true, 0, 0, N⟩) Try.results17 FIN.out.1 rfl rfl rfl (by rw [HS.out]; exact FIN.out.2)
    | some i =>
      obtain ⟨_, g, hgi, _⟩ := nAhead_some _ (Nat.le_refl _) ho
      have HS := hidq (HST.out.2 i g ho hgi)
      rw [ho] at hA0
      have hA : Calls Try.prog 56 #[.agg #[.int .i64 (n : Int), .slice ga c gc, .slice oa n oc], .pointer (some ⟨fb, 0, none⟩)] Wz fun e w' => e = .returned (.tuple #[.int .i64 (i : Int), .bool true]) ∧ Below Wz.heap.size Wz w' := hA0
      have HA := hidq hA
      have HG := hidq hgi
      clear hA hA0 ho HST hgi
      refine HA.out.mono ?_
      rintro e w3 ⟨rfl, hb3⟩
      clear HA
      obtain ⟨hbz, hMz, hFz, hplz, hNz, hAz, hflz, hc5, hc6⟩ := HZ.out
      have hNb3 := hNz.below hb3
      have n30 := (hNb3.get 0 _ rfl).1
      have n31 := (hNb3.get 1 _ rfl).1
      have n32 := (hNb3.get 2 _ rfl).1
      have hnl3 := hNb3.lt
      have hL := hidq (npass_any n c gc oc ga oa D G Os w3 b fb i O P M _ g (hplz.below hb3) HDD.out (hMz.below hb3) (hFz.below hb3) HO.out.2.2.1 HK.out.1 HK.out.2.1 HG.out hc)
      have HY := hidq (And.intro (hbz.then (But.of_below (S := fun _ => False) hb3) (fun _ _ e => False.elim e)) (And.intro (hAz.below hb3) hb3.size))
      clear hbz hMz hFz hplz hNz hAz hflz hc5 hc6 hNb3 hb3 HZ z0 z1 z2 hzl
      generalize hF5 : ({ F with pc := ((i + 1 : Nat) : Int), at_ := (((if (M.cell i).n % 2 = 0 then g.1 else g.2) : Nat) : Int) } : Fr) = F5 at *
      have HL2 := hL
      clear hL hF5
      go_wp2_with fail
      refine HL2.out.mono ?_
      rintro e w4 ⟨rfl, O4, P4, hM4, hF4, hd4, hG4, hGP4, hb4⟩
      obtain ⟨hb03, hA3, hs3⟩ := HY.out
      obtain ⟨hOl, hPl, hd, hPf, hnb, hzs⟩ := HO.out
      have haO : ¬ O (nb + 1) := fun e => by have := hOl _ e; omega
      have haP : ¬ P (nb + 1) := fun e => by have := hPl _ e; omega
      have hs4 := hb4.size
      have hA4 := hA3.but hb4 (fun e => e.elim haO haP)
      obtain ⟨g0, x0⟩ := hA4.get 0 _ rfl
      obtain ⟨g1, x1⟩ := hA4.get 1 _ rfl
      obtain ⟨g2, x2⟩ := hA4.get 2 _ rfl
      obtain ⟨g3, x3⟩ := hA4.get 3 _ rfl
      have hal := hA4.lt
      have FIN := hidq (stepEnd_fr (A := Ans.zero) (d := false) (F' := F5) [] hM4 (fun k hk => (hG4 k hk).imp id (fun e => ⟨by omega, e.2⟩)) hF4 (fun k hk => (hGP4 k hk).imp id (fun e => ⟨by omega, e.2⟩)) hd4 (hb03.then hb4 (fun j _ e => e)) hPf hA4 (by omega) (fun e => by
        rcases hG4 _ e with q | q
        · exact haO q
        · omega) (fun e => by
        rcases hGP4 _ e with q | q
        · exact haP q
        · omega) (fun _ _ _ _ => rfl) rfl rfl)
      clear hb03 hA3 hs3 hOl hPl hd hPf hnb hzs haO haP hs4 hA4 hd4 hM4 hF4 hG4 hGP4 hb4 HY HO HL2 HK n30 n31 n32
      go_wp2_with fail
      exact ret_ans (A := Ans.zero) Try.results17 FIN.out.1 rfl rfl rfl (by rw [HS.out]; exact FIN.out.2)
end Go.Proofs.Ytdghgmaoamjnlaa

namespace Go.Proofs.Ytdghgmaoamjnlaa
open Go.RowKit Go.Sort

set_option maxRecDepth 20000 in
set_option maxHeartbeats 4000000 in
theorem nnew_ok (d n : Nat) (hd : d ≤ 4) (hn : n = 2 ^ d) (w : World) : Calls Try.prog 14 #[.int .i64 (n : Int)] w (MakeNew d n w) := by
  obtain ⟨rb, hrb⟩ : ∃ rb, w.heap.size = rb := ⟨_, rfl⟩
  obtain ⟨W0, hW0⟩ : ∃ W0, w.alloc (.cells #[.int .i64 0, .slice none 0 0, .slice none 0 0] 52) = W0 := ⟨_, rfl⟩
  have hB0 := BoxAt.new w [.int .i64 0, .slice none 0 0, .slice none 0 0] 52
  rw [show w.alloc (.cells [.int .i64 0, .slice none 0 0, .slice none 0 0].toArray 52) = W0 from hW0, hrb] at hB0
  have hb0 : Below w.heap.size w W0 := by rw [← hW0]; exact (Below.refl _ _).alloc (Nat.le_refl _) _
  have hM := hidq (make_new d n hd hn W0)
  have H0 := hidq (And.intro hB0 hb0)
  clear hB0 hb0 hd hn
  go_enter Try.func14, Try.ntmps14
  go_wp2_with fail
  refine hM.out.mono ?_
  rintro e w1 ⟨ga, gc, oa, oc, rfl, hS, hN, hf1, hf2, hb1⟩
  obtain ⟨hB0, hb0⟩ := H0.out
  obtain ⟨W2, hW2⟩ : ∃ W2, w1.alloc (.cells #[.int .i64 (n : Int), .slice ga (cg d) gc, .slice oa n oc] 50) = W2 := ⟨_, rfl⟩
  have hB2 := BoxAt.new w1 [.int .i64 (n : Int), .slice ga (cg d) gc, .slice oa n oc] 50
  rw [show w1.alloc (.cells [.int .i64 (n : Int), .slice ga (cg d) gc, .slice oa n oc].toArray 50) = W2 from hW2] at hB2
  have hb2 : Below w1.heap.size w1 W2 := by rw [← hW2]; exact (Below.refl _ _).alloc (Nat.le_refl _) _
  have hR2 := (hB0.below hb1).below hb2
  have hb02 : Below w.heap.size w W2 := (hb0.trans (hb1.mono hb0.size)).trans (hb2.mono (by have := hb0.size; have := hb1.size; omega))
  have p0 := (hB2.get 0 _ rfl).1
  have p1 := (hB2.get 1 _ rfl).1
  have p2 := (hB2.get 2 _ rfl).1
  have hpl := hB2.lt
  obtain ⟨r0, y0⟩ := hR2.get 0 _ rfl
  obtain ⟨r1, y1⟩ := hR2.get 1 _ rfl
  obtain ⟨r2, y2⟩ := hR2.get 2 _ rfl
  have hrl := hR2.lt
  have hR3 := setBox_box [(0, .int .i64 (n : Int)), (1, .slice ga (cg d) gc), (2, .slice oa n oc)] hR2
  have hb3 := setBox_but rb [(0, .int .i64 (n : Int)), (1, .slice ga (cg d) gc), (2, .slice oa n oc)] W2
  have HE := hidq (show MakeNew d n w (.returned (.tuple #[.agg #[.int .i64 (n : Int), .slice ga (cg d) gc, .slice oa n oc], .int .i64 0])) (setBox W2 rb [(0, .int .i64 (n : Int)), (1, .slice ga (cg d) gc), (2, .slice oa n oc)]) from by
    have hs0 := hB0.lt
    have hs01 := hb0.size
    refine ⟨ga, gc, oa, oc, rfl, (hS.below hb2).but hb3 (fun j hj e => ?_), fun i v hv => ?_, fun j hj => ?_, fun j hj => ?_, hb02.trans (hb3.below hb02.size (fun j e => by omega))⟩
    · have := hf1 j hj; omega
    · obtain ⟨b, off, e1, e2, _, e4⟩ := (hN.below hb2) i v hv
      have := hf2 b ⟨_, e1, rfl⟩
      exact ⟨b, off, e1, Nat.lt_of_lt_of_le e2 hb3.size, id, by rw [hb3.cell (p := ⟨b, off + i, none⟩) e2 (show ¬ b = rb by omega)]; exact e4⟩
    · have := hf1 j hj; omega
    · have := hf2 j hj; omega)
  have q0 := (hR3.get 0 _ rfl).1
  have q1 := (hR3.get 1 _ rfl).1
  have q2 := (hR3.get 2 _ rfl).1
  dsimp only [setBox] at q0 q1 q2
  clear hS hN hf1 hf2 hb1 hB0 hb0 hB2 hb2 hR2 hb02 hR3 hb3 H0 hM
  go_wp2_with fail
  exact bodyPost_ret (v := .tuple #[.agg #[.int .i64 (n : Int), .slice ga (cg d) gc, .slice oa n oc], .int .i64 0]) (by simp [results, Try.results14, go_sem, q0, q1, q2]) rfl HE.out

set_option maxRecDepth 20000 in
set_option maxHeartbeats 4000000 in
theorem nnew_no (p : Int) (w : World) (h : legal 4 p = 5) : Calls Try.prog 14 #[.int .i64 p] w fun e w' => e = .returned (.tuple #[.agg #[.int .i64 0, .slice none 0 0, .slice none 0 0], .int .i64 5]) ∧ Below w.heap.size w w' := by
  obtain ⟨rb, hrb⟩ : ∃ rb, w.heap.size = rb := ⟨_, rfl⟩
  obtain ⟨W0, hW0⟩ : ∃ W0, w.alloc (.cells #[.int .i64 0, .slice none 0 0, .slice none 0 0] 52) = W0 := ⟨_, rfl⟩
  have hB0 := BoxAt.new w [.int .i64 0, .slice none 0 0, .slice none 0 0] 52
  rw [show w.alloc (.cells [.int .i64 0, .slice none 0 0, .slice none 0 0].toArray 52) = W0 from hW0, hrb] at hB0
  have hb0 : Below w.heap.size w W0 := by rw [← hW0]; exact (Below.refl _ _).alloc (Nat.le_refl _) _
  have hM := hidq (make_no p W0 h)
  have H0 := hidq (And.intro hB0 hb0)
  clear hB0 hb0 h
  go_enter Try.func14, Try.ntmps14
  go_wp2_with fail
  refine hM.out.mono ?_
  rintro e w1 ⟨rfl, hb1⟩
  obtain ⟨hB0, hb0⟩ := H0.out
  obtain ⟨W2, hW2⟩ : ∃ W2, w1.alloc (.cells #[.int .i64 0, .slice none 0 0, .slice none 0 0] 50) = W2 := ⟨_, rfl⟩
  have hb2 : Below w1.heap.size w1 W2 := by rw [← hW2]; exact (Below.refl _ _).alloc (Nat.le_refl _) _
  have hR2 := (hB0.below hb1).below hb2
  have hb02 : Below w.heap.size w W2 := (hb0.trans (hb1.mono hb0.size)).trans (hb2.mono (by have := hb0.size; have := hb1.size; omega))
  obtain ⟨r0, y0⟩ := hR2.get 0 _ rfl
  obtain ⟨r1, y1⟩ := hR2.get 1 _ rfl
  obtain ⟨r2, y2⟩ := hR2.get 2 _ rfl
  have hrl := hR2.lt
  obtain ⟨W3, hW3⟩ : ∃ W3, W2.setCells rb 0 [.int .i64 0, .slice none 0 0, .slice none 0 0] = W3 := ⟨_, rfl⟩
  have hB3 : BoxAt W3 rb [.int .i64 0, .slice none 0 0, .slice none 0 0] := by rw [← hW3]; exact box_cells (cs := [.int .i64 0, .slice none 0 0, .slice none 0 0]) hR2 rfl
  have hb3 : But (fun j => j = rb) W2 W3 := by rw [← hW3]; exact but_setCells _ _ _ _ _ (But.refl _ _)
  have q0 := (hB3.get 0 _ rfl).1
  have q1 := (hB3.get 1 _ rfl).1
  have q2 := (hB3.get 2 _ rfl).1
  have HE := hidq (hb02.trans (hb3.below hb02.size (fun j e => by omega)))
  subst hW2
  have HW3 := hidq hW3
  clear hb1 hB0 hb0 hb2 hR2 hb02 hB3 hb3 H0 hM hW3
  go_wp2_with fail
  have hW3' := HW3.out
  simp only [World.setCells, Nat.zero_add, Nat.reduceAdd] at hW3'
  rw [hW3']
  exact bodyPost_ret (v := .tuple #[.agg #[.int .i64 0, .slice none 0 0, .slice none 0 0], .int .i64 5]) (by simp [results, Try.results14, go_sem, q0, q1, q2]) rfl ⟨rfl, HE.out⟩

/-- What holds of a plan that is made. -/
theorem net_facts (d n : Nat) (hd : d ≤ 4) (hn : n = 2 ^ d) : (Wr.count d (List.range n)).1.length = cg d ∧ (Wr.count d (List.range n)).2.length = n ∧ (∀ g ∈ (Wr.count d (List.range n)).1, g.1 ≠ g.2 ∧ g.1 < n ∧ g.2 < n) ∧ (Wr.count d (List.range n)).2.Nodup ∧ (∀ v, v < n → v ∈ (Wr.count d (List.range n)).2) ∧ (∀ s, Wr.Ev (Wr.run (Wr.count d (List.range n)).1 s) n (Wr.count d (List.range n)).2 (Wr.sum s (List.range n))) ∧ cg d + 1 ≤ 100 ∧ 1 ≤ n ∧ n ≤ 16 := by
  obtain ⟨_, h1, h16⟩ := legal_pow hd hn
  obtain ⟨pf1, pf2, _, _⟩ := plan_facts d hd
  have hcgl := count_gates d (List.range (2 ^ d)) (by simp)
  have houl := Wr.count_length d (List.range (2 ^ d)) (by simp)
  have hev := fun s => Wr.count_even d (List.range (2 ^ d)) s List.nodup_range (by simp)
  have hpm := Wr.count_perm d (List.range (2 ^ d)) (by simp)
  rw [← hn] at pf1 pf2 hcgl houl hev hpm
  refine ⟨hcgl, houl, pf1, pf2, fun v hv => hpm.mem_iff.2 (List.mem_range.2 hv), hev, ?_, h1, h16⟩
  have : d = 0 ∨ d = 1 ∨ d = 2 ∨ d = 3 ∨ d = 4 := by omega
  rcases this with rfl | rfl | rfl | rfl | rfl <;> decide
/-- A width, its gates, its places. -/
structure PF (n c : Nat) (G : List (Nat × Nat)) (Os : List Nat) : Prop where
  ex : ∃ d, d ≤ 4 ∧ n = 2 ^ d ∧ c = cg d ∧ G = (Wr.count d (List.range n)).1 ∧ Os = (Wr.count d (List.range n)).2
/-- How a Net is made. -/
def NewEnd (n c : Nat) (G : List (Nat × Nat)) (Os : List Nat) (w : World) (e : Ending) (w' : World) : Prop :=
  ∃ ga gc oa oc, e = .returned (.tuple #[.agg #[.int .i64 (n : Int), .slice ga c gc, .slice oa n oc], .int .i64 0]) ∧ NP w' (fun j => j < w'.heap.size) ga gc c oa n G Os ∧ Below w.heap.size w w'
theorem nnew_any (d n : Nat) (hd : d ≤ 4) (hn : n = 2 ^ d) : ∃ c G Os, PF n c G Os ∧ ∀ w : World, Calls Try.prog 14 #[.int .i64 (n : Int)] w (NewEnd n c G Os w) := by
  refine ⟨cg d, _, _, ⟨d, hd, hn, rfl, rfl, rfl⟩, fun w => (nnew_ok d n hd hn w).mono ?_⟩
  rintro e w' ⟨ga, gc, oa, oc, rfl, hS, hN, _, _, hb⟩
  obtain ⟨f1, f2, _, _, _, _, _, f7, _⟩ := net_facts d n hd hn
  refine ⟨ga, gc, oa, oc, rfl, ⟨hS, hN, hS.lt, fun j hj => ?_, fun j hj => hj, f1, f2⟩, hb⟩
  obtain ⟨b, off, e1, e2, _⟩ := hN 0 _ (List.getElem?_eq_getElem (by omega))
  obtain ⟨x, hx, rfl⟩ := hj
  rw [e1] at hx; cases hx
  exact e2
theorem PF.le {n c : Nat} {G : List (Nat × Nat)} {Os : List Nat} (h : PF n c G Os) : 1 ≤ n ∧ n ≤ 16 ∧ c + 1 ≤ 100 := by
  obtain ⟨d, hd, hn, hc, _, _⟩ := h.ex
  obtain ⟨_, _, _, _, _, _, f7, f8, f9⟩ := net_facts d n hd hn
  omega
end Go.Proofs.Ytdghgmaoamjnlaa

namespace Go.Proofs.Ytdghgmaoamjnlaa
open Go.RowKit Go.Sort

/-- A token alone. -/
theorem next_any (n c gc oc : Nat) (ga oa : Option Addr) (D : Nat → Prop) (G : List (Nat × Nat)) (Os : List Nat) (hP : PF n c G Os) (b i f : Nat) (M : Mem) (d0 d1 : Int) (hf : c + 1 ≤ f) (hf100 : f ≤ 100) (hi : i ≤ 1000) (h : NI n c G i M) :
    ∃ M', NI n c G (i + 1) M' ∧ ∀ (O : Nat → Prop) (w : World), NP w D ga gc c oa n G Os → (∀ k, D k → ¬ O k) → MemAt w b O M →
      Calls Try.prog 53 #[.iface 52 (.agg #[.int .i64 (n : Int), .slice ga c gc, .slice oa n oc]), .pointer (some ⟨b, 0, none⟩), .agg #[.int .i64 7, .float .f64 0, .int .i64 0, .int .i64 d0, .int .i64 d1], .int .i64 (f : Int)] w fun e w' =>
        e = .returned (.tuple #[.agg #[.bool true, .float .f64 0, .int .i64 0, .int .i64 (i : Int)], .bool true]) ∧ ∃ O', MemAt w' b O' M' ∧ Grown O w w' O' ∧ But O w w' := by
  obtain ⟨d, hd, hn, hc, hG, hO⟩ := hP.ex
  obtain ⟨f1, f2, f3, f4, f5, f6, f7, f8, f9⟩ := net_facts d n hd hn
  rw [← hG] at f1 f3 f6
  rw [← hO] at f2 f4 f5 f6
  rw [← hc] at f1 f7
  obtain ⟨M', e1, e2⟩ := h.next f d0 d1 f1 hf hf100 f8 f2 f4 f3 f6
  refine ⟨M', e2, fun O w hpl hdo hM => ?_⟩
  obtain ⟨s, hC, hE, hs, hok, hck⟩ := h
  have := aloneN_any n c gc oc ga oa D _ _ (nstep_is n c gc oc ga oa D G Os (by omega) f8 f9 f5) (nFine (n := n) _ f1 (fun g hg => (f3 g hg).2)) b O M 7 0 0 d0 d1 (f : Int) w hpl hdo hM ⟨rfl, Int.le_refl _, by show (0 : Int) ≤ _; omega, Int.le_refl _, by show (0 : Int) < _; omega, hok⟩ (by omega) (by omega)
  rw [show (f : Int).toNat = f by omega, e1] at this
  exact this
end Go.Proofs.Ytdghgmaoamjnlaa

namespace Go.Proofs.Ytdghgmaoamjnlaa
open Go.RowKit Go.Sort

theorem run_equalIn_flt {P : Program} (d : Nat) (t : TypeId) (a b : Nat) (w : World) (h : P.underlying t = some (.float .f64)) : (Op.equalIn (d + 1) t (.float .f64 a) (.float .f64 b)).run P w = .ok (Op.floatEq .f64 a b) w := by
  simp [Op.equalIn, run_underlying h]

/-- A Net in its box, its plan, a memory beside it. -/
structure NSt (w W : World) (sb : Nat) (n c gc oc : Nat) (ga oa : Option Addr) (G : List (Nat × Nat)) (Os : List Nat) (L0 mb : Nat) (O : Nat → Prop) (M : Mem) : Prop where
  st : St w W sb [.int .i64 (n : Int), .slice ga c gc, .slice oa n oc] mb O M
  np : NP W (fun j => j < L0) ga gc c oa n G Os
  up : ∀ k, O k → L0 ≤ k
section
variable {w W W' : World} {sb n c gc oc : Nat} {ga oa : Option Addr} {G : List (Nat × Nat)} {Os : List Nat} {L0 mb : Nat} {O O' : Nat → Prop} {M M' : Mem}
theorem NSt.call (h : NSt w W sb n c gc oc ga oa G Os L0 mb O M) (h1 : MemAt W' mb O' M') (h2 : Grown O W W' O') (h3 : But O W W') : NSt w W' sb n c gc oc ga oa G Os L0 mb O' M' := by
  refine ⟨h.st.call h1 h2 h3, h.np.but h3 (fun k hk e => by have := h.up k e; omega), fun k hk => ?_⟩
  rcases h2 k hk with e | e
  · exact h.up k e
  · have := h.up mb h.st.mem.ob
    have := h.st.mem.lt mb h.st.mem.ob
    omega
theorem NSt.below (h : NSt w W sb n c gc oc ga oa G Os L0 mb O M) (hb : Below W.heap.size W W') : NSt w W' sb n c gc oc ga oa G Os L0 mb O M :=
  ⟨h.st.below hb, h.np.below hb, h.up⟩
theorem NSt.apart (h : NSt w W sb n c gc oc ga oa G Os L0 mb O M) : ∀ k, k < L0 → ¬ O k := fun k hk e => by have := h.up k e; omega
theorem NSt.alloc (h : NSt w W sb n c gc oc ga oa G Os L0 mb O M) (o : Obj) : NSt w (W.alloc o) sb n c gc oc ga oa G Os L0 mb O M := h.below ((Below.refl _ _).alloc (Nat.le_refl _) o)
end

set_option maxRecDepth 20000 in
set_option maxHeartbeats 8000000 in
theorem awake11_any (w : World) : Calls Try.prog 12 #[] w fun e w' => e = .returned (.bool true) ∧ Below w.heap.size w w' := by
  obtain ⟨c, G, Os, hP, hN⟩ := nnew_any 2 4 (by decide) rfl
  have hc6 : c = 6 := by
    obtain ⟨d, hd, hn, hc, _⟩ := hP.ex
    have : d = 0 ∨ d = 1 ∨ d = 2 ∨ d = 3 ∨ d = 4 := by omega
    rcases this with rfl | rfl | rfl | rfl | rfl
    · cases hn
    · cases hn
    · rw [hc]; decide
    · cases hn
    · cases hn
  have hN4 : Calls Try.prog 14 #[.int .i64 4] w (NewEnd 4 c G Os w) := hN w
  obtain ⟨n, hn⟩ : ∃ n : Nat, n = 4 := ⟨_, rfl⟩
  rw [← hn] at hP
  have hN4' : Calls Try.prog 14 #[.int .i64 4] w (NewEnd n c G Os w) := by rw [hn]; exact hN4
  have hN3 := fun w => nnew_no 3 w (by decide)
  have hO : ∀ ga gc oa oc w, Calls Try.prog 52 #[.agg #[.int .i64 (n : Int), .slice ga c gc, .slice oa n oc], .int .i64 2] w fun e w' => e = .returned (.int .i64 8) ∧ Below w.heap.size w w' := fun ga gc oa oc w => by
    have := nout_any n c gc oc ga oa 2 (by omega) (by decide) w
    rw [hc6] at this ⊢
    exact this
  have hef := fun d a b w => run_equalIn_flt (P := Try.prog) d 23 a b w Try.underlying23
  have hq0 : Op.floatEq .f64 0 0 = true := by decide
  have hsf := run_store_flt (P := Try.prog)
  have HN := hidq (And.intro hN4' (And.intro hN3 (And.intro hO (And.intro hP hc6))))
  clear hN hN4 hN4' hN3 hO hP hc6 hn
  go_enter Try.func12, Try.ntmps12
  go_wp2_with fail
  refine HN.out.1.mono ?_
  rintro e w1 ⟨ga, gc, oa, oc, rfl, hNP, hb1⟩
  obtain ⟨sb, hsb⟩ : ∃ sb, w1.heap.size = sb := ⟨_, rfl⟩
  obtain ⟨W1, hW1⟩ : ∃ W1, w1.alloc (.cells #[.int .i64 (n : Int), .slice ga c gc, .slice oa n oc] 52) = W1 := ⟨_, rfl⟩
  have hB1 := BoxAt.new w1 [.int .i64 (n : Int), .slice ga c gc, .slice oa n oc] 52
  rw [show w1.alloc (.cells [.int .i64 (n : Int), .slice ga c gc, .slice oa n oc].toArray 52) = W1 from hW1, hsb] at hB1
  have hbW1 : Below w1.heap.size w1 W1 := by rw [← hW1]; exact (Below.refl _ _).alloc (Nat.le_refl _) _
  have H1 := hidq (And.intro (hNP.below hbW1) (And.intro hB1 (And.intro (hb1.trans (hbW1.mono hb1.size)) (And.intro hb1.size hsb))))
  clear hNP hB1 hbW1 hb1
  go_wp2_with fail
  refine (HN.out.2.1 _).mono ?_
  rintro e w2 ⟨rfl, hb2⟩
  obtain ⟨W2, hW2⟩ : ∃ W2, w2.alloc (.cells #[.int .i64 0, .slice none 0 0, .slice none 0 0] 52) = W2 := ⟨_, rfl⟩
  have hbW2 : Below w2.heap.size w2 W2 := by rw [← hW2]; exact (Below.refl _ _).alloc (Nat.le_refl _) _
  have hb12 : Below W1.heap.size W1 W2 := hb2.trans (hbW2.mono hb2.size)
  have H2 := hidq hb12
  have HW2 := hidq hW2
  clear hb2 hbW2 hb12 hW2 hW1 hsb
  go_wp2_with fail
  try rw [HW2.out]
  clear HW2
  refine (new5_any _).mono ?_
  rintro e w3 ⟨rfl, hM3, hb3⟩
  obtain ⟨mb, hmb⟩ : ∃ mb, W2.heap.size = mb := ⟨_, rfl⟩
  rw [hmb] at hM3 ⊢
  obtain ⟨hNP, hB1, hbw1, hs1, hsb⟩ := H1.out
  have hb13 : Below W1.heap.size W1 w3 := H2.out.trans (hb3.mono H2.out.size)
  have hS3 : NSt w w3 sb n c gc oc ga oa G Os sb mb (fun k => k = mb) Mem.empty := by
    have hs12 := H2.out.size
    have hsW := hbw1.size
    have := hB1.lt
    exact ⟨⟨hM3, fun k e => by omega, hB1.below hb13, hbw1.trans (hb13.mono hbw1.size)⟩, by rw [← hsb]; exact hNP.below hb13, fun k e => by omega⟩
  have r0 := (hS3.st.box.get 0 _ rfl).1
  have r1 := (hS3.st.box.get 1 _ rfl).1
  have r2 := (hS3.st.box.get 2 _ rfl).1
  have hsl := hS3.st.box.lt
  have HS3 := hidq hS3
  clear hS3 hM3 hb3 hNP hB1 hbw1 hs1 hsb hb13 H1 H2 hmb
  go_wp2_with fail
  refine (HN.out.2.2.1 ga gc oa oc _).mono ?_
  rintro e w4 ⟨rfl, hb4⟩
  have HS4 := hidq (HS3.out.below hb4)
  clear hb4 HS3 r0 r1 r2 hsl
  have r0 := (HS4.out.st.box.get 0 _ rfl).1
  have r1 := (HS4.out.st.box.get 1 _ rfl).1
  have r2 := (HS4.out.st.box.get 2 _ rfl).1
  have hsl := HS4.out.st.box.lt
  go_wp2_with fail
  obtain ⟨M1, hI1, hA1⟩ := next_any n c gc oc ga oa (fun j => j < sb) G Os HN.out.2.2.2.1 mb 0 9 Mem.empty 3 0 (by have := HN.out.2.2.2.2; omega) (by decide) (by decide) (NI.start n c G)
  refine (hA1 _ w4 HS4.out.np HS4.out.apart HS4.out.st.mem).mono ?_
  rintro e w5 ⟨rfl, O5, hM5, hG5, hB5⟩
  have HI1 := hidq hI1
  have HS5a := hidq (HS4.out.call hM5 hG5 hB5)
  clear hA1 hI1 hM5 hG5 hB5 HS4 r0 r1 r2 hsl
  obtain ⟨A1, hA1⟩ : ∃ A1, w5.alloc (.cells #[.bool true, .float .f64 0, .int .i64 0, .int .i64 0] 30) = A1 := ⟨_, rfl⟩
  have hBA := BoxAt.new w5 [.bool true, .float .f64 0, .int .i64 0, .int .i64 0] 30
  rw [show w5.alloc (.cells [.bool true, .float .f64 0, .int .i64 0, .int .i64 0].toArray 30) = A1 from hA1] at hBA
  have HS5 := hidq (HS5a.out.alloc (.cells #[.bool true, .float .f64 0, .int .i64 0, .int .i64 0] 30))
  rw [hA1] at HS5
  obtain ⟨ab, hab⟩ : ∃ ab, w5.heap.size = ab := ⟨_, rfl⟩
  rw [hab] at hBA
  have habs : mb < ab := by rw [← hab]; exact HS5a.out.st.mem.lt _ HS5a.out.st.mem.ob
  have r0 := (HS5.out.st.box.get 0 _ rfl).1
  have r1 := (HS5.out.st.box.get 1 _ rfl).1
  have r2 := (HS5.out.st.box.get 2 _ rfl).1
  have hsl := HS5.out.st.box.lt
  have HBA := hidq (And.intro hBA (show ¬ O5 ab from fun e => by have := HS5a.out.st.mem.lt _ e; omega))
  clear hBA HS5a
  subst hA1
  subst hab
  go_wp2_with fail
  obtain ⟨M2, hI2, hA2⟩ := next_any n c gc oc ga oa (fun j => j < sb) G Os HN.out.2.2.2.1 mb 1 9 M1 3 0 (by have := HN.out.2.2.2.2; omega) (by decide) (by decide) HI1.out
  refine (hA2 _ _ HS5.out.np HS5.out.apart HS5.out.st.mem).mono ?_
  rintro e w6 ⟨rfl, O6, hM6, hG6, hB6⟩
  have HS6 := hidq (HS5.out.call hM6 hG6 hB6)
  have hB6a := HBA.out.1.but hB6 HBA.out.2
  obtain ⟨A2, hA2'⟩ : ∃ A2, w6.alloc (.cells #[.bool true, .float .f64 0, .int .i64 0, .int .i64 1] 30) = A2 := ⟨_, rfl⟩
  have hBB := BoxAt.new w6 [.bool true, .float .f64 0, .int .i64 0, .int .i64 1] 30
  rw [show w6.alloc (.cells [.bool true, .float .f64 0, .int .i64 0, .int .i64 1].toArray 30) = A2 from hA2'] at hBB
  have hbA2 : Below w6.heap.size w6 A2 := by rw [← hA2']; exact (Below.refl _ _).alloc (Nat.le_refl _) _
  have g3 := ((hB6a.below hbA2).get 3 _ rfl).1
  have hgl := (hB6a.below hbA2).lt
  have HB := hidq (HS6.out.below hbA2).st.low
  have b0 := (hBB.get 0 _ rfl).1
  have b1 := (hBB.get 1 _ rfl).1
  have b2 := (hBB.get 2 _ rfl).1
  have b3 := (hBB.get 3 _ rfl).1
  have hbl := hBB.lt
  clear hA2 hI2 hM6 hG6 hB6 HS5 HS6 r0 r1 r2 hsl hB6a hBB hbA2 HBA HN HI1 habs
  subst hA2'
  go_wp2
  go_ret
  exact ⟨rfl, HB.out⟩
end Go.Proofs.Ytdghgmaoamjnlaa

namespace Go.Proofs.Ytdghgmaoamjnlaa
open Go.RowKit Go.Sort

/-- How many have come behind a gate that so many passed. -/
def updC (s : Nat → Nat) (g : Nat × Nat) (c : Nat) : Nat → Nat := fun w => if w = g.2 then c / 2 else if w = g.1 then c - c / 2 else s w
theorem updC_b (s : Nat → Nat) (g : Nat × Nat) (c : Nat) : updC s g c g.2 = c / 2 := by unfold updC; rw [if_pos rfl]
theorem updC_a (s : Nat → Nat) (g : Nat × Nat) (c : Nat) (h : g.1 ≠ g.2) : updC s g c g.1 = c - c / 2 := by unfold updC; rw [if_neg h, if_pos rfl]
theorem updC_o (s : Nat → Nat) (g : Nat × Nat) (c v : Nat) (h1 : v ≠ g.1) (h2 : v ≠ g.2) : updC s g c v = s v := by unfold updC; rw [if_neg h2, if_neg h1]
theorem ahd_ge : ∀ (l : List (Nat × Nat)) {i v j : Nat}, ahd l i v = some j → i ≤ j
  | [], _, _, _, h => by cases h
  | g :: l, i, v, j, h => by
    rw [ahd] at h
    by_cases e : g.1 = v ∨ g.2 = v
    · rw [if_pos e] at h; cases h; exact Nat.le_refl _
    · rw [if_neg e] at h
      have := ahd_ge l h
      omega
/-- What passed each gate (c), what waits there (N: by the gate's number), what went out (o), what waits to go out (X: by wire): all are those that came (s). -/
def Bal : List ((Nat × Nat) × Nat) → Nat → (Nat → Nat) → (Nat → Nat) → (Nat → Nat) → (Nat → Nat) → Prop
  | [], _, s, _, o, X => ∀ v, o v + X v = s v
  | (g, c) :: r, i, s, N, o, X => c + N i = s g.1 + s g.2 ∧ Bal r (i + 1) (updC s g c) N o X
theorem Bal.congr : ∀ (r : List ((Nat × Nat) × Nat)) (i : Nat) {s s' N N' o X : Nat → Nat}, (∀ v, s' v = s v) → (∀ j, i ≤ j → N' j = N j) → Bal r i s N o X → Bal r i s' N' o X
  | [], _, _, _, _, _, _, _, hs, _, h => fun v => (h v).trans (hs v).symm
  | (g, c) :: r, i, s, s', N, N', o, X, hs, hN, h => by
    refine ⟨by rw [hs, hs, hN i (Nat.le_refl _)]; exact h.1, Bal.congr r (i + 1) (fun v => ?_) (fun j hj => hN j (by omega)) h.2⟩
    unfold updC
    rw [hs v]
theorem updC_inc_hit {s : Nat → Nat} {g : Nat × Nat} {v c : Nat} (h : g.1 = v ∨ g.2 = v) (w : Nat) : updC (Wr.inc s v) g c w = updC s g c w := by
  unfold updC
  by_cases h2 : w = g.2
  · rw [if_pos h2, if_pos h2]
  · rw [if_neg h2, if_neg h2]
    by_cases h1 : w = g.1
    · rw [if_pos h1, if_pos h1]
    · rw [if_neg h1, if_neg h1, Wr.inc_o _ _ _ (by omega)]
theorem updC_inc_miss {s : Nat → Nat} {g : Nat × Nat} {v c : Nat} (h : ¬ (g.1 = v ∨ g.2 = v)) (w : Nat) : updC (Wr.inc s v) g c w = Wr.inc (updC s g c) v w := by
  by_cases hv : w = v
  · subst hv
    rw [Wr.inc_at, updC_o _ _ _ _ (by omega) (by omega), updC_o _ _ _ _ (by omega) (by omega), Wr.inc_at]
  · rw [Wr.inc_o _ _ _ hv]
    unfold updC
    rw [Wr.inc_o _ _ _ hv]
/-- One comes upon a wire. -/
def nInc (N : Nat → Nat) (x : Option Nat) : Nat → Nat := fun j => if x = some j then N j + 1 else N j
def xInc (X : Nat → Nat) (x : Option Nat) (v : Nat) : Nat → Nat := fun u => if x = none ∧ u = v then X u + 1 else X u
theorem Bal.comes : ∀ (r : List ((Nat × Nat) × Nat)) (i : Nat) (s N o X : Nat → Nat) (v : Nat), (∀ q ∈ r, q.1.1 ≠ q.1.2) → Bal r i s N o X → Bal r i (Wr.inc s v) (nInc N (ahd (r.map Prod.fst) i v)) o (xInc X (ahd (r.map Prod.fst) i v) v)
  | [], i, s, N, o, X, v, _, h => fun u => by
    show o u + (if (none : Option Nat) = none ∧ u = v then X u + 1 else X u) = if u = v then s u + 1 else s u
    have := h u
    by_cases e : u = v
    · rw [if_pos ⟨rfl, e⟩, if_pos e]; omega
    · rw [if_neg (fun q => e q.2), if_neg e]; exact this
  | (g, c) :: r, i, s, N, o, X, v, hg, h => by
    have hne : g.1 ≠ g.2 := hg (g, c) (List.mem_cons_self)
    obtain ⟨h1, h2⟩ := h
    by_cases hh : g.1 = v ∨ g.2 = v
    · have ha : ahd ((((g, c) :: r).map Prod.fst)) i v = some i := by
        show ahd (g :: r.map Prod.fst) i v = _
        rw [ahd, if_pos hh]
      rw [ha]
      refine ⟨?_, Bal.congr r (i + 1) (N := N) (updC_inc_hit hh) (fun j hj => ?_) ?_⟩
      · show c + (if some i = some i then N i + 1 else N i) = Wr.inc s v g.1 + Wr.inc s v g.2
        rw [if_pos rfl]
        rcases hh with e | e
        · subst e
          rw [Wr.inc_at, Wr.inc_o _ _ _ (fun q => hne q.symm)]; omega
        · subst e
          rw [Wr.inc_at, Wr.inc_o _ _ _ hne]; omega
      · show (if some i = some j then N j + 1 else N j) = N j
        rw [if_neg (fun q => by cases q; omega)]
      · have hX : xInc X (some i) v = X := by
          funext u
          unfold xInc
          rw [if_neg (fun q => by cases q.1)]
        rw [hX]; exact h2
    · have ha : ahd ((((g, c) :: r).map Prod.fst)) i v = ahd (r.map Prod.fst) (i + 1) v := by
        show ahd (g :: r.map Prod.fst) i v = _
        rw [ahd, if_neg hh]
      rw [ha]
      have ih := Bal.comes r (i + 1) (updC s g c) N o X v (fun q hq => hg q (List.mem_cons_of_mem _ hq)) h2
      refine ⟨?_, Bal.congr r (i + 1) (updC_inc_miss hh) (fun j _ => rfl) ih⟩
      rw [Wr.inc_o _ _ _ (by omega), Wr.inc_o _ _ _ (by omega)]
      have hn : nInc N (ahd (r.map Prod.fst) (i + 1) v) i = N i := by
        unfold nInc
        refine if_neg (fun q => ?_)
        have := ahd_ge _ q
        omega
      rw [hn]; exact h1
/-- One passes gate i + k, and waits on. -/
theorem Bal.passes : ∀ (r : List ((Nat × Nat) × Nat)) (i k : Nat) (s N o X : Nat → Nat) (g : Nat × Nat) (c : Nat), (∀ q ∈ r, q.1.1 ≠ q.1.2) → r[k]? = some (g, c) → 0 < N (i + k) → Bal r i s N o X →
    Bal (r.set k (g, c + 1)) i s (nInc (fun j => if j = i + k then N j - 1 else N j) (ahd ((r.map Prod.fst).drop (k + 1)) (i + k + 1) (if c % 2 = 0 then g.1 else g.2))) o (xInc X (ahd ((r.map Prod.fst).drop (k + 1)) (i + k + 1) (if c % 2 = 0 then g.1 else g.2)) (if c % 2 = 0 then g.1 else g.2))
  | [], _, _, _, _, _, _, _, _, _, h, _, _ => by simp at h
  | (g0, c0) :: r, i, 0, s, N, o, X, g, c, hg, h, hN, hB => by
    simp only [List.getElem?_cons_zero, Option.some.injEq, Prod.mk.injEq] at h
    obtain ⟨rfl, rfl⟩ := h
    have hne : g0.1 ≠ g0.2 := hg (g0, c0) (List.mem_cons_self)
    obtain ⟨h1, h2⟩ := hB
    obtain ⟨v, hv⟩ : ∃ v, (if c0 % 2 = 0 then g0.1 else g0.2) = v := ⟨_, rfl⟩
    rw [hv]
    have hu : ∀ w, updC s g0 (c0 + 1) w = Wr.inc (updC s g0 c0) v w := fun w => by
      by_cases p : c0 % 2 = 0
      · rw [if_pos p] at hv
        subst hv
        by_cases e1 : w = g0.1
        · subst e1
          rw [Wr.inc_at, updC_a _ _ _ hne, updC_a _ _ _ hne]; omega
        · rw [Wr.inc_o _ _ _ e1]
          by_cases e2 : w = g0.2
          · subst e2
            rw [updC_b, updC_b]; omega
          · rw [updC_o _ _ _ _ e1 e2, updC_o _ _ _ _ e1 e2]
      · rw [if_neg p] at hv
        subst hv
        by_cases e2 : w = g0.2
        · subst e2
          rw [Wr.inc_at, updC_b, updC_b]; omega
        · rw [Wr.inc_o _ _ _ e2]
          by_cases e1 : w = g0.1
          · subst e1
            rw [updC_a _ _ _ hne, updC_a _ _ _ hne]; omega
          · rw [updC_o _ _ _ _ e1 e2, updC_o _ _ _ _ e1 e2]
    have ih := Bal.comes r (i + 1) (updC s g0 c0) N o X v (fun q hq => hg q (List.mem_cons_of_mem _ hq)) h2
    refine ⟨?_, Bal.congr r (i + 1) hu (fun j hj => ?_) ih⟩
    · have hn : nInc (fun j => if j = i + 0 then N j - 1 else N j) (ahd (((((g0, c0) :: r).map Prod.fst)).drop (0 + 1)) (i + 0 + 1) v) i = N i - 1 := by
        unfold nInc
        rw [if_neg (fun q => by have := ahd_ge _ q; omega)]
        exact if_pos (by omega)
      rw [hn]
      have : 0 < N i := hN
      show c0 + 1 + (N i - 1) = _
      omega
    · show nInc (fun j => if j = i + 0 then N j - 1 else N j) (ahd (r.map Prod.fst) (i + 0 + 1) v) j = nInc N (ahd (r.map Prod.fst) (i + 1) v) j
      unfold nInc
      dsimp only
      rw [if_neg (show ¬ j = i + 0 by omega)]
  | (g0, c0) :: r, i, k + 1, s, N, o, X, g, c, hg, h, hN, hB => by
    rw [List.getElem?_cons_succ] at h
    obtain ⟨h1, h2⟩ := hB
    have ih := Bal.passes r (i + 1) k (updC s g0 c0) N o X g c (fun q hq => hg q (List.mem_cons_of_mem _ hq)) h (by rw [show i + 1 + k = i + (k + 1) by omega]; exact hN) h2
    rw [show i + 1 + k = i + (k + 1) by omega] at ih
    refine ⟨?_, ih⟩
    have hn : nInc (fun j => if j = i + (k + 1) then N j - 1 else N j) (ahd (((((g0, c0) :: r).map Prod.fst)).drop (k + 1 + 1)) (i + (k + 1) + 1) (if c % 2 = 0 then g.1 else g.2)) i = N i := by
      unfold nInc
      rw [if_neg (fun q => by have := ahd_ge _ q; omega)]
      exact if_neg (by omega)
    rw [hn]; exact h1
/-- One goes out. -/
theorem Bal.goes : ∀ (r : List ((Nat × Nat) × Nat)) (i : Nat) (s N o X : Nat → Nat) (v : Nat), 0 < X v → Bal r i s N o X → Bal r i s N (Wr.inc o v) (fun u => if u = v then X u - 1 else X u)
  | [], _, s, N, o, X, v, hX, h => fun u => by
    have := h u
    show (if u = v then o u + 1 else o u) + (if u = v then X u - 1 else X u) = s u
    by_cases e : u = v
    · subst e; rw [if_pos rfl, if_pos rfl]; omega
    · rw [if_neg e, if_neg e]; exact this
  | (g, c) :: r, i, s, N, o, X, v, hX, h => ⟨h.1, Bal.goes r (i + 1) _ N o X v hX h.2⟩
/-- With none that waits: so many have passed as came. -/
theorem Bal.all : ∀ (r : List ((Nat × Nat) × Nat)) (i : Nat) (s N o X : Nat → Nat), (∀ j, N j = 0) → (∀ v, X v = 0) → Bal r i s N o X → r.map Prod.snd = Wr.cnts (r.map Prod.fst) s ∧ ∀ v, o v = Wr.run (r.map Prod.fst) s v
  | [], _, s, N, o, X, _, hX, h => ⟨rfl, fun v => by have := h v; rw [hX] at this; exact this⟩
  | (g, c) :: r, i, s, N, o, X, hN, hX, h => by
    obtain ⟨h1, h2⟩ := h
    rw [hN, Nat.add_zero] at h1
    have hu : updC s g c = Wr.upd s g := by
      funext w
      unfold updC Wr.upd
      rw [h1]
    rw [hu] at h2
    obtain ⟨e1, e2⟩ := Bal.all r (i + 1) _ N o X hN hX h2
    refine ⟨?_, e2⟩
    show c :: r.map Prod.snd = (s g.1 + s g.2) :: Wr.cnts (r.map Prod.fst) (Wr.upd s g)
    rw [h1, e1]
end Go.Proofs.Ytdghgmaoamjnlaa

namespace Go.Proofs.Ytdghgmaoamjnlaa
open Go.RowKit Go.Sort

/-- The gate that a token waits at. -/
def nx (n : Nat) (G : List (Nat × Nat)) (F : Fr) : Option Nat := nAhead G F.pc.toNat (nWire n F)
def atG (n : Nat) (G : List (Nat × Nat)) (i : Nat) : Option Fr → Bool
  | none => false
  | some F => decide (nx n G F = some i)
def atX (n : Nat) (G : List (Nat × Nat)) (v : Nat) : Option Fr → Bool
  | none => false
  | some F => decide (nx n G F = none ∧ nWire n F = v)
def Nf (n : Nat) (G : List (Nat × Nat)) (T : List (Option Fr)) (i : Nat) : Nat := T.countP (atG n G i)
def Xf (n : Nat) (G : List (Nat × Nat)) (T : List (Option Fr)) (v : Nat) : Nat := T.countP (atX n G v)
theorem countP_pos_of {p : Option Fr → Bool} {T : List (Option Fr)} {k : Nat} {x : Option Fr} (h : T[k]? = some x) (hp : p x = true) : 0 < T.countP p :=
  List.countP_pos_iff.2 ⟨x, List.mem_of_getElem? h, hp⟩
theorem countP_set' {p : Option Fr → Bool} {T : List (Option Fr)} {k : Nat} {x y : Option Fr} (h : T[k]? = some x) : (T.set k y).countP p = T.countP p - (if p x = true then 1 else 0) + (if p y = true then 1 else 0) := by
  obtain ⟨hk, hx⟩ := List.getElem?_eq_some_iff.1 h
  rw [List.countP_set hk, hx]
/-- Tokens under way: T (none: went out); s: how many came upon each wire. -/
structure TInv (n c : Nat) (G : List (Nat × Nat)) (Os : List Nat) (M : Mem) (T : List (Option Fr)) (s : Nat → Nat) : Prop where
  ex : ∃ (C : List Nat) (o : Nat → Nat), C.length = c ∧ (∀ (i : Nat) (x : Nat), C[i]? = some x → (M.cell i).n = (x : Int)) ∧ (∀ v, v < n → (M.cell (c + Os.idxOf v)).n = (o v : Int)) ∧ Bal (G.zip C) 0 s (Nf n G T) o (Xf n G T)
  good : ∀ F, some F ∈ T → nGood n c M F
theorem zip_get {G : List (Nat × Nat)} {C : List Nat} {i x : Nat} {g : Nat × Nat} (hg : G[i]? = some g) (hx : C[i]? = some x) : (G.zip C)[i]? = some (g, x) := by
  rw [List.getElem?_zip_eq_some]; exact ⟨hg, hx⟩
theorem zip_set : ∀ {G : List (Nat × Nat)} {C : List Nat} {i y : Nat} {g : Nat × Nat}, G[i]? = some g → (G.zip C).set i (g, y) = G.zip (C.set i y)
  | [], _, _, _, _, h => by simp at h
  | a :: G, [], i, y, g, h => by simp
  | a :: G, b :: C, 0, y, g, h => by
    simp only [List.getElem?_cons_zero, Option.some.injEq] at h
    subst h; rfl
  | a :: G, b :: C, i + 1, y, g, h => by
    rw [List.getElem?_cons_succ] at h
    show (a, b) :: (G.zip C).set i (g, y) = (a, b) :: G.zip (C.set i y)
    rw [zip_set h]
theorem zip_fst {G : List (Nat × Nat)} {C : List Nat} (h : G.length = C.length) : (G.zip C).map Prod.fst = G := List.map_fst_zip (by omega)
theorem updC_zero (g : Nat × Nat) : updC (fun _ => 0) g 0 = fun _ => 0 := by
  funext w
  unfold updC
  split
  · rfl
  · split <;> rfl
theorem Bal.zero : ∀ (G : List (Nat × Nat)) (c i : Nat), Bal (G.zip (List.replicate c 0)) i (fun _ => 0) (fun _ => 0) (fun _ => 0) (fun _ => 0)
  | [], _, _ => fun _ => rfl
  | g :: G, 0, _ => fun _ => rfl
  | g :: G, c + 1, i => by
    refine ⟨rfl, ?_⟩
    rw [updC_zero]
    exact Bal.zero G c (i + 1)
theorem TInv.start (n c : Nat) (G : List (Nat × Nat)) (Os : List Nat) : TInv n c G Os Mem.empty [] (fun _ => 0) := by
  refine ⟨⟨List.replicate c 0, fun _ => 0, by simp, fun i x hx => ?_, fun v _ => rfl, ?_⟩, fun F hF => by cases hF⟩
  · rw [List.getElem?_replicate] at hx
    split at hx
    · cases hx; rfl
    · cases hx
  · exact Bal.zero G c 0
/-- A token begins. -/
theorem TInv.begin_ {n c : Nat} {G : List (Nat × Nat)} {Os : List Nat} {M : Mem} {T : List (Option Fr)} {s : Nat → Nat} (h : TInv n c G Os M T s) (hc : G.length = c) (hG : ∀ g ∈ G, g.1 ≠ g.2) (F : Fr) (hp : F.pc = 0) (hg : nGood n c M F) :
    TInv n c G Os M (T ++ [some F]) (Wr.inc s (nWire n F)) := by
  obtain ⟨C, o, hC, h1, h2, hB⟩ := h.ex
  have hz := zip_fst (G := G) (C := C) (by omega)
  have hm : ∀ q ∈ G.zip C, q.1.1 ≠ q.1.2 := fun q hq => hG q.1 (by rw [← hz]; exact List.mem_map_of_mem hq)
  have hb := Bal.comes (G.zip C) 0 s (Nf n G T) o (Xf n G T) (nWire n F) hm hB
  rw [hz] at hb
  have hx : nx n G F = ahd G 0 (nWire n F) := by unfold nx nAhead; rw [hp]; rfl
  rw [← hx] at hb
  refine ⟨⟨C, o, hC, h1, h2, ?_⟩, fun F' hF' => ?_⟩
  · have e1 : Nf n G (T ++ [some F]) = nInc (Nf n G T) (nx n G F) := by
      funext i
      unfold Nf nInc
      rw [List.countP_append, List.countP_cons, List.countP_nil]
      show _ + (0 + if decide (nx n G F = some i) = true then 1 else 0) = _
      by_cases e : nx n G F = some i
      · rw [if_pos (decide_eq_true e), if_pos e]
      · rw [if_neg (by simpa using e), if_neg e]; rfl
    have e2 : Xf n G (T ++ [some F]) = xInc (Xf n G T) (nx n G F) (nWire n F) := by
      funext v
      unfold Xf xInc
      rw [List.countP_append, List.countP_cons, List.countP_nil]
      show _ + (0 + if decide (nx n G F = none ∧ nWire n F = v) = true then 1 else 0) = _
      by_cases e : nx n G F = none ∧ v = nWire n F
      · rw [if_pos (decide_eq_true ⟨e.1, e.2.symm⟩), if_pos e]
      · rw [if_neg (fun q => e ⟨(of_decide_eq_true q).1, (of_decide_eq_true q).2.symm⟩), if_neg e]; rfl
    rw [e1, e2]; exact hb
  · rcases List.mem_append.1 hF' with q | q
    · exact h.good F' q
    · rw [List.mem_singleton] at q
      cases q
      exact hg
theorem nGood.bump {n c i : Nat} {M : Mem} {F : Fr} (h : nGood n c M F) : nGood n c (bump M i) F := ⟨h.1, h.2.1, h.2.2.1, h.2.2.2.1, h.2.2.2.2.1, h.2.2.2.2.2.bump i⟩
/-- A token's step. -/
theorem TInv.step {n c : Nat} {G : List (Nat × Nat)} {Os : List Nat} {M : Mem} {T : List (Option Fr)} {s : Nat → Nat} (h : TInv n c G Os M T s) (hc : G.length = c) (hn : 1 ≤ n) (hG : ∀ g ∈ G, g.1 ≠ g.2 ∧ g.1 < n ∧ g.2 < n) (hO : ∀ v, v < n → v ∈ Os) {k : Nat} {F : Fr} (hk : T[k]? = some (some F)) :
    TInv n c G Os (nStep n c G Os M F).1 (T.set k (if (nStep n c G Os M F).2.2.2 = true then none else some (nStep n c G Os M F).2.1)) s := by
  obtain ⟨C, o, hC, h1, h2, hB⟩ := h.ex
  have hz := zip_fst (G := G) (C := C) (by omega)
  have hm : ∀ q ∈ G.zip C, q.1.1 ≠ q.1.2 := fun q hq => (hG q.1 (by rw [← hz]; exact List.mem_map_of_mem hq)).1
  have hgF := h.good F (List.mem_of_getElem? hk)
  have hmem : ∀ (y : Option Fr) F', some F' ∈ T.set k y → some F' ∈ T ∨ some F' = y := fun y F' hF' => List.mem_or_eq_of_mem_set hF'
  cases hx : nx n G F with
  | some i =>
    obtain ⟨_, g, hgi, _⟩ := nAhead_some _ (Nat.le_refl _) hx
    obtain ⟨hil, _⟩ := List.getElem?_eq_some_iff.1 hgi
    obtain ⟨x, hxC⟩ : ∃ x, C[i]? = some x := ⟨_, List.getElem?_eq_getElem (by omega)⟩
    have hMx := h1 i x hxC
    have hs := nStep_some (c := c) (Os := Os) (M := M) hx hgi
    have hGg := hG g (List.mem_of_getElem? hgi)
    have hfine := (nFine (n := n) Os hc (fun g hg => (hG g hg).2)).on M F hgF (by rw [hs])
    rw [hs] at hfine
    rw [hs]
    dsimp only at hfine ⊢
    rw [if_neg (by decide)]
    obtain ⟨v', hv'⟩ : ∃ v', (if x % 2 = 0 then g.1 else g.2) = v' := ⟨_, rfl⟩
    have hvM : (if (M.cell i).n % 2 = 0 then g.1 else g.2) = v' := by
      rw [← hv', hMx]
      by_cases e : x % 2 = 0
      · rw [if_pos (by omega), if_pos e]
      · rw [if_neg (by omega), if_neg e]
    rw [hvM] at hfine ⊢
    obtain ⟨F', hF'⟩ : ∃ F' : Fr, ({ F with pc := ((i + 1 : Nat) : Int), at_ := (v' : Int) } : Fr) = F' := ⟨_, rfl⟩
    have hpc' : F'.pc = ((i + 1 : Nat) : Int) := by rw [← hF']
    have hw' : nWire n F' = v' := by
      unfold nWire
      rw [hpc', if_neg (by omega), ← hF']
      exact Int.toNat_natCast _
    have hnx' : nx n G F' = ahd (G.drop (i + 1)) (i + 1) v' := by
      unfold nx nAhead
      rw [hpc', hw', Int.toNat_natCast]
    rw [hF'] at hfine ⊢
    have hNi : 0 < Nf n G T (0 + i) := countP_pos_of hk (by rw [Nat.zero_add]; exact decide_eq_true hx)
    have hb := Bal.passes (G.zip C) 0 i s (Nf n G T) o (Xf n G T) g x hm (zip_get hgi hxC) hNi hB
    rw [hz, zip_set hgi, hv', Nat.zero_add, ← hnx'] at hb
    refine ⟨⟨C.set i (x + 1), o, by rw [List.length_set]; exact hC, fun j y hy => ?_, fun v hv => ?_, ?_⟩, fun F2 hF2 => ?_⟩
    · rw [List.getElem?_set] at hy
      rw [bump_n]
      by_cases e : i = j
      · subst e
        rw [if_pos rfl, if_pos (by omega)] at hy
        cases hy
        rw [if_pos rfl, hMx]; omega
      · rw [if_neg e] at hy
        rw [if_neg (fun q => e q.symm)]
        exact h1 j y hy
    · rw [bump_n, if_neg (by omega)]
      exact h2 v hv
    · have e1 : Nf n G (T.set k (some F')) = nInc (fun j => if j = i then Nf n G T j - 1 else Nf n G T j) (nx n G F') := by
        funext j
        show (T.set k (some F')).countP (atG n G j) = _
        rw [countP_set' hk]
        show Nf n G T j - (if decide (nx n G F = some j) = true then 1 else 0) + (if decide (nx n G F' = some j) = true then 1 else 0) = _
        unfold nInc
        rw [hx]
        simp only [decide_eq_true_eq, Option.some.injEq]
        by_cases e2 : nx n G F' = some j
        · simp only [if_pos e2]
          split <;> split <;> omega
        · simp only [if_neg e2]
          split <;> split <;> omega
      have e2 : Xf n G (T.set k (some F')) = xInc (Xf n G T) (nx n G F') v' := by
        funext u
        show (T.set k (some F')).countP (atX n G u) = _
        rw [countP_set' hk]
        show Xf n G T u - (if decide (nx n G F = none ∧ nWire n F = u) = true then 1 else 0) + (if decide (nx n G F' = none ∧ nWire n F' = u) = true then 1 else 0) = _
        unfold xInc
        rw [hx, hw']
        simp only [decide_eq_true_eq]
        rw [if_neg (fun q => by cases q.1)]
        by_cases e : nx n G F' = none ∧ u = v'
        · rw [if_pos ⟨e.1, e.2.symm⟩, if_pos e]; omega
        · rw [if_neg (fun q => e ⟨q.1, q.2.symm⟩), if_neg e]; omega
      rw [e1, e2]; exact hb
    · rcases hmem _ _ hF2 with q | q
      · exact (h.good F2 q).bump
      · cases q; exact hfine
  | none =>
    have hs := nStep_none (c := c) (Os := Os) (M := M) hx
    rw [hs]
    dsimp only
    rw [if_pos rfl]
    obtain ⟨v, hv⟩ : ∃ v, nWire n F = v := ⟨_, rfl⟩
    have hvn : v < n := by rw [← hv]; exact nWire_lt hn hgF
    rw [hv]
    have hXv : 0 < Xf n G T v := countP_pos_of hk (decide_eq_true ⟨hx, hv⟩)
    have hb := Bal.goes (G.zip C) 0 s (Nf n G T) o (Xf n G T) v hXv hB
    have hidx : ∀ u, u < n → u ≠ v → Os.idxOf u ≠ Os.idxOf v := fun u hu hne e => by
      have a1 := List.getElem_idxOf (List.idxOf_lt_length_iff.2 (hO u hu))
      have a2 := List.getElem_idxOf (List.idxOf_lt_length_iff.2 (hO v hvn))
      apply hne
      rw [← a1, ← a2]
      simp only [e]
    refine ⟨⟨C, Wr.inc o v, hC, fun j y hy => ?_, fun u hu => ?_, ?_⟩, fun F2 hF2 => ?_⟩
    · have := (List.getElem?_eq_some_iff.1 hy).1
      rw [bump_n, if_neg (by omega)]
      exact h1 j y hy
    · rw [bump_n]
      by_cases e : u = v
      · subst e
        rw [if_pos rfl, Wr.inc_at, h2 u hu]; omega
      · rw [if_neg (fun q => hidx u hu e (by omega)), Wr.inc_o _ _ _ e]
        exact h2 u hu
    · have e1 : Nf n G (T.set k none) = Nf n G T := by
        funext j
        show (T.set k none).countP (atG n G j) = _
        rw [countP_set' hk]
        show Nf n G T j - (if decide (nx n G F = some j) = true then 1 else 0) + 0 = _
        rw [hx, if_neg (fun q => by simp at q)]; omega
      have e2 : Xf n G (T.set k none) = fun u => if u = v then Xf n G T u - 1 else Xf n G T u := by
        funext u
        show (T.set k none).countP (atX n G u) = _
        rw [countP_set' hk]
        show Xf n G T u - (if decide (nx n G F = none ∧ nWire n F = u) = true then 1 else 0) + 0 = _
        rw [hx, hv]
        by_cases e : u = v
        · subst e
          rw [if_pos (by simp), if_pos rfl]; rfl
        · rw [if_neg (fun q => e (of_decide_eq_true q).2.symm), if_neg e]; rfl
      rw [e1, e2]; exact hb
    · rcases hmem _ _ hF2 with q | q
      · exact (h.good F2 q).bump
      · cases q
/-- With all that came out again: so many have passed as the plan says. -/
theorem TInv.all {n c : Nat} {G : List (Nat × Nat)} {Os : List Nat} {M : Mem} {T : List (Option Fr)} {s : Nat → Nat} (h : TInv n c G Os M T s) (hc : G.length = c) (hT : ∀ x ∈ T, x = none) :
    (∀ (i x : Nat), (Wr.cnts G s)[i]? = some x → (M.cell i).n = (x : Int)) ∧ ∀ v, v < n → (M.cell (c + Os.idxOf v)).n = (Wr.run G s v : Int) := by
  obtain ⟨C, o, hC, h1, h2, hB⟩ := h.ex
  have hz := zip_fst (G := G) (C := C) (by omega)
  have hs2 : (G.zip C).map Prod.snd = C := List.map_snd_zip (by omega)
  obtain ⟨e1, e2⟩ := Bal.all (G.zip C) 0 s _ o _ (fun j => List.countP_eq_zero.2 (fun x hx => by rw [hT x hx]; exact Bool.false_ne_true)) (fun j => List.countP_eq_zero.2 (fun x hx => by rw [hT x hx]; exact Bool.false_ne_true)) hB
  rw [hz, hs2] at e1
  rw [hz] at e2
  exact ⟨fun i x hx => h1 i x (by rw [e1]; exact hx), fun v hv => by rw [h2 v hv, e2]⟩
end Go.Proofs.Ytdghgmaoamjnlaa

namespace Go.Proofs.Ytdghgmaoamjnlaa
open Go.RowKit Go.Sort

/-- How many steps a token may still do. -/
def wt (c : Nat) : Option Fr → Nat
  | none => 0
  | some F => c + 1 - F.pc.toNat
def wts (c : Nat) : List (Option Fr) → Nat
  | [] => 0
  | x :: l => wt c x + wts c l
theorem wts_set {c : Nat} : ∀ {T : List (Option Fr)} {k : Nat} {x y : Option Fr}, T[k]? = some x → wts c (T.set k y) + wt c x = wts c T + wt c y
  | [], _, _, _, h => by simp at h
  | a :: T, 0, x, y, h => by
    simp only [List.getElem?_cons_zero, Option.some.injEq] at h
    subst h
    show wt c y + wts c T + wt c a = wt c a + wts c T + wt c y
    omega
  | a :: T, k + 1, x, y, h => by
    rw [List.getElem?_cons_succ] at h
    have := wts_set (c := c) (y := y) h
    show wt c a + wts c (T.set k y) + wt c x = wt c a + wts c T + wt c y
    omega
theorem wts_zero {c : Nat} : ∀ {T : List (Option Fr)}, wts c T = 0 → ∀ x ∈ T, wt c x = 0
  | [], _, x, hx => by cases hx
  | a :: T, h, x, hx => by
    have h' : wt c a + wts c T = 0 := h
    rcases List.mem_cons.1 hx with e | e
    · rw [e]; omega
    · exact wts_zero (by omega) x e
theorem wts_le {c : Nat} : ∀ {T : List (Option Fr)}, wts c T ≤ T.length * (c + 1)
  | [] => Nat.zero_le _
  | a :: T => by
    have h := wts_le (c := c) (T := T)
    have ha : wt c a ≤ c + 1 := match a with
      | none => Nat.zero_le _
      | some _ => Nat.sub_le _ _
    show wt c a + wts c T ≤ (T.length + 1) * (c + 1)
    rw [Nat.add_mul]
    omega
/-- A step brings a token nearer. -/
theorem nStep_pc {n c : Nat} {G : List (Nat × Nat)} {Os : List Nat} {M : Mem} {F : Fr} (hd : (nStep n c G Os M F).2.2.2 = false) : F.pc.toNat + 1 ≤ (nStep n c G Os M F).2.1.pc.toNat := by
  cases h : nAhead G F.pc.toNat (nWire n F) with
  | none => rw [nStep_none h] at hd; cases hd
  | some i =>
    obtain ⟨h1, g, hgi, _⟩ := nAhead_some _ (Nat.le_refl _) h
    rw [nStep_some h hgi]
    show F.pc.toNat + 1 ≤ (((i + 1 : Nat)) : Int).toNat
    rw [Int.toNat_natCast]; omega
/-- What is known of the time that is left: by turns (tg), or one by one. -/
structure Time (tg : Bool) (c i : Nat) (T : List (Option Fr)) : Prop where
  turns : tg = true → ∀ (t : Nat) (F : Fr), T[t]? = some (some F) → Wr.E T.length i t ≤ F.pc.toNat
  ones : tg = false → wts c T + i ≤ T.length * (c + 1)
theorem Time.start {tg : Bool} {c : Nat} {T : List (Option Fr)} : Time tg c 0 T := by
  refine ⟨fun _ t F hF => ?_, fun _ => by have := wts_le (c := c) (T := T); omega⟩
  have ht := (List.getElem?_eq_some_iff.1 hF).1
  unfold Wr.E
  rw [Nat.div_eq_of_lt (by omega)]
  exact Nat.zero_le _
theorem Time.step {tg : Bool} {n c i k : Nat} {G : List (Nat × Nat)} {Os : List Nat} {M : Mem} {T : List (Option Fr)} {F : Fr} (h : Time tg c i T) (hk : T[k]? = some (some F)) (hg : nGood n c M F)
    (hfirst : tg = true → i % T.length ≤ k ∧ ∀ j, i % T.length ≤ j → j < k → T[j]? = some none) :
    Time tg c (i + 1) (T.set k (if (nStep n c G Os M F).2.2.2 = true then none else some (nStep n c G Os M F).2.1)) := by
  have hkl := (List.getElem?_eq_some_iff.1 hk).1
  refine ⟨fun ht t F' hF' => ?_, fun ht => ?_⟩
  · rw [List.length_set]
    rw [List.getElem?_set] at hF'
    obtain ⟨f1, f2⟩ := hfirst ht
    by_cases e : k = t
    · subst e
      rw [if_pos rfl, if_pos hkl] at hF'
      have hE := h.turns ht k F hk
      have hn := (Wr.E_succ T.length i k (by omega)).2
      cases hd : (nStep n c G Os M F).2.2.2
      · rw [hd, if_neg (by decide)] at hF'
        cases hF'
        have := nStep_pc (Os := Os) (G := G) hd
        omega
      · rw [hd, if_pos rfl] at hF'
        cases hF'
    · rw [if_neg e] at hF'
      have htl := (List.getElem?_eq_some_iff.1 hF').1
      have hE := h.turns ht t F' hF'
      rw [Wr.E_next _ _ _ htl]
      by_cases e2 : t = i % T.length
      · exfalso
        rcases Nat.lt_or_ge t k with q | q
        · have := f2 t (by omega) q
          rw [hF'] at this
          cases this
        · omega
      · rw [if_neg e2]; exact hE
  · rw [List.length_set]
    have h0 := h.ones ht
    have hp := hg.2.2.1
    have hw : 1 ≤ wt c (some F) := by show 1 ≤ c + 1 - F.pc.toNat; omega
    cases hd : (nStep n c G Os M F).2.2.2
    · rw [if_neg (by decide)]
      have hs := wts_set (c := c) (y := some (nStep n c G Os M F).2.1) hk
      have hpc := nStep_pc (Os := Os) (G := G) hd
      have : wt c (some (nStep n c G Os M F).2.1) + 1 ≤ wt c (some F) := by
        show c + 1 - (nStep n c G Os M F).2.1.pc.toNat + 1 ≤ c + 1 - F.pc.toNat
        have : 1 ≤ c + 1 - F.pc.toNat := hw
        omega
      omega
    · rw [if_pos rfl]
      have hs := wts_set (c := c) (y := none) hk
      have : wt c none = 0 := rfl
      omega
/-- A turn at which none is left behind. -/
theorem Time.skip {c i : Nat} {T : List (Option Fr)} (h : Time true c i T) (hno : ∀ j, i % T.length ≤ j → j < T.length → T[j]? = some none) : Time true c (i + 1) T := by
  refine ⟨fun ht t F hF => ?_, fun ht => by cases ht⟩
  have htl := (List.getElem?_eq_some_iff.1 hF).1
  rw [Wr.E_next _ _ _ htl]
  by_cases e : t = i % T.length
  · exfalso
    have := hno t (by omega) htl
    rw [hF] at this
    cases this
  · rw [if_neg e]; exact h.turns ht t F hF
/-- In time all are out. -/
theorem Time.all {tg : Bool} {n c i : Nat} {M : Mem} {T : List (Option Fr)} (h : Time tg c i T) (hg : ∀ F, some F ∈ T → nGood n c M F) (hi : T.length * (c + 1) ≤ i) : ∀ x ∈ T, x = none := by
  intro x hx
  cases x with
  | none => rfl
  | some F =>
    exfalso
    have hp := (hg F hx).2.2.1
    cases tg with
    | true =>
      obtain ⟨t, htl, hte⟩ := List.mem_iff_getElem.1 hx
      have hE := h.turns rfl t F (List.getElem?_eq_some_iff.2 ⟨htl, hte⟩)
      have : c + 1 ≤ Wr.E T.length i t := by
        unfold Wr.E
        rw [Nat.le_div_iff_mul_le (by omega), Nat.mul_comm]
        omega
      omega
    | false =>
      have h0 := h.ones rfl
      have := wts_zero (c := c) (T := T) (by omega) _ hx
      have : c + 1 - F.pc.toNat = 0 := this
      omega
end Go.Proofs.Ytdghgmaoamjnlaa

namespace Go.Proofs.Ytdghgmaoamjnlaa
open Go.RowKit Go.Sort

theorem i64_and8 (n : Int) : bits .and .i64 n 255 = n % 256 := by
  have h63 : (BitVec.ofInt 64 255).toNat = 2 ^ 8 - 1 := by decide
  have key : (BitVec.ofInt 64 n &&& BitVec.ofInt 64 255).toNat = (n % ((2 ^ 64 : Nat) : Int)).toNat % 2 ^ 8 := by
    rw [BitVec.toNat_and, BitVec.toNat_ofInt, h63, Nat.and_two_pow_sub_one_eq_mod]
  show IntKind.i64.wrap ((BitVec.ofInt 64 n &&& BitVec.ofInt 64 255).toNat : Nat) = n % 256
  rw [key, IntKind.wrap_i64]
  omega
/-- The width that a number says, as a power of two. -/
def dOf (n : Int) : Nat := (n % 256 % 5).toNat
theorem dOf_le (n : Int) : dOf n ≤ 4 := by unfold dOf; omega
theorem dOf_eq (n : Int) : n % 256 % 5 = (dOf n : Int) := by unfold dOf; omega
theorem width_any (n : Int) (w : World) : Calls Try.prog 13 #[.int .i64 n] w fun e w' => e = .returned (.int .i64 ((2 ^ dOf n : Nat) : Int)) ∧ w' = w := by
  have hand := i64_and8 n
  have hm0 : 0 ≤ n % 256 := by omega
  have hm1 : n % 256 ≤ 255 := by omega
  have hd := dOf_le n
  have hde := dOf_eq n
  generalize n % 256 = m at *
  have h5 : dOf n = 0 ∨ dOf n = 1 ∨ dOf n = 2 ∨ dOf n = 3 ∨ dOf n = 4 := by omega
  rcases h5 with h | h | h | h | h <;> rw [h] <;> rw [h] at hde <;> clear h hd
  all_goals
    go_enter Try.func13, Try.ntmps13
    go_wp2_with fail
    go_ret
    exact ⟨rfl, rfl⟩

end Go.Proofs.Ytdghgmaoamjnlaa

namespace Go.Proofs.Ytdghgmaoamjnlaa
open Go.RowKit Go.Sort

/-- A table of numbers. -/
def tab (n : Nat) (f : Nat → Nat) : List Nat := (List.range n).map f
theorem tab_len (n : Nat) (f : Nat → Nat) : (tab n f).length = n := by simp [tab]
theorem tab_get {n j : Nat} (f : Nat → Nat) (h : j < n) : (tab n f)[j]? = some (f j) := by simp [tab, h]
theorem tab_none {n j : Nat} (f : Nat → Nat) (h : ¬ j < n) : (tab n f)[j]? = none := by simp [tab]; omega
theorem tab_upd {n : Nat} (S : Nat → Nat) (a b t : Nat) (ha : a < n) (hb : b < n) (ht : t = S a + S b) : ((tab n S).set a (t - t / 2)).set b (t / 2) = tab n (Wr.upd S (a, b)) := by
  subst ht
  apply List.ext_getElem?
  intro j
  rw [List.getElem?_set, List.getElem?_set]
  by_cases hj : j < n
  · rw [tab_get _ hj, tab_get _ hj]
    unfold Wr.upd
    dsimp only
    by_cases e2 : b = j
    · subst e2; rw [if_pos rfl, if_pos (by simp [tab_len]; exact hb), if_pos rfl]
    · rw [if_neg e2, if_neg (Ne.symm e2)]
      by_cases e1 : a = j
      · subst e1; rw [if_pos rfl, if_pos (by rw [tab_len]; exact ha), if_pos rfl]
      · rw [if_neg e1, if_neg (Ne.symm e1)]
  · rw [tab_none _ hj, tab_none _ hj, if_neg (by omega), if_neg (by omega)]
theorem tab_of {n : Nat} {l : List Nat} (h : l.length = n) : tab n (fun i => l.getD i 0) = l := by
  apply List.ext_getElem?
  intro j
  by_cases hj : j < n
  · rw [tab_get _ hj, List.getD_eq_getElem?_getD, List.getElem?_eq_getElem (by omega)]; rfl
  · rw [tab_none _ hj, List.getElem?_eq_none (by omega)]
theorem cnts_snoc : ∀ (gs : List (Nat × Nat)) (g : Nat × Nat) (s : Nat → Nat), Wr.cnts (gs ++ [g]) s = Wr.cnts gs s ++ [Wr.run gs s g.1 + Wr.run gs s g.2]
  | [], _, _ => rfl
  | h :: gs, g, s => by
    show (s h.1 + s h.2) :: Wr.cnts (gs ++ [g]) (Wr.upd s h) = (s h.1 + s h.2) :: (Wr.cnts gs (Wr.upd s h) ++ [_])
    rw [cnts_snoc gs g]; rfl
theorem cnts_take : ∀ (gs : List (Nat × Nat)) (k : Nat) (s : Nat → Nat), Wr.cnts (gs.take k) s = (Wr.cnts gs s).take k
  | [], k, s => by simp [Wr.cnts]
  | g :: gs, 0, s => rfl
  | g :: gs, k + 1, s => by
    show _ :: Wr.cnts (gs.take k) (Wr.upd s g) = _ :: (Wr.cnts gs (Wr.upd s g)).take k
    rw [cnts_take gs k]
/-- The first k of a list, behind them zeros. -/
def padTo (k n : Nat) (l : List Nat) : List Nat := l.take k ++ List.replicate (n - k) 0
theorem padTo_get {k n : Nat} {l : List Nat} (hl : l.length = n) (h : k < n) : (padTo k n l)[k]? = some 0 := by
  unfold padTo
  have l1 : (l.take k).length = k := by rw [List.length_take]; omega
  rw [List.getElem?_append_right (by omega), l1, List.getElem?_replicate, if_pos (by omega)]
theorem padTo_set {k n v : Nat} {l : List Nat} (hl : l.length = n) (h : l[k]? = some v) : (padTo k n l).set k v = padTo (k + 1) n l := by
  have hk : k < n := by have := (List.getElem?_eq_some_iff.1 h).1; omega
  apply List.ext_getElem?
  intro j
  unfold padTo
  rw [List.getElem?_set]
  have l1 : (l.take k).length = k := by rw [List.length_take]; omega
  have l2 : (l.take (k + 1)).length = k + 1 := by rw [List.length_take]; omega
  by_cases e : k = j
  · subst e
    rw [if_pos rfl, if_pos (by simp [hl]; omega), List.getElem?_append_left (by omega), List.getElem?_take, if_pos (by omega), h]
  · rw [if_neg e]
    by_cases e2 : j < k
    · rw [List.getElem?_append_left (by omega), List.getElem?_append_left (by omega), List.getElem?_take, List.getElem?_take, if_pos e2, if_pos (by omega)]
    · rw [List.getElem?_append_right (by omega), List.getElem?_append_right (by omega), l1, l2]
      simp only [List.getElem?_replicate]
      by_cases e3 : j < n
      · rw [if_pos (by omega), if_pos (by omega)]
      · rw [if_neg (by omega), if_neg (by omega)]
theorem padTo_zero (n : Nat) (l : List Nat) : padTo 0 n l = List.replicate n 0 := by simp [padTo]
theorem padTo_all {n : Nat} {l : List Nat} (hl : l.length = n) : padTo n n l = l := by simp [padTo, ← hl]
theorem size_setCells' (b : Nat) : ∀ (vs : List Value) (o : Nat) (w : World), (w.setCells b o vs).heap.size = w.heap.size
  | [], _, _ => rfl
  | v :: vs, o, w => by rw [World.setCells, size_setCells' b vs, World.size_setCell]

def pass9R (wb n xb t a b : Nat) : List (Value → Nat → World → Prop) :=
  [fun v _ _ => v = .slice (some ⟨wb, 0, none⟩) n n,
   fun v _ _ => v = .pointer (some ⟨xb, 0, none⟩),
   fun v _ _ => v = .int .i64 (a : Int),
   fun v _ _ => v = .slice (some ⟨wb, 0, none⟩) n n,
   fun v _ _ => v = .pointer (some ⟨xb, 1, none⟩),
   fun v _ _ => v = .int .i64 (b : Int),
   fun v _ _ => v = .int .i64 (t : Int),
   fun v _ _ => v = .int .i64 (t : Int),
   fun v _ _ => v = .int .i64 ((t / 2 : Nat) : Int),
   fun v _ _ => v = .int .i64 ((t - t / 2 : Nat) : Int),
   fun v _ _ => v = .int .i64 (t : Int),
   fun v _ _ => v = .int .i64 ((t / 2 : Nat) : Int),
   fun v _ _ => v = .pointer (some ⟨wb, a, none⟩),
   fun _ _ _ => True,
   fun v _ _ => v = .pointer (some ⟨wb, b, none⟩),
   fun _ _ _ => True]
theorem pass9R_kept (wb n xb t a b : Nat) : Reg.GAllKept (Reg.PPres (fun j => j = wb)) (pass9R wb n xb t a b) :=
  ⟨(fun _ _ _ _ _ _ h => h), (fun _ _ _ _ _ _ h => h), (fun _ _ _ _ _ _ h => h), (fun _ _ _ _ _ _ h => h), (fun _ _ _ _ _ _ h => h), (fun _ _ _ _ _ _ h => h), (fun _ _ _ _ _ _ h => h), (fun _ _ _ _ _ _ h => h), (fun _ _ _ _ _ _ h => h), (fun _ _ _ _ _ _ h => h), (fun _ _ _ _ _ _ h => h), (fun _ _ _ _ _ _ h => h), (fun _ _ _ _ _ _ h => h), (fun _ _ _ _ _ _ _ => trivial), (fun _ _ _ _ _ _ h => h), (fun _ _ _ _ _ _ _ => trivial), trivial⟩

/-- How it ends. -/
def PassEnd (n c : Nat) (G : List (Nat × Nat)) (O : List Nat) (s : Nat → Nat) (w : World) (e : Ending) (w' : World) : Prop :=
  ∃ gb ob, e = .returned (.tuple #[.slice (some ⟨gb, 0, none⟩) c c, .slice (some ⟨ob, 0, none⟩) n n]) ∧ BoxAt w' gb (vals (Wr.cnts G s)) ∧ BoxAt w' ob (vals (O.map (Wr.run G s))) ∧ w.heap.size ≤ gb ∧ w.heap.size ≤ ob ∧ Below w.heap.size w w'
/-- What holds between two rounds. -/
def PR1 (w : World) (n c : Nat) (G : List (Nat × Nat)) (s : Nat → Nat) (pl : List Value) (pb wb gb k : Nat) (wr : World) : Prop :=
  BoxAt wr pb pl ∧ BoxAt wr wb (vals (tab n (Wr.run (G.take k) s))) ∧ BoxAt wr gb (vals (padTo k c (Wr.cnts G s))) ∧ Below w.heap.size w wr
def PR2 (w : World) (n : Nat) (G : List (Nat × Nat)) (O : List Nat) (s : Nat → Nat) (wb gb ob k : Nat) (wr : World) : Prop :=
  BoxAt wr wb (vals (tab n (Wr.run G s))) ∧ BoxAt wr gb (vals (Wr.cnts G s)) ∧ BoxAt wr ob (vals (padTo k n (O.map (Wr.run G s)))) ∧ Below w.heap.size w wr

set_option maxRecDepth 20000 in
set_option maxHeartbeats 8000000 in
theorem pass_any (n c : Nat) (ga : Option Addr) (gc : Nat) (oa : Option Addr) (oc : Nat) (ib io ic : Nat) (G : List (Nat × Nat)) (O l : List Nat) (w : World) (hG : SlAt 2 w ga gc c (flatG G)) (hO : NsAt w oa (fun _ => False) O) (hl : NsAt w (some ⟨ib, io, none⟩) (fun _ => False) l)
    (hGl : G.length = c) (hOl : O.length = n) (hll : l.length = n) (hGn : ∀ g ∈ G, g.1 < n ∧ g.2 < n) (hOn : ∀ a ∈ O, a < n) (hc : c ≤ 100) (hn1 : 1 ≤ n) (hn : n ≤ 16) (hlb : ∀ i, l.getD i 0 ≤ 1099511627776) :
    Calls Try.prog 18 #[.agg #[.int .i64 (n : Int), .slice ga c gc, .slice oa n oc], .slice (some ⟨ib, io, none⟩) n ic] w (PassEnd n c G O (fun i => l.getD i 0) w) := by
  obtain ⟨s, hs⟩ : ∃ s : Nat → Nat, (fun i => l.getD i 0) = s := ⟨_, rfl⟩
  have hlb2 : ∀ i, s i ≤ 1099511627776 := fun i => by rw [← hs]; exact hlb i
  have htl : tab n s = l := by rw [← hs]; exact tab_of hll
  rw [hs]
  obtain ⟨pb, hpb⟩ : ∃ pb, w.heap.size = pb := ⟨_, rfl⟩
  obtain ⟨W1, hW1⟩ : ∃ W1, w.alloc (.cells #[.int .i64 (n : Int), .slice ga c gc, .slice oa n oc] 50) = W1 := ⟨_, rfl⟩
  have hB1 := BoxAt.new w [.int .i64 (n : Int), .slice ga c gc, .slice oa n oc] 50
  rw [show w.alloc (.cells [.int .i64 (n : Int), .slice ga c gc, .slice oa n oc].toArray 50) = W1 from hW1, hpb] at hB1
  have hb1 : Below w.heap.size w W1 := by rw [← hW1]; exact (Below.refl _ _).alloc (Nat.le_refl _) _
  have hs1 : W1.heap.size = pb + 1 := by rw [← hW1]; simp [hpb]
  obtain ⟨W2, hW2⟩ : ∃ W2, W1.alloc (.cells (Array.replicate n (Value.int .i64 0)) 2) = W2 := ⟨_, rfl⟩
  have hB2 := BoxAt.new W1 (List.replicate n (Value.int .i64 0)) 2
  rw [List.toArray_replicate, hW2, hs1] at hB2
  have hb2 : Below W1.heap.size W1 W2 := by rw [← hW2]; exact (Below.refl _ _).alloc (Nat.le_refl _) _
  have hs2 : W2.heap.size = pb + 2 := by rw [← hW2]; simp [hs1]
  obtain ⟨W3, hW3⟩ : ∃ W3, W2.setCells (pb + 1) 0 (vals l) = W3 := ⟨_, rfl⟩
  have hB3 : BoxAt W3 (pb + 1) (vals l) := by rw [← hW3]; exact box_cells hB2 (by rw [vals_length, hll]; simp)
  have hb3 : But (fun j => j = pb + 1) W2 W3 := by rw [← hW3]; exact but_setCells _ _ _ _ _ (But.refl _ _)
  have hb02 : Below w.heap.size w W2 := hb1.trans (hb2.mono hb1.size)
  have hcp : ∀ ty, (Builtin.copy_ #[57, 57] ty #[.slice (some ⟨pb + 1, 0, none⟩) n n, .slice (some ⟨ib, io, none⟩) n ic]).run Try.prog W2 = .ok (goInt n) W3 := fun ty => by
    have := run_copy_cells (P := Try.prog) W2 57 57 ty 2 (pb + 1) 0 n n ⟨ib, io, none⟩ n ic (vals l) Try.underlying57 (by kernel_rfl) (by rw [vals_length, hll]; exact (Nat.min_self n).symm)
      (fun j v hv => by
        simp only [vals, List.getElem?_map, Option.map_eq_some_iff] at hv
        obtain ⟨m, hm, rfl⟩ := hv
        obtain ⟨b', o', he, _, _, hcell⟩ := (hl.below hb02) j m hm
        cases he
        rw [Addr.add_lit]; exact hcell)
      (fun j hj => by rw [Nat.zero_add, hB2.cell j (.int .i64 0) (by rw [List.getElem?_replicate, if_pos (by rw [vals_length] at hj; omega)])]; rfl)
      (fun j hj => by rw [Nat.zero_add]; exact hB2.fz j (by rw [vals_length] at hj; simp; omega)) (vals_one l)
    rw [hW3, vals_length, hll] at this
    exact this
  have hs3 : W3.heap.size = pb + 2 := by
    have h1 := hb3.size
    have h2 : W3.heap.size = W2.heap.size := by rw [← hW3]; exact size_setCells' _ _ _ _
    omega
  obtain ⟨W4, hW4⟩ : ∃ W4, W3.alloc (.cells (Array.replicate c (Value.int .i64 0)) 2) = W4 := ⟨_, rfl⟩
  have hB4 := BoxAt.new W3 (List.replicate c (Value.int .i64 0)) 2
  rw [List.toArray_replicate, hW4, hs3] at hB4
  have hb4 : Below W3.heap.size W3 W4 := by rw [← hW4]; exact (Below.refl _ _).alloc (Nat.le_refl _) _
  have hP3 : BoxAt W3 pb [.int .i64 (n : Int), .slice ga c gc, .slice oa n oc] := (hB1.below hb2).but hb3 (by omega)
  have hb03 : Below w.heap.size w W3 := hb02.trans (hb3.below hb02.size (fun j hj => by omega))
  have HR := hidq (show PR1 w n c G s [.int .i64 (n : Int), .slice ga c gc, .slice oa n oc] pb (pb + 1) (pb + 2) 0 W4 from
    ⟨hP3.below hb4, by rw [List.take_zero]; show BoxAt W4 (pb + 1) (vals (tab n s)); rw [htl]; exact hB3.below hb4, by rw [padTo_zero, vals_zero]; exact hB4, hb03.trans (hb4.mono hb03.size)⟩)
  have p30 := (hP3.get 0 _ rfl).1
  have p31 := (hP3.get 1 _ rfl).1
  have p10 := (hB1.get 0 _ rfl).1
  have hpl3 : pb < W3.heap.size := by omega
  have hmk1 := zerosL n (by omega) W1
  rw [List.toArray_replicate, hW2, hs1] at hmk1
  have hmk3 := zerosL c (by omega) W3
  rw [List.toArray_replicate, hW4, hs3] at hmk3
  have p41 := ((hP3.below hb4).get 1 _ rfl).1
  have H0 := hidq (And.intro hG (And.intro hO (And.intro hGl (And.intro hOl (And.intro hGn (And.intro hOn hlb2))))))
  clear hG hO hl hGl hOl hGn hOn hlb2 hlb hs htl hB1 hb1 hB2 hb2 hB3 hb3 hb02 hB4 hb4 hP3 hb03 hW2 hW3 hW4 hs1 hs2 hs3 hll
  go_enter Try.func18, Try.ntmps18
  go_wp2_with fail
  clear hcp hmk1 hmk3 p30 p31 p10 p41 hpl3 hW1
  go_loopw [27] (fun s27 wr => ∃ k : Nat, s27 = .int .i64 (k : Int) ∧ k ≤ c ∧ Hid (PR1 w n c G s [.int .i64 (n : Int), .slice ga c gc, .slice oa n oc] pb (pb + 1) (pb + 2) k wr)) (fun s27 _ => c - (intOf s27).toNat)
  case atStart => exact ⟨0, rfl, Nat.zero_le _, HR⟩
  case round =>
    obtain ⟨k, rfl, hk, hR⟩ := hrel
    clear HR
    by_cases hlt : k < c
    · have hltI : (k : Int) < (c : Int) := by omega
      obtain ⟨hG, hO, hGl, hOl, hGn, hOn, hlb⟩ := H0.out
      obtain ⟨r1, r2, r3, r4⟩ := hR.out
      obtain ⟨g, hg⟩ : ∃ g, G[k]? = some g := ⟨_, List.getElem?_eq_getElem (by omega)⟩
      obtain ⟨ha, hb⟩ := hGn g (List.mem_of_getElem? hg)
      obtain ⟨f1, f2⟩ := flatG_get _ _ _ hg
      obtain ⟨q, rfl, hgl, q1⟩ := (hG.below r4).cell f1
      obtain ⟨q', hq', _, q2⟩ := (hG.below r4).cell f2
      cases hq'
      obtain ⟨a, b⟩ := g
      dsimp only at *
      obtain ⟨S, hS⟩ : ∃ S, Wr.run (G.take k) s = S := ⟨_, rfl⟩
      rw [hS] at r2
      have hSb : ∀ v, S v ≤ 1099511627776 := by rw [← hS]; exact Wr.run_le _ _ _ hlb
      have hcnt : (Wr.cnts G s)[k]? = some (S a + S b) := by
        have e1 : G.take (k + 1) = G.take k ++ [(a, b)] := by rw [List.take_add_one, hg]; rfl
        have e2 : Wr.cnts (G.take (k + 1)) s = Wr.cnts (G.take k) s ++ [S a + S b] := by rw [e1, cnts_snoc, hS]
        have e3 : Wr.cnts (G.take (k + 1)) s = (Wr.cnts G s).take (k + 1) := cnts_take G (k + 1) s
        have e4 : (Wr.cnts (G.take k) s).length = k := by rw [Wr.cnts_length, List.length_take]; omega
        have e5 : ((Wr.cnts G s).take (k + 1))[k]? = some (S a + S b) := by rw [← e3, e2, List.getElem?_append_right (by omega), e4]; simp
        rw [List.getElem?_take, if_pos (by omega)] at e5
        exact e5
      have hclen : (Wr.cnts G s).length = c := by rw [Wr.cnts_length, hGl]
      obtain ⟨xb, hxb⟩ : ∃ xb, wr.heap.size = xb := ⟨_, rfl⟩
      obtain ⟨X, hX⟩ : ∃ X, wr.alloc (.cells #[.int .i64 (a : Int), .int .i64 (b : Int)] 139) = X := ⟨_, rfl⟩
      have hbX : Below wr.heap.size wr X := by rw [← hX]; exact (Below.refl _ _).alloc (Nat.le_refl _) _
      have hBX := BoxAt.new wr [.int .i64 (a : Int), .int .i64 (b : Int)] 139
      rw [show wr.alloc (.cells [.int .i64 (a : Int), .int .i64 (b : Int)].toArray 139) = X from hX, hxb] at hBX
      have hxl : pb + 2 < xb := by have := r3.lt; omega
      have HX := hidq hX
      have haI : (a : Int) < (n : Int) := by omega
      have hbI : (b : Int) < (n : Int) := by omega
      have HK := hidq (And.intro (r1.below hbX) (And.intro (r2.below hbX) (And.intro (r3.below hbX) (And.intro (r4.trans (hbX.mono r4.size)) (And.intro hBX (And.intro hcnt (And.intro hclen (And.intro hS hg))))))))
      have HSb := hidq hSb
      clear hG hO hGl hOl hGn hOn hlb r1 r2 r3 r4 f1 f2 hbX hBX hcnt hclen hS hSb hX hg hR
      go_wp2_with fail
      rw [show wr.alloc (.cells #[.int .i64 (a : Int), .int .i64 (b : Int)] 139) = X from HX.out]
      clear q1 q2 hgl HX hxb
      obtain ⟨x1, x2, x3, x4, x5, x6, x7, x8, x9⟩ := HK.out
      have c0 := (x5.get 0 _ rfl).1
      have c1 := (x5.get 1 _ rfl).1
      have ca := (x2.get a (.int .i64 ((S a : Nat) : Int)) (by simp [vals, tab_get S ha])).1
      have cb := (x2.get b (.int .i64 ((S b : Nat) : Int)) (by simp [vals, tab_get S hb])).1
      obtain ⟨cgk, zgk⟩ := x3.get k (.int .i64 ((0 : Nat) : Int)) (by simp [vals, padTo_get x7 hlt])
      have hSa := HSb.out a
      have hSb := HSb.out b
      clear x1 x2 x3 x4 x5 x6 x7 x8 x9 HSb
      obtain ⟨t, ht⟩ : ∃ t, S a + S b = t := ⟨_, rfl⟩
      have HT2 := hidq ht
      have HTS := hidq ht.symm
      obtain ⟨sa, hsa⟩ : ∃ sa, S a = sa := ⟨_, rfl⟩
      obtain ⟨sb, hsb⟩ : ∃ sb, S b = sb := ⟨_, rfl⟩
      rw [hsa] at ca hSa ht
      rw [hsb] at cb hSb ht
      have HT := hidq ht
      clear hsa hsb
      have h1 : (sa : Int) ≤ 1099511627776 := by omega
      have h2 : (sb : Int) ≤ 1099511627776 := by omega
      clear hSa hSb ht
      go_quiet (fail)
      go_wp2_with fail
      have htI : (sa : Int) + (sb : Int) = (t : Int) := by have := HT.out; omega
      rw [htI]
      obtain ⟨V, hV⟩ : ∃ V, (X.drewN nq).setCell ⟨pb + 2, k, none⟩ (.int .i64 (t : Int)) = V := ⟨_, rfl⟩
      rw [hV]
      obtain ⟨x1, x2, x3, x4, x5, x6, x7, x8, x9⟩ := HK.out
      rw [HT2.out] at x6
      have hbV : But (fun j => j = pb + 2) X V := by rw [← hV]; exact (But.drewN (But.refl (fun j => j = pb + 2) X) nq).set1 _ _ rfl _
      have x3' := ((x3.drewN nq).set k (.int .i64 (t : Int)))
      rw [hV, vals_set, padTo_set x7 x6] at x3'
      have y2 := x2.but hbV (by omega)
      have y5 := x5.but hbV (by omega)
      obtain ⟨T, hT⟩ : ∃ T, tab n S = T := ⟨_, rfl⟩
      rw [hT] at y2
      have hTl : T.length = n := by rw [← hT, tab_len]
      obtain ⟨wb, hwb⟩ : ∃ wb, pb + 1 = wb := ⟨_, rfl⟩
      rw [hwb] at y2
      have HT0 := hidq y2
      have HTL := hidq hTl
      have HSUB := hidq (show ((t - t / 2 : Nat) : Int) = (t : Int) - (t : Int) / 2 from by omega)
      have FX := hidq (fun W (hW : But (fun j => j = wb) V W) => (show W.cell? ⟨xb, 0, none⟩ = some (.int .i64 (a : Int)) ∧ W.cell? ⟨xb, 1, none⟩ = some (.int .i64 (b : Int)) from
        ⟨((y5.but hW (by omega)).get 0 _ rfl).1, ((y5.but hW (by omega)).get 1 _ rfl).1⟩))
      have HF : ∀ (x : Nat) (w w' : World), Below w.heap.size w w' → ((x = 0 → BoxAt w wb (vals T)) ∧ (x = 1 → BoxAt w wb (vals (T.set a (t - t / 2)))) ∧ (x = 2 → BoxAt w wb (vals ((T.set a (t - t / 2)).set b (t / 2))))) → ((x = 0 → BoxAt w' wb (vals T)) ∧ (x = 1 → BoxAt w' wb (vals (T.set a (t - t / 2)))) ∧ (x = 2 → BoxAt w' wb (vals ((T.set a (t - t / 2)).set b (t / 2))))) :=
        fun _ _ _ hB h => ⟨fun e => (h.1 e).below hB, fun e => (h.2.1 e).below hB, fun e => (h.2.2 e).below hB⟩
      have HV := hidq (And.intro (x1.but hbV (by omega)) (And.intro x3' (And.intro (x4.trans (hbV.below x4.size (fun j hj => by omega))) (And.intro x8 (And.intro x9 (And.intro hT hwb))))))
      have htb : (t : Int) ≤ 2199023255552 := by omega
      have ht0 : (0 : Int) ≤ (t : Int) := by omega
      rw [hwb]
      clear x1 x2 x3 x4 x5 x6 x7 x8 x9 hbV x3' y2 y5 hT hTl hV HK ca cb c0 c1 cgk zgk htI h1 h2
      refine Reg.wp_region_ghost (Reg.gofList (pass9R wb n xb t a b)) (Reg.PPres (fun j => j = wb)) (Reg.PInv [13, 15] (fun j => j = wb) V (fun x w => (x = 0 → BoxAt w wb (vals T)) ∧ (x = 1 → BoxAt w wb (vals (T.set a (t - t / 2)))) ∧ (x = 2 → BoxAt w wb (vals ((T.set a (t - t / 2)).set b (t / 2)))))) 0 (by kernel_rfl) (by kernel_rfl) (Reg.GAllKept.at _ (pass9R_kept wb n xb t a b)) (Reg.PInv.start 16 ⟨fun _ => HT0.out.drew, (fun e => by cases e), (fun e => by cases e)⟩) ⟨?_, ?_, ?_, ?_, ?_, ?_, ?_, ?_, ?_, ?_, ?_, ?_, ?_, ?_, ?_, ?_, trivial⟩ ?_
      · refine Reg.GStepAt.plain (i := 0) rfl ?_
        intro x L ev w hI hk hp hA
        have e6 : ev (.tmp 6) = .slice (some ⟨wb, 0, none⟩) n n := hA.oldNone 6 (by kernel_rfl)
        have hcc := hA.const
        clear hA hp
        refine Reg.out_value (v := .slice (some ⟨wb, 0, none⟩) n n) ?_ ⟨x, rfl, Reg.PPres.refl _ _ _, Reg.PInv.light HF hI 0 (by decide) (Below.refl _ _)⟩
        go_simp
      · refine Reg.GStepAt.plain (i := 1) rfl ?_
        intro x L ev w hI hk hp hA
        have e9 : ev (.tmp 9) = .pointer (some ⟨xb, 0, none⟩) := hA.oldNone 9 (by kernel_rfl)
        have hcc := hA.const
        clear hA hp
        refine Reg.out_value (v := .pointer (some ⟨xb, 0, none⟩)) ?_ ⟨x, rfl, Reg.PPres.refl _ _ _, Reg.PInv.light HF hI 1 (by decide) (Below.refl _ _)⟩
        go_simp
      · refine Reg.GStepAt.plain (i := 2) rfl ?_
        intro x L ev w hI hk hp hA
        have e48 : ev (.tmp 48) = .pointer (some ⟨xb, 0, none⟩) := hA.val 1 _ 48 rfl (hp ⟨1, .data⟩ (by simp) rfl) rfl
        have hcc := hA.const
        clear hA hp
        obtain ⟨f0, f1⟩ := FX.out w hI.2.1
        refine Reg.out_value (v := .int .i64 (a : Int)) ?_ ⟨x, rfl, Reg.PPres.refl _ _ _, Reg.PInv.light HF hI 2 (by decide) (Below.refl _ _)⟩
        go_simp
      · refine Reg.GStepAt.plain (i := 3) rfl ?_
        intro x L ev w hI hk hp hA
        have e6 : ev (.tmp 6) = .slice (some ⟨wb, 0, none⟩) n n := hA.oldNone 6 (by kernel_rfl)
        have hcc := hA.const
        clear hA hp
        refine Reg.out_value (v := .slice (some ⟨wb, 0, none⟩) n n) ?_ ⟨x, rfl, Reg.PPres.refl _ _ _, Reg.PInv.light HF hI 3 (by decide) (Below.refl _ _)⟩
        go_simp
      · refine Reg.GStepAt.plain (i := 4) rfl ?_
        intro x L ev w hI hk hp hA
        have e9 : ev (.tmp 9) = .pointer (some ⟨xb, 0, none⟩) := hA.oldNone 9 (by kernel_rfl)
        have hcc := hA.const
        clear hA hp
        refine Reg.out_value (v := .pointer (some ⟨xb, 1, none⟩)) ?_ ⟨x, rfl, Reg.PPres.refl _ _ _, Reg.PInv.light HF hI 4 (by decide) (Below.refl _ _)⟩
        go_simp
      · refine Reg.GStepAt.plain (i := 5) rfl ?_
        intro x L ev w hI hk hp hA
        have e51 : ev (.tmp 51) = .pointer (some ⟨xb, 1, none⟩) := hA.val 4 _ 51 rfl (hp ⟨4, .data⟩ (by simp) rfl) rfl
        have hcc := hA.const
        clear hA hp
        obtain ⟨f0, f1⟩ := FX.out w hI.2.1
        refine Reg.out_value (v := .int .i64 (b : Int)) ?_ ⟨x, rfl, Reg.PPres.refl _ _ _, Reg.PInv.light HF hI 5 (by decide) (Below.refl _ _)⟩
        go_simp
      · refine Reg.GStepAt.plain (i := 6) rfl ?_
        intro x L ev w hI hk hp hA
        have e10 : ev (.tmp 10) = .int .i64 (t : Int) := hA.oldNone 10 (by kernel_rfl)
        have hcc := hA.const
        clear hA hp
        refine Reg.out_value (v := .int .i64 (t : Int)) ?_ ⟨x, rfl, Reg.PPres.refl _ _ _, Reg.PInv.light HF hI 6 (by decide) (Below.refl _ _)⟩
        go_simp
      · refine Reg.GStepAt.plain (i := 7) rfl ?_
        intro x L ev w hI hk hp hA
        have e10 : ev (.tmp 10) = .int .i64 (t : Int) := hA.oldNone 10 (by kernel_rfl)
        have hcc := hA.const
        clear hA hp
        refine Reg.out_value (v := .int .i64 (t : Int)) ?_ ⟨x, rfl, Reg.PPres.refl _ _ _, Reg.PInv.light HF hI 7 (by decide) (Below.refl _ _)⟩
        go_simp
      · refine Reg.GStepAt.plain (i := 8) rfl ?_
        intro x L ev w hI hk hp hA
        have e54 : ev (.tmp 54) = .int .i64 (t : Int) := hA.val 7 _ 54 rfl (hp ⟨7, .data⟩ (by simp) rfl) rfl
        have hcc := hA.const
        clear hA hp
        refine Reg.out_value (v := .int .i64 ((t / 2 : Nat) : Int)) ?_ ⟨x, rfl, Reg.PPres.refl _ _ _, Reg.PInv.light HF hI 8 (by decide) (Below.refl _ _)⟩
        go_simp; rw [IntKind.wrap_i64]; omega
      · refine Reg.GStepAt.plain (i := 9) rfl ?_
        intro x L ev w hI hk hp hA
        have e53 : ev (.tmp 53) = .int .i64 (t : Int) := hA.val 6 _ 53 rfl (hp ⟨6, .data⟩ (by simp) rfl) rfl
        have e55 : ev (.tmp 55) = .int .i64 ((t / 2 : Nat) : Int) := hA.val 8 _ 55 rfl (hp ⟨8, .data⟩ (by simp) rfl) rfl
        have hcc := hA.const
        clear hA hp
        refine Reg.out_value (v := .int .i64 ((t - t / 2 : Nat) : Int)) ?_ ⟨x, rfl, Reg.PPres.refl _ _ _, Reg.PInv.light HF hI 9 (by decide) (Below.refl _ _)⟩
        clear hI
        rw [HSUB.out]
        go_simp; rw [IntKind.wrap_i64]; omega
      · refine Reg.GStepAt.plain (i := 10) rfl ?_
        intro x L ev w hI hk hp hA
        have e10 : ev (.tmp 10) = .int .i64 (t : Int) := hA.oldNone 10 (by kernel_rfl)
        have hcc := hA.const
        clear hA hp
        refine Reg.out_value (v := .int .i64 (t : Int)) ?_ ⟨x, rfl, Reg.PPres.refl _ _ _, Reg.PInv.light HF hI 10 (by decide) (Below.refl _ _)⟩
        go_simp
      · refine Reg.GStepAt.plain (i := 11) rfl ?_
        intro x L ev w hI hk hp hA
        have e57 : ev (.tmp 57) = .int .i64 (t : Int) := hA.val 10 _ 57 rfl (hp ⟨10, .data⟩ (by simp) rfl) rfl
        have hcc := hA.const
        clear hA hp
        refine Reg.out_value (v := .int .i64 ((t / 2 : Nat) : Int)) ?_ ⟨x, rfl, Reg.PPres.refl _ _ _, Reg.PInv.light HF hI 11 (by decide) (Below.refl _ _)⟩
        go_simp; rw [IntKind.wrap_i64]; omega
      · refine Reg.GStepAt.plain (i := 12) rfl ?_
        intro x L ev w hI hk hp hA
        have e47 : ev (.tmp 47) = .slice (some ⟨wb, 0, none⟩) n n := hA.val 0 _ 47 rfl (hp ⟨0, .data⟩ (by simp) rfl) rfl
        have e49 : ev (.tmp 49) = .int .i64 (a : Int) := hA.val 2 _ 49 rfl (hp ⟨2, .data⟩ (by simp) rfl) rfl
        have hcc := hA.const
        clear hA hp
        refine Reg.out_value (v := .pointer (some ⟨wb, a, none⟩)) ?_ ⟨x, rfl, Reg.PPres.refl _ _ _, Reg.PInv.light HF hI 12 (by decide) (Below.refl _ _)⟩
        go_simp
      · refine Reg.GStepAt.plain (i := 13) rfl ?_
        intro x L ev w hI hk hp hA
        have e59 : ev (.tmp 59) = .pointer (some ⟨wb, a, none⟩) := hA.val 12 _ 59 rfl (hp ⟨12, .data⟩ (by simp) rfl) rfl
        have e56 : ev (.tmp 56) = .int .i64 ((t - t / 2 : Nat) : Int) := hA.val 9 _ 56 rfl (hp ⟨9, .data⟩ (by simp) rfl) rfl
        have hcc := hA.const
        have NL := Reg.not_listed hA 13 15 _ rfl ⟨13, .chain⟩ (by simp) rfl hk
        clear hA hp
        have hx : x = 0 := hI.1.trans (Reg.cnt_zero2 (Reg.getD_true hk) NL)
        have hT := hI.2.2.1 hx
        obtain ⟨u, hu⟩ : ∃ u, T[a]? = some u := ⟨_, List.getElem?_eq_getElem (by simp [HTL.out]; omega)⟩
        obtain ⟨c1, y1⟩ := hT.get a (.int .i64 (u : Int)) (by simp only [vals, List.getElem?_map, hu]; rfl)
        have hset := hT.set a (.int .i64 ((t - t / 2 : Nat) : Int))
        rw [vals_set] at hset
        have hbS : But (fun j => j = wb) w (w.setCell ⟨wb, a, none⟩ (.int .i64 ((t - t / 2 : Nat) : Int))) := (But.refl (fun j => j = wb) w).set1 wb a rfl _
        refine Reg.out_skipP (w' := w.setCell ⟨wb, a, none⟩ (.int .i64 ((t - t / 2 : Nat) : Int))) ?_ ⟨x + 1, trivial, Reg.PPres.heavy hbS, Reg.PInv.heavy hI 13 (by decide) (by simp) hk hbS ⟨fun e => by omega, fun e => by exact hset, fun e => by omega⟩⟩
        clear hI hset hT hbS
        go_simp
      · refine Reg.GStepAt.plain (i := 14) rfl ?_
        intro x L ev w hI hk hp hA
        have e50 : ev (.tmp 50) = .slice (some ⟨wb, 0, none⟩) n n := hA.val 3 _ 50 rfl (hp ⟨3, .data⟩ (by simp) rfl) rfl
        have e52 : ev (.tmp 52) = .int .i64 (b : Int) := hA.val 5 _ 52 rfl (hp ⟨5, .data⟩ (by simp) rfl) rfl
        have hcc := hA.const
        clear hA hp
        refine Reg.out_value (v := .pointer (some ⟨wb, b, none⟩)) ?_ ⟨x, rfl, Reg.PPres.refl _ _ _, Reg.PInv.light HF hI 14 (by decide) (Below.refl _ _)⟩
        go_simp
      · refine Reg.GStepAt.plain (i := 15) rfl ?_
        intro x L ev w hI hk hp hA
        have e60 : ev (.tmp 60) = .pointer (some ⟨wb, b, none⟩) := hA.val 14 _ 60 rfl (hp ⟨14, .data⟩ (by simp) rfl) rfl
        have e58 : ev (.tmp 58) = .int .i64 ((t / 2 : Nat) : Int) := hA.val 11 _ 58 rfl (hp ⟨11, .data⟩ (by simp) rfl) rfl
        have hcc := hA.const
        have L13 : L.getD 13 false = true := hp ⟨13, .chain⟩ (by simp) rfl
        clear hA hp
        have hx : x = 1 := hI.1.trans (Reg.cnt_one2 L13 (Reg.getD_true hk))
        have hT := hI.2.2.2.1 hx
        obtain ⟨u, hu⟩ : ∃ u, (T.set a (t - t / 2))[b]? = some u := ⟨_, List.getElem?_eq_getElem (by simp [HTL.out]; omega)⟩
        obtain ⟨c1, y1⟩ := hT.get b (.int .i64 (u : Int)) (by simp only [vals, List.getElem?_map, hu]; rfl)
        have hset := hT.set b (.int .i64 ((t / 2 : Nat) : Int))
        rw [vals_set] at hset
        have hbS : But (fun j => j = wb) w (w.setCell ⟨wb, b, none⟩ (.int .i64 ((t / 2 : Nat) : Int))) := (But.refl (fun j => j = wb) w).set1 wb b rfl _
        refine Reg.out_skipP (w' := w.setCell ⟨wb, b, none⟩ (.int .i64 ((t / 2 : Nat) : Int))) ?_ ⟨x + 1, trivial, Reg.PPres.heavy hbS, Reg.PInv.heavy hI 15 (by decide) (by simp) hk hbS ⟨fun e => by omega, fun e => by omega, fun e => by exact hset⟩⟩
        clear hI hset hT hbS
        go_simp
      intro gx L act wz hall hI hF
      have g47 : act.eval (.tmp 47) = .slice (some ⟨wb, 0, none⟩) n n := hF.val 0 _ 47 rfl (hall 0 (by simp)) rfl
      have g48 : act.eval (.tmp 48) = .pointer (some ⟨xb, 0, none⟩) := hF.val 1 _ 48 rfl (hall 1 (by simp)) rfl
      have g49 : act.eval (.tmp 49) = .int .i64 (a : Int) := hF.val 2 _ 49 rfl (hall 2 (by simp)) rfl
      have g50 : act.eval (.tmp 50) = .slice (some ⟨wb, 0, none⟩) n n := hF.val 3 _ 50 rfl (hall 3 (by simp)) rfl
      have g51 : act.eval (.tmp 51) = .pointer (some ⟨xb, 1, none⟩) := hF.val 4 _ 51 rfl (hall 4 (by simp)) rfl
      have g52 : act.eval (.tmp 52) = .int .i64 (b : Int) := hF.val 5 _ 52 rfl (hall 5 (by simp)) rfl
      have g53 : act.eval (.tmp 53) = .int .i64 (t : Int) := hF.val 6 _ 53 rfl (hall 6 (by simp)) rfl
      have g54 : act.eval (.tmp 54) = .int .i64 (t : Int) := hF.val 7 _ 54 rfl (hall 7 (by simp)) rfl
      have g55 : act.eval (.tmp 55) = .int .i64 ((t / 2 : Nat) : Int) := hF.val 8 _ 55 rfl (hall 8 (by simp)) rfl
      have g56 : act.eval (.tmp 56) = .int .i64 ((t - t / 2 : Nat) : Int) := hF.val 9 _ 56 rfl (hall 9 (by simp)) rfl
      have g57 : act.eval (.tmp 57) = .int .i64 (t : Int) := hF.val 10 _ 57 rfl (hall 10 (by simp)) rfl
      have g58 : act.eval (.tmp 58) = .int .i64 ((t / 2 : Nat) : Int) := hF.val 11 _ 58 rfl (hall 11 (by simp)) rfl
      have g59 : act.eval (.tmp 59) = .pointer (some ⟨wb, a, none⟩) := hF.val 12 _ 59 rfl (hall 12 (by simp)) rfl
      have g60 : act.eval (.tmp 60) = .pointer (some ⟨wb, b, none⟩) := hF.val 14 _ 60 rfl (hall 14 (by simp)) rfl
      have hact := hF.act [47, 48, 49, 50, 51, 52, 53, 54, 55, 56, 57, 58, 59, 60] (by kernel_rfl)
      obtain ⟨hxz, hBz, hFz⟩ := Reg.PInv.done hI (fun j hj => hall j (by simp at hj ⊢; omega))
      clear hF hall
      simp only [List.foldl_cons, List.foldl_nil] at hact
      rw [g47, g48, g49, g50, g51, g52, g53, g54, g55, g56, g57, g58, g59, g60] at hact
      clear g47 g48 g49 g50 g51 g52 g53 g54 g55 g56 g57 g58 g59 g60
      simp only [List.setIfInBounds_toArray, List.set_cons_succ, List.set_cons_zero] at hact
      subst hact
      obtain ⟨v1, v3, v4, v8, v9, vT, vw⟩ := HV.out
      subst vw
      have HN := hidq (show PR1 w n c G s [.int .i64 (n : Int), .slice (some ⟨q, 0, none⟩) c gc, .slice oa n oc] pb (pb + 1) (pb + 2) (k + 1) wz from by
        refine ⟨v1.but hBz (by omega), ?_, v3.but hBz (by omega), v4.trans (hBz.below v4.size (fun j hj => by omega))⟩
        have h2 := hFz.2.2 rfl
        have e1 : G.take (k + 1) = G.take k ++ [(a, b)] := by rw [List.take_add_one, v9]; rfl
        have e2 : Wr.run (G.take (k + 1)) s = Wr.upd S (a, b) := by rw [e1, Wr.run_append, v8]; rfl
        rw [e2, ← tab_upd S a b t ha hb HTS.out, vT]
        exact h2)
      clear v1 v3 v4 v8 v9 vT hBz hFz hI HF HV FX HT0 HTL HSUB
      go_wp2_with fail
      go_roundw
      case rel => exact ⟨k + 1, by go_num, by omega, HN⟩
      case measure => simp [intOf]; omega
    · have hd : decide ((k : Int) < (c : Int)) = false := decide_eq_false (by omega)
      have hd2 : decide (k < c) = false := decide_eq_false (by omega)
      have hkc : k = c := by omega
      obtain ⟨hG, hO, hGl, hOl, hGn, hOn, hlb⟩ := H0.out
      have hR2 := hR.out
      rw [hkc] at hR2
      obtain ⟨r1, r2, r3, r4⟩ := hR2
      rw [List.take_of_length_le (by omega)] at r2
      rw [padTo_all (by rw [Wr.cnts_length, hGl])] at r3
      obtain ⟨S, hS⟩ : ∃ S, Wr.run G s = S := ⟨_, rfl⟩
      rw [hS] at r2
      have hMl : (O.map S).length = n := by rw [List.length_map, hOl]
      have p2 := (r1.get 2 _ rfl).1
      have hpl : pb < wr.heap.size := r1.lt
      have hmk := zerosL n (by omega) wr
      obtain ⟨ob, hob⟩ : ∃ ob, wr.heap.size = ob := ⟨_, rfl⟩
      obtain ⟨V, hV⟩ : ∃ V, wr.alloc (.cells (Array.replicate n (Value.int .i64 0)) 2) = V := ⟨_, rfl⟩
      have hBV := BoxAt.new wr (List.replicate n (Value.int .i64 0)) 2
      rw [List.toArray_replicate, hV, hob] at hBV
      have hbV : Below wr.heap.size wr V := by rw [← hV]; exact (Below.refl _ _).alloc (Nat.le_refl _) _
      rw [List.toArray_replicate, hV, hob] at hmk
      have p2V := ((r1.below hbV).get 2 _ rfl).1
      have HR := hidq (show PR2 w n G O s (pb + 1) (pb + 2) ob 0 V from ⟨by rw [hS]; exact r2.below hbV, r3.below hbV, by rw [padTo_zero, vals_zero]; exact hBV, r4.trans (hbV.mono r4.size)⟩)
      have hob2 : pb + 2 < ob := by have := r3.lt; omega
      have HQ := hidq (And.intro hO (And.intro hOl (And.intro hOn (And.intro hS hMl))))
      clear hG hO hGl hOl hGn hOn hlb r1 r2 r3 r4 hS hMl hBV hbV hV hR hkc hpl H0
      go_wp2_with fail
      clear p2 p2V hmk
      go_loopw [69] (fun s69 wr => ∃ k : Nat, s69 = .int .i64 (k : Int) ∧ k ≤ n ∧ Hid (PR2 w n G O s (pb + 1) (pb + 2) ob k wr)) (fun s69 _ => n - (intOf s69).toNat)
      case atStart => exact ⟨0, rfl, Nat.zero_le _, HR⟩
      case round =>
        obtain ⟨i, rfl, hi, hR⟩ := hrel
        clear HR
        by_cases hlt : i < n
        · have hltI : (i : Int) < (n : Int) := by omega
          obtain ⟨hO, hOl, hOn, hS, hMl⟩ := HQ.out
          obtain ⟨r2, r3, r5, r4⟩ := hR.out
          rw [hS] at r2 r5
          obtain ⟨a, ha⟩ : ∃ a, O[i]? = some a := ⟨_, List.getElem?_eq_getElem (by omega)⟩
          have han := hOn a (List.mem_of_getElem? ha)
          obtain ⟨qb, qo, rfl, hql, _, hqc⟩ := (hO.below r4) i a ha
          have cw := (r2.get a (.int .i64 ((S a : Nat) : Int)) (by simp [vals, tab_get S han])).1
          obtain ⟨c1, z1⟩ := r5.get i (.int .i64 ((0 : Nat) : Int)) (by simp [vals, padTo_get hMl hlt])
          have hanI : (a : Int) < (n : Int) := by omega
          have HN := hidq (show PR2 w n G O s (pb + 1) (pb + 2) ob (i + 1) (wr.setCell ⟨ob, i, none⟩ (.int .i64 ((S a : Nat) : Int))) from by
            have hb : But (fun j => j = ob) wr (wr.setCell ⟨ob, i, none⟩ (.int .i64 ((S a : Nat) : Int))) := (But.refl (fun j => j = ob) wr).set1 _ _ rfl _
            refine ⟨by rw [hS]; exact r2.but hb (by omega), r3.but hb (by omega), ?_, r4.setCell (by show w.heap.size ≤ ob; omega) _⟩
            have := r5.set i (.int .i64 ((S a : Nat) : Int))
            rw [vals_set, padTo_set hMl (by rw [List.getElem?_map, ha]; rfl)] at this
            rw [hS]; exact this)
          clear hO hOl hOn hS hMl r2 r3 r4 r5 ha han hR
          go_wp2_with fail
          go_roundw
          case rel => exact ⟨i + 1, by go_num, by omega, HN⟩
          case measure => simp [intOf]; omega
        · have hd3 : decide ((i : Int) < (n : Int)) = false := decide_eq_false (by omega)
          have hd4 : decide (i < n) = false := decide_eq_false (by omega)
          obtain ⟨hO, hOl, hOn, hS, hMl⟩ := HQ.out
          have hin : i = n := by omega
          have hR2 := hR.out
          rw [hin] at hR2
          obtain ⟨r2, r3, r5, r4⟩ := hR2
          rw [hS, padTo_all hMl] at r5
          have HN := hidq (show PassEnd n c G O s w (.returned (.tuple #[.slice (some ⟨pb + 2, 0, none⟩) c c, .slice (some ⟨ob, 0, none⟩) n n])) wr from ⟨pb + 2, ob, rfl, r3, by rw [hS]; exact r5, by omega, by omega, r4⟩)
          clear hO hOl hOn hS hMl r2 r3 r4 r5 hR hin
          go_wp2_with fail
          go_ret2
          exact HN
end Go.Proofs.Ytdghgmaoamjnlaa

namespace Go.Proofs.Ytdghgmaoamjnlaa
open Go.RowKit Go.Sort

/-- A token under way: its frame's block, the blocks that it owns, itself. -/
structure Tk where
  fb : Nat
  P : Nat → Prop
  F : Fr
abbrev tkp : Option Tk → Option Addr := fun x => x.map (fun t => ⟨t.fb, 0, none⟩)
def tkv (cs : List (Option Tk)) : List Value := cs.map (fun x => .pointer (tkp x))
def frs (cs : List (Option Tk)) : List (Option Fr) := cs.map (Option.map Tk.F)
theorem frs_len (cs : List (Option Tk)) : (frs cs).length = cs.length := by simp [frs]
theorem tkv_len (cs : List (Option Tk)) : (tkv cs).length = cs.length := by simp [tkv]
theorem frs_get {cs : List (Option Tk)} {i : Nat} {x : Option Tk} (h : cs[i]? = some x) : (frs cs)[i]? = some (x.map Tk.F) := by simp [frs, h]
theorem frs_set (cs : List (Option Tk)) (i : Nat) (x : Option Tk) : frs (cs.set i x) = (frs cs).set i (x.map Tk.F) := by simp [frs, List.map_set]
theorem tkv_get {cs : List (Option Tk)} {i : Nat} {x : Option Tk} (h : cs[i]? = some x) : (tkv cs)[i]? = some (.pointer (tkp x)) := by simp [tkv, h]
theorem tkv_set (cs : List (Option Tk)) (i : Nat) (x : Option Tk) : (tkv cs).set i (.pointer (tkp x)) = tkv (cs.set i x) := by simp [tkv, List.map_set]
/-- The blocks that are the memory's or a token's. -/
def GK (O : Nat → Prop) (cs : List (Option Tk)) (k : Nat) : Prop := O k ∨ ∃ t, some t ∈ cs ∧ t.P k

/-- All of it: B: blocks from there on are new; D: the plan's; ib: how many came upon each wire. -/
structure GS (B n c gc : Nat) (ga oa : Option Addr) (D : Nat → Prop) (G : List (Nat × Nat)) (Os : List Nat) (mb ib : Nat) (W : World) (O : Nat → Prop) (M : Mem) (cs : List (Option Tk)) (s : Nat → Nat) : Prop where
  mem : MemAt W mb O M
  np : NP W D ga gc c oa n G Os
  inb : BoxAt W ib (vals (tab n s))
  upi : B ≤ ib
  upo : ∀ k, O k → B ≤ k ∧ k ≠ ib
  dlt : ∀ k, D k → k < B
  fr : ∀ (i : Nat) (t : Tk), cs[i]? = some (some t) → FrAt W t.fb t.P t.F ∧ ∀ k, t.P k → B ≤ k ∧ k ≠ ib ∧ ¬ O k
  ap : ∀ (i j : Nat) (t u : Tk), i ≠ j → cs[i]? = some (some t) → cs[j]? = some (some u) → ∀ k, t.P k → ¬ u.P k
  inv : TInv n c G Os M (frs cs) s
  clk : M.clock ≤ 4000
section
variable {B n c gc : Nat} {ga oa : Option Addr} {D : Nat → Prop} {G : List (Nat × Nat)} {Os : List Nat} {mb ib : Nat} {W W' : World} {O : Nat → Prop} {M : Mem} {cs : List (Option Tk)} {s : Nat → Nat} {S : Nat → Prop}
theorem GS.but (h : GS B n c gc ga oa D G Os mb ib W O M cs s) (hb : But S W W') (hS : ∀ k, k < B ∨ k = ib ∨ GK O cs k → ¬ S k) : GS B n c gc ga oa D G Os mb ib W' O M cs s :=
  ⟨h.mem.but hb (fun k hk => hS k (.inr (.inr (.inl hk)))), h.np.but hb (fun k hk => hS k (.inl (h.dlt k hk))), h.inb.but hb (hS ib (.inr (.inl rfl))), h.upi, h.upo, h.dlt,
   fun i t ht => ⟨(h.fr i t ht).1.but hb (fun k hk => hS k (.inr (.inr (.inr ⟨t, List.mem_of_getElem? ht, hk⟩)))), (h.fr i t ht).2⟩, h.ap, h.inv, h.clk⟩
theorem GS.below (h : GS B n c gc ga oa D G Os mb ib W O M cs s) (hb : Below W.heap.size W W') : GS B n c gc ga oa D G Os mb ib W' O M cs s := h.but (S := fun _ => False) (But.of_below hb) (fun _ _ e => e)
theorem GS.gk_lt (h : GS B n c gc ga oa D G Os mb ib W O M cs s) : ∀ k, GK O cs k → B ≤ k ∧ k < W.heap.size ∧ k ≠ ib := by
  rintro k (e | ⟨t, ht, e⟩)
  · exact ⟨(h.upo k e).1, h.mem.lt k e, (h.upo k e).2⟩
  · obtain ⟨i, hi⟩ := List.mem_iff_getElem?.1 ht
    obtain ⟨h1, h2⟩ := h.fr i t hi
    exact ⟨(h2 k e).1, h1.lt k e, (h2 k e).2.1⟩
theorem Wr_inc_tab (n : Nat) (s : Nat → Nat) (v : Nat) (hv : v < n) : (tab n s).set v (s v + 1) = tab n (Wr.inc s v) := by
  apply List.ext_getElem?
  intro j
  rw [List.getElem?_set, tab_len]
  by_cases hj : j < n
  · rw [tab_get _ hj]
    by_cases e : v = j
    · subst e
      rw [if_pos rfl, if_pos hv, tab_get _ hj, Wr.inc_at]
    · rw [if_neg e, tab_get _ hj, Wr.inc_o _ _ _ (fun q => e q.symm)]
  · rw [tab_none _ hj, if_neg (by omega), tab_none _ hj]
/-- One more comes: its frame is made, its wire's number is one more. -/
theorem GS.begin_ (h : GS B n c gc ga oa D G Os mb ib W O M cs s) (hn : 1 ≤ n) (hc : G.length = c) (hG : ∀ g ∈ G, g.1 ≠ g.2) (hN : NOk M) {fb : Nat} {d : Int} (hF : FrAt W' fb (fun k => k = fb) (Fr.of 7 0 0 d 0)) (hfb : W.heap.size ≤ fb) (hb : But (fun k => k = ib) W W')
    (hi : BoxAt W' ib (vals (tab n (Wr.inc s (into d (n : Int)).toNat)))) (hBW : B ≤ W.heap.size) :
    GS B n c gc ga oa D G Os mb ib W' O M (cs ++ [some ⟨fb, fun k => k = fb, Fr.of 7 0 0 d 0⟩]) (Wr.inc s (into d (n : Int)).toNat) := by
  have hr := into_rng (d := d) (n := (n : Int)) (by omega)
  have hil := h.inb.lt
  have hw : nWire n (Fr.of 7 0 0 d 0) = (into d (n : Int)).toNat := by unfold nWire; rw [if_pos (show (Fr.of 7 0 0 d 0).pc = 0 from rfl)]; rfl
  have hold : ∀ {i : Nat} {t : Tk}, (cs ++ [some ⟨fb, fun k => k = fb, Fr.of 7 0 0 d 0⟩])[i]? = some (some t) → cs[i]? = some (some t) ∨ (i = cs.length ∧ t = ⟨fb, fun k => k = fb, Fr.of 7 0 0 d 0⟩) := fun {i t} e => by
    rw [List.getElem?_append] at e
    split at e
    · exact .inl e
    · rename_i hlt
      have hi0 : i - cs.length = 0 := by
        have := (List.getElem?_eq_some_iff.1 e).1
        simp at this
        omega
      rw [hi0] at e
      simp only [List.getElem?_cons_zero, Option.some.injEq] at e
      exact .inr ⟨by omega, e.symm⟩
  refine ⟨h.mem.but hb (fun k hk => (h.upo k hk).2), h.np.but hb (fun k hk e => by have := h.dlt k hk; have := h.upi; omega), hi, h.upi, h.upo, h.dlt, fun i t ht => ?_, fun i j t u hij ht hu k hk hk2 => ?_, ?_, h.clk⟩
  · rcases hold ht with e | ⟨_, rfl⟩
    · obtain ⟨h1, h2⟩ := h.fr i t e
      exact ⟨h1.but hb (fun k hk => (h2 k hk).2.1), h2⟩
    · refine ⟨hF, fun k hk => ?_⟩
      have hk' : k = fb := hk
      subst hk'
      exact ⟨by omega, by omega, fun e => by have := h.mem.lt _ e; omega⟩
  · rcases hold ht with e | ⟨e, rfl⟩ <;> rcases hold hu with e2 | ⟨e2, rfl⟩
    · exact h.ap i j t u hij e e2 k hk hk2
    · have hk' : k = fb := hk2
      have := (h.fr i t e).1.lt k hk
      omega
    · have hk' : k = fb := hk
      have := (h.fr j u e2).1.lt k hk2
      omega
    · omega
  · have hb := h.inv.begin_ hc hG (Fr.of 7 0 0 d 0) rfl ⟨rfl, Int.le_refl _, Int.natCast_nonneg _, Int.le_refl _, by show (0 : Int) < (n : Int); omega, hN⟩
    rw [hw] at hb
    have : frs (cs ++ [some ⟨fb, fun k => k = fb, Fr.of 7 0 0 d 0⟩]) = frs cs ++ [some (Fr.of 7 0 0 d 0)] := by simp [frs]
    rw [this]
    exact hb
/-- A token's step. -/
theorem GS.step (h : GS B n c gc ga oa D G Os mb ib W O M cs s) (hc : G.length = c) (hn : 1 ≤ n) (hG : ∀ g ∈ G, g.1 ≠ g.2 ∧ g.1 < n ∧ g.2 < n) (hO : ∀ v, v < n → v ∈ Os) {k : Nat} {t : Tk} (hk : cs[k]? = some (some t)) (hck : M.clock < 4000) {r : Mem × Fr × Ans × Bool} (hr : nStep n c G Os M t.F = r)
    {O' P' : Nat → Prop} (h1 : MemAt W' mb O' r.1) (h2 : FrAt W' t.fb P' r.2.1) (h3 : ∀ k, O' k → ¬ P' k) (h4 : Grown O W W' O') (h5 : Grown t.P W W' P') (h6 : But (fun k => O k ∨ t.P k) W W') (hBW : B ≤ W.heap.size) :
    GS B n c gc ga oa D G Os mb ib W' O' r.1 (cs.set k (if r.2.2.2 = true then none else some ⟨t.fb, P', r.2.1⟩)) s := by
  obtain ⟨f1, f2⟩ := h.fr k t hk
  have hil := h.inb.lt
  have hkl := (List.getElem?_eq_some_iff.1 hk).1
  have hold : ∀ {i : Nat} {u : Tk}, (cs.set k (if r.2.2.2 = true then none else some ⟨t.fb, P', r.2.1⟩))[i]? = some (some u) → (i ≠ k ∧ cs[i]? = some (some u)) ∨ (i = k ∧ u = ⟨t.fb, P', r.2.1⟩) := fun {i u} e => by
    rw [List.getElem?_set] at e
    by_cases q : k = i
    · rw [if_pos q, if_pos (by omega)] at e
      split at e
      · cases e
      · cases e; exact .inr ⟨q.symm, rfl⟩
    · rw [if_neg q] at e
      exact .inl ⟨fun x => q x.symm, e⟩
  have hP : ∀ j, P' j → (t.P j ∨ W.heap.size ≤ j) := fun j hj => (h5 j hj).imp id (fun q => q.1)
  have hOO : ∀ j, O' j → (O j ∨ W.heap.size ≤ j) := fun j hj => (h4 j hj).imp id (fun q => q.1)
  refine ⟨h1, h.np.but h6 (fun j hj e => ?_), h.inb.but h6 (fun e => ?_), h.upi, fun j hj => ?_, h.dlt, fun i u hu => ?_, fun i j u v hij hu hv q hq hq2 => ?_, ?_, ?_⟩
  · have := h.dlt j hj
    rcases e with e | e
    · have := (h.upo j e).1; omega
    · have := (f2 j e).1; omega
  · rcases e with e | e
    · exact (h.upo _ e).2 rfl
    · exact (f2 _ e).2.1 rfl
  · rcases hOO j hj with e | e
    · exact h.upo j e
    · exact ⟨by omega, by omega⟩
  · rcases hold hu with ⟨hne, e⟩ | ⟨_, rfl⟩
    · obtain ⟨g1, g2⟩ := h.fr i u e
      refine ⟨g1.but h6 (fun j hj q => ?_), fun j hj => ⟨(g2 j hj).1, (g2 j hj).2.1, fun q => ?_⟩⟩
      · rcases q with q | q
        · exact (g2 j hj).2.2 q
        · exact h.ap i k u t hne e hk j hj q
      · rcases hOO j q with q | q
        · exact (g2 j hj).2.2 q
        · have := g1.lt j hj; omega
    · refine ⟨h2, fun j hj => ?_⟩
      have hj' : P' j := hj
      rcases hP j hj' with q | q
      · exact ⟨(f2 j q).1, (f2 j q).2.1, fun e => h3 j e hj'⟩
      · exact ⟨by omega, by omega, fun e => h3 j e hj'⟩
  · rcases hold hu with ⟨hne, e⟩ | ⟨e, rfl⟩ <;> rcases hold hv with ⟨hne2, e2⟩ | ⟨e2, rfl⟩
    · exact h.ap i j u v hij e e2 q hq hq2
    · rcases hP q hq2 with x | x
      · exact h.ap i k u t hne e hk q hq x
      · have := (h.fr i u e).1.lt q hq; omega
    · rcases hP q hq with x | x
      · exact h.ap j k v t hne2 e2 hk q hq2 x
      · have := (h.fr j v e2).1.lt q hq2; omega
    · omega
  · have hs := h.inv.step hc hn hG hO (k := k) (F := t.F) (by rw [frs_get hk]; rfl)
    rw [hr] at hs
    rw [frs_set]
    have : Option.map Tk.F (if r.2.2.2 = true then none else some ⟨t.fb, P', r.2.1⟩) = if r.2.2.2 = true then none else some r.2.1 := by
      split <;> rfl
    rw [this]
    exact hs
  · have : r.1.clock = M.clock + 1 := by
      rw [← hr]
      cases hx : nAhead G t.F.pc.toNat (nWire n t.F) with
      | none => rw [nStep_none hx]; rfl
      | some i =>
        obtain ⟨_, g, hgi, _⟩ := nAhead_some _ (Nat.le_refl _) hx
        rw [nStep_some hx hgi]; rfl
    omega
end
end Go.Proofs.Ytdghgmaoamjnlaa
