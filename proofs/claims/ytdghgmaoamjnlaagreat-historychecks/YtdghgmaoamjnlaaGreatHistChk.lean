/-
  Layer 14's law of what may have been written down: the call returns true.
-/
import Derived.Test.YtdghgmaoamjnlaaGreatRChk14All
import Derived.Test.YtdghgmaoamjnlaaGreatTallyStep7All
import Derived.Test.YtdghgmaoamjnlaaGreatAnd8All
import Derived.Test.YtdghgmaoamjnlaaGreatTailAll
namespace Go.Proofs.YtdghgmaoamjnlaaGreat
open Go.RowKit Go.Sort

def hc17R (g : Nat) (h : Nat) (m : Nat) (cp : Nat) (cr : Nat) (ki : Nat) (kj : Nat) (c : Cl) (d : Cl) (q : Bool) : List (Value → World → Prop) :=
  [fun v _ => v = .slice (some ⟨g, 0, none⟩) m cp,
   fun v _ => v = .int .i64 (ki : Int),
   fun v _ => v = .pointer (some ⟨g, ki * 12, none⟩),
   fun v _ => v = .agg #[.int .i64 c.thread, .int .i64 c.kind, .float .f64 c.pri, .int .i64 c.val, .int .i64 c.d0, .int .i64 c.d1, .int .i64 c.beg, .int .i64 c.fin, .bool c.ans.ok, .float .f64 c.ans.pri, .int .i64 c.ans.val, .int .i64 c.ans.n],
   fun v _ => v = .slice (some ⟨g, 0, none⟩) m cp,
   fun v _ => v = .int .i64 (kj : Int),
   fun v _ => v = .pointer (some ⟨g, kj * 12, none⟩),
   fun v _ => v = .agg #[.int .i64 d.thread, .int .i64 d.kind, .float .f64 d.pri, .int .i64 d.val, .int .i64 d.d0, .int .i64 d.d1, .int .i64 d.beg, .int .i64 d.fin, .bool d.ans.ok, .float .f64 d.ans.pri, .int .i64 d.ans.val, .int .i64 d.ans.n],
   fun v _ => v = .bool q,
   fun v _ => v = .slice (some ⟨h, 0, none⟩) m cr,
   fun v _ => v = .int .i64 (ki : Int),
   fun v _ => v = .pointer (some ⟨h, ki * 3, none⟩),
   fun v _ => v = .agg #[.int .i64 c.thread, .int .i64 c.beg, .int .i64 c.fin],
   fun v _ => v = .slice (some ⟨h, 0, none⟩) m cr,
   fun v _ => v = .int .i64 (kj : Int),
   fun v _ => v = .pointer (some ⟨h, kj * 3, none⟩),
   fun v _ => v = .agg #[.int .i64 d.thread, .int .i64 d.beg, .int .i64 d.fin],
   fun v _ => v = .bool q,
   fun v _ => v = .bool true,
   fun v _ => v = .bool true]
theorem hc17R_kept (g : Nat) (h : Nat) (m : Nat) (cp : Nat) (cr : Nat) (ki : Nat) (kj : Nat) (c : Cl) (d : Cl) (q : Bool) : Reg.AllKept Reg.Keeps (hc17R g h m cp cr ki kj c d q) :=
  ⟨(fun _ _ _ _ h => h), (fun _ _ _ _ h => h), (fun _ _ _ _ h => h), (fun _ _ _ _ h => h), (fun _ _ _ _ h => h), (fun _ _ _ _ h => h), (fun _ _ _ _ h => h), (fun _ _ _ _ h => h), (fun _ _ _ _ h => h), (fun _ _ _ _ h => h), (fun _ _ _ _ h => h), (fun _ _ _ _ h => h), (fun _ _ _ _ h => h), (fun _ _ _ _ h => h), (fun _ _ _ _ h => h), (fun _ _ _ _ h => h), (fun _ _ _ _ h => h), (fun _ _ _ _ h => h), (fun _ _ _ _ h => h), (fun _ _ _ _ h => h), trivial⟩

set_option maxRecDepth 20000 in
set_option maxHeartbeats 8000000 in
theorem historyChecks_any (a : Option Addr) (cap n : Nat) (R : Nat → Int × Int × Int) (i0 j0 : Int) (w : World) (h : RawIn w a n R) :
    Calls Tryz.prog 8 #[.slice a n cap, .int .i64 i0, .int .i64 j0] w fun e w' => e = .returned (.bool true) ∧ Below w.heap.size w w' := by
  have hA := awake14_any w
  obtain ⟨m, hm⟩ : ∃ m, m = min n 20 := ⟨_, rfl⟩
  have hm20 : m ≤ 20 := by omega
  have HMC := hidq (fun W (hW : Below w.heap.size w W) => mcalls_any a cap n m R W (h.below hW) hm)
  obtain ⟨LC, hLC⟩ : ∃ LC, mkCls R m = LC := ⟨_, rfl⟩
  have hlen : LC.length = m := by rw [← hLC, mkCls_len]
  rw [hLC] at HMC
  have HLEN := hidq hlen
  clear h hm hLC hlen
  go_enter Tryz.func8, Tryz.ntmps8
  go_wp2_with fail
  refine hA.mono ?_
  rintro e w1 ⟨rfl, hb1⟩
  clear hA
  have HB1 := hidq hb1
  clear hb1
  go_wp2_with fail
  refine (HMC.out w1 HB1.out).mono ?_
  rintro e w2 ⟨a2, cp, rfl, hSl, _, hb2⟩
  rw [HLEN.out] at hSl ⊢
  have H2 := hidq (And.intro hSl (HB1.out.trans (hb2.mono HB1.out.size)))
  clear hSl hb2 HMC
  have hTo := hidq (told14_any LC a2 cp m w2 H2.out.1 HLEN.out (by omega))
  go_wp2_with fail
  refine (hTo.out).mono ?_
  rintro e w3 ⟨a3, cr, rfl, hSr, hb3⟩
  have H3 := hidq (And.intro (H2.out.1.below hb3) (And.intro hSr (H2.out.2.trans (hb3.mono H2.out.2.size))))
  clear hSr hb3 hTo H2
  have hDo := hidq (done14_any LC a2 cp m w3 H3.out.1 HLEN.out hm20)
  go_wp2_with fail
  refine (hDo.out).mono ?_
  rintro e w4 ⟨S, a4, c4, rfl, hN4, hS, hb4⟩
  have HS := hidq hS
  have H4 := hidq (And.intro (H3.out.1.below hb4) (And.intro (H3.out.2.1.below hb4) (And.intro (H3.out.2.2.trans (hb4.mono H3.out.2.2.size)) hN4)))
  clear hS hN4 hb4 hDo H3
  have hRo := hidq (rdone14_any LC S HS.out a3 cr m w4 H4.out.2.1 HLEN.out (by omega))
  go_wp2_with fail
  refine (hRo.out).mono ?_
  rintro e w5 ⟨a5, c5, rfl, hN5, hb5⟩
  have H5 := hidq (And.intro (H4.out.1.below hb5) (And.intro (H4.out.2.1.below hb5) (And.intro (H4.out.2.2.1.trans (hb5.mono H4.out.2.2.1.size)) (And.intro (H4.out.2.2.2.but (T := fun _ => False) (But.of_below hb5) (fun _ e => e.elim)) hN5))))
  clear hN5 hb5 hRo H4
  obtain ⟨res, hres⟩ : ∃ res, hchk LC 0 (fun _ => none) = res := ⟨_, rfl⟩
  have hCo := check14_any LC a2 cp m w5 H5.out.1 HLEN.out (by omega)
  have hRc := hidq (fun W (hW : Below w5.heap.size w5 W) => rcheck14_any LC a3 cr m W (H5.out.2.1.below hW) HLEN.out (by omega))
  rw [hres] at hCo hRc
  have HCo := hidq hCo
  clear hCo hres
  obtain ⟨sl, hsl⟩ : ∃ sl, S.length = sl := ⟨_, rfl⟩
  have HSL := hidq hsl
  rw [hsl]
  have hsl20 : sl ≤ 20 := by have := HS.out.len; have := HLEN.out; omega
  clear hsl
  go_wp2_with fail
  refine (HCo.out).mono ?_
  rintro e w6 ⟨rfl, hb6⟩
  have HB6 := hidq hb6
  clear hb6 HCo
  go_wp2_with fail
  refine (hRc.out w6 HB6.out).mono ?_
  rintro e w7 ⟨rfl, hb7⟩
  have HB7 := hidq (HB6.out.trans (hb7.mono HB6.out.size))
  clear hb7 hRc HB6
  go_wp2_with fail
  have H7 := hidq (And.intro (H5.out.1.below HB7.out) (And.intro (H5.out.2.1.below HB7.out) (And.intro (H5.out.2.2.1.trans (HB7.out.mono H5.out.2.2.1.size)) (And.intro (H5.out.2.2.2.1.but (T := fun _ => False) (But.of_below HB7.out) (fun _ e => e.elim)) (H5.out.2.2.2.2.but (T := fun _ => False) (But.of_below HB7.out) (fun _ e => e.elim))))))
  clear H5 HB7
  go_loopw [36] (fun s36 wr => ∃ k : Nat, s36 = .int .i64 (k : Int) ∧ k ≤ sl ∧ Hid (Below w7.heap.size w7 wr)) (fun s36 _ => sl - (intOf s36).toNat)
  case atStart => exact ⟨0, rfl, Nat.zero_le _, hidq (Below.refl _ _)⟩
  case round =>
    obtain ⟨k, rfl, hk, hbr⟩ := hrel
    by_cases hlt : k < sl
    · have hltI : (k : Int) < (sl : Int) := by omega
      obtain ⟨y, hy⟩ : ∃ y, S[k]? = some y := ⟨_, List.getElem?_eq_getElem (by have := HSL.out; omega)⟩
      obtain ⟨b4, o4, rfl, hl4, _, hc4⟩ := H7.out.2.2.2.1 k y hy
      obtain ⟨b5, o5, rfl, hl5, _, hc5⟩ := H7.out.2.2.2.2 k y hy
      have z4 : wr.cell? ⟨b4, o4 + k, none⟩ = some (.int .i64 (y : Int)) := by rw [hbr.out.cell (p := ⟨b4, o4 + k, none⟩) hl4]; exact hc4
      have z5 : wr.cell? ⟨b5, o5 + k, none⟩ = some (.int .i64 (y : Int)) := by rw [hbr.out.cell (p := ⟨b5, o5 + k, none⟩) hl5]; exact hc5
      have z6 : b4 < wr.heap.size := Nat.lt_of_lt_of_le hl4 hbr.out.size
      have z7 : b5 < wr.heap.size := Nat.lt_of_lt_of_le hl5 hbr.out.size
      clear hl4 hl5 hc4 hc5 hy
      go_wp2_with fail
      go_region
      go_wp2_with fail
      go_roundw
      case rel => exact ⟨k + 1, by go_num, by omega, hidq hbr.out.drew⟩
      case measure => simp [intOf]; omega
    · have hke : k = sl := by omega
      have hd1 : decide ((k : Int) < (sl : Int)) = false := decide_eq_false (by omega)
      have hd2 : decide (k < sl) = false := decide_eq_false hlt
      obtain ⟨w9, h9⟩ : ∃ w9, w9 = wr := ⟨_, rfl⟩
      subst h9
      have HL9 := hidq (H7.out.2.2.1.trans (hbr.out.mono H7.out.2.2.1.size))
      have HKE := hidq hke
      clear hke
      by_cases hm0 : m = 0
      · subst hm0
        go_wp2_with fail
        go_ret
        exact ⟨rfl, HL9.out⟩
      have hmb : ((m : Int) == 0) = false := by simp; omega
      have hmb2 : (m == 0) = false := by simpa using hm0
      have hmI : ¬ (m : Int) = 0 := by omega
      have ha1 := i64_and8 i0
      have ha2 := i64_and8 j0
      obtain ⟨ki, hki⟩ : ∃ ki : Nat, (i0 % 256).tmod (m : Int) = (ki : Int) := ⟨((i0 % 256).tmod (m : Int)).toNat, by have := Int.tmod_nonneg (m : Int) (show 0 ≤ i0 % 256 by omega); omega⟩
      obtain ⟨kj, hkj⟩ : ∃ kj : Nat, (j0 % 256).tmod (m : Int) = (kj : Int) := ⟨((j0 % 256).tmod (m : Int)).toNat, by have := Int.tmod_nonneg (m : Int) (show 0 ≤ j0 % 256 by omega); omega⟩
      have hkim : ki < m := by have := Int.tmod_lt_of_pos (i0 % 256) (show (0 : Int) < (m : Int) by omega); omega
      have hkjm : kj < m := by have := Int.tmod_lt_of_pos (j0 % 256) (show (0 : Int) < (m : Int) by omega); omega
      have hkiI : (ki : Int) < (m : Int) := by omega
      have hkjI : (kj : Int) < (m : Int) := by omega
      have e0 : 0 ≤ i0 % 256 := by omega
      have e1 : i0 % 256 ≤ 255 := by omega
      have e2 : 0 ≤ j0 % 256 := by omega
      have e3 : j0 % 256 ≤ 255 := by omega
      go_wp2_with fail
      go_region
      go_wp2_with fail
      obtain ⟨W9, hW9, hB9⟩ : ∃ W9, w9.drew = W9 ∧ Below w9.heap.size w9 W9 := ⟨_, rfl, (Below.refl _ _).drew⟩
      rw [hW9]
      obtain ⟨c, hc⟩ : ∃ c, LC[ki]? = some c := ⟨_, List.getElem?_eq_getElem (by have := HLEN.out; omega)⟩
      obtain ⟨d, hd⟩ : ∃ d, LC[kj]? = some d := ⟨_, List.getElem?_eq_getElem (by have := HLEN.out; omega)⟩
      have hl79 := hbr.out.trans (hB9.mono hbr.out.size)
      obtain ⟨g, rfl, hF1⟩ : ∃ g, a2 = some ⟨g, 0, none⟩ ∧ Flat 12 W9 g cp m (flatCl LC) := by
        rcases H7.out.1.below hl79 with ⟨_, e, _⟩ | ⟨g, e1, e2⟩
        · exact absurd e hm0
        · exact ⟨g, e1, e2⟩
      obtain ⟨h, rfl, hF2⟩ : ∃ h, a3 = some ⟨h, 0, none⟩ ∧ Flat 3 W9 h cr m (flat14 LC) := by
        rcases H7.out.2.1.below hl79 with ⟨_, e, _⟩ | ⟨g, e1, e2⟩
        · exact absurd e hm0
        · exact ⟨g, e1, e2⟩
      have hrow : ∀ W, Below W9.heap.size W9 W → ∀ (k : Nat) (x : Cl), LC[k]? = some x → (∀ j u, x.l[j]? = some u → W.cell? ⟨g, k * 12 + j, none⟩ = some u) ∧ (∀ j u, (rrow x)[j]? = some u → W.cell? ⟨h, k * 3 + j, none⟩ = some u) ∧ g < W.heap.size ∧ h < W.heap.size := fun W hW k x hx => by
        refine ⟨fun j u hu => ?_, fun j u hu => ?_, Nat.lt_of_lt_of_le hF1.lt hW.size, Nat.lt_of_lt_of_le hF2.lt hW.size⟩
        · have hj : j < 12 := (List.getElem?_eq_some_iff.1 hu).1
          rw [hW.cell (p := ⟨g, k * 12 + j, none⟩) hF1.lt]
          exact hF1.cell _ _ (by rw [flatCl_get LC k j x hx hj]; exact hu)
        · have hj : j < 3 := (List.getElem?_eq_some_iff.1 hu).1
          rw [hW.cell (p := ⟨h, k * 3 + j, none⟩) hF2.lt]
          exact hF2.cell _ _ (by rw [flat14_get LC k j x hx hj]; exact hu)
      have FC := hidq (fun W (hW : Reg.Keeps W9 W) => (show _ from And.intro ((show W.cell? ⟨g, ki * 12, none⟩ = some (.int .i64 c.thread) from (hrow W hW ki c hc).1 0 _ rfl)) (And.intro ((show W.cell? ⟨g, ki * 12 + 1, none⟩ = some (.int .i64 c.kind) from (hrow W hW ki c hc).1 1 _ rfl)) (And.intro ((show W.cell? ⟨g, ki * 12 + 2, none⟩ = some (.float .f64 c.pri) from (hrow W hW ki c hc).1 2 _ rfl)) (And.intro ((show W.cell? ⟨g, ki * 12 + 3, none⟩ = some (.int .i64 c.val) from (hrow W hW ki c hc).1 3 _ rfl)) (And.intro ((show W.cell? ⟨g, ki * 12 + 4, none⟩ = some (.int .i64 c.d0) from (hrow W hW ki c hc).1 4 _ rfl)) (And.intro ((show W.cell? ⟨g, ki * 12 + 5, none⟩ = some (.int .i64 c.d1) from (hrow W hW ki c hc).1 5 _ rfl)) (And.intro ((show W.cell? ⟨g, ki * 12 + 6, none⟩ = some (.int .i64 c.beg) from (hrow W hW ki c hc).1 6 _ rfl)) (And.intro ((show W.cell? ⟨g, ki * 12 + 7, none⟩ = some (.int .i64 c.fin) from (hrow W hW ki c hc).1 7 _ rfl)) (And.intro ((show W.cell? ⟨g, ki * 12 + 8, none⟩ = some (.bool c.ans.ok) from (hrow W hW ki c hc).1 8 _ rfl)) (And.intro ((show W.cell? ⟨g, ki * 12 + 9, none⟩ = some (.float .f64 c.ans.pri) from (hrow W hW ki c hc).1 9 _ rfl)) (And.intro ((show W.cell? ⟨g, ki * 12 + 10, none⟩ = some (.int .i64 c.ans.val) from (hrow W hW ki c hc).1 10 _ rfl)) (And.intro ((show W.cell? ⟨g, ki * 12 + 11, none⟩ = some (.int .i64 c.ans.n) from (hrow W hW ki c hc).1 11 _ rfl)) (And.intro ((show W.cell? ⟨g, kj * 12, none⟩ = some (.int .i64 d.thread) from (hrow W hW kj d hd).1 0 _ rfl)) (And.intro ((show W.cell? ⟨g, kj * 12 + 1, none⟩ = some (.int .i64 d.kind) from (hrow W hW kj d hd).1 1 _ rfl)) (And.intro ((show W.cell? ⟨g, kj * 12 + 2, none⟩ = some (.float .f64 d.pri) from (hrow W hW kj d hd).1 2 _ rfl)) (And.intro ((show W.cell? ⟨g, kj * 12 + 3, none⟩ = some (.int .i64 d.val) from (hrow W hW kj d hd).1 3 _ rfl)) (And.intro ((show W.cell? ⟨g, kj * 12 + 4, none⟩ = some (.int .i64 d.d0) from (hrow W hW kj d hd).1 4 _ rfl)) (And.intro ((show W.cell? ⟨g, kj * 12 + 5, none⟩ = some (.int .i64 d.d1) from (hrow W hW kj d hd).1 5 _ rfl)) (And.intro ((show W.cell? ⟨g, kj * 12 + 6, none⟩ = some (.int .i64 d.beg) from (hrow W hW kj d hd).1 6 _ rfl)) (And.intro ((show W.cell? ⟨g, kj * 12 + 7, none⟩ = some (.int .i64 d.fin) from (hrow W hW kj d hd).1 7 _ rfl)) (And.intro ((show W.cell? ⟨g, kj * 12 + 8, none⟩ = some (.bool d.ans.ok) from (hrow W hW kj d hd).1 8 _ rfl)) (And.intro ((show W.cell? ⟨g, kj * 12 + 9, none⟩ = some (.float .f64 d.ans.pri) from (hrow W hW kj d hd).1 9 _ rfl)) (And.intro ((show W.cell? ⟨g, kj * 12 + 10, none⟩ = some (.int .i64 d.ans.val) from (hrow W hW kj d hd).1 10 _ rfl)) (And.intro ((show W.cell? ⟨g, kj * 12 + 11, none⟩ = some (.int .i64 d.ans.n) from (hrow W hW kj d hd).1 11 _ rfl)) (And.intro ((show W.cell? ⟨h, ki * 3, none⟩ = some (.int .i64 c.thread) from (hrow W hW ki c hc).2.1 0 _ rfl)) (And.intro ((show W.cell? ⟨h, ki * 3 + 1, none⟩ = some (.int .i64 c.beg) from (hrow W hW ki c hc).2.1 1 _ rfl)) (And.intro ((show W.cell? ⟨h, ki * 3 + 2, none⟩ = some (.int .i64 c.fin) from (hrow W hW ki c hc).2.1 2 _ rfl)) (And.intro ((show W.cell? ⟨h, kj * 3, none⟩ = some (.int .i64 d.thread) from (hrow W hW kj d hd).2.1 0 _ rfl)) (And.intro ((show W.cell? ⟨h, kj * 3 + 1, none⟩ = some (.int .i64 d.beg) from (hrow W hW kj d hd).2.1 1 _ rfl)) (And.intro ((show W.cell? ⟨h, kj * 3 + 2, none⟩ = some (.int .i64 d.fin) from (hrow W hW kj d hd).2.1 2 _ rfl)) (And.intro ((hrow W hW ki c hc).2.2.1) ((hrow W hW ki c hc).2.2.2)))))))))))))))))))))))))))))))))
      obtain ⟨q, hq⟩ : ∃ q, c.ahead d = q := ⟨_, rfl⟩
      have HA1 := hidq (fun w => cahead_any c d w)
      have HA2 := hidq (fun w => rahead14_any c d w)
      rw [hq] at HA1 HA2
      have HLW := hidq (HL9.out.trans (hB9.mono HL9.out.size))
      clear hq hrow hF1 hF2 hc hd hl79 hW9 hB9 hki hkj ha1 ha2 e0 e1 e2 e3 HL9 H7 hbr
      have hrefl : ∀ w : World, Reg.Keeps w w := Reg.Keeps.refl
      refine Reg.wp_region_props (Reg.ofList (hc17R g h m cp cr ki kj c d q)) Reg.Keeps (fun _ w => Reg.Keeps W9 w) (by kernel_rfl) (by kernel_rfl) (Reg.AllKept.at _ (hc17R_kept g h m cp cr ki kj c d q)) hrefl (Reg.Keeps.drewN (Reg.Keeps.refl _) 1) ⟨?_, ?_, ?_, ?_, ?_, ?_, ?_, ?_, ?_, ?_, ?_, ?_, ?_, ?_, ?_, ?_, ?_, ?_, ?_, ?_, trivial⟩ ?_
      · refine Reg.StepAt.plain (i := 0) rfl ?_
        intro L ev w hI hk hp hA
        have e7 : ev (.tmp 7) = .slice (some ⟨g, 0, none⟩) m cp := hA.oldNone 7 (by kernel_rfl)
        have hcc := hA.const
        clear hA hp
        refine Reg.out_value (v := .slice (some ⟨g, 0, none⟩) m cp) ?_ ⟨rfl, hrefl _, hI⟩
        go_simp
      · refine Reg.StepAt.plain (i := 1) rfl ?_
        intro L ev w hI hk hp hA
        have e1 : ev (.tmp 1) = .int .i64 (ki : Int) := hA.oldNone 1 (by kernel_rfl)
        have hcc := hA.const
        clear hA hp
        refine Reg.out_value (v := .int .i64 (ki : Int)) ?_ ⟨rfl, hrefl _, hI⟩
        go_simp
      · refine Reg.StepAt.plain (i := 2) rfl ?_
        intro L ev w hI hk hp hA
        have e62 : ev (.tmp 62) = .slice (some ⟨g, 0, none⟩) m cp := hA.val 0 _ 62 rfl (hp ⟨0, .data⟩ (by simp) rfl) rfl
        have e63 : ev (.tmp 63) = .int .i64 (ki : Int) := hA.val 1 _ 63 rfl (hp ⟨1, .data⟩ (by simp) rfl) rfl
        have hcc := hA.const
        clear hA hp
        refine Reg.out_value (v := .pointer (some ⟨g, ki * 12, none⟩)) ?_ ⟨rfl, hrefl _, hI⟩
        go_simp
      · refine Reg.StepAt.plain (i := 3) rfl ?_
        intro L ev w hI hk hp hA
        have e64 : ev (.tmp 64) = .pointer (some ⟨g, ki * 12, none⟩) := hA.val 2 _ 64 rfl (hp ⟨2, .data⟩ (by simp) rfl) rfl
        have hcc := hA.const
        clear hA hp
        obtain ⟨m0, m1, m2, m3, m4, m5, m6, m7, m8, m9, m10, m11, m12, m13, m14, m15, m16, m17, m18, m19, m20, m21, m22, m23, m24, m25, m26, m27, m28, m29, m30, m31⟩ := FC.out w hI
        refine Reg.out_value (v := .agg #[.int .i64 c.thread, .int .i64 c.kind, .float .f64 c.pri, .int .i64 c.val, .int .i64 c.d0, .int .i64 c.d1, .int .i64 c.beg, .int .i64 c.fin, .bool c.ans.ok, .float .f64 c.ans.pri, .int .i64 c.ans.val, .int .i64 c.ans.n]) ?_ ⟨rfl, hrefl _, hI⟩
        go_simp
      · refine Reg.StepAt.plain (i := 4) rfl ?_
        intro L ev w hI hk hp hA
        have e7 : ev (.tmp 7) = .slice (some ⟨g, 0, none⟩) m cp := hA.oldNone 7 (by kernel_rfl)
        have hcc := hA.const
        clear hA hp
        refine Reg.out_value (v := .slice (some ⟨g, 0, none⟩) m cp) ?_ ⟨rfl, hrefl _, hI⟩
        go_simp
      · refine Reg.StepAt.plain (i := 5) rfl ?_
        intro L ev w hI hk hp hA
        have e2 : ev (.tmp 2) = .int .i64 (kj : Int) := hA.oldNone 2 (by kernel_rfl)
        have hcc := hA.const
        clear hA hp
        refine Reg.out_value (v := .int .i64 (kj : Int)) ?_ ⟨rfl, hrefl _, hI⟩
        go_simp
      · refine Reg.StepAt.plain (i := 6) rfl ?_
        intro L ev w hI hk hp hA
        have e66 : ev (.tmp 66) = .slice (some ⟨g, 0, none⟩) m cp := hA.val 4 _ 66 rfl (hp ⟨4, .data⟩ (by simp) rfl) rfl
        have e67 : ev (.tmp 67) = .int .i64 (kj : Int) := hA.val 5 _ 67 rfl (hp ⟨5, .data⟩ (by simp) rfl) rfl
        have hcc := hA.const
        clear hA hp
        refine Reg.out_value (v := .pointer (some ⟨g, kj * 12, none⟩)) ?_ ⟨rfl, hrefl _, hI⟩
        go_simp
      · refine Reg.StepAt.plain (i := 7) rfl ?_
        intro L ev w hI hk hp hA
        have e68 : ev (.tmp 68) = .pointer (some ⟨g, kj * 12, none⟩) := hA.val 6 _ 68 rfl (hp ⟨6, .data⟩ (by simp) rfl) rfl
        have hcc := hA.const
        clear hA hp
        obtain ⟨m0, m1, m2, m3, m4, m5, m6, m7, m8, m9, m10, m11, m12, m13, m14, m15, m16, m17, m18, m19, m20, m21, m22, m23, m24, m25, m26, m27, m28, m29, m30, m31⟩ := FC.out w hI
        refine Reg.out_value (v := .agg #[.int .i64 d.thread, .int .i64 d.kind, .float .f64 d.pri, .int .i64 d.val, .int .i64 d.d0, .int .i64 d.d1, .int .i64 d.beg, .int .i64 d.fin, .bool d.ans.ok, .float .f64 d.ans.pri, .int .i64 d.ans.val, .int .i64 d.ans.n]) ?_ ⟨rfl, hrefl _, hI⟩
        go_simp
      · refine Reg.StepAt.plain (i := 8) rfl ?_
        intro L ev w hI hk hp hA
        have e65 : ev (.tmp 65) = .agg #[.int .i64 c.thread, .int .i64 c.kind, .float .f64 c.pri, .int .i64 c.val, .int .i64 c.d0, .int .i64 c.d1, .int .i64 c.beg, .int .i64 c.fin, .bool c.ans.ok, .float .f64 c.ans.pri, .int .i64 c.ans.val, .int .i64 c.ans.n] := hA.val 3 _ 65 rfl (hp ⟨3, .data⟩ (by simp) rfl) rfl
        have e69 : ev (.tmp 69) = .agg #[.int .i64 d.thread, .int .i64 d.kind, .float .f64 d.pri, .int .i64 d.val, .int .i64 d.d0, .int .i64 d.d1, .int .i64 d.beg, .int .i64 d.fin, .bool d.ans.ok, .float .f64 d.ans.pri, .int .i64 d.ans.val, .int .i64 d.ans.n] := hA.val 7 _ 69 rfl (hp ⟨7, .data⟩ (by simp) rfl) rfl
        have hcc := hA.const
        have hcf := hA.func
        clear hA hp
        refine Reg.out_call (f := 45) (args := #[.agg #[.int .i64 c.thread, .int .i64 c.kind, .float .f64 c.pri, .int .i64 c.val, .int .i64 c.d0, .int .i64 c.d1, .int .i64 c.beg, .int .i64 c.fin, .bool c.ans.ok, .float .f64 c.ans.pri, .int .i64 c.ans.val, .int .i64 c.ans.n], .agg #[.int .i64 d.thread, .int .i64 d.kind, .float .f64 d.pri, .int .i64 d.val, .int .i64 d.d0, .int .i64 d.d1, .int .i64 d.beg, .int .i64 d.fin, .bool d.ans.ok, .float .f64 d.ans.pri, .int .i64 d.ans.val, .int .i64 d.ans.n]]) (w0 := w) ?_ ?_
        · go_simp
        refine (HA1.out w).mono ?_
        rintro e w' ⟨rfl, hb'⟩
        exact ⟨_, rfl, rfl, hb', Reg.Keeps.trans hI hb'⟩
      · refine Reg.StepAt.plain (i := 9) rfl ?_
        intro L ev w hI hk hp hA
        have e8 : ev (.tmp 8) = .slice (some ⟨h, 0, none⟩) m cr := hA.oldNone 8 (by kernel_rfl)
        have hcc := hA.const
        clear hA hp
        refine Reg.out_value (v := .slice (some ⟨h, 0, none⟩) m cr) ?_ ⟨rfl, hrefl _, hI⟩
        go_simp
      · refine Reg.StepAt.plain (i := 10) rfl ?_
        intro L ev w hI hk hp hA
        have e1 : ev (.tmp 1) = .int .i64 (ki : Int) := hA.oldNone 1 (by kernel_rfl)
        have hcc := hA.const
        clear hA hp
        refine Reg.out_value (v := .int .i64 (ki : Int)) ?_ ⟨rfl, hrefl _, hI⟩
        go_simp
      · refine Reg.StepAt.plain (i := 11) rfl ?_
        intro L ev w hI hk hp hA
        have e71 : ev (.tmp 71) = .slice (some ⟨h, 0, none⟩) m cr := hA.val 9 _ 71 rfl (hp ⟨9, .data⟩ (by simp) rfl) rfl
        have e72 : ev (.tmp 72) = .int .i64 (ki : Int) := hA.val 10 _ 72 rfl (hp ⟨10, .data⟩ (by simp) rfl) rfl
        have hcc := hA.const
        clear hA hp
        refine Reg.out_value (v := .pointer (some ⟨h, ki * 3, none⟩)) ?_ ⟨rfl, hrefl _, hI⟩
        go_simp
      · refine Reg.StepAt.plain (i := 12) rfl ?_
        intro L ev w hI hk hp hA
        have e73 : ev (.tmp 73) = .pointer (some ⟨h, ki * 3, none⟩) := hA.val 11 _ 73 rfl (hp ⟨11, .data⟩ (by simp) rfl) rfl
        have hcc := hA.const
        clear hA hp
        obtain ⟨m0, m1, m2, m3, m4, m5, m6, m7, m8, m9, m10, m11, m12, m13, m14, m15, m16, m17, m18, m19, m20, m21, m22, m23, m24, m25, m26, m27, m28, m29, m30, m31⟩ := FC.out w hI
        refine Reg.out_value (v := .agg #[.int .i64 c.thread, .int .i64 c.beg, .int .i64 c.fin]) ?_ ⟨rfl, hrefl _, hI⟩
        go_simp
      · refine Reg.StepAt.plain (i := 13) rfl ?_
        intro L ev w hI hk hp hA
        have e8 : ev (.tmp 8) = .slice (some ⟨h, 0, none⟩) m cr := hA.oldNone 8 (by kernel_rfl)
        have hcc := hA.const
        clear hA hp
        refine Reg.out_value (v := .slice (some ⟨h, 0, none⟩) m cr) ?_ ⟨rfl, hrefl _, hI⟩
        go_simp
      · refine Reg.StepAt.plain (i := 14) rfl ?_
        intro L ev w hI hk hp hA
        have e2 : ev (.tmp 2) = .int .i64 (kj : Int) := hA.oldNone 2 (by kernel_rfl)
        have hcc := hA.const
        clear hA hp
        refine Reg.out_value (v := .int .i64 (kj : Int)) ?_ ⟨rfl, hrefl _, hI⟩
        go_simp
      · refine Reg.StepAt.plain (i := 15) rfl ?_
        intro L ev w hI hk hp hA
        have e75 : ev (.tmp 75) = .slice (some ⟨h, 0, none⟩) m cr := hA.val 13 _ 75 rfl (hp ⟨13, .data⟩ (by simp) rfl) rfl
        have e76 : ev (.tmp 76) = .int .i64 (kj : Int) := hA.val 14 _ 76 rfl (hp ⟨14, .data⟩ (by simp) rfl) rfl
        have hcc := hA.const
        clear hA hp
        refine Reg.out_value (v := .pointer (some ⟨h, kj * 3, none⟩)) ?_ ⟨rfl, hrefl _, hI⟩
        go_simp
      · refine Reg.StepAt.plain (i := 16) rfl ?_
        intro L ev w hI hk hp hA
        have e77 : ev (.tmp 77) = .pointer (some ⟨h, kj * 3, none⟩) := hA.val 15 _ 77 rfl (hp ⟨15, .data⟩ (by simp) rfl) rfl
        have hcc := hA.const
        clear hA hp
        obtain ⟨m0, m1, m2, m3, m4, m5, m6, m7, m8, m9, m10, m11, m12, m13, m14, m15, m16, m17, m18, m19, m20, m21, m22, m23, m24, m25, m26, m27, m28, m29, m30, m31⟩ := FC.out w hI
        refine Reg.out_value (v := .agg #[.int .i64 d.thread, .int .i64 d.beg, .int .i64 d.fin]) ?_ ⟨rfl, hrefl _, hI⟩
        go_simp
      · refine Reg.StepAt.plain (i := 17) rfl ?_
        intro L ev w hI hk hp hA
        have e74 : ev (.tmp 74) = .agg #[.int .i64 c.thread, .int .i64 c.beg, .int .i64 c.fin] := hA.val 12 _ 74 rfl (hp ⟨12, .data⟩ (by simp) rfl) rfl
        have e78 : ev (.tmp 78) = .agg #[.int .i64 d.thread, .int .i64 d.beg, .int .i64 d.fin] := hA.val 16 _ 78 rfl (hp ⟨16, .data⟩ (by simp) rfl) rfl
        have hcc := hA.const
        have hcf := hA.func
        clear hA hp
        refine Reg.out_call (f := 46) (args := #[.agg #[.int .i64 c.thread, .int .i64 c.beg, .int .i64 c.fin], .agg #[.int .i64 d.thread, .int .i64 d.beg, .int .i64 d.fin]]) (w0 := w) ?_ ?_
        · go_simp
        refine (HA2.out w).mono ?_
        rintro e w' ⟨rfl, hb'⟩
        exact ⟨_, rfl, rfl, hb', Reg.Keeps.trans hI hb'⟩
      · refine Reg.StepAt.plain (i := 18) rfl ?_
        intro L ev w hI hk hp hA
        have e70 : ev (.tmp 70) = .bool q := hA.val 8 _ 70 rfl (hp ⟨8, .data⟩ (by simp) rfl) rfl
        have e79 : ev (.tmp 79) = .bool q := hA.val 17 _ 79 rfl (hp ⟨17, .data⟩ (by simp) rfl) rfl
        have hcc := hA.const
        clear hA hp
        refine Reg.out_value (v := .bool true) ?_ ⟨rfl, hrefl _, hI⟩
        go_simp
      · refine Reg.StepAt.plain (i := 19) rfl ?_
        intro L ev w hI hk hp hA
        have e80 : ev (.tmp 80) = .bool true := hA.val 18 _ 80 rfl (hp ⟨18, .data⟩ (by simp) rfl) rfl
        have hcc := hA.const
        clear hA hp
        refine Reg.out_value (v := .bool true) ?_ ⟨rfl, hrefl _, hI⟩
        go_simp
      intro L act wz hall hI hF
      have g62 : act.eval (.tmp 62) = .slice (some ⟨g, 0, none⟩) m cp := hF.val 0 _ 62 rfl (hall 0 (by simp)) rfl
      have g63 : act.eval (.tmp 63) = .int .i64 (ki : Int) := hF.val 1 _ 63 rfl (hall 1 (by simp)) rfl
      have g64 : act.eval (.tmp 64) = .pointer (some ⟨g, ki * 12, none⟩) := hF.val 2 _ 64 rfl (hall 2 (by simp)) rfl
      have g65 : act.eval (.tmp 65) = .agg #[.int .i64 c.thread, .int .i64 c.kind, .float .f64 c.pri, .int .i64 c.val, .int .i64 c.d0, .int .i64 c.d1, .int .i64 c.beg, .int .i64 c.fin, .bool c.ans.ok, .float .f64 c.ans.pri, .int .i64 c.ans.val, .int .i64 c.ans.n] := hF.val 3 _ 65 rfl (hall 3 (by simp)) rfl
      have g66 : act.eval (.tmp 66) = .slice (some ⟨g, 0, none⟩) m cp := hF.val 4 _ 66 rfl (hall 4 (by simp)) rfl
      have g67 : act.eval (.tmp 67) = .int .i64 (kj : Int) := hF.val 5 _ 67 rfl (hall 5 (by simp)) rfl
      have g68 : act.eval (.tmp 68) = .pointer (some ⟨g, kj * 12, none⟩) := hF.val 6 _ 68 rfl (hall 6 (by simp)) rfl
      have g69 : act.eval (.tmp 69) = .agg #[.int .i64 d.thread, .int .i64 d.kind, .float .f64 d.pri, .int .i64 d.val, .int .i64 d.d0, .int .i64 d.d1, .int .i64 d.beg, .int .i64 d.fin, .bool d.ans.ok, .float .f64 d.ans.pri, .int .i64 d.ans.val, .int .i64 d.ans.n] := hF.val 7 _ 69 rfl (hall 7 (by simp)) rfl
      have g70 : act.eval (.tmp 70) = .bool q := hF.val 8 _ 70 rfl (hall 8 (by simp)) rfl
      have g71 : act.eval (.tmp 71) = .slice (some ⟨h, 0, none⟩) m cr := hF.val 9 _ 71 rfl (hall 9 (by simp)) rfl
      have g72 : act.eval (.tmp 72) = .int .i64 (ki : Int) := hF.val 10 _ 72 rfl (hall 10 (by simp)) rfl
      have g73 : act.eval (.tmp 73) = .pointer (some ⟨h, ki * 3, none⟩) := hF.val 11 _ 73 rfl (hall 11 (by simp)) rfl
      have g74 : act.eval (.tmp 74) = .agg #[.int .i64 c.thread, .int .i64 c.beg, .int .i64 c.fin] := hF.val 12 _ 74 rfl (hall 12 (by simp)) rfl
      have g75 : act.eval (.tmp 75) = .slice (some ⟨h, 0, none⟩) m cr := hF.val 13 _ 75 rfl (hall 13 (by simp)) rfl
      have g76 : act.eval (.tmp 76) = .int .i64 (kj : Int) := hF.val 14 _ 76 rfl (hall 14 (by simp)) rfl
      have g77 : act.eval (.tmp 77) = .pointer (some ⟨h, kj * 3, none⟩) := hF.val 15 _ 77 rfl (hall 15 (by simp)) rfl
      have g78 : act.eval (.tmp 78) = .agg #[.int .i64 d.thread, .int .i64 d.beg, .int .i64 d.fin] := hF.val 16 _ 78 rfl (hall 16 (by simp)) rfl
      have g79 : act.eval (.tmp 79) = .bool q := hF.val 17 _ 79 rfl (hall 17 (by simp)) rfl
      have g80 : act.eval (.tmp 80) = .bool true := hF.val 18 _ 80 rfl (hall 18 (by simp)) rfl
      have g6 : act.eval (.tmp 6) = .bool true := hF.val 19 _ 6 rfl (hall 19 (by simp)) rfl
      have hact := hF.act [62, 63, 64, 65, 66, 67, 68, 69, 70, 71, 72, 73, 74, 75, 76, 77, 78, 79, 80, 6] (by kernel_rfl)
      clear hF hall
      simp only [List.foldl_cons, List.foldl_nil] at hact
      rw [g62, g63, g64, g65, g66, g67, g68, g69, g70, g71, g72, g73, g74, g75, g76, g77, g78, g79, g80, g6] at hact
      clear g62 g63 g64 g65 g66 g67 g68 g69 g70 g71 g72 g73 g74 g75 g76 g77 g78 g79 g80 g6
      simp only [List.setIfInBounds_toArray, List.set_cons_succ, List.set_cons_zero] at hact
      subst hact
      have HZ := hidq (HLW.out.trans ((show Below W9.heap.size W9 wz from hI).mono HLW.out.size))
      clear hI
      go_wp2_with fail
      go_ret
      exact ⟨rfl, HZ.out⟩
end Go.Proofs.YtdghgmaoamjnlaaGreat
