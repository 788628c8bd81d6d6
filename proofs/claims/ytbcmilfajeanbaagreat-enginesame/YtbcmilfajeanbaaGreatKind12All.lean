/-
  Layer 13: what an engine tells: contracts.
  Layer 13: the answers that the document fixes.
  The low bits of an int.
  Layer 12: a kind and a parameter that may be, of any numbers: contract.
-/
import Derived.Test.YtbcmilfajeanbaaGreatEn13fAll
import Derived.Test.YtbcmilfajeanbaaGreatWirePl0All
import Derived.Test.YtbcmilfajeanbaaGreatRegionAll
import Derived.Test.YtbcmilfajeanbaaGreatPileQAll
import Derived.Test.YtbcmilfajeanbaaGreatChecked
import Derived.WalkKit
import Derived.Laws.Bits128
import Derived.Test.YtbcmilfajeanbaaGreatKNew9All
namespace Go.Proofs.YtbcmilfajeanbaaGreat
open Go.RowKit Go.Sort

theorem flat_ones : ∀ l : List (Int × List KI), (∀ p ∈ l, p.2.length = 1) → (l.flatMap (fun p => p.2)).length = l.length
  | [], _ => rfl
  | p :: l, h => by
    rw [List.flatMap_cons, List.length_append, h p (List.mem_cons_self ..), flat_ones l (fun q hq => h q (List.mem_cons_of_mem _ hq)), List.length_cons]
    omega
theorem slK_len {M : Mem} (h : KM M) : (slK M).length ≤ max M.len 2 := by
  unfold slK
  rw [flat_ones _ (fun p hp => ?_), List.length_mergeSort]
  · exact fullK_len M _
  · obtain ⟨i, _, h2, h3, rfl⟩ := fullK_mem (List.mem_mergeSort.1 hp)
    obtain ⟨x, hx⟩ := h.2 i h2 h3
    show (kis (M.cell i).L).length = 1
    rw [hx, kis_kit]; rfl
theorem shK_len {M : Mem} (h : MOk M) (c : Nat) : (shK M c).length ≤ 62 * c := by
  obtain ⟨K, h1, h2⟩ := catL_ok h c
  unfold shK
  rw [(srt_perm _).length_eq, h1, kis_kit]
  exact h2
section
variable {kind param : Int} {S : Nat → Prop} {eb : Nat} {M : Mem} {F : Nat → Option Fr} {closed : Bool} {steps : Nat} {w w' : World}
theorem EAt.value (h : EAt kind param S eb M F closed steps w) (hL : legal kind param = 0) : Calls Tryz.prog 12 #[.pointer (some ⟨eb, 0, none⟩)] w (ValEnd kind param M w) := by
  obtain ⟨T, mv, D, PA, mb, Q, O, P, K, h⟩ := h
  exact envalue_any eb kind param T mv mb Q closed steps O M w h.box hL h.mem h.inv
theorem EAt.steps_ (h : EAt kind param S eb M F closed steps w) : Calls Tryz.prog 14 #[.pointer (some ⟨eb, 0, none⟩)] w fun e w' => e = .returned (.int .i64 (steps : Int)) ∧ w' = w := by
  obtain ⟨T, mv, D, PA, mb, Q, O, P, K, h⟩ := h
  exact steps_any _ _ _ _ _ _ _ _ _ _ h.box
theorem EAt.memory_ (h : EAt kind param S eb M F closed steps w) : ∃ mb, Calls Tryz.prog 15 #[.pointer (some ⟨eb, 0, none⟩)] w (fun e w' => e = .returned (.pointer (some ⟨mb, 0, none⟩)) ∧ w' = w) ∧
    ∀ W, Below w.heap.size w W → Calls Tryz.prog 16 #[.pointer (some ⟨mb, 0, none⟩)] W fun e w' => e = .returned (.int .u64 (M.clock : Int)) ∧ w' = W := by
  obtain ⟨T, mv, D, PA, mb, Q, O, P, K, h⟩ := h
  exact ⟨mb, memory_any _ _ _ _ _ _ _ _ _ _ h.box, fun W hW => clock5_any mb O M W (h.mem.below hW)⟩
theorem EAt.itlen (h : EAt kind param S eb M F closed steps w) (hL : legal kind param = 0) : (vIt kind param M).length ≤ 1000000 := by
  obtain ⟨T, mv, D, PA, mb, Q, O, P, K, h⟩ := h
  have hp := par_rng hL
  have hI := h.inv
  have hm := h.mem.max
  unfold iK at hI
  unfold vIt
  split
  · next e =>
    rw [if_pos e] at hI
    have := shK_len hI param.toNat
    omega
  · next e =>
    rw [if_neg e] at hI
    split
    · next e2 =>
      rw [if_pos e2] at hI
      have := slK_len hI.1
      omega
    · exact Nat.zero_le _
end
end Go.Proofs.YtbcmilfajeanbaaGreat

namespace Go.Proofs.YtbcmilfajeanbaaGreat
open Go.RowKit Go.Sort

theorem run_equalIn_flt {P : Program} (d : Nat) (t : TypeId) (a b : Nat) (w : World) (h : P.underlying t = some (.float .f64)) : (Op.equalIn (d + 1) t (.float .f64 a) (.float .f64 b)).run P w = .ok (Op.floatEq .f64 a b) w := by
  simp [Op.equalIn, run_underlying h]
theorem frAt_new {w : World} {fb : Nat} {F : Fr} (h : BoxAt w fb (F.l none 0 none 0)) (h0 : F.c0.L = []) (h1 : F.c1.L = []) : FrAt w fb (fun k => k = fb) F :=
  ⟨rfl, fun k e => by rw [e]; exact h.lt, none, 0, none, 0, h, by rw [h0]; exact SlAt.nil _ _, by rw [h1]; exact SlAt.nil _ _, (fun j hj => by obtain ⟨y, hy, _⟩ := hj; cases hy), (fun j hj => by obtain ⟨y, hy, _⟩ := hj; cases hy)⟩

/-- The one step of the answers that the document fixes. -/
theorem busyTo_one (t fb : Nat) (ht : t < 6) : busyTo (qset (fun _ => none) t (some fb)) 6 = [t] := by
  have : t = 0 ∨ t = 1 ∨ t = 2 ∨ t = 3 ∨ t = 4 ∨ t = 5 := by omega
  rcases this with rfl | rfl | rfl | rfl | rfl | rfl <;> simp [busyTo, List.range_succ, qset]
theorem plan1 {c : Nat} {G : List (Nat × Nat)} {Os : List Nat} (h : PF 1 c G Os) : c = 0 ∧ G = [] ∧ Os = [0] := by
  obtain ⟨d, hd, hn, hc, hG, hO⟩ := h.ex
  have : d = 0 ∨ d = 1 ∨ d = 2 ∨ d = 3 ∨ d = 4 := by omega
  rcases this with rfl | rfl | rfl | rfl | rfl
  · exact ⟨hc, hG, hO⟩
  all_goals exact absurd hn (by decide)
theorem one13 : ∃ (M : Mem) (F : Fr), nStep 1 0 [] [0] Mem.empty (Fr.of 7 0 0 0 0) = (M, F, ⟨true, 0, 0, 0⟩, true) := ⟨_, _, rfl⟩

set_option maxRecDepth 20000 in
set_option maxHeartbeats 4000000 in
theorem awake13_any (w : World) : Calls Tryz.prog 5 #[] w fun e w' => e = .returned (.bool true) ∧ Below w.heap.size w w' := by
  have hN := new13_any (KN 1) 4 1 0 (fun w => machine4_any 1 w) w
  have hsf := run_store_flt (P := Tryz.prog)
  have hef := fun d a b w => run_equalIn_flt (P := Tryz.prog) d 38 a b w Tryz.underlying38
  have hq0 : Op.floatEq .f64 0 0 = true := by decide
  go_enter Tryz.func5, Tryz.ntmps5
  go_wp2_with fail
  refine hN.mono ?_
  rintro e w1 ⟨hb1, _, hok⟩
  obtain ⟨T, v, eb, mb, L, wm, rfl, hmb, hL, hLe, hwm, hM, hE, ⟨rfl, hK⟩, hbm⟩ := hok rfl
  obtain ⟨n, c, gc, oc, ga, oa, G, Os, D, hp, rfl, hP, hNP, hD⟩ := hK rfl
  have hn : n = 1 := by omega
  subst hn
  have hB := fun w (h : BoxAt w eb (ecells 4 1 141 (.agg #[.int .i64 ((1 : Nat) : Int), .slice ga c gc, .slice oa 1 oc]) mb (fun _ => none) false 0)) => begin_any eb 4 1 141 (.agg #[.int .i64 ((1 : Nat) : Int), .slice ga c gc, .slice oa 1 oc]) mb (fun _ => none) false 0 2 7 0 0 0 0 w h
  have H1 := hidq (And.intro hb1 (And.intro hM (And.intro hE (And.intro hP (And.intro (hNP.below hbm) (And.intro hD (And.intro hwm (And.intro hmb (And.intro hL (And.intro hLe hNP.lt))))))))))
  clear hb1 hok hM hE hP hNP hD hN hK hp hbm hwm hmb hL hLe
  go_wp2_with fail
  refine (hB _ H1.out.2.2.1).mono ?_
  rintro e w2 ⟨rfl, _, hok⟩
  obtain ⟨_, _, _, fb, hfb, hF, hE2, hbt⟩ := hok (by decide)
  rw [show begE 4 false (fun _ => none) 2 7 0 = 0 by decide]
  obtain ⟨hb1, hM, _, hP, hNP, hD, hwm, hmb, hL, hLe, hDl⟩ := H1.out
  obtain ⟨rfl, rfl, rfl⟩ := plan1 hP
  obtain ⟨M1, F1, hone⟩ := one13
  obtain ⟨r, hr⟩ : ∃ r, nStep 1 0 [] [0] Mem.empty (Fr.of 7 0 0 0 0) = r := ⟨_, rfl⟩
  have hs12 := hbt.size
  have hebl := hE2.lt
  have hmbl := hM.lt mb rfl
  have hw1l : eb < w1.heap.size := H1.out.2.2.1.lt
  have hfbl := hF.lt
  have hMz := hM.but hbt (fun k hk e => by have : k = mb := hk; omega)
  have hNPz := hNP.but hbt (fun k hk e => by have := hDl k hk; omega)
  have hFz := frAt_new hF rfl rfl
  obtain ⟨Q, hQ⟩ : ∃ Q, qset (fun _ => none) ((2 : Int)).toNat (some fb) = Q := ⟨_, rfl⟩
  have hQ2 : Q 2 = some fb := by rw [← hQ]; rfl
  have hQb : (busyTo Q 6)[(into 9 (busyTo Q 6).length).toNat]? = some 2 := by
    rw [← hQ, show ((2 : Int)).toNat = 2 from rfl, busyTo_one 2 fb (by decide)]; rfl
  rw [hQ] at hE2
  have hP := pickN_any 1 0 gc oc ga oa eb 4 1 mb Q false 0 9 2 fb (fun k => k = mb) (fun k => k = fb) r w2 hE2 hQb hQ2 (by decide) (fun k hk => by rcases hk with (e : k = mb) | (e : k = fb) <;> omega) (fun e => by rcases e with (e : eb = mb) | (e : eb = fb) <;> omega) ⟨_, _, _, _, _, hF⟩
    (fun W hW => by
      have := nstep_is 1 0 gc oc ga oa D [] [0] (by decide) (by decide) (by decide) (fun v hv => by rw [show v = 0 by omega]; simp) W mb fb (fun k => k = mb) (fun k => k = fb) Mem.empty (Fr.of 7 0 0 0 0) (hNPz.below hW)
        (fun k hk => ⟨fun e => by have := hD k hk; have : k = mb := e; omega, fun e => by have := hDl k hk; have : k = fb := e; omega⟩) (hMz.below hW) (hFz.below hW) (fun k hk e => by have : k = mb := hk; have : k = fb := e; omega)
        ⟨rfl, by decide, by decide, by decide, by decide, NOk.empty⟩ (by decide)
      rw [hr] at this
      exact this)
  have HB := hidq (And.intro hb1 (And.intro hbt (And.intro (show w.heap.size ≤ eb by omega) hmb)))
  have HP := hidq hP
  have hrv : r.2.2 = (⟨true, 0, 0, 0⟩, true) := by rw [← hr, hone]
  have HFB := hidq hfb
  clear hb1 hM hP hNP hD hwm hmb hL hLe hDl hone hs12 hebl hmbl hw1l hfbl hMz hNPz hFz hQb hE2 hF hbt H1 hr hok hB hQ2 hQ hfb
  go_wp2_with fail
  refine HP.out.mono ?_
  rintro e w3 ⟨rfl, hE3, O3, P3, hM3, hF3, hd3, hO3, hP3, hb3⟩
  rw [hrv] at hE3 ⊢
  have hb : Below w.heap.size w w3 := by
    obtain ⟨h1, h2, h3, h5⟩ := HB.out
    have hs := h1.size
    have hs2 := h2.size
    refine (h1.trans (h2.below hs (fun k e => by have : k = eb := e; omega))).trans (hb3.below (by omega) (fun k e => ?_))
    have h4 := HFB.out
    rcases e with (e : k = mb) | (e : k = fb) | (e : k = eb) <;> omega
  obtain ⟨ab, hab⟩ : ∃ ab, w3.heap.size = ab := ⟨_, rfl⟩
  have hSt := fun W (hW : Below w3.heap.size w3 W) => steps_any eb 4 1 141 _ mb _ false ((0 + 1 : Nat) : Int) W (hE3.below hW)
  have hKd := fun W (hW : Below w3.heap.size w3 W) => kind_any eb 4 1 141 _ mb _ false ((0 + 1 : Nat) : Int) W (hE3.below hW)
  have HSK := hidq (And.intro hSt (And.intro hKd hb))
  clear hSt hKd hE3 hM3 hF3 hd3 hO3 hP3 hb3 hb HP HB HFB hrv
  have hba : ∀ o, Below w3.heap.size w3 (w3.alloc o) := fun o => (Below.refl _ _).alloc (Nat.le_refl _) o
  go_wp2_with fail
  refine (HSK.out.1 _ (hba _)).mono ?_
  rintro e w4 ⟨rfl, hw4⟩
  replace hw4 := hw4.symm
  subst hw4
  go_wp2_with fail
  refine (HSK.out.2.1 _ (hba _)).mono ?_
  rintro e w4 ⟨rfl, hw4⟩
  replace hw4 := hw4.symm
  subst hw4
  go_wp2_with fail
  go_ret
  exact ⟨rfl, HSK.out.2.2.trans ((hba _).mono HSK.out.2.2.size)⟩
end Go.Proofs.YtbcmilfajeanbaaGreat

namespace Go.Proofs.YtbcmilfajeanbaaGreat
open Go.RowKit

theorem i64_and255 (n : Int) : bits .and .i64 n 255 = n % 256 := by
  have h : (BitVec.ofInt 64 255).toNat = 2 ^ 8 - 1 := by decide
  have key : (BitVec.ofInt 64 n &&& BitVec.ofInt 64 255).toNat = (n % ((2 ^ 64 : Nat) : Int)).toNat % 2 ^ 8 := by
    rw [BitVec.toNat_and, BitVec.toNat_ofInt, h, Nat.and_two_pow_sub_one_eq_mod]
  show IntKind.i64.wrap ((BitVec.ofInt 64 n &&& BitVec.ofInt 64 255).toNat : Nat) = n % 256
  rw [key, IntKind.wrap_i64]
  omega
theorem i64_and1 (n : Int) : bits .and .i64 n 1 = n % 2 := by
  have h : (BitVec.ofInt 64 1).toNat = 2 ^ 1 - 1 := by decide
  have key : (BitVec.ofInt 64 n &&& BitVec.ofInt 64 1).toNat = (n % ((2 ^ 64 : Nat) : Int)).toNat % 2 ^ 1 := by
    rw [BitVec.toNat_and, BitVec.toNat_ofInt, h, Nat.and_two_pow_sub_one_eq_mod]
  show IntKind.i64.wrap ((BitVec.ofInt 64 n &&& BitVec.ofInt 64 1).toNat : Nat) = n % 2
  rw [key, IntKind.wrap_i64]
  omega
end Go.Proofs.YtbcmilfajeanbaaGreat

namespace Go.Proofs.YtbcmilfajeanbaaGreat
open Go.RowKit Go.Sort

theorem kind12_any (k p : Int) (w : World) : Calls Tryz.prog 6 #[.int .i64 k, .int .i64 p] w fun e w' => (∃ kd pr, e = .returned (.tuple #[.int .i64 kd, .int .i64 pr]) ∧ legal kd pr = 0) ∧ Below w.heap.size w w' := by
  have ha := i64_and255 k
  have hb := i64_and255 p
  have hK : 1 ≤ wrap64 (1 + (bits .and .i64 k 255).tmod 4) ∧ wrap64 (1 + (bits .and .i64 k 255).tmod 4) ≤ 4 := by
    rw [ha, Int.tmod_eq_emod_of_nonneg (by omega)]; unfold wrap64; omega
  have hP : 1 ≤ wrap64 (1 + (bits .and .i64 p 255).tmod 16) ∧ wrap64 (1 + (bits .and .i64 p 255).tmod 16) ≤ 16 := by
    rw [hb, Int.tmod_eq_emod_of_nonneg (by omega)]; unfold wrap64; omega
  have hS : 0 ≤ (bits .and .i64 p 255).tmod 5 ∧ (bits .and .i64 p 255).tmod 5 ≤ 4 := by
    rw [hb, Int.tmod_eq_emod_of_nonneg (by omega)]; omega
  clear ha hb
  rcases Classical.em (wrap64 (1 + (bits .and .i64 k 255).tmod 4) = 4) with h4 | h4
  · have hb4 : (wrap64 (1 + (bits .and .i64 k 255).tmod 4) == 4) = true := by simpa using h4
    have HK := hidq (And.intro h4 hS)
    have hs0 := hS.1
    have hs1 : ¬ (bits .and .i64 p 255).tmod 5 < 0 := by omega
    clear hK hP h4 hS
    go_enter Tryz.func6, Tryz.ntmps6
    go_wp2_with fail
    go_quiet (fail)
    go_wp2
    go_ret2
    refine ⟨⟨_, _, rfl, ?_⟩, below_drewN (Below.refl _ _) _⟩
    obtain ⟨h1, h2, h3⟩ := HK.out
    rw [h1]
    generalize (bits .and .i64 p 255).tmod 5 = x at *
    have : x = 0 ∨ x = 1 ∨ x = 2 ∨ x = 3 ∨ x = 4 := by omega
    rcases this with rfl | rfl | rfl | rfl | rfl
    · rw [show wrap64 (2 ^ min (Int.toNat 0) 64) = 1 by simp [wrap64]]; exact legal_ok (by decide) (by decide) (fun e => by cases e.2)
    · rw [show wrap64 (2 ^ min (Int.toNat 1) 64) = 2 by simp [wrap64]]; exact legal_ok (by decide) (by decide) (fun e => by cases e.2)
    · rw [show wrap64 (2 ^ min (Int.toNat 2) 64) = 4 by simp [wrap64]]; exact legal_ok (by decide) (by decide) (fun e => by cases e.2)
    · rw [show wrap64 (2 ^ min (Int.toNat 3) 64) = 8 by simp [wrap64]]; exact legal_ok (by decide) (by decide) (fun e => by cases e.2)
    · rw [show wrap64 (2 ^ min (Int.toNat 4) 64) = 16 by simp [wrap64]]; exact legal_ok (by decide) (by decide) (fun e => by cases e.2)
  · have hb4 : (wrap64 (1 + (bits .and .i64 k 255).tmod 4) == 4) = false := by simpa using h4
    have HK := hidq (And.intro hK (And.intro hP h4))
    clear hK hP h4 hS
    go_enter Tryz.func6, Tryz.ntmps6
    go_wp2
    go_ret2
    refine ⟨⟨_, _, rfl, ?_⟩, Below.refl _ _⟩
    obtain ⟨h1, h2, h3⟩ := HK.out
    exact legal_ok h1 h2 (fun e => h3 e.1)
end Go.Proofs.YtbcmilfajeanbaaGreat
