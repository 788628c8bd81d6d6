/-
  Layer 13: an engine's machine, of a Net: contract.
  Layer 13: the answers that the document fixes.
  Layer 13's law of what doesn't begin: the call returns true.
-/
import Derived.Test.YtplpenimhiknnaaGreatSlGAll
import Derived.Test.YtplpenimhiknnaaGreatNetNewAAll
import Derived.Test.YtplpenimhiknnaaGreatOp6All
import Derived.Test.YtplpenimhiknnaaGreatWireDAll
import Derived.Test.YtplpenimhiknnaaGreatNetDAll
namespace Go.Proofs.YtplpenimhiknnaaGreat
open Go.RowKit Go.Sort

theorem pow2_ex {p : Int} (h : legal 4 p = 0) : ∃ d n : Nat, d ≤ 4 ∧ n = 2 ^ d ∧ p = (n : Int) := by
  have h1 : 1 ≤ p ∧ p ≤ 16 := by
    rcases Classical.em (1 ≤ p ∧ p ≤ 16) with h' | h'
    · exact h'
    · rw [legal_par (by decide) h'] at h; cases h
  have h2 : pow2 p = true := by
    cases e : pow2 p
    · rw [legal_net (by decide) h1 ⟨rfl, e⟩] at h; cases h
    · rfl
  have : p = 1 ∨ p = 2 ∨ p = 4 ∨ p = 8 ∨ p = 16 := by simpa [pow2] using h2
  rcases this with rfl | rfl | rfl | rfl | rfl
  · exact ⟨0, 1, by decide, rfl, rfl⟩
  · exact ⟨1, 2, by decide, rfl, rfl⟩
  · exact ⟨2, 4, by decide, rfl, rfl⟩
  · exact ⟨3, 8, by decide, rfl, rfl⟩
  · exact ⟨4, 16, by decide, rfl, rfl⟩
theorem legal4_of {p : Int} (h : ¬ legal 4 p = 0) : legal 4 p = 5 := by
  by_cases h1 : 1 ≤ p ∧ p ≤ 16
  · by_cases h2 : pow2 p = false
    · exact legal_net (by decide) h1 ⟨rfl, h2⟩
    · exact absurd (legal_ok (by decide) h1 (fun e => h2 e.2)) h
  · exact legal_par (by decide) h1

/-- A Net whose plan lies from block L on. -/
def KN (p : Int) (L : Nat) (T : TypeId) (v : Value) (w : World) : Prop :=
  T = 220 ∧ (legal 4 p = 0 → ∃ (n c gc oc : Nat) (ga oa : Option Addr) (G : List (Nat × Nat)) (Os : List Nat) (D : Nat → Prop), p = (n : Int) ∧ v = .agg #[.int .i64 (n : Int), .slice ga c gc, .slice oa n oc] ∧ PF n c G Os ∧ NP w D ga gc c oa n G Os ∧ ∀ j, D j → L ≤ j)

theorem machine4_any (p : Int) (w : World) : Calls Tryz.prog 82 #[.int .i64 4, .int .i64 p] w (MachEnd (KN p) (legal 4 p) w) := by
  by_cases h : legal 4 p = 0
  · obtain ⟨d, n, hd, hn, rfl⟩ := pow2_ex h
    rw [h]
    have hN := fun w => nnew_ok d n hd hn w
    have HD := hidq (And.intro hd (And.intro hn h))
    clear hd hn h
    go_enter Tryz.func82, Tryz.ntmps82
    go_wp2_with fail
    refine (hN _).mono ?_
    rintro e w1 ⟨ga, gc, oa, oc, rfl, hS, hO, hf1, hf2, hb⟩
    have HB := hidq (And.intro hS (And.intro hO (And.intro hf1 (And.intro hf2 hb))))
    clear hb hN hS hO hf1 hf2
    go_wp2
    go_ret2
    obtain ⟨hS, hO, hf1, hf2, hb⟩ := HB.out
    obtain ⟨hd, hn, h⟩ := HD.out
    obtain ⟨f1, f2, _, _, _, _, _, f7, _⟩ := net_facts d n hd hn
    refine ⟨_, _, rfl, ⟨rfl, fun _ => ⟨n, cg d, gc, oc, ga, oa, _, _, fun j => w.heap.size ≤ j ∧ j < w1.heap.size, rfl, rfl, ⟨d, hd, hn, rfl, rfl, rfl⟩, ⟨hS, hO, fun j hj => ⟨hf1 j hj, hS.lt j hj⟩, fun j hj => ⟨hf2 j hj, ?_⟩, fun j hj => hj.2, f1, f2⟩, fun j hj => hj.1⟩⟩, hb⟩
    obtain ⟨b, off, e1, e2, _⟩ := hO 0 _ (List.getElem?_eq_getElem (by omega))
    obtain ⟨x, hx, rfl⟩ := hj
    rw [e1] at hx; cases hx
    exact e2
  · have h5 := legal4_of h
    have hN := fun w => nnew_no p w h5
    have HD := hidq (And.intro h h5)
    rw [h5]
    clear h h5
    go_enter Tryz.func82, Tryz.ntmps82
    go_wp2_with fail
    refine (hN _).mono ?_
    rintro e w1 ⟨rfl, hb⟩
    have HB := hidq hb
    clear hb hN
    go_wp2
    go_ret2
    exact ⟨_, _, rfl, ⟨rfl, fun h => absurd h HD.out.1⟩, HB.out⟩
end Go.Proofs.YtplpenimhiknnaaGreat

namespace Go.Proofs.YtplpenimhiknnaaGreat
open Go.RowKit Go.Sort

theorem run_equalIn_flt {P : Program} (d : Nat) (t : TypeId) (a b : Nat) (w : World) (h : P.underlying t = some (.float .f64)) : (Op.equalIn (d + 1) t (.float .f64 a) (.float .f64 b)).run P w = .ok (Op.floatEq .f64 a b) w := by
  simp [Op.equalIn, run_underlying h]
theorem frAt_new {w : World} {fb : Nat} {F : Fr} (h : BoxAt w fb (F.l none 0 none 0)) (h0 : F.c0.L = []) (h1 : F.c1.L = []) : FrAt w fb (fun k => k = fb) F :=
  ⟨rfl, fun k e => by rw [e]; exact h.lt, none, 0, none, 0, h, by rw [h0]; exact SlAt.nil _ _, by rw [h1]; exact SlAt.nil _ _, (fun j hj => by obtain ⟨y, hy, _⟩ := hj; cases hy), (fun j hj => by obtain ⟨y, hy, _⟩ := hj; cases hy)⟩

/-- The one step of the answers that the document fixes. -/
theorem busyTo_one (t fb : Nat) (ht : t < 6) : busyTo (qset (fun _ => none) t (some fb)) 6 = [t] := by
  have : t = 0 ∨ t = 1 ∨ t = 2 ∨ t = 3 ∨ t = 4 ∨ t = 5 := by omega
  rcases this with rfl | rfl | rfl | rfl | rfl | rfl <;> simp [busyTo, List.range_succ, qset]
theorem plan1 {c : Nat} {G : List (Nat × Nat)} {Os : List Nat} (h : PF 1 c G Os) : c = 0 ∧ G = [] ∧ Os = [0] := by
  obtain ⟨d, hd, hn, hc, hG, hO⟩ := h.ex
  have : d = 0 ∨ d = 1 ∨ d = 2 ∨ d = 3 ∨ d = 4 := by omega
  rcases this with rfl | rfl | rfl | rfl | rfl
  · exact ⟨hc, hG, hO⟩
  all_goals exact absurd hn (by decide)
theorem one13 : ∃ (M : Mem) (F : Fr), nStep 1 0 [] [0] Mem.empty (Fr.of 7 0 0 0 0) = (M, F, ⟨true, 0, 0, 0⟩, true) := ⟨_, _, rfl⟩

set_option maxRecDepth 20000 in
set_option maxHeartbeats 4000000 in
theorem awake13_any (w : World) : Calls Tryz.prog 12 #[] w fun e w' => e = .returned (.bool true) ∧ Below w.heap.size w w' := by
  have hN := new13_any (KN 1) 4 1 0 (fun w => machine4_any 1 w) w
  have hsf := run_store_flt (P := Tryz.prog)
  have hef := fun d a b w => run_equalIn_flt (P := Tryz.prog) d 69 a b w Tryz.underlying69
  have hq0 : Op.floatEq .f64 0 0 = true := by decide
  go_enter Tryz.func12, Tryz.ntmps12
  go_wp2_with fail
  refine hN.mono ?_
  rintro e w1 ⟨hb1, _, hok⟩
  obtain ⟨T, v, eb, mb, L, wm, rfl, hmb, hL, hLe, hwm, hM, hE, ⟨rfl, hK⟩, hbm⟩ := hok rfl
  obtain ⟨n, c, gc, oc, ga, oa, G, Os, D, hp, rfl, hP, hNP, hD⟩ := hK rfl
  have hn : n = 1 := by omega
  subst hn
  have hB := fun w (h : BoxAt w eb (ecells 4 1 220 (.agg #[.int .i64 ((1 : Nat) : Int), .slice ga c gc, .slice oa 1 oc]) mb (fun _ => none) false 0)) => begin_any eb 4 1 220 (.agg #[.int .i64 ((1 : Nat) : Int), .slice ga c gc, .slice oa 1 oc]) mb (fun _ => none) false 0 2 7 0 0 0 0 w h
  have H1 := hidq (And.intro hb1 (And.intro hM (And.intro hE (And.intro hP (And.intro (hNP.below hbm) (And.intro hD (And.intro hwm (And.intro hmb (And.intro hL (And.intro hLe hNP.lt))))))))))
  clear hb1 hok hM hE hP hNP hD hN hK hp hbm hwm hmb hL hLe
  go_wp2_with fail
  refine (hB _ H1.out.2.2.1).mono ?_
  rintro e w2 ⟨rfl, _, hok⟩
  obtain ⟨_, _, _, fb, hfb, hF, hE2, hbt⟩ := hok (by decide)
  rw [show begE 4 false (fun _ => none) 2 7 0 = 0 by decide]
  obtain ⟨hb1, hM, _, hP, hNP, hD, hwm, hmb, hL, hLe, hDl⟩ := H1.out
  obtain ⟨rfl, rfl, rfl⟩ := plan1 hP
  obtain ⟨M1, F1, hone⟩ := one13
  obtain ⟨r, hr⟩ : ∃ r, nStep 1 0 [] [0] Mem.empty (Fr.of 7 0 0 0 0) = r := ⟨_, rfl⟩
  have hs12 := hbt.size
  have hebl := hE2.lt
  have hmbl := hM.lt mb rfl
  have hw1l : eb < w1.heap.size := H1.out.2.2.1.lt
  have hfbl := hF.lt
  have hMz := hM.but hbt (fun k hk e => by have : k = mb := hk; omega)
  have hNPz := hNP.but hbt (fun k hk e => by have := hDl k hk; omega)
  have hFz := frAt_new hF rfl rfl
  obtain ⟨Q, hQ⟩ : ∃ Q, qset (fun _ => none) ((2 : Int)).toNat (some fb) = Q := ⟨_, rfl⟩
  have hQ2 : Q 2 = some fb := by rw [← hQ]; rfl
  have hQb : (busyTo Q 6)[(into 9 (busyTo Q 6).length).toNat]? = some 2 := by
    rw [← hQ, show ((2 : Int)).toNat = 2 from rfl, busyTo_one 2 fb (by decide)]; rfl
  rw [hQ] at hE2
  have hP := pickN_any 1 0 gc oc ga oa eb 4 1 mb Q false 0 9 2 fb (fun k => k = mb) (fun k => k = fb) r w2 hE2 hQb hQ2 (by decide) (fun k hk => by rcases hk with (e : k = mb) | (e : k = fb) <;> omega) (fun e => by rcases e with (e : eb = mb) | (e : eb = fb) <;> omega) ⟨_, _, _, _, _, hF⟩
    (fun W hW => by
      have := nstep_is 1 0 gc oc ga oa D [] [0] (by decide) (by decide) (by decide) (fun v hv => by rw [show v = 0 by omega]; simp) W mb fb (fun k => k = mb) (fun k => k = fb) Mem.empty (Fr.of 7 0 0 0 0) (hNPz.below hW)
        (fun k hk => ⟨fun e => by have := hD k hk; have : k = mb := e; omega, fun e => by have := hDl k hk; have : k = fb := e; omega⟩) (hMz.below hW) (hFz.below hW) (fun k hk e => by have : k = mb := hk; have : k = fb := e; omega)
        ⟨rfl, by decide, by decide, by decide, by decide, NOk.empty⟩ (by decide)
      rw [hr] at this
      exact this)
  have HB := hidq (And.intro hb1 (And.intro hbt (And.intro (show w.heap.size ≤ eb by omega) hmb)))
  have HP := hidq hP
  have hrv : r.2.2 = (⟨true, 0, 0, 0⟩, true) := by rw [← hr, hone]
  have HFB := hidq hfb
  clear hb1 hM hP hNP hD hwm hmb hL hLe hDl hone hs12 hebl hmbl hw1l hfbl hMz hNPz hFz hQb hE2 hF hbt H1 hr hok hB hQ2 hQ hfb
  go_wp2_with fail
  refine HP.out.mono ?_
  rintro e w3 ⟨rfl, hE3, O3, P3, hM3, hF3, hd3, hO3, hP3, hb3⟩
  rw [hrv] at hE3 ⊢
  have hb : Below w.heap.size w w3 := by
    obtain ⟨h1, h2, h3, h5⟩ := HB.out
    have hs := h1.size
    have hs2 := h2.size
    refine (h1.trans (h2.below hs (fun k e => by have : k = eb := e; omega))).trans (hb3.below (by omega) (fun k e => ?_))
    have h4 := HFB.out
    rcases e with (e : k = mb) | (e : k = fb) | (e : k = eb) <;> omega
  obtain ⟨ab, hab⟩ : ∃ ab, w3.heap.size = ab := ⟨_, rfl⟩
  have hSt := fun W (hW : Below w3.heap.size w3 W) => steps_any eb 4 1 220 _ mb _ false ((0 + 1 : Nat) : Int) W (hE3.below hW)
  have hKd := fun W (hW : Below w3.heap.size w3 W) => kind_any eb 4 1 220 _ mb _ false ((0 + 1 : Nat) : Int) W (hE3.below hW)
  have HSK := hidq (And.intro hSt (And.intro hKd hb))
  clear hSt hKd hE3 hM3 hF3 hd3 hO3 hP3 hb3 hb HP HB HFB hrv
  have hba : ∀ o, Below w3.heap.size w3 (w3.alloc o) := fun o => (Below.refl _ _).alloc (Nat.le_refl _) o
  go_wp2_with fail
  refine (HSK.out.1 _ (hba _)).mono ?_
  rintro e w4 ⟨rfl, hw4⟩
  replace hw4 := hw4.symm
  subst hw4
  go_wp2_with fail
  refine (HSK.out.2.1 _ (hba _)).mono ?_
  rintro e w4 ⟨rfl, hw4⟩
  replace hw4 := hw4.symm
  subst hw4
  go_wp2_with fail
  go_ret
  exact ⟨rfl, HSK.out.2.2.trans ((hba _).mono HSK.out.2.2.size)⟩
end Go.Proofs.YtplpenimhiknnaaGreat

namespace Go.Proofs.YtplpenimhiknnaaGreat
open Go.RowKit Go.Sort

theorem machAny (k p : Int) (hk : 1 ≤ k ∧ k ≤ 4) (w : World) : Calls Tryz.prog 82 #[.int .i64 k, .int .i64 p] w (MachEnd (fun _ _ _ _ => True) (legal k p) w) := by
  have go : ∀ K r, Calls Tryz.prog 82 #[.int .i64 k, .int .i64 p] w (MachEnd K r w) → Calls Tryz.prog 82 #[.int .i64 k, .int .i64 p] w (MachEnd (fun _ _ _ _ => True) r w) := fun K r h => h.mono (by
    rintro e w' ⟨T, v, h1, _, h3⟩
    exact ⟨T, v, h1, trivial, h3⟩)
  have : k = 1 ∨ k = 2 ∨ k = 3 ∨ k = 4 := by omega
  rcases this with rfl | rfl | rfl | rfl
  · exact go _ _ (machine1_any p w)
  · exact go _ _ (machine2_any p w)
  · exact go _ _ (machine3_any p w)
  · exact go _ _ (machine4_any p w)
set_option maxRecDepth 20000 in
theorem rlegal0_any (k p : Int) (hk : ¬ (1 ≤ k ∧ k ≤ 4)) (w : World) : Calls Tryz.prog 26 #[.int .i64 k, .int .i64 p] w fun e w' => e = .returned (.int .i64 6) ∧ w' = w := by
  by_cases h1 : k < 1
  · clear hk
    go_enter Tryz.func26, Tryz.ntmps26
    go_wp2
    go_ret
    exact ⟨rfl, rfl⟩
  · have h2 : 4 < k := by omega
    have h1' : decide (k < 1) = false := decide_eq_false h1
    clear hk
    go_enter Tryz.func26, Tryz.ntmps26
    go_wp2
    go_ret
    exact ⟨rfl, rfl⟩
theorem rlegalx_any (k p : Int) (w : World) : Calls Tryz.prog 26 #[.int .i64 k, .int .i64 p] w fun e w' => e = .returned (.int .i64 (legal k p)) ∧ w' = w := by
  by_cases hk : 1 ≤ k ∧ k ≤ 4
  · by_cases h3 : k ≤ 3
    · exact rlegal_any k p w ⟨hk.1, h3⟩
    · have : k = 4 := by omega
      subst this
      exact rlegal4_any p w
  · rw [legal_kind hk]; exact rlegal0_any k p hk w

/-- An engine in its box, all made since w. -/
structure EB (w W : World) (eb : Nat) (kind param : Int) (T : TypeId) (v : Value) (mb : Nat) (Q : Nat → Option Nat) (closed : Bool) : Prop where
  box : BoxAt W eb (ecells kind param T v mb Q closed 0)
  low : Below w.heap.size w W
  up : w.heap.size ≤ eb
theorem EB.below {w W W' : World} {eb : Nat} {kind param : Int} {T : TypeId} {v : Value} {mb : Nat} {Q : Nat → Option Nat} {closed : Bool} (h : EB w W eb kind param T v mb Q closed) (hb : Below W.heap.size W W') : EB w W' eb kind param T v mb Q closed :=
  ⟨h.box.below hb, h.low.trans (hb.mono h.low.size), h.up⟩
theorem EB.turn {w W W' : World} {eb : Nat} {kind param : Int} {T : TypeId} {v : Value} {mb : Nat} {Q Q' : Nat → Option Nat} {closed closed' : Bool} (h : EB w W eb kind param T v mb Q closed) (hb : But (fun j => j = eb) W W') (h' : BoxAt W' eb (ecells kind param T v mb Q' closed' 0)) : EB w W' eb kind param T v mb Q' closed' :=
  ⟨h', h.low.trans (hb.below h.low.size (fun k e => by have := h.up; omega)), h.up⟩

section
variable {w W : World} {eb : Nat} {kind param : Int} {T : TypeId} {mv : Value} {mb : Nat} {Q : Nat → Option Nat} {closed : Bool}
theorem EB.begNo (h : EB w W eb kind param T mv mb Q closed) (t k v : Int) (B : Int) (hB : begE kind closed Q t k v = B) (h0 : ¬ B = 0) :
    Calls Tryz.prog 28 #[.pointer (some ⟨eb, 0, none⟩), .int .i64 t, .agg #[.int .i64 k, .float .f64 0, .int .i64 v, .int .i64 0, .int .i64 0]] W fun e w' => e = .returned (.int .i64 B) ∧ EB w w' eb kind param T mv mb Q closed := by
  refine (begin_any eb kind param T mv mb Q closed 0 t k 0 v 0 0 W h.box).mono ?_
  rintro e w' ⟨h1, h2, _⟩
  rw [hB] at h1 h2
  exact ⟨h1, h.below (h2 h0)⟩
theorem EB.begOk (h : EB w W eb kind param T mv mb Q closed) (t k v : Int) (n : Nat) (hn : t.toNat = n) (hB : begE kind closed Q t k v = 0) :
    Calls Tryz.prog 28 #[.pointer (some ⟨eb, 0, none⟩), .int .i64 t, .agg #[.int .i64 k, .float .f64 0, .int .i64 v, .int .i64 0, .int .i64 0]] W fun e w' => e = .returned (.int .i64 0) ∧ ∃ fb, EB w w' eb kind param T mv mb (qset Q n (some fb)) closed := by
  refine (begin_any eb kind param T mv mb Q closed 0 t k 0 v 0 0 W h.box).mono ?_
  rintro e w' ⟨h1, _, h2⟩
  rw [hB] at h1
  obtain ⟨_, _, _, fb, _, _, h5, h6⟩ := h2 hB
  rw [hn] at h5
  exact ⟨h1, fb, h.turn h6 h5⟩
theorem EB.busy (h : EB w W eb kind param T mv mb Q closed) (n : Nat) (hn : (busyTo Q 6).length = n) :
    Calls Tryz.prog 31 #[.pointer (some ⟨eb, 0, none⟩)] W fun e w' => ∃ a cap, e = .returned (.slice a n cap) ∧ Below w.heap.size w w' := by
  refine (busy_any eb kind param T mv mb Q closed 0 W h.box).mono ?_
  rintro e w' ⟨a, cap, h1, _, _, h2⟩
  rw [hn] at h1
  exact ⟨a, cap, h1, h.low.trans (h2.mono h.low.size)⟩
theorem EB.close (h : EB w W eb kind param T mv mb Q closed) : Calls Tryz.prog 29 #[.pointer (some ⟨eb, 0, none⟩)] W fun e w' => e = .returned (.tuple #[]) ∧ EB w w' eb kind param T mv mb Q true := by
  refine (close_any eb kind param T mv mb Q closed 0 W h.box).mono ?_
  rintro e w' ⟨h1, h2, h3⟩
  exact ⟨h1, h.turn h3 h2⟩
end
theorem busyTo_no : busyTo (fun _ => none) 6 = [] := rfl
theorem chk_first (k : Int) (hk : 1 ≤ k ∧ k ≤ 4) : chk k (opFrom k) 0 = 0 := by
  have : k = 1 ∨ k = 2 ∨ k = 3 ∨ k = 4 := by omega
  rcases this with rfl | rfl | rfl | rfl <;> decide
section
variable (kind t k v : Int) (Q : Nat → Option Nat)
theorem begE_out (closed : Bool) (ht : ¬ (0 ≤ t ∧ t < 6)) : begE kind closed Q t k v = 4 := if_pos ht
theorem begE_closed (ht : 0 ≤ t ∧ t < 6) : begE kind true Q t k v = 12 := by unfold begE; rw [if_neg (fun e => e ht), if_pos rfl]
theorem begE_chk (ht : 0 ≤ t ∧ t < 6) (c : Int) (hc : chk kind k v = c) (h0 : ¬ c = 0) : begE kind false Q t k v = c := by unfold begE; rw [if_neg (fun e => e ht), if_neg (by decide), hc, if_pos h0]
theorem begE_busy (ht : 0 ≤ t ∧ t < 6) (hc : chk kind k v = 0) (n fb : Nat) (hn : t.toNat = n) : begE kind false (qset (fun _ => none) n (some fb)) t k v = 11 := by unfold begE; rw [if_neg (fun e => e ht), if_neg (by decide), hc, if_neg (fun e => e rfl), hn, qset_same]; rfl
theorem begE_ok (ht : 0 ≤ t ∧ t < 6) (hc : chk kind k v = 0) : begE kind false (fun _ => none) t k v = 0 := by unfold begE; rw [if_neg (fun e => e ht), if_neg (by decide), hc, if_neg (fun e => e rfl)]; rfl
end

set_option maxRecDepth 20000 in
set_option maxHeartbeats 16000000 in
theorem engineErrors_any (kind param t o val : Int) (closed busy : Bool) (w : World) : Calls Tryz.prog 4 #[.int .i64 kind, .int .i64 param, .int .i64 t, .int .i64 o, .int .i64 val, .bool closed, .bool busy] w fun e w' => e = .returned (.bool true) ∧ Below w.heap.size w w' := by
  have hA := awake13_any w
  have hsf := run_store_flt (P := Tryz.prog)
  have hL := fun w => rlegalx_any kind param w
  by_cases hk : 1 ≤ kind ∧ kind ≤ 4
  case neg =>
    have hN := fun w => new0_any kind param hk w
    rw [legal_kind hk] at hL
    clear hk
    go_enter Tryz.func4, Tryz.ntmps4
    go_wp2_with fail
    refine hA.mono ?_
    rintro e w1 ⟨rfl, hb1⟩
    have H1 := hidq hb1
    clear hb1
    go_wp2_with fail
    refine (hN _).mono ?_
    rintro e w2 ⟨rfl, hb2⟩
    have H2 := hidq (H1.out.trans (hb2.mono H1.out.size))
    clear hb2
    go_wp2_with fail
    refine (hL _).mono ?_
    rintro e w3 ⟨rfl, hw3⟩
    replace hw3 := hw3.symm
    subst hw3
    clear hA hL hN H1
    go_wp2_with fail
    go_ret
    exact ⟨rfl, H2.out⟩
  have hN := fun w => new13_any (fun _ _ _ _ => True) kind param (legal kind param) (fun w => machAny kind param hk w) w
  have hO := fun w => rof_any kind w
  have hC := fun w => rcheck_any kind o val w
  have hf0 := chk_first kind hk
  generalize hfr : opFrom kind = fr at *
  generalize opTo kind = to_ at *
  obtain ⟨c, hc⟩ : ∃ c, chk kind o val = c := ⟨_, rfl⟩
  rw [hc] at hC
  generalize legal kind param = r at *
  by_cases hr : r = 0
  case neg =>
    have hne : (r == 0) = false := by simpa using hr
    have HR := hidq hr
    clear hk hO hC hf0 hfr hc hr
    go_enter Tryz.func4, Tryz.ntmps4
    go_wp2_with fail
    refine hA.mono ?_
    rintro e w1 ⟨rfl, hb1⟩
    have H1 := hidq hb1
    clear hb1
    go_wp2_with fail
    refine (hN _).mono ?_
    rintro e w2 ⟨hb2, hno, _⟩
    have he := hno HR.out
    subst he
    have H2 := hidq (H1.out.trans (hb2.mono H1.out.size))
    clear hb2 hno
    go_wp2_with fail
    refine (hL _).mono ?_
    rintro e w3 ⟨rfl, hw3⟩
    replace hw3 := hw3.symm
    subst hw3
    clear hA hL hN H1 HR
    go_wp2_with fail
    go_ret
    exact ⟨rfl, H2.out⟩
  subst hr
  have HK := hidq (And.intro hk (And.intro hf0 hc))
  clear hk hf0 hfr hc
  go_enter Tryz.func4, Tryz.ntmps4
  go_wp2_with fail
  refine hA.mono ?_
  rintro e w1 ⟨rfl, hb1⟩
  have H1 := hidq hb1
  clear hb1
  go_wp2_with fail
  refine (hN _).mono ?_
  rintro e w2 ⟨hb2, _, hok⟩
  obtain ⟨T, v, eb, mb, L, wm, rfl, hmb, h3, h4, _, _, hE, _, _⟩ := hok rfl
  have H2 := hidq (show EB w w2 eb kind param T v mb (fun _ => none) false from ⟨hE, H1.out.trans (hb2.mono H1.out.size), by have := H1.out.size; omega⟩)
  clear hb2 hok hmb h3 h4 hE
  go_wp2_with fail
  refine (hL _).mono ?_
  rintro e w3 ⟨rfl, hw3⟩
  replace hw3 := hw3.symm
  subst hw3
  go_wp2_with fail
  refine (hO _).mono ?_
  rintro e w3 ⟨rfl, hw3⟩
  replace hw3 := hw3.symm
  subst hw3
  clear hA hL hN H1 hO
  by_cases h0 : t < 0
  · have d1 : decide (0 ≤ t) = false := decide_eq_false (by omega)
    have HT := hidq (show ¬ (0 ≤ t ∧ t < 6) by omega)
    cases busy
    · cases closed
      · skip
        go_wp2_with fail
        refine (hC _).mono ?_
        rintro e w6 ⟨rfl, hw6⟩
        replace hw6 := hw6.symm
        subst hw6
        have H7 := hidq (H2.out.below ((Below.refl _ _).alloc (Nat.le_refl _) (.cells #[.int .i64 o, .float .f64 0, .int .i64 val, .int .i64 0, .int .i64 0] 74)))
        go_wp2_with fail
        refine (H7.out.begNo t o val 4 (begE_out kind t o val (fun _ => none) false HT.out) (by decide)).mono ?_
        rintro e w8 ⟨rfl, h⟩
        have H8 := hidq h
        clear h
        go_wp2_with fail
        refine (H8.out.busy 0 (by rfl)).mono ?_
        rintro e w9 ⟨a, cap, rfl, h⟩
        have H9 := hidq h
        clear h
        go_wp2_with fail
        go_ret
        exact ⟨rfl, H9.out⟩
      · skip
        go_wp2_with fail
        refine (H2.out.close).mono ?_
        rintro e w5 ⟨rfl, h⟩
        have H5 := hidq h
        clear h
        go_wp2_with fail
        refine (hC _).mono ?_
        rintro e w6 ⟨rfl, hw6⟩
        replace hw6 := hw6.symm
        subst hw6
        have H7 := hidq (H5.out.below ((Below.refl _ _).alloc (Nat.le_refl _) (.cells #[.int .i64 o, .float .f64 0, .int .i64 val, .int .i64 0, .int .i64 0] 74)))
        go_wp2_with fail
        refine (H7.out.begNo t o val 4 (begE_out kind t o val (fun _ => none) true HT.out) (by decide)).mono ?_
        rintro e w8 ⟨rfl, h⟩
        have H8 := hidq h
        clear h
        go_wp2_with fail
        refine (H8.out.busy 0 (by rfl)).mono ?_
        rintro e w9 ⟨a, cap, rfl, h⟩
        have H9 := hidq h
        clear h
        go_wp2_with fail
        go_ret
        exact ⟨rfl, H9.out⟩
    · cases closed
      · skip
        go_wp2_with fail
        refine (hC _).mono ?_
        rintro e w6 ⟨rfl, hw6⟩
        replace hw6 := hw6.symm
        subst hw6
        have H7 := hidq (H2.out.below ((Below.refl _ _).alloc (Nat.le_refl _) (.cells #[.int .i64 o, .float .f64 0, .int .i64 val, .int .i64 0, .int .i64 0] 74)))
        go_wp2_with fail
        refine (H7.out.begNo t o val 4 (begE_out kind t o val (fun _ => none) false HT.out) (by decide)).mono ?_
        rintro e w8 ⟨rfl, h⟩
        have H8 := hidq h
        clear h
        go_wp2_with fail
        refine (H8.out.busy 0 (by rfl)).mono ?_
        rintro e w9 ⟨a, cap, rfl, h⟩
        have H9 := hidq h
        clear h
        go_wp2_with fail
        go_ret
        exact ⟨rfl, H9.out⟩
      · skip
        go_wp2_with fail
        refine (H2.out.close).mono ?_
        rintro e w5 ⟨rfl, h⟩
        have H5 := hidq h
        clear h
        go_wp2_with fail
        refine (hC _).mono ?_
        rintro e w6 ⟨rfl, hw6⟩
        replace hw6 := hw6.symm
        subst hw6
        have H7 := hidq (H5.out.below ((Below.refl _ _).alloc (Nat.le_refl _) (.cells #[.int .i64 o, .float .f64 0, .int .i64 val, .int .i64 0, .int .i64 0] 74)))
        go_wp2_with fail
        refine (H7.out.begNo t o val 4 (begE_out kind t o val (fun _ => none) true HT.out) (by decide)).mono ?_
        rintro e w8 ⟨rfl, h⟩
        have H8 := hidq h
        clear h
        go_wp2_with fail
        refine (H8.out.busy 0 (by rfl)).mono ?_
        rintro e w9 ⟨a, cap, rfl, h⟩
        have H9 := hidq h
        clear h
        go_wp2_with fail
        go_ret
        exact ⟨rfl, H9.out⟩
  · have d0 : decide (t < 0) = false := decide_eq_false h0
    have d1 : decide (0 ≤ t) = true := decide_eq_true (by omega)
    by_cases h6 : t < 6
    · have d6 : decide (t < 6) = true := decide_eq_true h6
      have d5 : decide (5 < t) = false := decide_eq_false (by omega)
      obtain ⟨n, hn⟩ : ∃ n, t.toNat = n := ⟨_, rfl⟩
      have HT := hidq (And.intro (show 0 ≤ t ∧ t < 6 by omega) hn)
      have HN6 := hidq (show n < 6 by omega)
      clear hn h0
      cases busy
      · cases closed
        · by_cases hc0 : c = 0
          · subst hc0
            go_wp2_with fail
            refine (hC _).mono ?_
            rintro e w6 ⟨rfl, hw6⟩
            replace hw6 := hw6.symm
            subst hw6
            have H7 := hidq (H2.out.below ((Below.refl _ _).alloc (Nat.le_refl _) (.cells #[.int .i64 o, .float .f64 0, .int .i64 val, .int .i64 0, .int .i64 0] 74)))
            go_wp2_with fail
            refine (H7.out.begOk t o val n HT.out.2 (begE_ok kind t o val HT.out.1 HK.out.2.2)).mono ?_
            rintro e w8 ⟨rfl, fb, h⟩
            have H8 := hidq h
            clear h
            go_wp2_with fail
            refine (H8.out.busy 1 (by rw [busyTo_one n fb HN6.out]; rfl)).mono ?_
            rintro e w9 ⟨a, cap, rfl, h⟩
            have H9 := hidq h
            clear h
            go_wp2_with fail
            go_ret
            exact ⟨rfl, H9.out⟩
          · have hcn : (c == 0) = false := by simpa using hc0
            have HC0 := hidq hc0
            clear hc0
            go_wp2_with fail
            refine (hC _).mono ?_
            rintro e w6 ⟨rfl, hw6⟩
            replace hw6 := hw6.symm
            subst hw6
            have H7 := hidq (H2.out.below ((Below.refl _ _).alloc (Nat.le_refl _) (.cells #[.int .i64 o, .float .f64 0, .int .i64 val, .int .i64 0, .int .i64 0] 74)))
            go_wp2_with fail
            refine (H7.out.begNo t o val c (begE_chk kind t o val (fun _ => none) HT.out.1 c HK.out.2.2 HC0.out) HC0.out).mono ?_
            rintro e w8 ⟨rfl, h⟩
            have H8 := hidq h
            clear h
            go_wp2_with fail
            refine (H8.out.busy 0 (by rfl)).mono ?_
            rintro e w9 ⟨a, cap, rfl, h⟩
            have H9 := hidq h
            clear h
            go_wp2_with fail
            go_ret
            exact ⟨rfl, H9.out⟩
        · skip
          go_wp2_with fail
          refine (H2.out.close).mono ?_
          rintro e w5 ⟨rfl, h⟩
          have H5 := hidq h
          clear h
          go_wp2_with fail
          refine (hC _).mono ?_
          rintro e w6 ⟨rfl, hw6⟩
          replace hw6 := hw6.symm
          subst hw6
          have H7 := hidq (H5.out.below ((Below.refl _ _).alloc (Nat.le_refl _) (.cells #[.int .i64 o, .float .f64 0, .int .i64 val, .int .i64 0, .int .i64 0] 74)))
          go_wp2_with fail
          refine (H7.out.begNo t o val 12 (begE_closed kind t o val (fun _ => none) HT.out.1) (by decide)).mono ?_
          rintro e w8 ⟨rfl, h⟩
          have H8 := hidq h
          clear h
          go_wp2_with fail
          refine (H8.out.busy 0 (by rfl)).mono ?_
          rintro e w9 ⟨a, cap, rfl, h⟩
          have H9 := hidq h
          clear h
          go_wp2_with fail
          go_ret
          exact ⟨rfl, H9.out⟩
      · cases closed
        · by_cases hc0 : c = 0
          · subst hc0
            go_wp2_with fail
            refine (H2.out.begOk t fr 0 n HT.out.2 (begE_ok kind t fr 0 HT.out.1 HK.out.2.1)).mono ?_
            rintro e w4 ⟨rfl, fb, h⟩
            have H4 := hidq h
            clear h
            go_wp2_with fail
            refine (hC _).mono ?_
            rintro e w6 ⟨rfl, hw6⟩
            replace hw6 := hw6.symm
            subst hw6
            have H7 := hidq (H4.out.below ((Below.refl _ _).alloc (Nat.le_refl _) (.cells #[.int .i64 o, .float .f64 0, .int .i64 val, .int .i64 0, .int .i64 0] 74)))
            go_wp2_with fail
            refine (H7.out.begNo t o val 11 (begE_busy kind t o val HT.out.1 HK.out.2.2 n fb HT.out.2) (by decide)).mono ?_
            rintro e w8 ⟨rfl, h⟩
            have H8 := hidq h
            clear h
            go_wp2_with fail
            refine (H8.out.busy 1 (by rw [busyTo_one n fb HN6.out]; rfl)).mono ?_
            rintro e w9 ⟨a, cap, rfl, h⟩
            have H9 := hidq h
            clear h
            go_wp2_with fail
            go_ret
            exact ⟨rfl, H9.out⟩
          · have hcn : (c == 0) = false := by simpa using hc0
            have HC0 := hidq hc0
            clear hc0
            go_wp2_with fail
            refine (H2.out.begOk t fr 0 n HT.out.2 (begE_ok kind t fr 0 HT.out.1 HK.out.2.1)).mono ?_
            rintro e w4 ⟨rfl, fb, h⟩
            have H4 := hidq h
            clear h
            go_wp2_with fail
            refine (hC _).mono ?_
            rintro e w6 ⟨rfl, hw6⟩
            replace hw6 := hw6.symm
            subst hw6
            have H7 := hidq (H4.out.below ((Below.refl _ _).alloc (Nat.le_refl _) (.cells #[.int .i64 o, .float .f64 0, .int .i64 val, .int .i64 0, .int .i64 0] 74)))
            go_wp2_with fail
            refine (H7.out.begNo t o val c (begE_chk kind t o val (qset (fun _ => none) n (some fb)) HT.out.1 c HK.out.2.2 HC0.out) HC0.out).mono ?_
            rintro e w8 ⟨rfl, h⟩
            have H8 := hidq h
            clear h
            go_wp2_with fail
            refine (H8.out.busy 1 (by rw [busyTo_one n fb HN6.out]; rfl)).mono ?_
            rintro e w9 ⟨a, cap, rfl, h⟩
            have H9 := hidq h
            clear h
            go_wp2_with fail
            go_ret
            exact ⟨rfl, H9.out⟩
        · skip
          go_wp2_with fail
          refine (H2.out.begOk t fr 0 n HT.out.2 (begE_ok kind t fr 0 HT.out.1 HK.out.2.1)).mono ?_
          rintro e w4 ⟨rfl, fb, h⟩
          have H4 := hidq h
          clear h
          go_wp2_with fail
          refine (H4.out.close).mono ?_
          rintro e w5 ⟨rfl, h⟩
          have H5 := hidq h
          clear h
          go_wp2_with fail
          refine (hC _).mono ?_
          rintro e w6 ⟨rfl, hw6⟩
          replace hw6 := hw6.symm
          subst hw6
          have H7 := hidq (H5.out.below ((Below.refl _ _).alloc (Nat.le_refl _) (.cells #[.int .i64 o, .float .f64 0, .int .i64 val, .int .i64 0, .int .i64 0] 74)))
          go_wp2_with fail
          refine (H7.out.begNo t o val 12 (begE_closed kind t o val (qset (fun _ => none) n (some fb)) HT.out.1) (by decide)).mono ?_
          rintro e w8 ⟨rfl, h⟩
          have H8 := hidq h
          clear h
          go_wp2_with fail
          refine (H8.out.busy 1 (by rw [busyTo_one n fb HN6.out]; rfl)).mono ?_
          rintro e w9 ⟨a, cap, rfl, h⟩
          have H9 := hidq h
          clear h
          go_wp2_with fail
          go_ret
          exact ⟨rfl, H9.out⟩
    · have d6 : decide (t < 6) = false := decide_eq_false h6
      have d5 : decide (5 < t) = true := decide_eq_true (by omega)
      have HT := hidq (show ¬ (0 ≤ t ∧ t < 6) by omega)
      clear h0
      cases busy
      · cases closed
        · skip
          go_wp2_with fail
          refine (hC _).mono ?_
          rintro e w6 ⟨rfl, hw6⟩
          replace hw6 := hw6.symm
          subst hw6
          have H7 := hidq (H2.out.below ((Below.refl _ _).alloc (Nat.le_refl _) (.cells #[.int .i64 o, .float .f64 0, .int .i64 val, .int .i64 0, .int .i64 0] 74)))
          go_wp2_with fail
          refine (H7.out.begNo t o val 4 (begE_out kind t o val (fun _ => none) false HT.out) (by decide)).mono ?_
          rintro e w8 ⟨rfl, h⟩
          have H8 := hidq h
          clear h
          go_wp2_with fail
          refine (H8.out.busy 0 (by rfl)).mono ?_
          rintro e w9 ⟨a, cap, rfl, h⟩
          have H9 := hidq h
          clear h
          go_wp2_with fail
          go_ret
          exact ⟨rfl, H9.out⟩
        · skip
          go_wp2_with fail
          refine (H2.out.close).mono ?_
          rintro e w5 ⟨rfl, h⟩
          have H5 := hidq h
          clear h
          go_wp2_with fail
          refine (hC _).mono ?_
          rintro e w6 ⟨rfl, hw6⟩
          replace hw6 := hw6.symm
          subst hw6
          have H7 := hidq (H5.out.below ((Below.refl _ _).alloc (Nat.le_refl _) (.cells #[.int .i64 o, .float .f64 0, .int .i64 val, .int .i64 0, .int .i64 0] 74)))
          go_wp2_with fail
          refine (H7.out.begNo t o val 4 (begE_out kind t o val (fun _ => none) true HT.out) (by decide)).mono ?_
          rintro e w8 ⟨rfl, h⟩
          have H8 := hidq h
          clear h
          go_wp2_with fail
          refine (H8.out.busy 0 (by rfl)).mono ?_
          rintro e w9 ⟨a, cap, rfl, h⟩
          have H9 := hidq h
          clear h
          go_wp2_with fail
          go_ret
          exact ⟨rfl, H9.out⟩
      · cases closed
        · skip
          go_wp2_with fail
          refine (hC _).mono ?_
          rintro e w6 ⟨rfl, hw6⟩
          replace hw6 := hw6.symm
          subst hw6
          have H7 := hidq (H2.out.below ((Below.refl _ _).alloc (Nat.le_refl _) (.cells #[.int .i64 o, .float .f64 0, .int .i64 val, .int .i64 0, .int .i64 0] 74)))
          go_wp2_with fail
          refine (H7.out.begNo t o val 4 (begE_out kind t o val (fun _ => none) false HT.out) (by decide)).mono ?_
          rintro e w8 ⟨rfl, h⟩
          have H8 := hidq h
          clear h
          go_wp2_with fail
          refine (H8.out.busy 0 (by rfl)).mono ?_
          rintro e w9 ⟨a, cap, rfl, h⟩
          have H9 := hidq h
          clear h
          go_wp2_with fail
          go_ret
          exact ⟨rfl, H9.out⟩
        · skip
          go_wp2_with fail
          refine (H2.out.close).mono ?_
          rintro e w5 ⟨rfl, h⟩
          have H5 := hidq h
          clear h
          go_wp2_with fail
          refine (hC _).mono ?_
          rintro e w6 ⟨rfl, hw6⟩
          replace hw6 := hw6.symm
          subst hw6
          have H7 := hidq (H5.out.below ((Below.refl _ _).alloc (Nat.le_refl _) (.cells #[.int .i64 o, .float .f64 0, .int .i64 val, .int .i64 0, .int .i64 0] 74)))
          go_wp2_with fail
          refine (H7.out.begNo t o val 4 (begE_out kind t o val (fun _ => none) true HT.out) (by decide)).mono ?_
          rintro e w8 ⟨rfl, h⟩
          have H8 := hidq h
          clear h
          go_wp2_with fail
          refine (H8.out.busy 0 (by rfl)).mono ?_
          rintro e w9 ⟨a, cap, rfl, h⟩
          have H9 := hidq h
          clear h
          go_wp2_with fail
          go_ret
          exact ⟨rfl, H9.out⟩
end Go.Proofs.YtplpenimhiknnaaGreat
