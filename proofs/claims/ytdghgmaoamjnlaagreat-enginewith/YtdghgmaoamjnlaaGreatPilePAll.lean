/-
  Layer 13: an engine's machine, of a Net: contract.
  Layer 13: the answers that the document fixes.
  Layer 13: a step is picked, of a machine of one kind: contract.
  How two words of 64 bits stand to each other as floats: by their rungs with signs. Plain numbers.
  The highest of 64 bits. Plain numbers.
  Layer 3, its calls and the document's answers by bits: contracts.
  A heap in an array: what sifting down and up keeps. Plain arrays.
  Layer 4: items, their order, their places: contracts.
  Canonical items, and their order.
  Layer 4: the library's heap over a pile's items: contracts.
  Calls through the heap's interface of a pile's items: which function is met, with which receiver.
  Layer 4: the library's heap, sifting: contracts.
  Layer 4: the library's heap, sifting up: contract.
  Layer 4: one more item, one less: contracts.
-/
import Derived.Test.YtdghgmaoamjnlaaGreatSlGAll
import Derived.Test.YtdghgmaoamjnlaaGreatNetNewAAll
import Derived.Test.YtdghgmaoamjnlaaGreatOp6All
import Derived.Test.YtdghgmaoamjnlaaGreatTokMathAll
import Derived.Test.YtdghgmaoamjnlaaGreatGhostAll
import Derived.Test.YtdghgmaoamjnlaaGreatStepReg13All
import Ieee.Arith
import Derived.Laws.BitsAllLaws
import Derived.Test.YtdghgmaoamjnlaaGreatChecked
import Derived.WalkKit
import Derived.Laws.Cover2
import Derived.Laws.Externs
import Derived.Sort.Lot0
import Derived.Sort.LotA
import Derived.Test.YtdghgmaoamjnlaaGreatKNew9All
import Derived.BigQuiet
import Derived.Deep.QuietTactic
import Derived.Deep.RegionWith
import Derived.Deep.AppendSrc
import Derived.Deep.Upon
import Derived.Laws.IdiomStrings
import Derived.Deep.RegionLaw
namespace Go.Proofs.YtdghgmaoamjnlaaGreat
open Go.RowKit Go.Sort

theorem pow2_ex {p : Int} (h : legal 4 p = 0) : ∃ d n : Nat, d ≤ 4 ∧ n = 2 ^ d ∧ p = (n : Int) := by
  have h1 : 1 ≤ p ∧ p ≤ 16 := by
    rcases Classical.em (1 ≤ p ∧ p ≤ 16) with h' | h'
    · exact h'
    · rw [legal_par (by decide) h'] at h; cases h
  have h2 : pow2 p = true := by
    cases e : pow2 p
    · rw [legal_net (by decide) h1 ⟨rfl, e⟩] at h; cases h
    · rfl
  have : p = 1 ∨ p = 2 ∨ p = 4 ∨ p = 8 ∨ p = 16 := by simpa [pow2] using h2
  rcases this with rfl | rfl | rfl | rfl | rfl
  · exact ⟨0, 1, by decide, rfl, rfl⟩
  · exact ⟨1, 2, by decide, rfl, rfl⟩
  · exact ⟨2, 4, by decide, rfl, rfl⟩
  · exact ⟨3, 8, by decide, rfl, rfl⟩
  · exact ⟨4, 16, by decide, rfl, rfl⟩
theorem legal4_of {p : Int} (h : ¬ legal 4 p = 0) : legal 4 p = 5 := by
  by_cases h1 : 1 ≤ p ∧ p ≤ 16
  · by_cases h2 : pow2 p = false
    · exact legal_net (by decide) h1 ⟨rfl, h2⟩
    · exact absurd (legal_ok (by decide) h1 (fun e => h2 e.2)) h
  · exact legal_par (by decide) h1

/-- A Net whose plan lies from block L on. -/
def KN (p : Int) (L : Nat) (T : TypeId) (v : Value) (w : World) : Prop :=
  T = 224 ∧ (legal 4 p = 0 → ∃ (n c gc oc : Nat) (ga oa : Option Addr) (G : List (Nat × Nat)) (Os : List Nat) (D : Nat → Prop), p = (n : Int) ∧ v = .agg #[.int .i64 (n : Int), .slice ga c gc, .slice oa n oc] ∧ PF n c G Os ∧ NP w D ga gc c oa n G Os ∧ ∀ j, D j → L ≤ j)

theorem machine4_any (p : Int) (w : World) : Calls Tryz.prog 79 #[.int .i64 4, .int .i64 p] w (MachEnd (KN p) (legal 4 p) w) := by
  by_cases h : legal 4 p = 0
  · obtain ⟨d, n, hd, hn, rfl⟩ := pow2_ex h
    rw [h]
    have hN := fun w => nnew_ok d n hd hn w
    have HD := hidq (And.intro hd (And.intro hn h))
    clear hd hn h
    go_enter Tryz.func79, Tryz.ntmps79
    go_wp2_with fail
    refine (hN _).mono ?_
    rintro e w1 ⟨ga, gc, oa, oc, rfl, hS, hO, hf1, hf2, hb⟩
    have HB := hidq (And.intro hS (And.intro hO (And.intro hf1 (And.intro hf2 hb))))
    clear hb hN hS hO hf1 hf2
    go_wp2
    go_ret2
    obtain ⟨hS, hO, hf1, hf2, hb⟩ := HB.out
    obtain ⟨hd, hn, h⟩ := HD.out
    obtain ⟨f1, f2, _, _, _, _, _, f7, _⟩ := net_facts d n hd hn
    refine ⟨_, _, rfl, ⟨rfl, fun _ => ⟨n, cg d, gc, oc, ga, oa, _, _, fun j => w.heap.size ≤ j ∧ j < w1.heap.size, rfl, rfl, ⟨d, hd, hn, rfl, rfl, rfl⟩, ⟨hS, hO, fun j hj => ⟨hf1 j hj, hS.lt j hj⟩, fun j hj => ⟨hf2 j hj, ?_⟩, fun j hj => hj.2, f1, f2⟩, fun j hj => hj.1⟩⟩, hb⟩
    obtain ⟨b, off, e1, e2, _⟩ := hO 0 _ (List.getElem?_eq_getElem (by omega))
    obtain ⟨x, hx, rfl⟩ := hj
    rw [e1] at hx; cases hx
    exact e2
  · have h5 := legal4_of h
    have hN := fun w => nnew_no p w h5
    have HD := hidq (And.intro h h5)
    rw [h5]
    clear h h5
    go_enter Tryz.func79, Tryz.ntmps79
    go_wp2_with fail
    refine (hN _).mono ?_
    rintro e w1 ⟨rfl, hb⟩
    have HB := hidq hb
    clear hb hN
    go_wp2
    go_ret2
    exact ⟨_, _, rfl, ⟨rfl, fun h => absurd h HD.out.1⟩, HB.out⟩
end Go.Proofs.YtdghgmaoamjnlaaGreat

namespace Go.Proofs.YtdghgmaoamjnlaaGreat
open Go.RowKit Go.Sort

theorem run_equalIn_flt {P : Program} (d : Nat) (t : TypeId) (a b : Nat) (w : World) (h : P.underlying t = some (.float .f64)) : (Op.equalIn (d + 1) t (.float .f64 a) (.float .f64 b)).run P w = .ok (Op.floatEq .f64 a b) w := by
  simp [Op.equalIn, run_underlying h]
theorem frAt_new {w : World} {fb : Nat} {F : Fr} (h : BoxAt w fb (F.l none 0 none 0)) (h0 : F.c0.L = []) (h1 : F.c1.L = []) : FrAt w fb (fun k => k = fb) F :=
  ⟨rfl, fun k e => by rw [e]; exact h.lt, none, 0, none, 0, h, by rw [h0]; exact SlAt.nil _ _, by rw [h1]; exact SlAt.nil _ _, (fun j hj => by obtain ⟨y, hy, _⟩ := hj; cases hy), (fun j hj => by obtain ⟨y, hy, _⟩ := hj; cases hy)⟩

/-- The one step of the answers that the document fixes. -/
theorem busyTo_one (t fb : Nat) (ht : t < 6) : busyTo (qset (fun _ => none) t (some fb)) 6 = [t] := by
  have : t = 0 ∨ t = 1 ∨ t = 2 ∨ t = 3 ∨ t = 4 ∨ t = 5 := by omega
  rcases this with rfl | rfl | rfl | rfl | rfl | rfl <;> simp [busyTo, List.range_succ, qset]
theorem plan1 {c : Nat} {G : List (Nat × Nat)} {Os : List Nat} (h : PF 1 c G Os) : c = 0 ∧ G = [] ∧ Os = [0] := by
  obtain ⟨d, hd, hn, hc, hG, hO⟩ := h.ex
  have : d = 0 ∨ d = 1 ∨ d = 2 ∨ d = 3 ∨ d = 4 := by omega
  rcases this with rfl | rfl | rfl | rfl | rfl
  · exact ⟨hc, hG, hO⟩
  all_goals exact absurd hn (by decide)
theorem one13 : ∃ (M : Mem) (F : Fr), nStep 1 0 [] [0] Mem.empty (Fr.of 7 0 0 0 0) = (M, F, ⟨true, 0, 0, 0⟩, true) := ⟨_, _, rfl⟩

set_option maxRecDepth 20000 in
set_option maxHeartbeats 4000000 in
theorem awake13_any (w : World) : Calls Tryz.prog 29 #[] w fun e w' => e = .returned (.bool true) ∧ Below w.heap.size w w' := by
  have hN := new13_any (KN 1) 4 1 0 (fun w => machine4_any 1 w) w
  have hsf := run_store_flt (P := Tryz.prog)
  have hef := fun d a b w => run_equalIn_flt (P := Tryz.prog) d 51 a b w Tryz.underlying51
  have hq0 : Op.floatEq .f64 0 0 = true := by decide
  go_enter Tryz.func29, Tryz.ntmps29
  go_wp2_with fail
  refine hN.mono ?_
  rintro e w1 ⟨hb1, _, hok⟩
  obtain ⟨T, v, eb, mb, L, wm, rfl, hmb, hL, hLe, hwm, hM, hE, ⟨rfl, hK⟩, hbm⟩ := hok rfl
  obtain ⟨n, c, gc, oc, ga, oa, G, Os, D, hp, rfl, hP, hNP, hD⟩ := hK rfl
  have hn : n = 1 := by omega
  subst hn
  have hB := fun w (h : BoxAt w eb (ecells 4 1 224 (.agg #[.int .i64 ((1 : Nat) : Int), .slice ga c gc, .slice oa 1 oc]) mb (fun _ => none) false 0)) => begin_any eb 4 1 224 (.agg #[.int .i64 ((1 : Nat) : Int), .slice ga c gc, .slice oa 1 oc]) mb (fun _ => none) false 0 2 7 0 0 0 0 w h
  have H1 := hidq (And.intro hb1 (And.intro hM (And.intro hE (And.intro hP (And.intro (hNP.below hbm) (And.intro hD (And.intro hwm (And.intro hmb (And.intro hL (And.intro hLe hNP.lt))))))))))
  clear hb1 hok hM hE hP hNP hD hN hK hp hbm hwm hmb hL hLe
  go_wp2_with fail
  refine (hB _ H1.out.2.2.1).mono ?_
  rintro e w2 ⟨rfl, _, hok⟩
  obtain ⟨_, _, _, fb, hfb, hF, hE2, hbt⟩ := hok (by decide)
  rw [show begE 4 false (fun _ => none) 2 7 0 = 0 by decide]
  obtain ⟨hb1, hM, _, hP, hNP, hD, hwm, hmb, hL, hLe, hDl⟩ := H1.out
  obtain ⟨rfl, rfl, rfl⟩ := plan1 hP
  obtain ⟨M1, F1, hone⟩ := one13
  obtain ⟨r, hr⟩ : ∃ r, nStep 1 0 [] [0] Mem.empty (Fr.of 7 0 0 0 0) = r := ⟨_, rfl⟩
  have hs12 := hbt.size
  have hebl := hE2.lt
  have hmbl := hM.lt mb rfl
  have hw1l : eb < w1.heap.size := H1.out.2.2.1.lt
  have hfbl := hF.lt
  have hMz := hM.but hbt (fun k hk e => by have : k = mb := hk; omega)
  have hNPz := hNP.but hbt (fun k hk e => by have := hDl k hk; omega)
  have hFz := frAt_new hF rfl rfl
  obtain ⟨Q, hQ⟩ : ∃ Q, qset (fun _ => none) ((2 : Int)).toNat (some fb) = Q := ⟨_, rfl⟩
  have hQ2 : Q 2 = some fb := by rw [← hQ]; rfl
  have hQb : (busyTo Q 6)[(into 9 (busyTo Q 6).length).toNat]? = some 2 := by
    rw [← hQ, show ((2 : Int)).toNat = 2 from rfl, busyTo_one 2 fb (by decide)]; rfl
  rw [hQ] at hE2
  have hP := pickN_any 1 0 gc oc ga oa eb 4 1 mb Q false 0 9 2 fb (fun k => k = mb) (fun k => k = fb) r w2 hE2 hQb hQ2 (by decide) (fun k hk => by rcases hk with (e : k = mb) | (e : k = fb) <;> omega) (fun e => by rcases e with (e : eb = mb) | (e : eb = fb) <;> omega) ⟨_, _, _, _, _, hF⟩
    (fun W hW => by
      have := nstep_is 1 0 gc oc ga oa D [] [0] (by decide) (by decide) (by decide) (fun v hv => by rw [show v = 0 by omega]; simp) W mb fb (fun k => k = mb) (fun k => k = fb) Mem.empty (Fr.of 7 0 0 0 0) (hNPz.below hW)
        (fun k hk => ⟨fun e => by have := hD k hk; have : k = mb := e; omega, fun e => by have := hDl k hk; have : k = fb := e; omega⟩) (hMz.below hW) (hFz.below hW) (fun k hk e => by have : k = mb := hk; have : k = fb := e; omega)
        ⟨rfl, by decide, by decide, by decide, by decide, NOk.empty⟩ (by decide)
      rw [hr] at this
      exact this)
  have HB := hidq (And.intro hb1 (And.intro hbt (And.intro (show w.heap.size ≤ eb by omega) hmb)))
  have HP := hidq hP
  have hrv : r.2.2 = (⟨true, 0, 0, 0⟩, true) := by rw [← hr, hone]
  have HFB := hidq hfb
  clear hb1 hM hP hNP hD hwm hmb hL hLe hDl hone hs12 hebl hmbl hw1l hfbl hMz hNPz hFz hQb hE2 hF hbt H1 hr hok hB hQ2 hQ hfb
  go_wp2_with fail
  refine HP.out.mono ?_
  rintro e w3 ⟨rfl, hE3, O3, P3, hM3, hF3, hd3, hO3, hP3, hb3⟩
  rw [hrv] at hE3 ⊢
  have hb : Below w.heap.size w w3 := by
    obtain ⟨h1, h2, h3, h5⟩ := HB.out
    have hs := h1.size
    have hs2 := h2.size
    refine (h1.trans (h2.below hs (fun k e => by have : k = eb := e; omega))).trans (hb3.below (by omega) (fun k e => ?_))
    have h4 := HFB.out
    rcases e with (e : k = mb) | (e : k = fb) | (e : k = eb) <;> omega
  obtain ⟨ab, hab⟩ : ∃ ab, w3.heap.size = ab := ⟨_, rfl⟩
  have hSt := fun W (hW : Below w3.heap.size w3 W) => steps_any eb 4 1 224 _ mb _ false ((0 + 1 : Nat) : Int) W (hE3.below hW)
  have hKd := fun W (hW : Below w3.heap.size w3 W) => kind_any eb 4 1 224 _ mb _ false ((0 + 1 : Nat) : Int) W (hE3.below hW)
  have HSK := hidq (And.intro hSt (And.intro hKd hb))
  clear hSt hKd hE3 hM3 hF3 hd3 hO3 hP3 hb3 hb HP HB HFB hrv
  have hba : ∀ o, Below w3.heap.size w3 (w3.alloc o) := fun o => (Below.refl _ _).alloc (Nat.le_refl _) o
  go_wp2_with fail
  refine (HSK.out.1 _ (hba _)).mono ?_
  rintro e w4 ⟨rfl, hw4⟩
  replace hw4 := hw4.symm
  subst hw4
  go_wp2_with fail
  refine (HSK.out.2.1 _ (hba _)).mono ?_
  rintro e w4 ⟨rfl, hw4⟩
  replace hw4 := hw4.symm
  subst hw4
  go_wp2_with fail
  go_ret
  exact ⟨rfl, HSK.out.2.2.trans ((hba _).mono HSK.out.2.2.size)⟩
end Go.Proofs.YtdghgmaoamjnlaaGreat

namespace Go.Proofs.YtdghgmaoamjnlaaGreat
open Go.RowKit Go.Sort

def pickMR (eb fb mb : Nat) (r : Mem × Fr × Ans × Bool) (sh : Int) : List (Value → Ar.Gh → World → Prop) :=
  [fun u0 _ _ => u0 = .pointer (some ⟨eb, 0, none⟩),
   fun u0 _ _ => u0 = .pointer (some ⟨eb, 0, none⟩),
   fun u0 _ _ => u0 = .pointer (some ⟨eb, 2, none⟩),
   fun u0 _ _ => u0 = .iface 209 (.agg #[.int .i64 sh]),
   fun u0 _ _ => u0 = .pointer (some ⟨eb, 0, none⟩),
   fun u0 _ _ => u0 = .pointer (some ⟨eb, 0, none⟩),
   fun u0 _ _ => u0 = .pointer (some ⟨eb, 3, none⟩),
   fun u0 _ _ => u0 = .pointer (some ⟨mb, 0, none⟩),
   fun u0 _ _ => u0 = .pointer (some ⟨fb, 0, none⟩),
   fun u0 _ _ => u0 = .iface 209 (.agg #[.int .i64 sh]),
   fun u0 _ _ => u0 = .iface 209 (.agg #[.int .i64 sh]),
   fun u0 _ _ => u0 = .tuple #[.agg #[.bool r.2.2.1.ok, .float .f64 r.2.2.1.pri, .int .i64 r.2.2.1.val, .int .i64 r.2.2.1.n], .bool r.2.2.2],
   fun u0 _ _ => u0 = .tuple #[.agg #[.bool r.2.2.1.ok, .float .f64 r.2.2.1.pri, .int .i64 r.2.2.1.val, .int .i64 r.2.2.1.n], .bool r.2.2.2],
   fun u0 _ _ => u0 = .agg #[.bool r.2.2.1.ok, .float .f64 r.2.2.1.pri, .int .i64 r.2.2.1.val, .int .i64 r.2.2.1.n],
   fun u0 _ _ => u0 = .bool r.2.2.2,
   fun u0 x _ => ∃ bx, x.2 = some bx ∧ u0 = .pointer (some ⟨bx, 0, none⟩),
   fun _ _ _ => True,
   fun u0 _ _ => u0 = .bool r.2.2.2]
theorem pickMR_kept (eb fb mb : Nat) (r : Mem × Fr × Ans × Bool) (sh : Int) : Reg.GAllKept Ar.Pres (pickMR eb fb mb r sh) :=
  ⟨(fun _ _ _ _ _ _ h => h), (fun _ _ _ _ _ _ h => h), (fun _ _ _ _ _ _ h => h), (fun _ _ _ _ _ _ h => h), (fun _ _ _ _ _ _ h => h), (fun _ _ _ _ _ _ h => h), (fun _ _ _ _ _ _ h => h), (fun _ _ _ _ _ _ h => h), (fun _ _ _ _ _ _ h => h), (fun _ _ _ _ _ _ h => h), (fun _ _ _ _ _ _ h => h), (fun _ _ _ _ _ _ h => h), (fun _ _ _ _ _ _ h => h), (fun _ _ _ _ _ _ h => h), (fun _ _ _ _ _ _ h => h), (fun _ _ _ _ _ hp h => by obtain ⟨bx, h1, h2⟩ := h; exact ⟨bx, hp bx h1, h2⟩), (fun _ _ _ _ _ _ h => h), (fun _ _ _ _ _ _ h => h), trivial⟩

set_option maxRecDepth 20000 in
set_option maxHeartbeats 8000000 in
theorem pickM_any (sh : Int) (eb : Nat) (kind param : Int) (mb : Nat) (Q : Nat → Option Nat) (closed : Bool) (steps : Nat) (pick : Int) (t fb : Nat) (O P : Nat → Prop) (r : Mem × Fr × Ans × Bool) (w : World)
    (hE : BoxAt w eb (ecells kind param 209 (.agg #[.int .i64 sh]) mb Q closed (steps : Int))) (hb : (busyTo Q 6)[(into pick (busyTo Q 6).length).toNat]? = some t) (hQ : Q t = some fb) (hst : steps < 4611686018427387904)
    (hlt : ∀ k, O k ∨ P k → k < w.heap.size) (hne : ¬ (O eb ∨ P eb)) (hfb : ∃ a0 k0 a1 k1 F0, BoxAt w fb (Fr.l F0 a0 k0 a1 k1))
    (hS : ∀ W, Below w.heap.size w W → Calls Tryz.prog 198 #[.agg #[.int .i64 sh], .pointer (some ⟨mb, 0, none⟩), .pointer (some ⟨fb, 0, none⟩)] W (StepEnd mb fb O P r W)) :
    Calls Tryz.prog 35 #[.pointer (some ⟨eb, 0, none⟩), .int .i64 pick] w (PickEnd eb kind param 209 (.agg #[.int .i64 sh]) mb Q closed steps t fb O P r w) := by
  have hsf := run_store_flt (P := Tryz.prog)
  have hms : ∀ w, (method 430 209 (.agg #[.int .i64 sh]) "Step").run Tryz.prog w = .ok (198, (.agg #[.int .i64 sh])) w := fun w => by kernel_rfl
  obtain ⟨vb, hvb⟩ : ∃ vb, w.heap.size = vb := ⟨_, rfl⟩
  obtain ⟨W0, hW0⟩ : ∃ W0, w.alloc (.cells #[.int .i64 0, .int .i64 0, .float .f64 0, .int .i64 0, .int .i64 0, .int .i64 0, .bool false, .bool false, .float .f64 0, .int .i64 0, .int .i64 0] 101) = W0 := ⟨_, rfl⟩
  have hV0 := BoxAt.new w [.int .i64 0, .int .i64 0, .float .f64 0, .int .i64 0, .int .i64 0, .int .i64 0, .bool false, .bool false, .float .f64 0, .int .i64 0, .int .i64 0] 101
  rw [show w.alloc (.cells [.int .i64 0, .int .i64 0, .float .f64 0, .int .i64 0, .int .i64 0, .int .i64 0, .bool false, .bool false, .float .f64 0, .int .i64 0, .int .i64 0].toArray 101) = W0 from hW0, hvb] at hV0
  have hb0 : Below w.heap.size w W0 := by rw [← hW0]; exact (Below.refl _ _).alloc (Nat.le_refl _) _
  have hn6 := busyTo_le Q 6
  have ht6 : t < 6 := by
    have := List.mem_of_getElem? hb
    exact (busyTo_mem.1 this).1
  have hBz := busy_any eb kind param 209 (.agg #[.int .i64 sh]) mb Q closed (steps : Int) W0 (hE.below hb0)
  obtain ⟨n, hn⟩ : ∃ n, (busyTo Q 6).length = n := ⟨_, rfl⟩
  obtain ⟨l, hl⟩ : ∃ l, busyTo Q 6 = l := ⟨_, rfl⟩
  have hBE : ∀ e w', BusyEnd Q W0 e w' → ∃ a cap, e = .returned (.slice a n cap) ∧ SlAt 1 w' a cap n (vals l) ∧ Below W0.heap.size W0 w' := by
    rintro e w' ⟨a, cap, h1, h2, h3, h4⟩
    rw [hn, hl] at *
    exact ⟨a, cap, h1, h2, h4⟩
  replace hBz := hBz.mono hBE
  clear hBE
  rw [hn, hl] at hb
  have hnl : l.length = n := by rw [← hl]; exact hn
  rw [hn] at hn6
  have hn1 : 1 ≤ n := by
    have := (List.getElem?_eq_some_iff.1 hb).1
    omega
  obtain ⟨j, hj, hjn⟩ : ∃ j : Nat, into pick (n : Int) = (j : Int) ∧ j < n := by
    have := into_rng (d := pick) (n := (n : Int)) (by omega)
    exact ⟨(into pick (n : Int)).toNat, by omega, by omega⟩
  rw [hj] at hb
  have hb' : l[j]? = some t := hb
  have hIn := fun w => into_any pick (n : Int) w (by omega)
  rw [hj] at hIn
  have hne0 : ((n : Int) == 0) = false := by simp; omega
  have hne0' : (n == 0) = false := by simp; omega
  have HH := hidq (And.intro hE (And.intro hV0 (And.intro hb0 (And.intro hlt (And.intro hne hfb)))))
  have HS0 := hidq hS
  have HQ := hidq hQ
  have HB := hidq hb'
  have HI := hidq hIn
  have hel := hE.lt
  have HVB := hidq hvb
  clear hE hV0 hb0 hlt hne hfb hS hQ hb hb' hn hl hnl hj hIn
  go_enter Tryz.func35, Tryz.ntmps35
  go_wp2_with fail
  refine hBz.mono ?_
  rintro e w1 ⟨a, cap, rfl, hSl, hb1⟩
  clear hBz
  obtain ⟨hE, hV0, hb0, hlt, hne, hfb⟩ := HH.out
  obtain ⟨g, rfl, hgl, hgc⟩ := hSl.cell (t := j) (u := .int .i64 (t : Int)) (by simp [vals, HB.out])
  have hb01 := hb0.trans (hb1.mono hb0.size)
  have hE1 := hE.below hb01
  have hV1 := hV0.below hb1
  have hthr := (hE1.get (4 + t) _ (ecells_thread kind param 209 (.agg #[.int .i64 sh]) mb Q closed (steps : Int) t ht6)).1
  rw [HQ.out] at hthr
  replace hthr : w1.cell? ⟨eb, 4 + t, none⟩ = some (.pointer (some ⟨fb, 0, none⟩)) := hthr
  have hel1 := hE1.lt
  have H1 := hidq (And.intro hE1 (And.intro hV1 (And.intro hb01 (show ∀ k, O k ∨ P k → k < w1.heap.size from fun k hk => Nat.lt_of_lt_of_le (hlt k hk) hb01.size))))
  have hS1 := hidq (fun W (hW : Below w1.heap.size w1 W) => HS0.out W (hb01.trans (hW.mono hb01.size)))
  have hcp := hSl.le
  have HNE := hidq (And.intro hne (And.intro hlt hfb))
  clear hSl hE hV0 hb0 hlt hne hfb hb1 hb01 hE1 hV1 HH HS0
  clear hW0
  go_wp2_with fail
  refine (HI.out _).mono ?_
  rintro e w2 ⟨rfl, hw2⟩
  replace hw2 := hw2.symm
  subst hw2
  clear HI
  go_wp2_with fail
  refine Reg.wp_region_ghost (Reg.gofList (pickMR eb fb mb r sh)) Ar.Pres (Er.GI w1 mb fb O P r 11 15 16) (O, none) (by kernel_rfl) (by kernel_rfl) (Reg.GAllKept.at _ (pickMR_kept eb fb mb r sh)) (Er.GI.start w1 mb fb O P r 11 15 16 H1.out.2.2.2 _) ⟨?_, ?_, ?_, ?_, ?_, ?_, ?_, ?_, ?_, ?_, ?_, ?_, ?_, ?_, ?_, ?_, ?_, ?_, trivial⟩ ?_
  · refine Reg.GStepAt.plain (i := 0) rfl ?_
    intro x L ev w hI hk hp hA
    have e0 : ev (.tmp 0) = .pointer (some ⟨eb, 0, none⟩) := hA.oldNone 0 (by kernel_rfl)
    have hcc := hA.const
    clear hA hp
    refine Reg.out_value (v := .pointer (some ⟨eb, 0, none⟩)) ?_ ⟨x, rfl, Ar.Pres.refl _ _ _, hI.quiet 0 (by decide) (by decide) (by decide)⟩
    go_simp
  · refine Reg.GStepAt.plain (i := 1) rfl ?_
    intro x L ev w hI hk hp hA
    have e31 : ev (.tmp 31) = .pointer (some ⟨eb, 0, none⟩) := hA.val 0 _ 31 rfl (hp ⟨0, .data⟩ (by simp) rfl) rfl
    have hcc := hA.const
    clear hA hp
    refine Reg.out_value (v := .pointer (some ⟨eb, 0, none⟩)) ?_ ⟨x, rfl, Ar.Pres.refl _ _ _, hI.quiet 1 (by decide) (by decide) (by decide)⟩
    go_simp
  · refine Reg.GStepAt.plain (i := 2) rfl ?_
    intro x L ev w hI hk hp hA
    have e32 : ev (.tmp 32) = .pointer (some ⟨eb, 0, none⟩) := hA.val 1 _ 32 rfl (hp ⟨1, .data⟩ (by simp) rfl) rfl
    have hcc := hA.const
    clear hA hp
    refine Reg.out_value (v := .pointer (some ⟨eb, 2, none⟩)) ?_ ⟨x, rfl, Ar.Pres.refl _ _ _, hI.quiet 2 (by decide) (by decide) (by decide)⟩
    go_simp
  · refine Reg.GStepAt.plain (i := 3) rfl ?_
    intro x L ev w hI hk hp hA
    have e33 : ev (.tmp 33) = .pointer (some ⟨eb, 2, none⟩) := hA.val 2 _ 33 rfl (hp ⟨2, .data⟩ (by simp) rfl) rfl
    have hcc := hA.const
    clear hA hp
    have f2 := ((H1.out.1.but hI.chg HNE.out.1).get 2 _ rfl).1
    have f3 := ((H1.out.1.but hI.chg HNE.out.1).get 3 _ rfl).1
    have hel := (H1.out.1.but hI.chg HNE.out.1).lt
    refine Reg.out_value (v := .iface 209 (.agg #[.int .i64 sh])) ?_ ⟨x, rfl, Ar.Pres.refl _ _ _, hI.quiet 3 (by decide) (by decide) (by decide)⟩
    go_simp
  · refine Reg.GStepAt.plain (i := 4) rfl ?_
    intro x L ev w hI hk hp hA
    have e0 : ev (.tmp 0) = .pointer (some ⟨eb, 0, none⟩) := hA.oldNone 0 (by kernel_rfl)
    have hcc := hA.const
    clear hA hp
    refine Reg.out_value (v := .pointer (some ⟨eb, 0, none⟩)) ?_ ⟨x, rfl, Ar.Pres.refl _ _ _, hI.quiet 4 (by decide) (by decide) (by decide)⟩
    go_simp
  · refine Reg.GStepAt.plain (i := 5) rfl ?_
    intro x L ev w hI hk hp hA
    have e35 : ev (.tmp 35) = .pointer (some ⟨eb, 0, none⟩) := hA.val 4 _ 35 rfl (hp ⟨4, .data⟩ (by simp) rfl) rfl
    have hcc := hA.const
    clear hA hp
    refine Reg.out_value (v := .pointer (some ⟨eb, 0, none⟩)) ?_ ⟨x, rfl, Ar.Pres.refl _ _ _, hI.quiet 5 (by decide) (by decide) (by decide)⟩
    go_simp
  · refine Reg.GStepAt.plain (i := 6) rfl ?_
    intro x L ev w hI hk hp hA
    have e36 : ev (.tmp 36) = .pointer (some ⟨eb, 0, none⟩) := hA.val 5 _ 36 rfl (hp ⟨5, .data⟩ (by simp) rfl) rfl
    have hcc := hA.const
    clear hA hp
    refine Reg.out_value (v := .pointer (some ⟨eb, 3, none⟩)) ?_ ⟨x, rfl, Ar.Pres.refl _ _ _, hI.quiet 6 (by decide) (by decide) (by decide)⟩
    go_simp
  · refine Reg.GStepAt.plain (i := 7) rfl ?_
    intro x L ev w hI hk hp hA
    have e37 : ev (.tmp 37) = .pointer (some ⟨eb, 3, none⟩) := hA.val 6 _ 37 rfl (hp ⟨6, .data⟩ (by simp) rfl) rfl
    have hcc := hA.const
    clear hA hp
    have f2 := ((H1.out.1.but hI.chg HNE.out.1).get 2 _ rfl).1
    have f3 := ((H1.out.1.but hI.chg HNE.out.1).get 3 _ rfl).1
    have hel := (H1.out.1.but hI.chg HNE.out.1).lt
    refine Reg.out_value (v := .pointer (some ⟨mb, 0, none⟩)) ?_ ⟨x, rfl, Ar.Pres.refl _ _ _, hI.quiet 7 (by decide) (by decide) (by decide)⟩
    go_simp
  · refine Reg.GStepAt.plain (i := 8) rfl ?_
    intro x L ev w hI hk hp hA
    have e8 : ev (.tmp 8) = .pointer (some ⟨fb, 0, none⟩) := hA.oldNone 8 (by kernel_rfl)
    have hcc := hA.const
    clear hA hp
    refine Reg.out_value (v := .pointer (some ⟨fb, 0, none⟩)) ?_ ⟨x, rfl, Ar.Pres.refl _ _ _, hI.quiet 8 (by decide) (by decide) (by decide)⟩
    go_simp
  · refine Reg.GStepAt.plain (i := 9) rfl ?_
    intro x L ev w hI hk hp hA
    have e34 : ev (.tmp 34) = .iface 209 (.agg #[.int .i64 sh]) := hA.val 3 _ 34 rfl (hp ⟨3, .data⟩ (by simp) rfl) rfl
    have hcc := hA.const
    clear hA hp
    refine Reg.out_value (v := .iface 209 (.agg #[.int .i64 sh])) ?_ ⟨x, rfl, Ar.Pres.refl _ _ _, hI.quiet 9 (by decide) (by decide) (by decide)⟩
    go_simp
  · refine Reg.GStepAt.plain (i := 10) rfl ?_
    intro x L ev w hI hk hp hA
    have e34 : ev (.tmp 34) = .iface 209 (.agg #[.int .i64 sh]) := hA.val 3 _ 34 rfl (hp ⟨3, .data⟩ (by simp) rfl) rfl
    have hcc := hA.const
    clear hA hp
    refine Reg.out_value (v := .iface 209 (.agg #[.int .i64 sh])) ?_ ⟨x, rfl, Ar.Pres.refl _ _ _, hI.quiet 10 (by decide) (by decide) (by decide)⟩
    go_simp
  · refine Reg.GStepAt.plain (i := 11) rfl ?_
    intro x L ev w hI hk hp hA
    have e41 : ev (.tmp 41) = .iface 209 (.agg #[.int .i64 sh]) := hA.val 10 _ 41 rfl (hp ⟨10, .data⟩ (by simp) rfl) rfl
    have e38 : ev (.tmp 38) = .pointer (some ⟨mb, 0, none⟩) := hA.val 7 _ 38 rfl (hp ⟨7, .data⟩ (by simp) rfl) rfl
    have e39 : ev (.tmp 39) = .pointer (some ⟨fb, 0, none⟩) := hA.val 8 _ 39 rfl (hp ⟨8, .data⟩ (by simp) rfl) rfl
    have hcc := hA.const
    clear hA hp
    refine Reg.out_call (f := 198) (args := #[.agg #[.int .i64 sh], .pointer (some ⟨mb, 0, none⟩), .pointer (some ⟨fb, 0, none⟩)]) (w0 := w) ?_ ?_
    · go_simp
    refine (hS1.out w (hI.pre hk)).mono ?_
    rintro e w' ⟨rfl, O', P', h1, h2, h3, h4, h5, h6⟩
    exact ⟨_, rfl, (fun k => O' k ∨ P' k, x.2), rfl, fun _ h => h, hI.call hk (by decide) (by decide) h1 h2 h3 h4 h5 h6⟩
  · refine Reg.GStepAt.plain (i := 12) rfl ?_
    intro x L ev w hI hk hp hA
    have e42 : ev (.tmp 42) = .tuple #[.agg #[.bool r.2.2.1.ok, .float .f64 r.2.2.1.pri, .int .i64 r.2.2.1.val, .int .i64 r.2.2.1.n], .bool r.2.2.2] := hA.val 11 _ 42 rfl (hp ⟨11, .data⟩ (by simp) rfl) rfl
    have hcc := hA.const
    clear hA hp
    refine Reg.out_value (v := .tuple #[.agg #[.bool r.2.2.1.ok, .float .f64 r.2.2.1.pri, .int .i64 r.2.2.1.val, .int .i64 r.2.2.1.n], .bool r.2.2.2]) ?_ ⟨x, rfl, Ar.Pres.refl _ _ _, hI.quiet 12 (by decide) (by decide) (by decide)⟩
    go_simp
  · refine Reg.GStepAt.plain (i := 13) rfl ?_
    intro x L ev w hI hk hp hA
    have e30 : ev (.tmp 30) = .tuple #[.agg #[.bool r.2.2.1.ok, .float .f64 r.2.2.1.pri, .int .i64 r.2.2.1.val, .int .i64 r.2.2.1.n], .bool r.2.2.2] := hA.val 12 _ 30 rfl (hp ⟨12, .data⟩ (by simp) rfl) rfl
    have hcc := hA.const
    clear hA hp
    refine Reg.out_value (v := .agg #[.bool r.2.2.1.ok, .float .f64 r.2.2.1.pri, .int .i64 r.2.2.1.val, .int .i64 r.2.2.1.n]) ?_ ⟨x, rfl, Ar.Pres.refl _ _ _, hI.quiet 13 (by decide) (by decide) (by decide)⟩
    go_simp
  · refine Reg.GStepAt.plain (i := 14) rfl ?_
    intro x L ev w hI hk hp hA
    have e30 : ev (.tmp 30) = .tuple #[.agg #[.bool r.2.2.1.ok, .float .f64 r.2.2.1.pri, .int .i64 r.2.2.1.val, .int .i64 r.2.2.1.n], .bool r.2.2.2] := hA.val 12 _ 30 rfl (hp ⟨12, .data⟩ (by simp) rfl) rfl
    have hcc := hA.const
    clear hA hp
    refine Reg.out_value (v := .bool r.2.2.2) ?_ ⟨x, rfl, Ar.Pres.refl _ _ _, hI.quiet 14 (by decide) (by decide) (by decide)⟩
    go_simp
  · refine Reg.GStepAt.plain (i := 15) rfl ?_
    intro x L ev w hI hk hp hA
    have hcc := hA.const
    have hSf : L.getD 16 false = false := by
      cases hq : L.getD 16 false with
      | false => rfl
      | true => have := hA.closed 16 _ rfl hq ⟨15, .data⟩ (by simp) rfl; rw [show (⟨15, .data⟩ : Edge).on = 15 from rfl, Ar.getD_false hk] at this; cases this
    clear hA hp
    refine Reg.out_new (v := .pointer (some ⟨w.heap.size, 0, none⟩)) (w' := w.alloc (.cells Ans.zero.l.toArray 66)) ?_ ⟨(x.1, some w.heap.size), ⟨_, rfl, rfl⟩, fun b hb => (by rw [hI.no (Ar.getD_false hk)] at hb; cases hb), hI.alloc hk hSf (by decide) (by decide) _⟩
    (go_simp; try rfl)
  · refine Reg.GStepAt.plain (i := 16) rfl ?_
    intro x L ev w hI hk hp hA
    have e9 : ∃ bx, x.2 = some bx ∧ ev (.tmp 9) = .pointer (some ⟨bx, 0, none⟩) := hA.val 15 _ 9 rfl (hp ⟨15, .data⟩ (by simp) rfl) rfl
    have e43 : ev (.tmp 43) = .agg #[.bool r.2.2.1.ok, .float .f64 r.2.2.1.pri, .int .i64 r.2.2.1.val, .int .i64 r.2.2.1.n] := hA.val 13 _ 43 rfl (hp ⟨13, .data⟩ (by simp) rfl) rfl
    have hcc := hA.const
    clear hA hp
    obtain ⟨bx, hx, e9⟩ := e9
    have hbx := (hI.box bx hx).2.2.2.2
    rw [Ar.getD_false hk] at hbx
    obtain ⟨g0, x0⟩ := hbx.get 0 _ rfl
    obtain ⟨g1, x1⟩ := hbx.get 1 _ rfl
    obtain ⟨g2, x2⟩ := hbx.get 2 _ rfl
    obtain ⟨g3, x3⟩ := hbx.get 3 _ rfl
    refine Ar.out_skip (w' := setBox w bx r.2.2.1.s) ?_ ⟨x, trivial, Ar.Pres.refl _ _ _, hI.store hk (by decide) (by decide) hx⟩
    clear hbx
    simp only [setBox]
    go_simp
  · refine Reg.GStepAt.plain (i := 17) rfl ?_
    intro x L ev w hI hk hp hA
    have e44 : ev (.tmp 44) = .bool r.2.2.2 := hA.val 14 _ 44 rfl (hp ⟨14, .data⟩ (by simp) rfl) rfl
    have hcc := hA.const
    clear hA hp
    refine Reg.out_value (v := .bool r.2.2.2) ?_ ⟨x, rfl, Ar.Pres.refl _ _ _, hI.quiet 17 (by decide) (by decide) (by decide)⟩
    go_simp
  intro x L act wz hall hI hF
  have q31 : act.eval (.tmp 31) = .pointer (some ⟨eb, 0, none⟩) := hF.val 0 _ 31 rfl (hall 0 (by simp)) rfl
  have q32 : act.eval (.tmp 32) = .pointer (some ⟨eb, 0, none⟩) := hF.val 1 _ 32 rfl (hall 1 (by simp)) rfl
  have q33 : act.eval (.tmp 33) = .pointer (some ⟨eb, 2, none⟩) := hF.val 2 _ 33 rfl (hall 2 (by simp)) rfl
  have q34 : act.eval (.tmp 34) = .iface 209 (.agg #[.int .i64 sh]) := hF.val 3 _ 34 rfl (hall 3 (by simp)) rfl
  have q35 : act.eval (.tmp 35) = .pointer (some ⟨eb, 0, none⟩) := hF.val 4 _ 35 rfl (hall 4 (by simp)) rfl
  have q36 : act.eval (.tmp 36) = .pointer (some ⟨eb, 0, none⟩) := hF.val 5 _ 36 rfl (hall 5 (by simp)) rfl
  have q37 : act.eval (.tmp 37) = .pointer (some ⟨eb, 3, none⟩) := hF.val 6 _ 37 rfl (hall 6 (by simp)) rfl
  have q38 : act.eval (.tmp 38) = .pointer (some ⟨mb, 0, none⟩) := hF.val 7 _ 38 rfl (hall 7 (by simp)) rfl
  have q39 : act.eval (.tmp 39) = .pointer (some ⟨fb, 0, none⟩) := hF.val 8 _ 39 rfl (hall 8 (by simp)) rfl
  have q40 : act.eval (.tmp 40) = .iface 209 (.agg #[.int .i64 sh]) := hF.val 9 _ 40 rfl (hall 9 (by simp)) rfl
  have q41 : act.eval (.tmp 41) = .iface 209 (.agg #[.int .i64 sh]) := hF.val 10 _ 41 rfl (hall 10 (by simp)) rfl
  have q42 : act.eval (.tmp 42) = .tuple #[.agg #[.bool r.2.2.1.ok, .float .f64 r.2.2.1.pri, .int .i64 r.2.2.1.val, .int .i64 r.2.2.1.n], .bool r.2.2.2] := hF.val 11 _ 42 rfl (hall 11 (by simp)) rfl
  have q30 : act.eval (.tmp 30) = .tuple #[.agg #[.bool r.2.2.1.ok, .float .f64 r.2.2.1.pri, .int .i64 r.2.2.1.val, .int .i64 r.2.2.1.n], .bool r.2.2.2] := hF.val 12 _ 30 rfl (hall 12 (by simp)) rfl
  have q43 : act.eval (.tmp 43) = .agg #[.bool r.2.2.1.ok, .float .f64 r.2.2.1.pri, .int .i64 r.2.2.1.val, .int .i64 r.2.2.1.n] := hF.val 13 _ 43 rfl (hall 13 (by simp)) rfl
  have q44 : act.eval (.tmp 44) = .bool r.2.2.2 := hF.val 14 _ 44 rfl (hall 14 (by simp)) rfl
  have q9 : ∃ bx, x.2 = some bx ∧ act.eval (.tmp 9) = .pointer (some ⟨bx, 0, none⟩) := hF.val 15 _ 9 rfl (hall 15 (by simp)) rfl
  obtain ⟨bx, hx, q9⟩ := q9
  have q10 : act.eval (.tmp 10) = .bool r.2.2.2 := hF.val 17 _ 10 rfl (hall 17 (by simp)) rfl
  have hact := hF.act [31, 32, 33, 34, 35, 36, 37, 38, 39, 40, 41, 42, 30, 43, 44, 9, 10] (by kernel_rfl)
  have hst := hI.st
  rw [hall 11 (by simp), if_pos rfl] at hst
  have hchg := hI.chg
  have hgrw := hI.grow
  obtain ⟨hx0, hx1, hx2, hx3, hbx⟩ := hI.box bx hx
  rw [hall 16 (by simp), if_pos rfl] at hbx
  clear hF hall hI
  simp only [List.foldl_cons, List.foldl_nil] at hact
  rw [q31, q32, q33, q34, q35, q36, q37, q38, q39, q40, q41, q42, q30, q43, q44, q9, q10] at hact
  clear q31 q32 q33 q34 q35 q36 q37 q38 q39 q40 q41 q42 q30 q43 q44 q9 q10
  simp only [List.setIfInBounds_toArray, List.set_cons_succ, List.set_cons_zero] at hact
  subst hact
  obtain ⟨O', P', hM', hF', hD', hGO, hGP, _⟩ := hst
  obtain ⟨hE1, hV1, hb01, hlt1⟩ := H1.out
  obtain ⟨hne, hlt, hfb⟩ := HNE.out
  obtain ⟨M2, F2, A, d⟩ := r
  obtain ⟨aok, api, av, an⟩ := A
  dsimp only at *
  have hvb := HVB.out
  have hEz := hE1.but hchg hne
  have hVz := hV1.but hchg (fun e => by have := hlt vb e; omega)
  have hvl := hV1.lt
  have hne1 : vb ≠ eb := by omega
  have hne2 : bx ≠ eb := by have := hE1.lt; omega
  have hfbP : P' fb := hF'.ob
  have hneP : ∀ k, O' k ∨ P' k → k ≠ eb := fun k hk e => by
    subst e
    rcases hk with q | q
    · rcases hGO _ q with s | s
      · exact hne (.inl s)
      · omega
    · rcases hGP _ q with s | s
      · exact hne (.inr s)
      · omega
  have hnfe : fb ≠ eb := hneP fb (.inr hfbP)
  obtain ⟨z11, y11⟩ := hEz.get 11 _ rfl
  have hzl := hEz.lt
  have hstI : (steps : Int) < 4611686018427387904 := by omega
  obtain ⟨W2, hW2⟩ : ∃ W2, wz.setCell ⟨eb, 11, none⟩ (.int .i64 ((steps : Int) + 1)) = W2 := ⟨_, rfl⟩
  have hc2 : But (fun j => j = eb) wz W2 := by rw [← hW2]; exact (But.refl (fun j => j = eb) wz).set1 eb 11 rfl _
  have hE2 : BoxAt W2 eb (ecells kind param 209 (.agg #[.int .i64 sh]) mb Q closed (((steps + 1 : Nat)) : Int)) := by rw [← hW2]; exact hEz.set 11 (.int .i64 ((steps : Int) + 1))
  have hV2 := hVz.but hc2 hne1
  have hB2 := hbx.but hc2 hne2
  have hM2 := hM'.but hc2 (fun k hk e => hneP k (.inl hk) e)
  have hF2 := hF'.but hc2 (fun k hk e => hneP k (.inr hk) e)
  have hchg2 : But (fun k => O k ∨ P k ∨ k = eb) w W2 := ((But.of_below hb01).then hchg (fun k _ e => e.elim .inl (fun q => .inr (.inl q)))).then hc2 (fun k _ e => .inr (.inr e))
  have hGO2 : Grown O w W2 O' := fun k hk => (hGO k hk).imp id (fun q => ⟨by have := hb01.size; omega, by have := hc2.size; omega⟩)
  have hGP2 : Grown P w W2 P' := fun k hk => (hGP k hk).imp id (fun q => ⟨by have := hb01.size; omega, by have := hc2.size; omega⟩)
  have HZ := hidq (And.intro hne1 (And.intro hnfe (And.intro hneP hD')))
  have hbxv : bx ≠ vb := by omega
  have hvO : ∀ k, O' k ∨ P' k → k ≠ vb := fun k hk e => by
    subst e
    rcases hk with q | q
    · rcases hGO _ q with s | s
      · have := hlt _ (.inl s); omega
      · omega
    · rcases hGP _ q with s | s
      · have := hlt _ (.inr s); omega
      · omega
  have HVO := hidq hvO
  have hfv : fb ≠ vb := hvO fb (.inr hfbP)
  cases d with
  | false =>
    have hvb2 := HVB.out
    obtain ⟨Wv, hWv⟩ : ∃ Wv, setBox W2 vb [(0, .int .i64 (t : Int)), (1, .int .i64 F2.kind), (2, .float .f64 F2.pri), (3, .int .i64 F2.val), (4, .int .i64 F2.d0), (5, .int .i64 F2.d1), (6, .bool false), (7, .bool aok), (8, .float .f64 api), (9, .int .i64 av), (10, .int .i64 an)] = Wv := ⟨_, rfl⟩
    have hbv : But (fun j => j = vb) W2 Wv := by rw [← hWv]; exact setBox_but vb [(0, .int .i64 (t : Int)), (1, .int .i64 F2.kind), (2, .float .f64 F2.pri), (3, .int .i64 F2.val), (4, .int .i64 F2.d0), (5, .int .i64 F2.d1), (6, .bool false), (7, .bool aok), (8, .float .f64 api), (9, .int .i64 av), (10, .int .i64 an)] W2
    have hQV : BoxAt Wv vb [.int .i64 (t : Int), .int .i64 F2.kind, .float .f64 F2.pri, .int .i64 F2.val, .int .i64 F2.d0, .int .i64 F2.d1, .bool false, .bool aok, .float .f64 api, .int .i64 av, .int .i64 an] := by rw [← hWv]; exact (setBox_box [(0, .int .i64 (t : Int)), (1, .int .i64 F2.kind), (2, .float .f64 F2.pri), (3, .int .i64 F2.val), (4, .int .i64 F2.d0), (5, .int .i64 F2.d1), (6, .bool false), (7, .bool aok), (8, .float .f64 api), (9, .int .i64 av), (10, .int .i64 an)] hV2)
    dsimp only [setBox] at hWv
    have HWv := hidq hWv
    have HE := hidq (show PickEnd eb kind param 209 (.agg #[.int .i64 sh]) mb Q closed steps t fb O P (M2, F2, ⟨aok, api, av, an⟩, false) w (.returned (.tuple #[evV t F2 ⟨aok, api, av, an⟩ false, .bool true])) Wv.drew from by
      refine ⟨rfl, (hE2.but hbv (fun e => hne1 e.symm)).drew, O', P', (hM2.but hbv (fun k hk e => hvO k (.inl hk) e)).below (Below.refl _ _).drew, (hF2.but hbv (fun k hk e => hvO k (.inr hk) e)).below (Below.refl _ _).drew, hD', Er.Grown.up hGO2 hbv.size, Er.Grown.up hGP2 hbv.size, ((hchg2.then hbv (fun k hk e => by omega)).drew)⟩)
    have q0 := (hQV.get 0 _ rfl).1
    have q1 := (hQV.get 1 _ rfl).1
    have q2 := (hQV.get 2 _ rfl).1
    have q3 := (hQV.get 3 _ rfl).1
    have q4 := (hQV.get 4 _ rfl).1
    have q5 := (hQV.get 5 _ rfl).1
    have q6 := (hQV.get 6 _ rfl).1
    have q7 := (hQV.get 7 _ rfl).1
    have q8 := (hQV.get 8 _ rfl).1
    have q9 := (hQV.get 9 _ rfl).1
    have q10 := (hQV.get 10 _ rfl).1
    have HQZ := hidq (And.intro q0 (And.intro q1 (And.intro q2 (And.intro q3 (And.intro q4 (And.intro q5 (And.intro q6 (And.intro q7 (And.intro q8 (And.intro q9 q10))))))))))
    clear q0 q1 q2 q3 q4 q5 q6 q7 q8 q9 q10 hQV hbv hvb2 hWv
    obtain ⟨a0, k0, a1, k1, hFb, _⟩ := hF2.box
    obtain ⟨p0, _⟩ := hFb.get 0 _ rfl
    obtain ⟨p1, _⟩ := hFb.get 1 _ rfl
    obtain ⟨p2, _⟩ := hFb.get 2 _ rfl
    obtain ⟨p3, _⟩ := hFb.get 3 _ rfl
    obtain ⟨p4, _⟩ := hFb.get 4 _ rfl
    have hpl := hFb.lt
    obtain ⟨b0, _⟩ := hB2.get 0 _ rfl
    obtain ⟨b1, _⟩ := hB2.get 1 _ rfl
    obtain ⟨b2, _⟩ := hB2.get 2 _ rfl
    obtain ⟨b3, _⟩ := hB2.get 3 _ rfl
    have hbl := hB2.lt
    obtain ⟨v0, u0⟩ := hV2.get 0 _ rfl
    obtain ⟨v1, u1⟩ := hV2.get 1 _ rfl
    obtain ⟨v2, u2⟩ := hV2.get 2 _ rfl
    obtain ⟨v3, u3⟩ := hV2.get 3 _ rfl
    obtain ⟨v4, u4⟩ := hV2.get 4 _ rfl
    obtain ⟨v5, u5⟩ := hV2.get 5 _ rfl
    obtain ⟨v6, u6⟩ := hV2.get 6 _ rfl
    obtain ⟨v7, u7⟩ := hV2.get 7 _ rfl
    obtain ⟨v8, u8⟩ := hV2.get 8 _ rfl
    obtain ⟨v9, u9⟩ := hV2.get 9 _ rfl
    obtain ⟨v10, u10⟩ := hV2.get 10 _ rfl
    have hvl := hV2.lt
    clear hx0 hx1 hx2 hx3 hx hbx hM' hF' hD' hGO hGP hE1 hV1 hb01 hlt1 hne hlt hfb hEz hVz hne1 hne2 hfbP hneP hc2 hE2 hB2 hM2 hF2 hchg2 hGO2 hGP2 hFb hchg hgrw hvO hvb hV2
    go_wp2_with fail
    go_region
    rw [HWv.out]
    clear HZ HVO H1 HNE HQ HB HVB
    go_wp2_with fail
    obtain ⟨q0, q1, q2, q3, q4, q5, q6, q7, q8, q9, q10⟩ := HQZ.out
    exact bodyPost_ret (v := .tuple #[evV t F2 ⟨aok, api, av, an⟩ false, .bool true]) (by simp [results, Tryz.results35, go_sem, q0, q1, q2, q3, q4, q5, q6, q7, q8, q9, q10]) rfl HE.out
  | true =>
    obtain ⟨z4, y4⟩ := hE2.get (4 + t) _ (ecells_thread kind param 209 (.agg #[.int .i64 sh]) mb Q closed (((steps + 1 : Nat)) : Int) t ht6)
    rw [HQ.out] at z4
    have hel2 := hE2.lt
    obtain ⟨W3, hW3⟩ : ∃ W3, W2.setCell ⟨eb, 4 + t, none⟩ (.pointer none) = W3 := ⟨_, rfl⟩
    have hc3 : But (fun j => j = eb) W2 W3 := by rw [← hW3]; exact (But.refl (fun j => j = eb) W2).set1 eb (4 + t) rfl _
    have hE3 : BoxAt W3 eb (ecells kind param 209 (.agg #[.int .i64 sh]) mb (qset Q t none) closed (((steps + 1 : Nat)) : Int)) := by rw [← hW3]; exact (hE2.set (4 + t) (eptr none)).same (ecells_set kind param 209 (.agg #[.int .i64 sh]) mb Q closed (((steps + 1 : Nat)) : Int) t ht6 none)
    have hV3 := hV2.but hc3 hne1
    have hB3 := hB2.but hc3 hne2
    have hM3 := hM2.but hc3 (fun k hk e => hneP k (.inl hk) e)
    have hF3 := hF2.but hc3 (fun k hk e => hneP k (.inr hk) e)
    have hchg3 : But (fun k => O k ∨ P k ∨ k = eb) w W3 := hchg2.then hc3 (fun k _ e => .inr (.inr e))
    have hGO3 := Er.Grown.up hGO2 hc3.size
    have hGP3 := Er.Grown.up hGP2 hc3.size
    have hV2 := hV3
    have hvb2 := HVB.out
    obtain ⟨Wv, hWv⟩ : ∃ Wv, setBox W3 vb [(0, .int .i64 (t : Int)), (1, .int .i64 F2.kind), (2, .float .f64 F2.pri), (3, .int .i64 F2.val), (4, .int .i64 F2.d0), (5, .int .i64 F2.d1), (6, .bool true), (7, .bool aok), (8, .float .f64 api), (9, .int .i64 av), (10, .int .i64 an)] = Wv := ⟨_, rfl⟩
    have hbv : But (fun j => j = vb) W3 Wv := by rw [← hWv]; exact setBox_but vb [(0, .int .i64 (t : Int)), (1, .int .i64 F2.kind), (2, .float .f64 F2.pri), (3, .int .i64 F2.val), (4, .int .i64 F2.d0), (5, .int .i64 F2.d1), (6, .bool true), (7, .bool aok), (8, .float .f64 api), (9, .int .i64 av), (10, .int .i64 an)] W3
    have hQV : BoxAt Wv vb [.int .i64 (t : Int), .int .i64 F2.kind, .float .f64 F2.pri, .int .i64 F2.val, .int .i64 F2.d0, .int .i64 F2.d1, .bool true, .bool aok, .float .f64 api, .int .i64 av, .int .i64 an] := by rw [← hWv]; exact (setBox_box [(0, .int .i64 (t : Int)), (1, .int .i64 F2.kind), (2, .float .f64 F2.pri), (3, .int .i64 F2.val), (4, .int .i64 F2.d0), (5, .int .i64 F2.d1), (6, .bool true), (7, .bool aok), (8, .float .f64 api), (9, .int .i64 av), (10, .int .i64 an)] hV2)
    dsimp only [setBox] at hWv
    have HWv := hidq hWv
    have HE := hidq (show PickEnd eb kind param 209 (.agg #[.int .i64 sh]) mb Q closed steps t fb O P (M2, F2, ⟨aok, api, av, an⟩, true) w (.returned (.tuple #[evV t F2 ⟨aok, api, av, an⟩ true, .bool true])) Wv.drew from by
      refine ⟨rfl, (hE3.but hbv (fun e => hne1 e.symm)).drew, O', P', (hM3.but hbv (fun k hk e => hvO k (.inl hk) e)).below (Below.refl _ _).drew, (hF3.but hbv (fun k hk e => hvO k (.inr hk) e)).below (Below.refl _ _).drew, hD', Er.Grown.up hGO3 hbv.size, Er.Grown.up hGP3 hbv.size, ((hchg3.then hbv (fun k hk e => by omega)).drew)⟩)
    have q0 := (hQV.get 0 _ rfl).1
    have q1 := (hQV.get 1 _ rfl).1
    have q2 := (hQV.get 2 _ rfl).1
    have q3 := (hQV.get 3 _ rfl).1
    have q4 := (hQV.get 4 _ rfl).1
    have q5 := (hQV.get 5 _ rfl).1
    have q6 := (hQV.get 6 _ rfl).1
    have q7 := (hQV.get 7 _ rfl).1
    have q8 := (hQV.get 8 _ rfl).1
    have q9 := (hQV.get 9 _ rfl).1
    have q10 := (hQV.get 10 _ rfl).1
    have HQZ := hidq (And.intro q0 (And.intro q1 (And.intro q2 (And.intro q3 (And.intro q4 (And.intro q5 (And.intro q6 (And.intro q7 (And.intro q8 (And.intro q9 q10))))))))))
    clear q0 q1 q2 q3 q4 q5 q6 q7 q8 q9 q10 hQV hbv hvb2 hWv
    obtain ⟨a0, k0, a1, k1, hFb, _⟩ := hF3.box
    obtain ⟨p0, _⟩ := hFb.get 0 _ rfl
    obtain ⟨p1, _⟩ := hFb.get 1 _ rfl
    obtain ⟨p2, _⟩ := hFb.get 2 _ rfl
    obtain ⟨p3, _⟩ := hFb.get 3 _ rfl
    obtain ⟨p4, _⟩ := hFb.get 4 _ rfl
    have hpl := hFb.lt
    obtain ⟨b0, _⟩ := hB3.get 0 _ rfl
    obtain ⟨b1, _⟩ := hB3.get 1 _ rfl
    obtain ⟨b2, _⟩ := hB3.get 2 _ rfl
    obtain ⟨b3, _⟩ := hB3.get 3 _ rfl
    have hbl := hB3.lt
    obtain ⟨v0, u0⟩ := hV3.get 0 _ rfl
    obtain ⟨v1, u1⟩ := hV3.get 1 _ rfl
    obtain ⟨v2, u2⟩ := hV3.get 2 _ rfl
    obtain ⟨v3, u3⟩ := hV3.get 3 _ rfl
    obtain ⟨v4, u4⟩ := hV3.get 4 _ rfl
    obtain ⟨v5, u5⟩ := hV3.get 5 _ rfl
    obtain ⟨v6, u6⟩ := hV3.get 6 _ rfl
    obtain ⟨v7, u7⟩ := hV3.get 7 _ rfl
    obtain ⟨v8, u8⟩ := hV3.get 8 _ rfl
    obtain ⟨v9, u9⟩ := hV3.get 9 _ rfl
    obtain ⟨v10, u10⟩ := hV3.get 10 _ rfl
    have hvl := hV3.lt
    clear hx0 hx1 hx2 hx3 hx hbx hM' hF' hD' hGO hGP hE1 hV1 hb01 hlt1 hne hlt hfb hEz hVz hne1 hne2 hfbP hneP hc2 hE2 hB2 hM2 hF2 hchg2 hGO2 hGP2 hFb hchg hgrw hvO hvb hV2 hV3 hB3 hM3 hF3 hchg3 hGO3 hGP3 hE3 hc3
    go_wp2_with fail
    go_region
    rw [HWv.out]
    clear HZ HVO H1 HNE HQ HB HVB
    go_wp2_with fail
    obtain ⟨q0, q1, q2, q3, q4, q5, q6, q7, q8, q9, q10⟩ := HQZ.out
    exact bodyPost_ret (v := .tuple #[evV t F2 ⟨aok, api, av, an⟩ true, .bool true]) (by simp [results, Tryz.results35, go_sem, q0, q1, q2, q3, q4, q5, q6, q7, q8, q9, q10]) rfl HE.out
end Go.Proofs.YtdghgmaoamjnlaaGreat

namespace Go.Proofs.YtdghgmaoamjnlaaGreat.Flt
open Ieee

/-- The rung with its sign. -/
def srung (x : Nat) : Int := if x / 9223372036854775808 % 2 = 1 then -((x % 9223372036854775808 : Nat) : Int) else ((x % 9223372036854775808 : Nat) : Int)

def mag (r : Nat) : Nat := if r < 4503599627370496 then r else 4503599627370496 + r % 4503599627370496
def ex (r : Nat) : Nat := r / 4503599627370496 - 1
def val (r : Nat) : Nat := mag r * 2 ^ ex r

theorem val_succ (r : Nat) : val r < val (r + 1) := by
  unfold val mag ex
  by_cases h1 : r + 1 < 4503599627370496
  · have h2 : r < 4503599627370496 := by omega
    have e1 : r / 4503599627370496 - 1 = 0 := by omega
    have e2 : (r + 1) / 4503599627370496 - 1 = 0 := by omega
    rw [if_pos h2, if_pos h1, e1, e2]; omega
  · rw [if_neg h1]
    by_cases h2 : r < 4503599627370496
    · have e1 : r / 4503599627370496 - 1 = 0 := by omega
      have e2 : (r + 1) / 4503599627370496 - 1 = 0 := by omega
      have e3 : (r + 1) % 4503599627370496 = 0 := by omega
      rw [if_pos h2, e1, e2, e3]; omega
    · rw [if_neg h2]
      by_cases h3 : (r + 1) % 4503599627370496 = 0
      · have e2 : (r + 1) / 4503599627370496 - 1 = (r / 4503599627370496 - 1) + 1 := by omega
        have e3 : r % 4503599627370496 = 4503599627370495 := by omega
        rw [h3, e2, e3, Nat.pow_succ]
        have : 0 < 2 ^ (r / 4503599627370496 - 1) := Nat.two_pow_pos _
        generalize 2 ^ (r / 4503599627370496 - 1) = p at *
        omega
      · have e2 : (r + 1) / 4503599627370496 - 1 = r / 4503599627370496 - 1 := by omega
        have e3 : (r + 1) % 4503599627370496 = r % 4503599627370496 + 1 := by omega
        rw [e2, e3]
        have : 0 < 2 ^ (r / 4503599627370496 - 1) := Nat.two_pow_pos _
        exact Nat.mul_lt_mul_of_pos_right (by omega) this

theorem val_mono {r s : Nat} (h : r < s) : val r < val s := by
  induction s with
  | zero => omega
  | succ s ih =>
    by_cases e : r = s
    · subst e; exact val_succ r
    · exact Nat.lt_trans (ih (by omega)) (val_succ s)
theorem val_zero : val 0 = 0 := by simp [val, mag]
theorem val_lt_iff (r s : Nat) : val r < val s ↔ r < s := by
  constructor
  · intro h
    rcases Nat.lt_trichotomy r s with h1 | h1 | h1
    · exact h1
    · subst h1; omega
    · have := val_mono h1; omega
  · exact val_mono
theorem val_pos {r : Nat} (h : 0 < r) : 0 < val r := by have := val_mono h; omega

theorem read_num (x : Nat) (h : x % 9223372036854775808 < 9218868437227405312) :
    double.read x = .number (decide (x / 9223372036854775808 % 2 = 1)) (mag (x % 9223372036854775808)) (double.leastPlace + (ex (x % 9223372036854775808) : Nat)) := by
  unfold Format.read
  have e1 : double.signWeight = 9223372036854775808 := rfl
  have e2 : double.binade = 4503599627370496 := rfl
  have e3 : double.infRung = 9218868437227405312 := rfl
  simp only [e1, e2, e3]
  generalize x % 9223372036854775808 = r at *
  by_cases h1 : r < 4503599627370496
  · have e : r / 4503599627370496 - 1 = 0 := by omega
    simp [h1, mag, ex, e, BEq.beq]
  · simp [h1, h, mag, ex]
    rfl
theorem read_inf (x : Nat) (h : x % 9223372036854775808 = 9218868437227405312) : double.read x = .infinity (decide (x / 9223372036854775808 % 2 = 1)) := by
  unfold Format.read
  have e1 : double.signWeight = 9223372036854775808 := rfl
  have e2 : double.binade = 4503599627370496 := rfl
  have e3 : double.infRung = 9218868437227405312 := rfl
  simp only [e1, e2, e3, h]
  rfl
theorem read_nan (x : Nat) (h : 9218868437227405312 < x % 9223372036854775808) : ∃ s t, double.read x = .nan s t := by
  unfold Format.read
  have e1 : double.signWeight = 9223372036854775808 := rfl
  have e2 : double.binade = 4503599627370496 := rfl
  have e3 : double.infRung = 9218868437227405312 := rfl
  simp only [e1, e2, e3]
  rw [if_neg (by omega), if_neg (by omega), if_neg (by omega)]
  exact ⟨_, _, rfl⟩

theorem compare_int (a b : Int) : compare a b = if a < b then .lt else if a = b then .eq else .gt := rfl
theorem compare_scale (a b c d : Int) (h1 : a < b ↔ c < d) (h2 : a = b ↔ c = d) : compare a b = compare c d := by
  rw [compare_int, compare_int]; simp only [h1, h2]

def sval (s : Bool) (r : Nat) : Int := if s then -(val r : Int) else val r

theorem signed_scale (s : Bool) (r k : Nat) (hk : k ≤ ex r) : signed s (mag r) (ex r - k) * (2 ^ k : Nat) = sval s r := by
  have : mag r <<< (ex r - k) * 2 ^ k = val r := by
    rw [Nat.shiftLeft_eq, Nat.mul_assoc, ← Nat.pow_add, Nat.sub_add_cancel hk]; rfl
  unfold signed sval
  cases s
  · simp only [Bool.false_eq_true, if_false]; exact_mod_cast this
  · simp only [if_true]; rw [Int.neg_mul]; congr 1; exact_mod_cast this

theorem order_val (s t : Bool) (x y : Nat) : Datum.order (.number s (mag x) (double.leastPlace + (ex x : Nat))) (.number t (mag y) (double.leastPlace + (ex y : Nat))) = some (compare (sval s x) (sval t y)) := by
  unfold Datum.order
  simp only
  have e1 : (double.leastPlace + (ex x : Nat) - min (double.leastPlace + (ex x : Nat)) (double.leastPlace + (ex y : Nat))).toNat = ex x - min (ex x) (ex y) := by omega
  have e2 : (double.leastPlace + (ex y : Nat) - min (double.leastPlace + (ex x : Nat)) (double.leastPlace + (ex y : Nat))).toNat = ex y - min (ex x) (ex y) := by omega
  rw [e1, e2]
  have h1 := signed_scale s x (min (ex x) (ex y)) (Nat.min_le_left _ _)
  have h2 := signed_scale t y (min (ex x) (ex y)) (Nat.min_le_right _ _)
  have hp : (0 : Int) < ((2 ^ min (ex x) (ex y) : Nat) : Int) := by exact_mod_cast Nat.two_pow_pos _
  rw [← h1, ← h2]
  congr 1
  refine compare_scale _ _ _ _ ?_ ?_
  · exact (Int.mul_lt_mul_right hp).symm
  · exact (Int.mul_eq_mul_right_iff (by omega)).symm

theorem compare_sval (s t : Bool) (x y : Nat) : compare (sval s x) (sval t y) = compare (if s then -(x : Int) else x) (if t then -(y : Int) else y) := by
  have h1 := val_lt_iff x y
  have h2 := val_lt_iff y x
  have h3 : 0 < val x ↔ 0 < x := by have := val_lt_iff 0 x; rw [val_zero] at this; exact this
  have h4 : 0 < val y ↔ 0 < y := by have := val_lt_iff 0 y; rw [val_zero] at this; exact this
  refine compare_scale _ _ _ _ ?_ ?_ <;> cases s <;> cases t <;> simp only [sval, if_true, Bool.false_eq_true, if_false] <;> omega

theorem lt_of_word {x : Nat} (_h : x < 18446744073709551616) : x % 9223372036854775808 < 9223372036854775808 := by omega

/-- Of two that are numbers. -/
theorem order_eq (x y : Nat) (hx : x % 9223372036854775808 ≤ 9218868437227405312) (hy : y % 9223372036854775808 ≤ 9218868437227405312) :
    double.order x y = some (compare (srung x) (srung y)) := by
  unfold Format.order
  by_cases ix : x % 9223372036854775808 = 9218868437227405312
  · rw [read_inf x ix]
    by_cases iy : y % 9223372036854775808 = 9218868437227405312
    · rw [read_inf y iy]
      unfold srung
      rw [ix, iy]
      by_cases sx : x / 9223372036854775808 % 2 = 1 <;> by_cases sy : y / 9223372036854775808 % 2 = 1 <;> simp only [sx, sy, decide_true, decide_false, Datum.order, if_true, if_false] <;> rfl
    · rw [read_num y (by omega)]
      unfold srung
      rw [ix]
      by_cases sx : x / 9223372036854775808 % 2 = 1
      · simp only [sx, decide_true, Datum.order, if_true]
        rw [compare_int, if_pos (by split <;> omega)]
      · simp only [sx, decide_false, Datum.order, if_false, Bool.false_eq_true]
        rw [compare_int, if_neg (by split <;> omega), if_neg (by split <;> omega)]
  · rw [read_num x (by omega)]
    by_cases iy : y % 9223372036854775808 = 9218868437227405312
    · rw [read_inf y iy]
      unfold srung
      rw [iy]
      by_cases sy : y / 9223372036854775808 % 2 = 1
      · simp only [sy, decide_true, Datum.order, if_true]
        rw [compare_int, if_neg (by split <;> omega), if_neg (by split <;> omega)]
      · simp only [sy, decide_false, Datum.order, if_false, Bool.false_eq_true]
        rw [compare_int, if_pos (by split <;> omega)]
    · rw [read_num y (by omega), order_val, compare_sval]
      unfold srung
      congr 2
      · by_cases sx : x / 9223372036854775808 % 2 = 1 <;> simp only [sx, decide_true, decide_false, if_true, if_false, Bool.false_eq_true]
      · by_cases sy : y / 9223372036854775808 % 2 = 1 <;> simp only [sy, decide_true, decide_false, if_true, if_false, Bool.false_eq_true]
theorem order_nan_left (x y : Nat) (h : 9218868437227405312 < x % 9223372036854775808) : double.order x y = none := by
  obtain ⟨s, t, e⟩ := read_nan x h
  unfold Format.order; rw [e]; cases double.read y <;> rfl
theorem order_nan_right (x y : Nat) (h : 9218868437227405312 < y % 9223372036854775808) : double.order x y = none := by
  obtain ⟨s, t, e⟩ := read_nan y h
  unfold Format.order; rw [e]; cases double.read x <;> rfl
end Go.Proofs.YtdghgmaoamjnlaaGreat.Flt

namespace Go.Proofs.YtdghgmaoamjnlaaGreat.Top
open Go

theorem and_top (a : Nat) (h : a < 18446744073709551616) : a &&& 9223372036854775808 = a / 9223372036854775808 * 9223372036854775808 := by
  apply Nat.eq_of_testBit_eq
  intro i
  rw [Nat.testBit_and, show (9223372036854775808 : Nat) = 2 ^ 63 by decide, Nat.testBit_two_pow]
  have hc : a / 2 ^ 63 = 0 ∨ a / 2 ^ 63 = 1 := by rw [show (2 : Nat) ^ 63 = 9223372036854775808 by decide]; omega
  have ht : a.testBit 63 = decide (a / 2 ^ 63 % 2 = 1) := Nat.testBit_eq_decide_div_mod_eq
  rcases hc with h0 | h0
  · rw [h0, Nat.zero_mul, Nat.zero_testBit]
    by_cases hi : 63 = i
    · subst hi; rw [ht, h0]; rfl
    · simp [hi]
  · rw [h0, Nat.one_mul, Nat.testBit_two_pow]
    by_cases hi : 63 = i
    · subst hi; rw [ht, h0]; rfl
    · simp [hi]
theorem or_top (a : Nat) (h : a < 9223372036854775808) : a ||| 9223372036854775808 = a + 9223372036854775808 := by
  have e := Nat.two_pow_add_eq_or_of_lt (i := 63) (b := a) (by rw [show (2 : Nat) ^ 63 = 9223372036854775808 by decide]; exact h) 1
  rw [show (2 : Nat) ^ 63 = 9223372036854775808 by decide] at e
  rw [Nat.or_comm]; simp at e; omega
theorem xor_top_lo (a : Nat) (h : a < 9223372036854775808) : a ^^^ 9223372036854775808 = a + 9223372036854775808 := by
  rw [← or_top a h]
  apply Nat.eq_of_testBit_eq
  intro i
  rw [Nat.testBit_xor, Nat.testBit_or, show (9223372036854775808 : Nat) = 2 ^ 63 by decide, Nat.testBit_two_pow]
  by_cases hi : 63 = i
  · subst hi
    rw [Nat.testBit_lt_two_pow (by rw [show (2 : Nat) ^ 63 = 9223372036854775808 by decide]; exact h)]; rfl
  · simp [hi]
theorem xor_top_hi (a : Nat) (h : 9223372036854775808 ≤ a) (h2 : a < 18446744073709551616) : a ^^^ 9223372036854775808 = a - 9223372036854775808 := by
  have e := xor_top_lo (a - 9223372036854775808) (by omega)
  rw [show a - 9223372036854775808 + 9223372036854775808 = a by omega] at e
  generalize a - 9223372036854775808 = b at *
  rw [← e, Nat.xor_assoc, Nat.xor_self, Nat.xor_zero]
theorem andNot_top (a : Nat) : a &&& (18446744073709551615 - 9223372036854775808) = a % 9223372036854775808 := by
  have e := Nat.and_two_pow_sub_one_eq_mod a 63
  rw [show (2 : Nat) ^ 63 = 9223372036854775808 by decide] at e
  exact e

theorem u64_and_top (x : Int) (h0 : 0 ≤ x) (h1 : x < 18446744073709551616) : bits .and .u64 x 9223372036854775808 = x / 9223372036854775808 * 9223372036854775808 := by
  rw [u64_and x _ h0 h1 (by decide) (by decide), show (9223372036854775808 : Int).toNat = 9223372036854775808 from rfl, and_top _ (by omega)]; omega
theorem u64_or_top (x : Int) (h0 : 0 ≤ x) (h1 : x < 9223372036854775808) : bits .or .u64 x 9223372036854775808 = x + 9223372036854775808 := by
  rw [u64_or x _ h0 (by omega) (by decide) (by decide), show (9223372036854775808 : Int).toNat = 9223372036854775808 from rfl, or_top _ (by omega)]; omega
theorem u64_xor_lo (x : Int) (h0 : 0 ≤ x) (h1 : x < 9223372036854775808) : bits .xor .u64 x 9223372036854775808 = x + 9223372036854775808 := by
  rw [u64_xor x _ h0 (by omega) (by decide) (by decide), show (9223372036854775808 : Int).toNat = 9223372036854775808 from rfl, xor_top_lo _ (by omega)]; omega
theorem u64_xor_hi (x : Int) (h0 : 9223372036854775808 ≤ x) (h1 : x < 18446744073709551616) : bits .xor .u64 x 9223372036854775808 = x - 9223372036854775808 := by
  rw [u64_xor x _ (by omega) (by omega) (by decide) (by decide), show (9223372036854775808 : Int).toNat = 9223372036854775808 from rfl, xor_top_hi _ (by omega) (by omega)]; omega
theorem u64_not_top (x : Int) (h0 : 0 ≤ x) (h1 : x < 18446744073709551616) : bits .andNot .u64 x 9223372036854775808 = x % 9223372036854775808 := by
  rw [u64_andNot x _ h0 h1 (by decide) (by decide), show (9223372036854775808 : Int).toNat = 9223372036854775808 from rfl, andNot_top]; omega
theorem u64_flip (x : Int) (h0 : 0 ≤ x) (h1 : x < 18446744073709551616) : bits .xor .u64 IntKind.u64.max x = 18446744073709551615 - x := by
  rw [u64_xor _ x (by decide) (by decide) h0 h1, show (IntKind.u64.max).toNat = 2 ^ 64 - 1 from rfl]
  obtain ⟨n, rfl⟩ := Int.eq_ofNat_of_zero_le h0
  have hn : n < 2 ^ 64 := by rw [show (2 : Nat) ^ 64 = 18446744073709551616 by decide]; omega
  have e : (2 ^ 64 - 1) ^^^ n = 2 ^ 64 - 1 - n := by
    apply Nat.eq_of_testBit_eq
    intro i
    have e1 : 2 ^ 64 - 1 - n = 2 ^ 64 - (n + 1) := by omega
    rw [e1, Nat.testBit_two_pow_sub_succ hn, Nat.testBit_xor, Nat.testBit_two_pow_sub_one]
    by_cases hi : i < 64
    · simp [hi]
    · simp [hi]
      exact Nat.testBit_lt_two_pow (Nat.lt_of_lt_of_le hn (Nat.pow_le_pow_right (by decide) (by omega)))
  rw [Int.toNat_natCast, e]
  have : (2 : Nat) ^ 64 = 18446744073709551616 := by decide
  omega
end Go.Proofs.YtdghgmaoamjnlaaGreat.Top

namespace Go.Proofs.YtdghgmaoamjnlaaGreat
open Go.RowKit

/-- A number of bits as an integer, and back. -/
def ni (n : Nat) : Int := n
def nf (x : Int) : Nat := x.toNat
theorem ni_nf {x : Int} (h : 0 ≤ x) : ni (nf x) = x := Int.toNat_of_nonneg h
theorem nf_ni (n : Nat) : nf (ni n) = n := rfl

/-- Not a number. -/
def nanB (n : Nat) : Bool := decide (9218868437227405312 < n % 9223372036854775808)
theorem nanB_order (n : Nat) : (FloatKind.f64.format.order n n != some Ordering.eq) = nanB n := by
  show (Ieee.double.order n n != some Ordering.eq) = _
  unfold nanB
  by_cases h : 9218868437227405312 < n % 9223372036854775808
  · rw [Flt.order_nan_left n n h, decide_eq_true h]; rfl
  · rw [Flt.order_eq n n (by omega) (by omega), decide_eq_false h, Flt.compare_int, if_neg (by omega), if_pos rfl]; rfl

theorem run_bits (n : Nat) (w : World) : (callFunc 83 #[.float .f64 n]).run Tryz.prog w = .ok (.value (.int .u64 (ni n))) w := by
  rw [run_callFunc_extern (e := Extern.MathFloatBits.float64bits) Tryz.func83 (by kernel_rfl) (by kernel_rfl) (by kernel_rfl) (by kernel_rfl)]
  rfl
theorem run_frombits (x : Int) (w : World) : (callFunc 111 #[.int .u64 x]).run Tryz.prog w = .ok (.value (.float .f64 (nf x))) w := by
  rw [run_callFunc_extern (e := Extern.MathFloatBits.float64frombits) Tryz.func111 (by kernel_rfl) (by kernel_rfl) (by kernel_rfl) (by kernel_rfl)]
  rfl

theorem cisNaN64_any (x : Int) (w : World) : Calls Tryz.prog 147 #[.int .u64 x] w fun e w' => e = .returned (.bool false) ∧ w' = w := by
  go_enter Tryz.func147, Tryz.ntmps147
  go_wp2
  go_ret
  exact ⟨rfl, rfl⟩

theorem isNaN_any (n : Nat) (w : World) : Calls Tryz.prog 112 #[.float .f64 n] w fun e w' => e = .returned (.bool (nanB n)) ∧ w' = w := by
  go_enter Tryz.func112, Tryz.ntmps112
  have h := nanB_order n
  go_wp2
  go_ret
  exact ⟨rfl, rfl⟩

/-- Canonical bits. -/
def cbits (n : Nat) : Nat := if nanB n = true then 9221120237041090560 else n
theorem cbits_nan {n : Nat} (h : nanB n = true) : cbits n = 9221120237041090560 := if_pos h
theorem cbits_num {n : Nat} (h : nanB n = false) : cbits n = n := if_neg (by rw [h]; decide)
theorem cbits_lt {n : Nat} (h : n < 18446744073709551616) : cbits n < 18446744073709551616 := by
  unfold cbits; split <;> omega

theorem canon_any (n : Nat) (w : World) : Calls Tryz.prog 68 #[.float .f64 n] w fun e w' => e = .returned (.float .f64 (cbits n)) ∧ w' = w := by
  have h31 := run_frombits
  go_enter Tryz.func68, Tryz.ntmps68
  go_wp2_with (go_at_call 112; refine (isNaN_any _ _).mono ?_; rintro e w' ⟨rfl, rfl⟩)
  · have h : nanB n = true := by assumption
    go_ret
    exact ⟨by rw [cbits_nan h]; rfl, rfl⟩
  · have h : nanB n = false := by assumption
    go_ret
    exact ⟨by rw [cbits_num h]; rfl, rfl⟩

theorem canonBits_any (n : Nat) (w : World) : Calls Tryz.prog 148 #[.float .f64 n] w fun e w' => e = .returned (.int .u64 (ni (cbits n))) ∧ w' = w := by
  have h15 := run_bits
  go_enter Tryz.func148, Tryz.ntmps148
  go_wp2_with (go_at_call 68; refine (canon_any _ _).mono ?_; rintro e w' ⟨rfl, rfl⟩)
  go_ret
  exact ⟨rfl, rfl⟩

/-- The key of canonical bits. -/
def keyI (x : Int) : Int := if x < 9223372036854775808 then x + 9223372036854775808 else 18446744073709551615 - x
theorem keyI_lo {x : Int} (h : x < 9223372036854775808) : keyI x = x + 9223372036854775808 := if_pos h
theorem keyI_hi {x : Int} (h : ¬ x < 9223372036854775808) : keyI x = 18446744073709551615 - x := if_neg h
def key (n : Nat) : Int := keyI (ni (cbits n))
theorem ni_rng {n : Nat} (h : n < 18446744073709551616) : 0 ≤ ni n ∧ ni n < 18446744073709551616 := by unfold ni; omega
theorem key_rng {n : Nat} (h : n < 18446744073709551616) : 0 ≤ key n ∧ key n < 18446744073709551616 := by
  have := ni_rng (cbits_lt h)
  unfold key keyI; split <;> omega

theorem key_any (n : Nat) (w : World) (hn : n < 18446744073709551616) : Calls Tryz.prog 115 #[.float .f64 n] w fun e w' => e = .returned (.int .u64 (key n)) ∧ w' = w := by
  obtain ⟨x, hx⟩ : ∃ x, ni (cbits n) = x := ⟨_, rfl⟩
  have hr := ni_rng (cbits_lt hn)
  have hk : key n = keyI x := by unfold key; rw [hx]
  rw [hx] at hr
  rw [hk]
  obtain ⟨hx0, hx1⟩ := hr
  have ha := Top.u64_and_top x hx0 hx1
  by_cases hl : x < 9223372036854775808
  · have h0 : bits .and .u64 x 9223372036854775808 = 0 := by rw [ha]; omega
    rw [keyI_lo hl, ← Top.u64_or_top x hx0 hl]
    clear ha hk
    go_enter Tryz.func115, Tryz.ntmps115
    go_wp2_with (go_at_call 148; refine (canonBits_any _ _).mono ?_; rw [hx]; rintro e w' ⟨rfl, rfl⟩)
    go_ret
    exact ⟨rfl, rfl⟩
  · have h0 : bits .and .u64 x 9223372036854775808 = 9223372036854775808 := by rw [ha]; omega
    rw [keyI_hi hl, ← Top.u64_flip x hx0 hx1]
    clear ha hk
    go_enter Tryz.func115, Tryz.ntmps115
    go_wp2_with (go_at_call 148; refine (canonBits_any _ _).mono ?_; rw [hx]; rintro e w' ⟨rfl, rfl⟩)
    go_ret
    exact ⟨rfl, rfl⟩

/-- How two integers stand. -/
def cmpI (x y : Int) : Int := if x < y then -1 else if y < x then 1 else 0
theorem cmpI_lt {x y : Int} (h : x < y) : cmpI x y = -1 := if_pos h
theorem cmpI_gt {x y : Int} (h : y < x) : cmpI x y = 1 := by unfold cmpI; rw [if_neg (by omega), if_pos h]
theorem cmpI_eq {x y : Int} (h : x = y) : cmpI x y = 0 := by unfold cmpI; rw [if_neg (by omega), if_neg (by omega)]
theorem cmpI_rng (x y : Int) : -1 ≤ cmpI x y ∧ cmpI x y ≤ 1 := by unfold cmpI; split <;> (try split) <;> omega
theorem cmpI_neg (x y : Int) : cmpI y x = - cmpI x y := by unfold cmpI; split <;> split <;> (try split) <;> omega
theorem cmpI_le (x y : Int) : cmpI x y ≤ 0 ↔ x ≤ y := by unfold cmpI; split <;> (try split) <;> omega
theorem cmpI_zero (x y : Int) : cmpI x y = 0 ↔ x = y := by unfold cmpI; split <;> (try split) <;> omega
theorem cmpI_neg_iff (x y : Int) : cmpI x y < 0 ↔ x < y := by unfold cmpI; split <;> (try split) <;> omega
theorem cmpI_pos_iff (x y : Int) : 0 < cmpI x y ↔ y < x := by unfold cmpI; split <;> (try split) <;> omega
theorem cmpI_mone (x y : Int) : cmpI x y = -1 ↔ x < y := by unfold cmpI; split <;> (try split) <;> omega

theorem compare64_any (x y : Int) (w : World) : Calls Tryz.prog 114 #[.int .u64 x, .int .u64 y] w fun e w' => e = .returned (.int .i64 (cmpI x y)) ∧ w' = w := by
  have hc := cisNaN64_any
  rcases Int.lt_trichotomy x y with h | h | h
  · rw [cmpI_lt h]
    go_enter Tryz.func114, Tryz.ntmps114
    go_wp2_with (go_at_call 147; refine (cisNaN64_any _ _).mono ?_; rintro e w' ⟨rfl, rfl⟩)
    go_ret
    exact ⟨rfl, rfl⟩
  · rw [cmpI_eq h]
    subst h
    go_enter Tryz.func114, Tryz.ntmps114
    go_wp2_with (go_at_call 147; refine (cisNaN64_any _ _).mono ?_; rintro e w' ⟨rfl, rfl⟩)
    go_ret
    exact ⟨rfl, rfl⟩
  · rw [cmpI_gt h]
    have h' : ¬ x < y := by omega
    go_enter Tryz.func114, Tryz.ntmps114
    go_wp2_with (go_at_call 147; refine (cisNaN64_any _ _).mono ?_; rintro e w' ⟨rfl, rfl⟩)
    go_ret
    exact ⟨rfl, rfl⟩

theorem cmp_any (m n : Nat) (w : World) (hm : m < 18446744073709551616) (hn : n < 18446744073709551616) :
    Calls Tryz.prog 73 #[.float .f64 m, .float .f64 n] w fun e w' => e = .returned (.int .i64 (cmpI (key m) (key n))) ∧ w' = w := by
  go_enter Tryz.func73, Tryz.ntmps73
  go_wp2_with (first
    | (go_at_call 115; refine (key_any _ _ (by assumption)).mono ?_; rintro e w' ⟨rfl, rfl⟩)
    | (go_at_call 114; refine (compare64_any _ _ _).mono ?_; rintro e w' ⟨rfl, rfl⟩))
  go_ret
  exact ⟨rfl, rfl⟩

/-! The document's. -/
theorem rbits_any (x : Int) (w : World) (h0 : 0 ≤ x) (h1 : x < 18446744073709551616) : Calls Tryz.prog 113 #[.int .u64 x] w fun e w' => e = .returned (.int .u64 (ni (cbits (nf x)))) ∧ w' = w := by
  by_cases h : 9218868437227405312 < x % 9223372036854775808
  · have hb : nanB (nf x) = true := by unfold nanB nf; exact decide_eq_true (by omega)
    rw [cbits_nan hb]
    go_enter Tryz.func113, Tryz.ntmps113
    go_wp2
    go_ret
    exact ⟨rfl, rfl⟩
  · have hb : nanB (nf x) = false := by unfold nanB nf; exact decide_eq_false (by omega)
    rw [cbits_num hb, ni_nf h0]
    go_enter Tryz.func113, Tryz.ntmps113
    go_wp2
    go_ret
    exact ⟨rfl, rfl⟩

theorem nf_lt {x : Int} (h1 : x < 18446744073709551616) : nf x < 18446744073709551616 := by unfold nf; omega

theorem rkey_any (x : Int) (w : World) (h0 : 0 ≤ x) (h1 : x < 18446744073709551616) : Calls Tryz.prog 163 #[.int .u64 x] w fun e w' => e = .returned (.int .u64 (key (nf x))) ∧ w' = w := by
  obtain ⟨y, hy⟩ : ∃ y, ni (cbits (nf x)) = y := ⟨_, rfl⟩
  have hr := ni_rng (cbits_lt (nf_lt h1))
  have hk : key (nf x) = keyI y := by unfold key; rw [hy]
  rw [hy] at hr
  rw [hk]
  obtain ⟨hy0, hy1⟩ := hr
  clear hk
  have hB : ∀ w, Calls Tryz.prog 113 #[.int .u64 x] w fun e w' => e = .returned (.int .u64 y) ∧ w' = w := fun w => by rw [← hy]; exact rbits_any x w h0 h1
  clear hy
  by_cases hl : y < 9223372036854775808
  · rw [keyI_lo hl]
    have hl' : ¬ 9223372036854775808 ≤ y := by omega
    go_enter Tryz.func163, Tryz.ntmps163
    go_wp2_with (go_at_call 113; refine (hB _).mono ?_; rintro e w' ⟨rfl, rfl⟩)
    go_ret
    exact ⟨rfl, rfl⟩
  · rw [keyI_hi hl]
    have hl' : 9223372036854775808 ≤ y := by omega
    go_enter Tryz.func163, Tryz.ntmps163
    go_wp2_with (go_at_call 113; refine (hB _).mono ?_; rintro e w' ⟨rfl, rfl⟩)
    go_ret
    exact ⟨rfl, rfl⟩

theorem rcmp_any (x y : Int) (w : World) (h0 : 0 ≤ x) (h1 : x < 18446744073709551616) (h2 : 0 ≤ y) (h3 : y < 18446744073709551616) :
    Calls Tryz.prog 153 #[.int .u64 x, .int .u64 y] w fun e w' => e = .returned (.int .i64 (cmpI (key (nf x)) (key (nf y)))) ∧ w' = w := by
  obtain ⟨kk, hkk⟩ : ∃ kk : Int → Int, ∀ z, key (nf z) = kk z := ⟨_, fun _ => rfl⟩
  rw [hkk, hkk]
  have hR : ∀ z w, (z = x ∨ z = y) → Calls Tryz.prog 163 #[.int .u64 z] w fun e w' => e = .returned (.int .u64 (kk z)) ∧ w' = w := by
    rintro z w (rfl | rfl)
    · rw [← hkk]; exact rkey_any _ w h0 h1
    · rw [← hkk]; exact rkey_any _ w h2 h3
  clear h0 h1 h2 h3 hkk
  rcases Int.lt_trichotomy (kk x) (kk y) with h | h | h
  · rw [cmpI_lt h]
    go_enter Tryz.func153, Tryz.ntmps153
    go_wp2_with (go_at_call 163; refine (hR _ _ (by first | exact .inl rfl | exact .inr rfl)).mono ?_; rintro e w' ⟨rfl, rfl⟩)
    go_ret
    exact ⟨rfl, rfl⟩
  · rw [cmpI_eq h]
    go_enter Tryz.func153, Tryz.ntmps153
    go_wp2_with (go_at_call 163; refine (hR _ _ (by first | exact .inl rfl | exact .inr rfl)).mono ?_; rintro e w' ⟨rfl, rfl⟩)
    go_ret
    exact ⟨rfl, rfl⟩
  · rw [cmpI_gt h]
    have h' : decide (kk x < kk y) = false := decide_eq_false (by omega)
    go_enter Tryz.func153, Tryz.ntmps153
    go_wp2_with (go_at_call 163; refine (hR _ _ (by first | exact .inl rfl | exact .inr rfl)).mono ?_; rintro e w' ⟨rfl, rfl⟩)
    go_ret
    exact ⟨rfl, rfl⟩

theorem f_any (x : Int) (w : World) : Calls Tryz.prog 67 #[.int .u64 x] w fun e w' => e = .returned (.float .f64 (nf x)) ∧ w' = w := by
  have h31 := run_frombits
  go_enter Tryz.func67, Tryz.ntmps67
  go_wp2
  go_ret
  exact ⟨rfl, rfl⟩

def infN (s : Int) : Nat := if 0 ≤ s then 9218868437227405312 else 18442240474082181120
theorem infN_pos : infN 1 = 9218868437227405312 := rfl
theorem infN_neg : infN (-1) = 18442240474082181120 := rfl
end Go.Proofs.YtdghgmaoamjnlaaGreat

namespace Go.Proofs.YtdghgmaoamjnlaaGreat.Hp
open Go Go.Sort
variable {α : Type} [Inhabited α] (lt : α → α → Bool)

def Child (c p : Nat) : Prop := c = 2 * p + 1 ∨ c = 2 * p + 2
/-- All parents from k on have no lesser child. -/
def Heap (d : Array α) (n k : Nat) : Prop := ∀ p c, k ≤ p → Child c p → c < n → lt d[c]! d[p]! = false
/-- The same but at i, whose parent is no greater than its children. -/
structure Down (d : Array α) (n k i : Nat) : Prop where
  ok : ∀ p c, k ≤ p → p ≠ i → Child c p → c < n → lt d[c]! d[p]! = false
  up : ∀ p c, k ≤ p → Child i p → Child c i → c < n → lt d[c]! d[p]! = false
  le : k ≤ i
/-- All but j against its parent. -/
structure Up (d : Array α) (n j : Nat) : Prop where
  ok : ∀ p c, c ≠ j → Child c p → c < n → lt d[c]! d[p]! = false
  up : ∀ p c, Child j p → Child c j → c < n → lt d[c]! d[p]! = false

variable {lt}
theorem asym {β : Type} {lt : β → β → Bool} (hS : SWO lt) {x y : β} (h : lt x y = true) : lt y x = false := by
  cases e : lt y x
  · rfl
  · have := hS.trans x y x h e; rw [hS.irrefl] at this; cases this

theorem Down.start {d : Array α} {n k : Nat} (h : Heap lt d n (k + 1)) : Down lt d n k k :=
  ⟨fun p c hp hne hc hn => h p c (by omega) hc hn, fun p c hp hc => by unfold Child at hc; omega, Nat.le_refl _⟩
theorem Down.done {d : Array α} {n k i : Nat} (h : Down lt d n k i) (hi : n ≤ 2 * i + 1) : Heap lt d n k := by
  intro p c hp hc hn
  by_cases e : p = i
  · subst e; unfold Child at hc; omega
  · exact h.ok p c hp e hc hn
/-- c is the lesser child. -/
structure Least (lt : α → α → Bool) (d : Array α) (n i c : Nat) : Prop where
  child : Child c i
  inn : c < n
  le : ∀ o, Child o i → o < n → lt d[o]! d[c]! = false
theorem Down.stop (hS : SWO lt) {d : Array α} {n k i c : Nat} (h : Down lt d n k i) (hc : Least lt d n i c) (hl : lt d[c]! d[i]! = false) : Heap lt d n k := by
  intro p o hp ho hn
  by_cases e : p = i
  · subst e; exact hS.ntrans _ _ _ (hc.le o ho hn) hl
  · exact h.ok p o hp e ho hn
theorem Down.step (hS : SWO lt) {d : Array α} {n k i c : Nat} (h : Down lt d n k i) (hc : Least lt d n i c) (hl : lt d[c]! d[i]! = true) (hn : n ≤ d.size) : Down lt (swp d i c) n k c := by
  have hci : c ≠ i := by have := hc.child; unfold Child at this; omega
  have hcn := hc.inn
  have hcc := hc.child
  have hin : i < n := by unfold Child at hcc; omega
  have e1 : (swp d i c)[i]! = d[c]! := swp_left d i c (by omega) (by omega)
  have e2 : (swp d i c)[c]! = d[i]! := swp_right d i c (by omega)
  have e3 : ∀ x, x ≠ i → x ≠ c → (swp d i c)[x]! = d[x]! := fun x h1 h2 => swp_other d i c x h1 h2
  refine ⟨fun p o hp hpc ho hon => ?_, fun p o hp hcp ho hon => ?_, ?_⟩
  · by_cases ei : p = i
    · subst ei
      by_cases eo : o = c
      · subst eo; rw [e1, e2]; exact asym hS hl
      · have : o ≠ p := by unfold Child at ho; omega
        rw [e1, e3 o this eo]; exact hc.le o ho hon
    · rw [e3 p ei hpc]
      by_cases eo : o = i
      · subst eo; rw [e1]; exact h.up p c hp ho hc.child hc.inn
      · by_cases eo2 : o = c
        · subst eo2; exfalso; unfold Child at ho hcc; omega
        · rw [e3 o eo eo2]; exact h.ok p o hp ei ho hon
  · have ep : p = i := by unfold Child at hcp hcc; omega
    subst ep
    have o1 : o ≠ p := by unfold Child at ho hcc; omega
    have o2 : o ≠ c := by unfold Child at ho; omega
    rw [e1, e3 o o1 o2]
    exact h.ok c o (by have := h.le; unfold Child at hcc; omega) hci ho hon
  · have := h.le; unfold Child at hcc; omega

theorem Up.start {d : Array α} {n : Nat} (h : Heap lt d n 0) (x : α) (hn : n = d.size) : Up lt (d.push x) (n + 1) n := by
  refine ⟨fun p c hc hcp hcn => ?_, fun p c hp hc hcn => by unfold Child at hc; omega⟩
  have h1 : c < d.size := by omega
  have h2 : p < d.size := by unfold Child at hcp; omega
  have e : ∀ i, i < d.size → (d.push x)[i]! = d[i]! := fun i hi => by
    rw [getElem!_pos (d.push x) i (by simp; omega), getElem!_pos d i hi, Array.getElem_push_lt hi]
  rw [e c h1, e p h2]
  exact h p c (Nat.zero_le _) hcp (by omega)
theorem Up.top {d : Array α} {n : Nat} (h : Up lt d n 0) : Heap lt d n 0 := fun p c _ hc hn => h.ok p c (by unfold Child at hc; omega) hc hn
theorem Up.stop {d : Array α} {n j i : Nat} (h : Up lt d n j) (hi : Child j i) (hl : lt d[j]! d[i]! = false) : Heap lt d n 0 := by
  intro p c _ hc hn
  by_cases e : c = j
  · subst e
    have : p = i := by unfold Child at hc hi; omega
    subst this; exact hl
  · exact h.ok p c e hc hn
theorem Up.step (hS : SWO lt) {d : Array α} {n j i : Nat} (h : Up lt d n j) (hi : Child j i) (hl : lt d[j]! d[i]! = true) (hj : j < n) (hn : n ≤ d.size) : Up lt (swp d i j) n i := by
  have hij : i ≠ j := by unfold Child at hi; omega
  have hil : i < n := by unfold Child at hi; omega
  have e1 : (swp d i j)[i]! = d[j]! := swp_left d i j (by omega) hij
  have e2 : (swp d i j)[j]! = d[i]! := swp_right d i j (by omega)
  have e3 : ∀ x, x ≠ i → x ≠ j → (swp d i j)[x]! = d[x]! := fun x h1 h2 => swp_other d i j x h1 h2
  refine ⟨fun p c hci hc hcn => ?_, fun p c hp hc hcn => ?_⟩
  · by_cases ej : c = j
    · subst ej
      have : p = i := by unfold Child at hc hi; omega
      subst this
      rw [e1, e2]; exact asym hS hl
    · rw [e3 c hci ej]
      by_cases ep : p = i
      · subst ep
        rw [e1]
        have hh := h.ok p c ej hc hcn
        cases e : lt d[c]! d[j]!
        · rfl
        · have := hS.trans _ _ _ e hl; rw [hh] at this; cases this
      · by_cases ep2 : p = j
        · subst ep2; rw [e2]; exact h.up i c hi hc hcn
        · rw [e3 p ep ep2]; exact h.ok p c ej hc hcn
  · have p1 : p ≠ i := by unfold Child at hp; omega
    have p2 : p ≠ j := by unfold Child at hp hi; omega
    rw [e3 p p1 p2]
    have hip := h.ok p i hij hp hil
    by_cases ej : c = j
    · subst ej; rw [e2]; exact hip
    · have c1 : c ≠ i := by unfold Child at hc; omega
      rw [e3 c c1 ej]
      exact hS.ntrans _ _ _ (h.ok i c ej hc hcn) hip

/-- The first one is least. -/
theorem Heap.first (hS : SWO lt) {d : Array α} {n : Nat} (h : Heap lt d n 0) : ∀ i, i < n → lt d[i]! d[0]! = false := by
  intro i
  induction i using Nat.strongRecOn with
  | ind i ih =>
    intro hi
    by_cases e : i = 0
    · subst e; exact hS.irrefl _
    · have hc : Child i ((i - 1) / 2) := by unfold Child; omega
      exact hS.ntrans _ _ _ (h _ _ (Nat.zero_le _) hc hi) (ih ((i - 1) / 2) (by omega) (by omega))
theorem Heap.mono {d : Array α} {n m k : Nat} (h : Heap lt d n k) (hm : m ≤ n) : Heap lt d m k := fun p c hp hc hn => h p c hp hc (by omega)
theorem Heap.none {d : Array α} {n k : Nat} (h : n ≤ 2 * k + 1) : Heap lt d n k := fun p c hp hc hn => by unfold Child at hc; omega
/-- After the first and the last one are exchanged. -/
theorem Heap.swapped {d : Array α} {n : Nat} (h : Heap lt d (n + 1) 0) : Heap lt (swp d 0 n) n 1 := by
  intro p c hp hc hcn
  have h1 : c ≠ 0 := by unfold Child at hc; omega
  rw [swp_other d 0 n c h1 (by omega), swp_other d 0 n p (by omega) (by unfold Child at hc; omega)]
  exact h p c (Nat.zero_le _) hc (by omega)

theorem swp_perm (d : Array α) (i j : Nat) (hi : i < d.size) (hj : j < d.size) : (swp d i j).toList.Perm d.toList := by
  have := swp_permIn d 0 d.size i j (Nat.zero_le _) hi (Nat.zero_le _) hj (Nat.le_refl _)
  have h2 := this.2.2
  have e : (swp d i j).extract 0 d.size = swp d i j := by rw [← size_swp d i j]; exact Array.extract_size
  rw [e, Array.extract_size] at h2
  exact h2
end Go.Proofs.YtdghgmaoamjnlaaGreat.Hp

namespace Go.Proofs.YtdghgmaoamjnlaaGreat
open Go.RowKit Go.Sort

theorem cisNaNi_any (x : Int) (w : World) : Calls Tryz.prog 116 #[.int .i64 x] w fun e w' => e = .returned (.bool false) ∧ w' = w := by
  go_enter Tryz.func116, Tryz.ntmps116
  go_wp2
  go_ret
  exact ⟨rfl, rfl⟩
theorem comparei_any (x y : Int) (w : World) : Calls Tryz.prog 74 #[.int .i64 x, .int .i64 y] w fun e w' => e = .returned (.int .i64 (cmpI x y)) ∧ w' = w := by
  rcases Int.lt_trichotomy x y with h | h | h
  · rw [cmpI_lt h]
    go_enter Tryz.func74, Tryz.ntmps74
    go_wp2_with (go_at_call 116; refine (cisNaNi_any _ _).mono ?_; rintro e w' ⟨rfl, rfl⟩)
    go_ret
    exact ⟨rfl, rfl⟩
  · rw [cmpI_eq h]
    subst h
    go_enter Tryz.func74, Tryz.ntmps74
    go_wp2_with (go_at_call 116; refine (cisNaNi_any _ _).mono ?_; rintro e w' ⟨rfl, rfl⟩)
    go_ret
    exact ⟨rfl, rfl⟩
  · rw [cmpI_gt h]
    have h' : ¬ x < y := by omega
    go_enter Tryz.func74, Tryz.ntmps74
    go_wp2_with (go_at_call 116; refine (cisNaNi_any _ _).mono ?_; rintro e w' ⟨rfl, rfl⟩)
    go_ret
    exact ⟨rfl, rfl⟩


/-- How two items stand, by bits. -/
def cmpN (m : Nat) (a : Int) (n : Nat) (b : Int) : Int := if cmpI (key m) (key n) = 0 then cmpI a b else cmpI (key m) (key n)
theorem cmpN_same {m n : Nat} (h : cmpI (key m) (key n) = 0) (a b : Int) : cmpN m a n b = cmpI a b := if_pos h
theorem cmpN_other {m n : Nat} (h : ¬ cmpI (key m) (key n) = 0) (a b : Int) : cmpN m a n b = cmpI (key m) (key n) := if_neg h

/-- An item in a box. -/
abbrev boxI (m : Nat) (a : Int) : Obj := .cells #[.float .f64 m, .int .i64 a] 53

theorem icmp_any (m n : Nat) (a b : Int) (w : World) (hm : m < 18446744073709551616) (hn : n < 18446744073709551616) :
    Calls Tryz.prog 28 #[.agg #[.float .f64 m, .int .i64 a], .agg #[.float .f64 n, .int .i64 b]] w fun e w' => e = .returned (.int .i64 (cmpN m a n b)) ∧ w' = (w.alloc (boxI m a)).alloc (boxI n b) := by
  have hC := fun w => cmp_any m n w hm hn
  obtain ⟨c, hc⟩ : ∃ c, cmpI (key m) (key n) = c := ⟨_, rfl⟩
  by_cases h0 : c = 0
  · rw [cmpN_same (by rw [hc]; exact h0)]
    subst h0
    rw [hc] at hC
    clear hc hm hn
    go_enter Tryz.func28, Tryz.ntmps28
    go_wp2_with (first
      | (go_at_call 73; refine (hC _).mono ?_; rintro e w1 ⟨rfl, hw1⟩; replace hw1 := hw1.symm; subst hw1)
      | (go_at_call 74; refine (comparei_any _ _ _).mono ?_; rintro e w1 ⟨rfl, hw1⟩; replace hw1 := hw1.symm; subst hw1))
    go_ret
    exact ⟨rfl, rfl⟩
  · rw [cmpN_other (by rw [hc]; exact h0), hc]
    have hb : (c != 0) = true := by simpa using h0
    rw [hc] at hC
    clear hc hm hn
    go_enter Tryz.func28, Tryz.ntmps28
    go_wp2_with (first
      | (go_at_call 73; refine (hC _).mono ?_; rintro e w1 ⟨rfl, hw1⟩; replace hw1 := hw1.symm; subst hw1))
    go_ret
    exact ⟨rfl, rfl⟩

theorem icanon_any (m : Nat) (a : Int) (w : World) :
    Calls Tryz.prog 21 #[.agg #[.float .f64 m, .int .i64 a]] w fun e w' => e = .returned (.agg #[.float .f64 (cbits m), .int .i64 a]) ∧ Below w.heap.size w w' := by
  have hsf := run_store_float (P := Tryz.prog)
  go_enter Tryz.func21, Tryz.ntmps21
  go_wp2_with (go_at_call 68; refine (canon_any _ _).mono ?_; rintro e w1 ⟨rfl, hw1⟩; replace hw1 := hw1.symm; subst hw1)
  exact bodyPost_ret (v := .agg #[.float .f64 (cbits m), .int .i64 a]) (by simp [results, Tryz.results21, go_sem]) rfl ⟨rfl, ((Below.refl _ _).alloc (Nat.le_refl _) _).alloc (by simp) _⟩
end Go.Proofs.YtdghgmaoamjnlaaGreat

namespace Go.Proofs.YtdghgmaoamjnlaaGreat
open Go.RowKit Go.Sort

/-- A canonical item: none is that of bits 0 and value 0. -/
abbrev KI := Option { p : Nat × Int // (p.1 < 18446744073709551616 ∧ cbits p.1 = p.1) ∧ p ≠ (0, 0) }
def KI.b (x : KI) : Nat := match x with | none => 0 | some p => p.1.1
def KI.v (x : KI) : Int := match x with | none => 0 | some p => p.1.2
theorem KI.ok (x : KI) : x.b < 18446744073709551616 ∧ cbits x.b = x.b := by
  match x with
  | none => exact ⟨by decide, by decide⟩
  | some p => exact p.2.1
theorem KI.ext' {x y : KI} (hb : x.b = y.b) (hv : x.v = y.v) : x = y := by
  match x, y with
  | none, none => rfl
  | none, some q => exact absurd (Prod.ext hb.symm hv.symm) q.2.2
  | some p, none => exact absurd (Prod.ext hb hv) p.2.2
  | some p, some q => exact congrArg some (Subtype.ext (Prod.ext hb hv))
def KI.of (b : Nat) (v : Int) (ok : b < 18446744073709551616 ∧ cbits b = b) : KI := if h : (b, v) = (0, 0) then none else some ⟨(b, v), ok, h⟩
theorem KI.of_b (b : Nat) (v : Int) (ok : b < 18446744073709551616 ∧ cbits b = b) : (KI.of b v ok).b = b := by
  unfold KI.of
  split
  case isTrue h => injection h with h1 h2; exact h1.symm
  case isFalse h => rfl
theorem KI.of_v (b : Nat) (v : Int) (ok : b < 18446744073709551616 ∧ cbits b = b) : (KI.of b v ok).v = v := by
  unfold KI.of
  split
  case isTrue h => injection h with h1 h2; exact h2.symm
  case isFalse h => rfl
def KI.lt (x y : KI) : Bool := decide (cmpN x.b x.v y.b y.v < 0)
theorem key_canon {m n : Nat} (hm : m < 18446744073709551616 ∧ cbits m = m) (hn : n < 18446744073709551616 ∧ cbits n = n) (h : key m = key n) : m = n := by
  unfold key keyI ni at h
  rw [hm.2, hn.2] at h
  split at h <;> split at h <;> omega
theorem cmpN_lt (m n : Nat) (a b : Int) : cmpN m a n b < 0 ↔ key m < key n ∨ (key m = key n ∧ a < b) := by
  unfold cmpN
  have h1 := cmpI_neg_iff (key m) (key n)
  have h2 := cmpI_zero (key m) (key n)
  have h3 := cmpI_neg_iff a b
  generalize cmpI (key m) (key n) = c at *
  generalize key m = p at *
  generalize key n = q at *
  split
  · rw [h3]
    constructor
    · intro h; exact .inr ⟨h2.1 ‹_›, h⟩
    · rintro (h | h)
      · omega
      · exact h.2
  · rw [h1]
    constructor
    · intro h; exact .inl h
    · rintro (h | h)
      · exact h
      · exact absurd (h2.2 h.1) ‹_›
theorem KI.lt_iff (x y : KI) : x.lt y = true ↔ key x.b < key y.b ∨ (key x.b = key y.b ∧ x.v < y.v) := by
  unfold KI.lt; rw [decide_eq_true_eq, cmpN_lt]
theorem KI.lt_false (x y : KI) : x.lt y = false ↔ ¬ (key x.b < key y.b ∨ (key x.b = key y.b ∧ x.v < y.v)) := by
  rw [← KI.lt_iff]; cases x.lt y <;> simp
theorem KI.swo : SWO KI.lt where
  irrefl x := by rw [KI.lt_false]; omega
  trans x y z h1 h2 := by
    rw [KI.lt_iff] at *
    generalize key x.b = p at *; generalize key y.b = q at *; generalize key z.b = r at *
    omega
  ntrans x y z h1 h2 := by
    rw [KI.lt_false] at *
    generalize key x.b = p at *; generalize key y.b = q at *; generalize key z.b = r at *
    omega
theorem KI.total (x y : KI) (h1 : x.lt y = false) (h2 : y.lt x = false) : x = y := by
  rw [KI.lt_false] at h1 h2
  have hk : key x.b = key y.b := by
    generalize key x.b = p at *; generalize key y.b = q at *; omega
  have hb := key_canon x.ok y.ok hk
  have hv : x.v = y.v := by
    rw [hk] at h1 h2; omega
  exact KI.ext' hb hv

theorem cbits_idem (n : Nat) : cbits (cbits n) = cbits n := by
  cases h : nanB n
  · rw [cbits_num h, cbits_num h]
  · rw [cbits_nan h]; decide
/-- Made canonical. -/
def mkKI (p : Nat) (v : Int) : KI := if h : p < 18446744073709551616 then KI.of (cbits p) v ⟨cbits_lt h, cbits_idem p⟩ else none
theorem mkKI_b {p : Nat} (h : p < 18446744073709551616) (v : Int) : (mkKI p v).b = cbits p := by unfold mkKI; rw [dif_pos h]; exact KI.of_b _ _ _
theorem mkKI_v {p : Nat} (h : p < 18446744073709551616) (v : Int) : (mkKI p v).v = v := by unfold mkKI; rw [dif_pos h]; exact KI.of_v _ _ _
theorem mkKI_self (x : KI) : mkKI x.b x.v = x := by
  have h1 := mkKI_b x.ok.1 x.v
  rw [x.ok.2] at h1
  exact KI.ext' h1 (mkKI_v x.ok.1 x.v)
def kiOf (P V : Nat → Int) (i : Nat) : KI := mkKI (nf (P i)) (V i)
end Go.Proofs.YtdghgmaoamjnlaaGreat

namespace Go.Proofs.YtdghgmaoamjnlaaGreat
open Go.RowKit Go.Sort

/-- Block g holds a row of items with room for cap. -/
structure Row (w : World) (g cap : Nat) (d : Array KI) : Prop where
  lt : g < w.heap.size
  le : d.size ≤ cap
  max : d.size ≤ 1099511627776
  cmax : cap ≤ maxLen
  flt : ∀ i, i < d.size → w.cell? ⟨g, i * 2, none⟩ = some (.float .f64 d[i]!.b)
  val : ∀ i, i < d.size → w.cell? ⟨g, i * 2 + 1, none⟩ = some (.int .i64 d[i]!.v)
  there : ∀ j, j < cap * 2 → (w.cell? ⟨g, j, none⟩).isSome = true ∧ w.frozen? ⟨g, j, none⟩ = false

theorem less_any (g cap i j : Nat) (d : Array KI) (w : World) (h : Row w g cap d) (hi : i < d.size) (hj : j < d.size) :
    Calls Tryz.prog 240 #[.slice (some ⟨g, 0, none⟩) d.size cap, .int .i64 (i : Int), .int .i64 (j : Int)] w fun e w' => e = .returned (.bool (d[i]!.lt d[j]!)) ∧ Below w.heap.size w w' := by
  have f1 := h.flt i hi
  have f2 := h.flt j hj
  have v1 := h.val i hi
  have v2 := h.val j hj
  generalize d[i]! = x at *
  generalize d[j]! = y at *
  have hN := h.max
  have hle := h.le
  obtain ⟨n, hn⟩ : ∃ n, d.size = n := ⟨_, rfl⟩
  rw [hn] at hi hj hle hN ⊢
  have i1 : (i : Int) < (n : Int) := by omega
  have j1 : (j : Int) < (n : Int) := by omega
  have hC := fun w => icmp_any x.b y.b x.v y.v w x.ok.1 y.ok.1
  obtain ⟨c, hc⟩ : ∃ c, cmpN x.b x.v y.b y.v = c := ⟨_, rfl⟩
  rw [hc] at hC
  have hl : x.lt y = decide (c < 0) := by unfold KI.lt; rw [hc]
  rw [hl]
  clear hl hc hn h
  go_enter Tryz.func240, Tryz.ntmps240
  go_wp2
  go_region_with (go_at_call 28; refine (hC _).mono ?_; rintro e w1 ⟨rfl, rfl⟩)
  all_goals go_wp2
  all_goals go_ret
  all_goals exact ⟨rfl, (((Below.refl _ _).alloc (Nat.le_refl _) _).alloc (by simp) _).drew⟩

theorem Row.but {S : Nat → Prop} {w w' : World} {g cap : Nat} {d : Array KI} (h : Row w g cap d) (hb : But S w w') (hS : ¬ S g) : Row w' g cap d :=
  ⟨Nat.lt_of_lt_of_le h.lt hb.size, h.le, h.max, h.cmax, fun i hi => by rw [hb.cell (p := ⟨g, i * 2, none⟩) h.lt hS]; exact h.flt i hi,
   fun i hi => by rw [hb.cell (p := ⟨g, i * 2 + 1, none⟩) h.lt hS]; exact h.val i hi,
   fun j hj => by rw [hb.cell (p := ⟨g, j, none⟩) h.lt hS, hb.frozen (p := ⟨g, j, none⟩) h.lt hS]; exact h.there j hj⟩

/-- One item is laid over another one. -/
theorem Row.set {w : World} {g cap : Nat} {d : Array KI} (h : Row w g cap d) (i : Nat) (hi : i < d.size) (x : KI) :
    Row ((w.setCell ⟨g, i * 2, none⟩ (.float .f64 x.b)).setCell ⟨g, i * 2 + 1, none⟩ (.int .i64 x.v)) g cap (d.setIfInBounds i x) := by
  have s1 : (w.cell? ⟨g, i * 2, none⟩).isSome = true := by rw [h.flt i hi]; rfl
  have hne : ∀ a b : Nat, a ≠ b → (⟨g, a, none⟩ : Addr) ≠ ⟨g, b, none⟩ := fun a b hab e => by injection e; omega
  have s2 : ((w.setCell ⟨g, i * 2, none⟩ (.float .f64 x.b)).cell? ⟨g, i * 2 + 1, none⟩).isSome = true := by
    rw [World.cell?_setCell_other _ _ _ _ (hne _ _ (by omega)), h.val i hi]; rfl
  have gx : ∀ k, k < d.size → (d.setIfInBounds i x)[k]! = if k = i then x else d[k]! := fun k hk => by
    rw [getElem!_pos (d.setIfInBounds i x) k (by simpa using hk), getElem!_pos d k hk, Array.getElem_setIfInBounds (by simpa using hk)]
    by_cases e : i = k
    · subst e; simp
    · rw [if_neg e, if_neg (Ne.symm e)]
  refine ⟨by rw [World.size_setCell, World.size_setCell]; exact h.lt, by simpa using h.le, by simpa using h.max, h.cmax, fun k hk => ?_, fun k hk => ?_, fun j hj => ⟨?_, ?_⟩⟩
  · have hk' : k < d.size := by simpa using hk
    rw [gx k hk', World.cell?_setCell_other _ _ _ _ (hne _ _ (by omega))]
    by_cases e : k = i
    · subst e; rw [if_pos rfl, World.cell?_setCell_same' _ _ _ s1]
    · rw [if_neg e, World.cell?_setCell_other _ _ _ _ (hne _ _ (by omega))]; exact h.flt k hk'
  · have hk' : k < d.size := by simpa using hk
    rw [gx k hk']
    by_cases e : k = i
    · subst e; rw [if_pos rfl, World.cell?_setCell_same' _ _ _ s2]
    · rw [if_neg e, World.cell?_setCell_other _ _ _ _ (hne _ _ (by omega)), World.cell?_setCell_other _ _ _ _ (hne _ _ (by omega))]; exact h.val k hk'
  · by_cases e2 : j = i * 2 + 1
    · subst e2; rw [World.cell?_setCell_same' _ _ _ s2]; rfl
    · rw [World.cell?_setCell_other _ _ _ _ (hne _ _ (Ne.symm e2))]
      by_cases e1 : j = i * 2
      · subst e1; rw [World.cell?_setCell_same' _ _ _ s1]; rfl
      · rw [World.cell?_setCell_other _ _ _ _ (hne _ _ (Ne.symm e1))]; exact (h.there j hj).1
  · rw [World.frozen?_setCell, World.frozen?_setCell]; exact (h.there j hj).2

theorem but4 (w : World) (g a b c e : Nat) (v1 v2 v3 v4 : Value) : But (fun k => k = g) w (((((w.setCell ⟨g, a, none⟩ v1).setCell ⟨g, b, none⟩ v2).setCell ⟨g, c, none⟩ v3).setCell ⟨g, e, none⟩ v4).drew) :=
  (((((But.refl (fun k => k = g) w).set1 g a rfl v1).set1 g b rfl v2).set1 g c rfl v3).set1 g e rfl v4).drew

theorem swap_any (I J : Int) (g cap i j : Nat) (d : Array KI) (w : World) (hI : I = (i : Int)) (hJ : J = (j : Int)) (h : Row w g cap d) (hi : i < d.size) (hj : j < d.size) (hij : i ≠ j) :
    Calls Tryz.prog 241 #[.slice (some ⟨g, 0, none⟩) d.size cap, .int .i64 I, .int .i64 J] w fun e w' => e = .returned (.tuple #[]) ∧ Row w' g cap (swp d i j) ∧ But (fun k => k = g) w w' := by
  subst hI; subst hJ
  have hend : Row (((((w.setCell ⟨g, i * 2, none⟩ (.float .f64 d[j]!.b)).setCell ⟨g, i * 2 + 1, none⟩ (.int .i64 d[j]!.v)).setCell ⟨g, j * 2, none⟩ (.float .f64 d[i]!.b)).setCell ⟨g, j * 2 + 1, none⟩ (.int .i64 d[i]!.v)).drew) g cap (swp d i j) := by
    have h2 := (h.set i hi d[j]!).set j (by simpa using hj) d[i]!
    exact h2.but (S := fun _ => False) (But.refl _ _).drew id
  have f1 := h.flt i hi
  have f2 := h.flt j hj
  have v1 := h.val i hi
  have v2 := h.val j hj
  generalize d[i]! = x at *
  generalize d[j]! = y at *
  have hN := h.max
  have hle := h.le
  have z1 := (h.there (i * 2) (by omega)).2
  have z2 := (h.there (i * 2 + 1) (by omega)).2
  have z3 := (h.there (j * 2) (by omega)).2
  have z4 := (h.there (j * 2 + 1) (by omega)).2
  clear h
  generalize swp d i j = d2 at hend ⊢
  generalize d.size = n at *
  have i1 : (i : Int) < (n : Int) := by omega
  have j1 : (j : Int) < (n : Int) := by omega
  have hsf := run_store_float (P := Tryz.prog)
  have n1 : ¬ i * 2 = j * 2 := by omega
  have n2 : ¬ i * 2 = j * 2 + 1 := by omega
  have n3 : ¬ i * 2 + 1 = j * 2 := by omega
  have n4 : ¬ i * 2 + 1 = j * 2 + 1 := by omega
  go_enter Tryz.func241, Tryz.ntmps241
  go_wp2
  go_region
  go_wp2
  go_end0
  exact ⟨rfl, hend, but4 _ _ _ _ _ _ _ _ _ _⟩
end Go.Proofs.YtdghgmaoamjnlaaGreat

namespace Go.Proofs.YtdghgmaoamjnlaaGreat
open Go.RowKit Go.Sort

theorem via (b : Nat) (name : String) (f : Nat) (w : World) (v : Value) (h : w.cell? ⟨b, 0, none⟩ = some v)
    (hm : (method 430 310 (.pointer (some ⟨b, 0, none⟩)) name).run Tryz.prog w = (Sem.load .plain ⟨b, 0, none⟩ fun v => pure (f, v)).run Tryz.prog w) :
    (method 430 310 (.pointer (some ⟨b, 0, none⟩)) name).run Tryz.prog w = .ok (f, v) w := by
  rw [hm]
  simp only [Sem.run, h]
  rfl
theorem mLen (b : Nat) (w : World) (v : Value) (h : w.cell? ⟨b, 0, none⟩ = some v) : (method 430 310 (.pointer (some ⟨b, 0, none⟩)) "Len").run Tryz.prog w = .ok (239, v) w :=
  via b "Len" 239 w v h (by kernel_rfl)
theorem mLess (b : Nat) (w : World) (v : Value) (h : w.cell? ⟨b, 0, none⟩ = some v) : (method 430 310 (.pointer (some ⟨b, 0, none⟩)) "Less").run Tryz.prog w = .ok (240, v) w :=
  via b "Less" 240 w v h (by kernel_rfl)
theorem mSwap (b : Nat) (w : World) (v : Value) (h : w.cell? ⟨b, 0, none⟩ = some v) : (method 430 310 (.pointer (some ⟨b, 0, none⟩)) "Swap").run Tryz.prog w = .ok (241, v) w :=
  via b "Swap" 241 w v h (by kernel_rfl)
theorem mPush (b : Nat) (w : World) : (method 430 310 (.pointer (some ⟨b, 0, none⟩)) "Push").run Tryz.prog w = .ok (243, .pointer (some ⟨b, 0, none⟩)) w := by kernel_rfl
theorem mPop (b : Nat) (w : World) : (method 430 310 (.pointer (some ⟨b, 0, none⟩)) "Pop").run Tryz.prog w = .ok (242, .pointer (some ⟨b, 0, none⟩)) w := by kernel_rfl
end Go.Proofs.YtdghgmaoamjnlaaGreat

namespace Go.Proofs.YtdghgmaoamjnlaaGreat
open Go.RowKit Go.Sort

/-- Block b is a pile whose items lie in block g. -/
structure PileAt (w : World) (b g cap : Nat) (d : Array KI) : Prop where
  hd : w.cell? ⟨b, 0, none⟩ = some (.slice (some ⟨g, 0, none⟩) d.size cap)
  fz : w.frozen? ⟨b, 0, none⟩ = false
  ne : b ≠ g
  blt : b < w.heap.size
  row : Row w g cap d
theorem PileAt.but {S : Nat → Prop} {w w' : World} {b g cap : Nat} {d : Array KI} (h : PileAt w b g cap d) (hb : But S w w') (h1 : ¬ S b) (h2 : ¬ S g) : PileAt w' b g cap d :=
  ⟨by rw [hb.cell (p := ⟨b, 0, none⟩) h.blt h1]; exact h.hd, by rw [hb.frozen (p := ⟨b, 0, none⟩) h.blt h1]; exact h.fz, h.ne, Nat.lt_of_lt_of_le h.blt hb.size, h.row.but hb h2⟩
theorem PileAt.rows {w w' : World} {b g cap : Nat} {d d' : Array KI} (h : PileAt w b g cap d) (hb : But (fun k => k = g) w w') (hr : Row w' g cap d') (hs : d'.size = d.size) : PileAt w' b g cap d' :=
  ⟨by rw [hb.cell (p := ⟨b, 0, none⟩) h.blt h.ne, hs]; exact h.hd, by rw [hb.frozen (p := ⟨b, 0, none⟩) h.blt h.ne]; exact h.fz, h.ne, Nat.lt_of_lt_of_le h.blt hb.size, hr⟩

theorem less_at (I J : Int) (g cap i j : Nat) (d : Array KI) (w : World) (hI : I = (i : Int)) (hJ : J = (j : Int)) (h : Row w g cap d) (hi : i < d.size) (hj : j < d.size) :
    Calls Tryz.prog 240 #[.slice (some ⟨g, 0, none⟩) d.size cap, .int .i64 I, .int .i64 J] w fun e w' => e = .returned (.bool (d[i]!.lt d[j]!)) ∧ Below w.heap.size w w' := by
  subst hI; subst hJ; exact less_any g cap i j d w h hi hj

/-- What sifting down leaves. -/
structure Sift (w w' : World) (b g cap n : Nat) (d d' : Array KI) : Prop where
  pile : PileAt w' b g cap d'
  but : But (fun k => k = g) w w'
  perm : d'.toList.Perm d.toList
  rest : ∀ x, n ≤ x → d'[x]! = d[x]!
theorem Sift.size {w w' : World} {b g cap n : Nat} {d d' : Array KI} (h : Sift w w' b g cap n d d') : d'.size = d.size := by
  have := h.perm.length_eq; simpa using this

set_option maxHeartbeats 1000000 in
theorem down_any (b g cap n i0 : Nat) (d : Array KI) (w : World) (h : PileAt w b g cap d) (hn : n ≤ d.size) (hh : Hp.Heap KI.lt d n (i0 + 1)) (hi0 : i0 ≤ n) :
    Calls Tryz.prog 216 #[.iface 310 (.pointer (some ⟨b, 0, none⟩)), .int .i64 (i0 : Int), .int .i64 (n : Int)] w fun e w' => (∃ r, e = .returned (.bool r)) ∧ ∃ d', Sift w w' b g cap n d d' ∧ Hp.Heap KI.lt d' n i0 := by
  have hmax := h.row.max
  have hle := h.row.le
  have hn40 : (n : Int) ≤ 1099511627776 := by omega
  go_enter Tryz.func216, Tryz.ntmps216
  go_wp2
  go_loopw [7] (fun a wr => ∃ (i : Nat) (d' : Array KI), a = .int .i64 (i : Int) ∧ i ≤ n ∧ Sift w wr b g cap n d d' ∧ Hp.Down KI.lt d' n i0 i) (fun a _ => n - (intOf a).toNat)
  case atStart => exact ⟨i0, d, rfl, hi0, ⟨h, But.refl _ _, List.Perm.refl _, fun _ _ => rfl⟩, Hp.Down.start hh⟩
  case round =>
    obtain ⟨i, d', rfl, hin, hS, hD⟩ := hrel
    by_cases hj1 : 2 * i + 1 < n
    · have hnd : n ≤ d'.size := by rw [hS.size]; exact hn
      have hP := hS.pile
      have hdn : decide ((n : Int) ≤ 2 * (i : Int) + 1) = false := decide_eq_false (by omega)
      have hdz : decide (2 * (i : Int) + 1 < 0) = false := decide_eq_false (by omega)
      by_cases hj2 : 2 * i + 2 < n
      · have h2n : 2 * (i : Int) + 1 + 1 < (n : Int) := by omega
        cases hl1 : d'[2 * i + 2]!.lt d'[2 * i + 1]!
        · have hL : Hp.Least KI.lt d' n i (2 * i + 1) := ⟨by unfold Hp.Child; omega, by omega, fun o ho hon => by
            unfold Hp.Child at ho
            rcases ho with rfl | rfl
            · exact KI.swo.irrefl _
            · exact hl1⟩
          cases hl2 : d'[2 * i + 1]!.lt d'[i]!
          · have HH := hD.stop KI.swo hL hl2
            have hml := mLess b wr _ hP.hd
            clear hD hL
            go_wp2_with (go_at_call 240; refine (less_at _ _ g cap (2 * i + 2) (2 * i + 1) d' _ (by omega) (by omega) hP.row (by omega) (by omega)).mono ?_; rw [hl1]; rintro e w1 ⟨rfl, hb1⟩; have hP1 := hP.but (S := fun _ => False) (But.of_below hb1) id id; have hml1 := mLess b w1 _ hP1.hd)
            refine (less_at _ _ g cap (2 * i + 1) i d' _ (by omega) (by omega) hP1.row (by omega) (by omega)).mono ?_
            rw [hl2]
            rintro e w2 ⟨rfl, hb2⟩
            have hP2 := hP1.but (S := fun _ => False) (But.of_below hb2) id id
            have hms2 := mSwap b w2 _ hP2.hd
            have hB2 : But (fun k => k = g) w w2 := hS.but.trans ((But.of_below hb1).trans (But.of_below hb2))
            go_wp2
            go_ret
            exact ⟨⟨_, rfl⟩, d', ⟨hP2, hB2, hS.perm, hS.rest⟩, HH⟩
          · have HH := hD.step KI.swo hL hl2 (by omega)
            have hml := mLess b wr _ hP.hd
            clear hD hL
            go_wp2_with (go_at_call 240; refine (less_at _ _ g cap (2 * i + 2) (2 * i + 1) d' _ (by omega) (by omega) hP.row (by omega) (by omega)).mono ?_; rw [hl1]; rintro e w1 ⟨rfl, hb1⟩; have hP1 := hP.but (S := fun _ => False) (But.of_below hb1) id id; have hml1 := mLess b w1 _ hP1.hd)
            refine (less_at _ _ g cap (2 * i + 1) i d' _ (by omega) (by omega) hP1.row (by omega) (by omega)).mono ?_
            rw [hl2]
            rintro e w2 ⟨rfl, hb2⟩
            have hP2 := hP1.but (S := fun _ => False) (But.of_below hb2) id id
            have hms2 := mSwap b w2 _ hP2.hd
            have hB2 : But (fun k => k = g) w w2 := hS.but.trans ((But.of_below hb1).trans (But.of_below hb2))
            go_wp2_with fail
            refine (swap_any _ _ g cap i (2 * i + 1) d' _ (by omega) (by omega) hP2.row (by omega) (by omega) (by omega)).mono ?_
            rintro e w3 ⟨rfl, hr3, hb3⟩
            have hs3 := Hp.swp_perm d' i (2 * i + 1) (by omega) (by omega)
            have hP3 := hP2.rows hb3 hr3 (size_swp _ _ _)
            have HR : ∀ x, n ≤ x → (swp d' i (2 * i + 1))[x]! = d[x]! := fun x hx => by rw [swp_other d' i (2 * i + 1) x (by omega) (by omega)]; exact hS.rest x hx
            go_wp2
            go_roundw
            case rel => exact ⟨2 * i + 1, _, congrArg (Value.int .i64) (by omega), by omega, ⟨hP3, hB2.trans hb3, hs3.trans hS.perm, HR⟩, HH⟩
            case measure => simp [intOf]; omega
        · have hL : Hp.Least KI.lt d' n i (2 * i + 2) := ⟨by unfold Hp.Child; omega, by omega, fun o ho hon => by
            unfold Hp.Child at ho
            rcases ho with rfl | rfl
            · exact Hp.asym KI.swo hl1
            · exact KI.swo.irrefl _⟩
          cases hl2 : d'[2 * i + 2]!.lt d'[i]!
          · have HH := hD.stop KI.swo hL hl2
            have hml := mLess b wr _ hP.hd
            clear hD hL
            go_wp2_with (go_at_call 240; refine (less_at _ _ g cap (2 * i + 2) (2 * i + 1) d' _ (by omega) (by omega) hP.row (by omega) (by omega)).mono ?_; rw [hl1]; rintro e w1 ⟨rfl, hb1⟩; have hP1 := hP.but (S := fun _ => False) (But.of_below hb1) id id; have hml1 := mLess b w1 _ hP1.hd)
            refine (less_at _ _ g cap (2 * i + 2) i d' _ (by omega) (by omega) hP1.row (by omega) (by omega)).mono ?_
            rw [hl2]
            rintro e w2 ⟨rfl, hb2⟩
            have hP2 := hP1.but (S := fun _ => False) (But.of_below hb2) id id
            have hms2 := mSwap b w2 _ hP2.hd
            have hB2 : But (fun k => k = g) w w2 := hS.but.trans ((But.of_below hb1).trans (But.of_below hb2))
            go_wp2
            go_ret
            exact ⟨⟨_, rfl⟩, d', ⟨hP2, hB2, hS.perm, hS.rest⟩, HH⟩
          · have HH := hD.step KI.swo hL hl2 (by omega)
            have hml := mLess b wr _ hP.hd
            clear hD hL
            go_wp2_with (go_at_call 240; refine (less_at _ _ g cap (2 * i + 2) (2 * i + 1) d' _ (by omega) (by omega) hP.row (by omega) (by omega)).mono ?_; rw [hl1]; rintro e w1 ⟨rfl, hb1⟩; have hP1 := hP.but (S := fun _ => False) (But.of_below hb1) id id; have hml1 := mLess b w1 _ hP1.hd)
            refine (less_at _ _ g cap (2 * i + 2) i d' _ (by omega) (by omega) hP1.row (by omega) (by omega)).mono ?_
            rw [hl2]
            rintro e w2 ⟨rfl, hb2⟩
            have hP2 := hP1.but (S := fun _ => False) (But.of_below hb2) id id
            have hms2 := mSwap b w2 _ hP2.hd
            have hB2 : But (fun k => k = g) w w2 := hS.but.trans ((But.of_below hb1).trans (But.of_below hb2))
            go_wp2_with fail
            refine (swap_any _ _ g cap i (2 * i + 2) d' _ (by omega) (by omega) hP2.row (by omega) (by omega) (by omega)).mono ?_
            rintro e w3 ⟨rfl, hr3, hb3⟩
            have hs3 := Hp.swp_perm d' i (2 * i + 2) (by omega) (by omega)
            have hP3 := hP2.rows hb3 hr3 (size_swp _ _ _)
            have HR : ∀ x, n ≤ x → (swp d' i (2 * i + 2))[x]! = d[x]! := fun x hx => by rw [swp_other d' i (2 * i + 2) x (by omega) (by omega)]; exact hS.rest x hx
            go_wp2
            go_roundw
            case rel => exact ⟨2 * i + 2, _, congrArg (Value.int .i64) (by omega), by omega, ⟨hP3, hB2.trans hb3, hs3.trans hS.perm, HR⟩, HH⟩
            case measure => simp [intOf]; omega
      · have h2n : decide (2 * (i : Int) + 1 + 1 < (n : Int)) = false := decide_eq_false (by omega)
        have hL : Hp.Least KI.lt d' n i (2 * i + 1) := ⟨by unfold Hp.Child; omega, by omega, fun o ho hon => by
          unfold Hp.Child at ho
          rcases ho with rfl | rfl
          · exact KI.swo.irrefl _
          · exfalso; omega⟩
        cases hl2 : d'[2 * i + 1]!.lt d'[i]!
        · have HH := hD.stop KI.swo hL hl2
          have hml := mLess b wr _ hP.hd
          clear hD hL
          go_wp2_with fail
          refine (less_at _ _ g cap (2 * i + 1) i d' _ (by omega) (by omega) hP.row (by omega) (by omega)).mono ?_
          rw [hl2]
          rintro e w2 ⟨rfl, hb2⟩
          have hP2 := hP.but (S := fun _ => False) (But.of_below hb2) id id
          have hms2 := mSwap b w2 _ hP2.hd
          have hB2 : But (fun k => k = g) w w2 := hS.but.trans (But.of_below hb2)
          go_wp2
          go_ret
          exact ⟨⟨_, rfl⟩, d', ⟨hP2, hB2, hS.perm, hS.rest⟩, HH⟩
        · have HH := hD.step KI.swo hL hl2 (by omega)
          have hml := mLess b wr _ hP.hd
          clear hD hL
          go_wp2_with fail
          refine (less_at _ _ g cap (2 * i + 1) i d' _ (by omega) (by omega) hP.row (by omega) (by omega)).mono ?_
          rw [hl2]
          rintro e w2 ⟨rfl, hb2⟩
          have hP2 := hP.but (S := fun _ => False) (But.of_below hb2) id id
          have hms2 := mSwap b w2 _ hP2.hd
          have hB2 : But (fun k => k = g) w w2 := hS.but.trans (But.of_below hb2)
          go_wp2_with fail
          refine (swap_any _ _ g cap i (2 * i + 1) d' _ (by omega) (by omega) hP2.row (by omega) (by omega) (by omega)).mono ?_
          rintro e w3 ⟨rfl, hr3, hb3⟩
          have hs3 := Hp.swp_perm d' i (2 * i + 1) (by omega) (by omega)
          have hP3 := hP2.rows hb3 hr3 (size_swp _ _ _)
          have HR : ∀ x, n ≤ x → (swp d' i (2 * i + 1))[x]! = d[x]! := fun x hx => by rw [swp_other d' i (2 * i + 1) x (by omega) (by omega)]; exact hS.rest x hx
          go_wp2
          go_roundw
          case rel => exact ⟨2 * i + 1, _, congrArg (Value.int .i64) (by omega), by omega, ⟨hP3, hB2.trans hb3, hs3.trans hS.perm, HR⟩, HH⟩
          case measure => simp [intOf]; omega
    · have hge : (n : Int) ≤ 2 * (i : Int) + 1 := by omega
      have HE := hD.done (by omega)
      clear hD
      go_wp2
      go_ret
      exact ⟨⟨_, rfl⟩, d', hS, HE⟩
end Go.Proofs.YtdghgmaoamjnlaaGreat

namespace Go.Proofs.YtdghgmaoamjnlaaGreat
open Go.RowKit Go.Sort

set_option maxHeartbeats 1000000 in
theorem up_any (b g cap j0 : Nat) (d : Array KI) (w : World) (h : PileAt w b g cap d) (hj0 : j0 < d.size) (hu : Hp.Up KI.lt d d.size j0) :
    Calls Tryz.prog 217 #[.iface 310 (.pointer (some ⟨b, 0, none⟩)), .int .i64 (j0 : Int)] w fun e w' => e = .returned (.tuple #[]) ∧ ∃ d', Sift w w' b g cap d.size d d' ∧ Hp.Heap KI.lt d' d.size 0 := by
  have hmax := h.row.max
  have hle := h.row.le
  obtain ⟨n, hn⟩ : ∃ n, n = d.size := ⟨_, rfl⟩
  rw [← hn] at hj0 hu hle hmax ⊢
  go_enter Tryz.func217, Tryz.ntmps217
  go_wp2
  go_loopw [1] (fun a wr => ∃ (j : Nat) (d' : Array KI), a = .int .i64 (j : Int) ∧ j < n ∧ Sift w wr b g cap n d d' ∧ Hp.Up KI.lt d' n j) (fun a _ => (intOf a).toNat)
  case atStart => exact ⟨j0, d, rfl, hj0, ⟨h, But.refl _ _, List.Perm.refl _, fun _ _ => rfl⟩, hu⟩
  case round =>
    obtain ⟨j, d', rfl, hjn, hS, hU⟩ := hrel
    have hnd : n = d'.size := by rw [hS.size]; exact hn
    have hnd2 : n ≤ d'.size := by omega
    have HN : Hid (n = d'.size) := hnd
    clear hnd
    have hP := hS.pile
    have hml := mLess b wr _ hP.hd
    rcases j with _ | k
    · have HH := hU.top
      clear hU
      go_wp2
      go_end0
      exact ⟨rfl, d', hS, HH⟩
    · have hne : ((k : Int) / 2 == (k : Int) + 1) = false := by simp; omega
      have hC : Hp.Child (k + 1) (k / 2) := by unfold Hp.Child; omega
      have hk40 : (k : Int) ≤ 1099511627776 := by omega
      cases hl : d'[k + 1]!.lt d'[k / 2]!
      · have HH := hU.stop hC hl
        clear hU hC
        go_wp2_with (go_at_call 240; refine (less_at _ _ g cap (k + 1) (k / 2) d' _ (by omega) (by omega) hP.row (by omega) (by omega)).mono ?_; rw [hl]; rintro e w1 ⟨rfl, hb1⟩; have hP1 := hP.but (S := fun _ => False) (But.of_below hb1) id id)
        go_end0
        exact ⟨rfl, d', ⟨hP1, hS.but.trans (But.of_below hb1), hS.perm, hS.rest⟩, HH⟩
      · have HH := hU.step KI.swo hC hl hjn hnd2
        clear hU hC
        go_wp2_with (go_at_call 240; refine (less_at _ _ g cap (k + 1) (k / 2) d' _ (by omega) (by omega) hP.row (by omega) (by omega)).mono ?_; rw [hl]; rintro e w1 ⟨rfl, hb1⟩; have hP1 := hP.but (S := fun _ => False) (But.of_below hb1) id id; have hms1 := mSwap b w1 _ hP1.hd)
        refine (swap_any _ _ g cap (k / 2) (k + 1) d' _ (by omega) (by omega) hP1.row (by omega) (by omega) (by omega)).mono ?_
        rintro e w3 ⟨rfl, hr3, hb3⟩
        have hs3 := Hp.swp_perm d' (k / 2) (k + 1) (by omega) (by omega)
        have hP3 := hP1.rows hb3 hr3 (size_swp _ _ _)
        have HR : ∀ x, n ≤ x → (swp d' (k / 2) (k + 1))[x]! = d[x]! := fun x hx => by rw [swp_other d' (k / 2) (k + 1) x (by omega) (by omega)]; exact hS.rest x hx
        go_wp2
        go_roundw
        case rel => exact ⟨k / 2, _, congrArg (Value.int .i64) (by omega), by omega, ⟨hP3, (hS.but.trans (But.of_below hb1)).trans hb3, hs3.trans hS.perm, HR⟩, HH⟩
        case measure => simp [intOf]; omega
end Go.Proofs.YtdghgmaoamjnlaaGreat

namespace Go.Proofs.YtdghgmaoamjnlaaGreat
open Go.RowKit Go.Sort

/-- A row's cells, one behind the other. -/
def cellOf (d : Array KI) (t : Nat) : Value := if t % 2 = 0 then .float .f64 d[t / 2]!.b else .int .i64 d[t / 2]!.v
def flat (d : Array KI) : List Value := (List.range (d.size * 2)).map (cellOf d)
theorem flat_length (d : Array KI) : (flat d).length = d.size * 2 := by simp [flat]
theorem flat_get (d : Array KI) {t : Nat} {u : Value} (h : (flat d)[t]? = some u) : t < d.size * 2 ∧ u = cellOf d t := by
  have ht : t < (flat d).length := (List.getElem?_eq_some_iff.1 h).1
  rw [flat_length] at ht
  refine ⟨ht, ?_⟩
  simp [flat, ht] at h
  exact h.symm
theorem Row.cell {w : World} {g cap : Nat} {d : Array KI} (h : Row w g cap d) {t : Nat} (ht : t < d.size * 2) : w.cell? ⟨g, t, none⟩ = some (cellOf d t) := by
  unfold cellOf
  by_cases e : t % 2 = 0
  · have := h.flt (t / 2) (by omega)
    rw [show t / 2 * 2 = t by omega] at this
    rw [if_pos e]; exact this
  · have := h.val (t / 2) (by omega)
    rw [show t / 2 * 2 + 1 = t by omega] at this
    rw [if_neg e]; exact this
theorem Row.ofCells {w : World} {g cap : Nat} {d : Array KI} (h1 : g < w.heap.size) (h2 : d.size ≤ cap) (h3 : d.size ≤ 1099511627776) (h4 : cap ≤ maxLen) (h5 : ∀ t, t < d.size * 2 → w.cell? ⟨g, t, none⟩ = some (cellOf d t))
    (h6 : ∀ j, j < cap * 2 → (w.cell? ⟨g, j, none⟩).isSome = true ∧ w.frozen? ⟨g, j, none⟩ = false) : Row w g cap d :=
  ⟨h1, h2, h3, h4, fun i hi => by rw [h5 (i * 2) (by omega)]; unfold cellOf; rw [if_pos (by omega), show i * 2 / 2 = i by omega],
   fun i hi => by rw [h5 (i * 2 + 1) (by omega)]; unfold cellOf; rw [if_neg (by omega), show (i * 2 + 1) / 2 = i by omega], h6⟩
theorem push_get (d : Array KI) (x : KI) {i : Nat} (h : i < d.size) : (d.push x)[i]! = d[i]! := by
  rw [getElem!_pos (d.push x) i (by simp; omega), getElem!_pos d i h, Array.getElem_push_lt h]
theorem push_last (d : Array KI) (x : KI) : (d.push x)[d.size]! = x := by
  rw [getElem!_pos (d.push x) d.size (by simp), Array.getElem_push_eq]
theorem cellOf_push (d : Array KI) (x : KI) {t : Nat} (h : t < d.size * 2) : cellOf (d.push x) t = cellOf d t := by
  unfold cellOf; rw [push_get d x (by omega)]
theorem cellOf_last (d : Array KI) (x : KI) : cellOf (d.push x) (d.size * 2) = .float .f64 x.b ∧ cellOf (d.push x) (d.size * 2 + 1) = .int .i64 x.v := by
  unfold cellOf
  rw [if_pos (by omega), if_neg (by omega), show d.size * 2 / 2 = d.size by omega, show (d.size * 2 + 1) / 2 = d.size by omega, push_last]
  exact ⟨rfl, rfl⟩

theorem info_item : ∃ i : TypeInfo, Tryz.prog.info? 53 = some i ∧ i.zero = some (.agg #[.float .f64 0, .int .i64 0]) ∧ i.size = 2 ∧ i.bytes = 16 := by
  have h : (Tryz.prog.info? 53).map (fun i => (i.zero, i.size, i.bytes)) = some (some (.agg #[.float .f64 0, .int .i64 0]), 2, 16) := by kernel_rfl
  obtain ⟨i, hi, he⟩ := Option.map_eq_some_iff.1 h
  simp only [Prod.mk.injEq] at he
  exact ⟨i, hi, he.1, he.2.1, he.2.2⟩

theorem row_append (g cap a : Nat) (d : Array KI) (x : KI) (w : World) (h : Row w g cap d) (hx1 : w.cell? ⟨a, 0, none⟩ = some (.float .f64 x.b)) (hx2 : w.cell? ⟨a, 1, none⟩ = some (.int .i64 x.v)) (hs : d.size + 1 ≤ 1099511627776) :
    ∃ g' cap' w', (Builtin.append_ #[306, 306] 306 #[.slice (some ⟨g, 0, none⟩) d.size cap, .slice (some ⟨a, 0, none⟩) 1 1]).run Tryz.prog w = .ok (.slice (some ⟨g', 0, none⟩) (d.size + 1) cap') w' ∧
      Row w' g' cap' (d.push x) ∧ But (fun k => k = g) w w' ∧ (g' = g ∨ w.heap.size ≤ g') := by
  obtain ⟨i, hi, hz, hsz, hby⟩ := info_item
  have hsrc : Src Tryz.prog i.size 306 (.slice (some ⟨a, 0, none⟩) 1 1) 1 [.float .f64 x.b, .int .i64 x.v] w := by
    rw [hsz]
    refine Src.ofSlice w Tryz.underlying306 _ 1 1 _ rfl (fun j u hu => ?_) (fun u hu => by simp at hu; rcases hu with rfl | rfl <;> rfl)
    rw [Addr.add_lit]
    rcases j with _ | _ | j
    · simp at hu; subst hu; exact hx1
    · simp at hu; subst hu; exact hx2
    · simp at hu
  by_cases hroom : d.size + 1 ≤ cap
  · have hin : ∀ j, j < 2 → 0 + d.size * i.size + j < cap * 2 := fun j hj => by rw [hsz]; omega
    have hr := run_append_room_src (P := Tryz.prog) w 306 306 306 53 i Tryz.underlying306 hi g 0 d.size cap _ 1 _ hsrc hroom (fun j hj => (h.there _ (hin j hj)).1) (fun j hj => (h.there _ (hin j hj)).2)
    rw [show 0 + d.size * i.size = d.size * 2 by rw [hsz]; omega] at hr
    have hne : ∀ p q : Nat, p ≠ q → (⟨g, p, none⟩ : Addr) ≠ ⟨g, q, none⟩ := fun p q hpq e => by injection e; omega
    have t1 := (h.there (d.size * 2) (by omega)).1
    have t2 : ((w.setCell ⟨g, d.size * 2, none⟩ (.float .f64 x.b)).cell? ⟨g, d.size * 2 + 1, none⟩).isSome = true := by
      rw [World.cell?_setCell_other _ _ _ _ (hne _ _ (by omega))]; exact (h.there _ (by omega)).1
    refine ⟨g, cap, _, hr, ?_, ((But.refl (fun k => k = g) w).set1 g _ rfl _).set1 g _ rfl _, .inl rfl⟩
    show Row ((w.setCell ⟨g, d.size * 2, none⟩ (.float .f64 x.b)).setCell ⟨g, d.size * 2 + 1, none⟩ (.int .i64 x.v)) g cap (d.push x)
    refine Row.ofCells (by rw [World.size_setCell, World.size_setCell]; exact h.lt) (by simpa using hroom) (by simpa using hs) h.cmax (fun t ht => ?_) (fun j hj => ⟨?_, by rw [World.frozen?_setCell, World.frozen?_setCell]; exact (h.there j hj).2⟩)
    · have ht' : t < (d.size + 1) * 2 := by simpa using ht
      by_cases e2 : t = d.size * 2 + 1
      · subst e2; rw [World.cell?_setCell_same' _ _ _ t2, (cellOf_last d x).2]
      · rw [World.cell?_setCell_other _ _ _ _ (hne _ _ (Ne.symm e2))]
        by_cases e1 : t = d.size * 2
        · subst e1; rw [World.cell?_setCell_same' _ _ _ t1, (cellOf_last d x).1]
        · rw [World.cell?_setCell_other _ _ _ _ (hne _ _ (Ne.symm e1)), cellOf_push d x (by omega)]; exact h.cell (by omega)
    · by_cases e2 : j = d.size * 2 + 1
      · subst e2; rw [World.cell?_setCell_same' _ _ _ t2]; rfl
      · rw [World.cell?_setCell_other _ _ _ _ (hne _ _ (Ne.symm e2))]
        by_cases e1 : j = d.size * 2
        · subst e1; rw [World.cell?_setCell_same' _ _ _ t1]; rfl
        · rw [World.cell?_setCell_other _ _ _ _ (hne _ _ (Ne.symm e1))]; exact (h.there j hj).1
  · have hold : (Builtin.firstCells i.size d.size (.slice (some ⟨g, 0, none⟩) d.size cap)).run Tryz.prog w.drew = .ok (flat d).toArray w.drew :=
      run_firstCells_some w.drew i.size d.size ⟨g, 0, none⟩ d.size cap (flat d) (by rw [flat_length, hsz]) (fun j u hu => by
        obtain ⟨hj, rfl⟩ := flat_get d hu
        rw [Addr.add_lit, Nat.zero_add]; exact h.cell hj)
    have hg : cap < d.size + 1 := by omega
    have hmx : d.size + 1 ≤ maxLen := by unfold maxLen; omega
    have hr := run_append_grow_src (P := Tryz.prog) w 306 306 306 53 i _ Tryz.underlying306 hi hz (some ⟨g, 0, none⟩) d.size cap (flat d) hold _ 1 _ hsrc hg (by omega) (growslice_fits hg (by rw [hby]; omega))
    have hge := grownCap_ge w (d.size + 1) cap 53
    have hcm := grownCap_le_maxLen w (d.size + 1) cap 53 hmx
    generalize grownCap w (d.size + 1) cap 53 = C at hr hge hcm
    refine ⟨w.heap.size, C, _, hr, ?_, ?_, .inr (Nat.le_refl _)⟩
    · have hc : ∀ j, (w.drew.alloc (.cells ((flat d ++ [Value.float .f64 x.b, Value.int .i64 x.v]).toArray ++ Builtin.zeroCells (Value.agg #[.float .f64 0, .int .i64 0]).cells (C - (d.size + 1))) 53)).cell? ⟨w.heap.size, j, none⟩ =
          ((flat d ++ [Value.float .f64 x.b, Value.int .i64 x.v]).toArray ++ Builtin.zeroCells (Value.agg #[.float .f64 0, .int .i64 0]).cells (C - (d.size + 1)))[j]? := fun j => World.cell?_alloc_new w.drew _ _ j
      refine Row.ofCells (by simp) (by simpa using hge) (by simpa using hs) hcm (fun t ht => ?_) (fun j hj => ⟨?_, World.frozen?_alloc_new w.drew _ _ _⟩)
      · have ht' : t < (d.size + 1) * 2 := by simpa using ht
        rw [hc, Array.getElem?_append_left (by simp [flat_length]; omega)]
        by_cases e : t < d.size * 2
        · rw [cellOf_push d x e, List.getElem?_toArray, List.getElem?_append_left (by rw [flat_length]; exact e)]
          simp [flat, e]
        · have : t = d.size * 2 ∨ t = d.size * 2 + 1 := by omega
          rcases this with rfl | rfl
          · rw [(cellOf_last d x).1, List.getElem?_toArray, List.getElem?_append_right (by rw [flat_length]; omega), flat_length]; simp
          · rw [(cellOf_last d x).2, List.getElem?_toArray, List.getElem?_append_right (by rw [flat_length]; omega), flat_length]; simp
      · rw [hc]
        have : j < ((flat d ++ [Value.float .f64 x.b, Value.int .i64 x.v]).toArray ++ Builtin.zeroCells (Value.agg #[.float .f64 0, .int .i64 0]).cells (C - (d.size + 1))).size := by
          rw [Array.size_append, size_zeroCells]
          simp [flat_length, Value.cells]
          omega
        rw [Array.getElem?_eq_getElem this]; rfl
    · exact But.of_below ⟨rfl, rfl, rfl, by simp, fun k hk => Below.heap_alloc w.drew _ k hk⟩

theorem assert_item (v : Value) (w : World) : (Instr.typeAssert (.iface 53 v) 20 53 false).run Tryz.prog w = .ok v w := by kernel_rfl

theorem pushM_any (b g cap : Nat) (d : Array KI) (x : KI) (w : World) (h : PileAt w b g cap d) (hs : d.size + 1 ≤ 1099511627776) :
    Calls Tryz.prog 243 #[.pointer (some ⟨b, 0, none⟩), .iface 53 (.agg #[.float .f64 x.b, .int .i64 x.v])] w fun e w' => e = .returned (.tuple #[]) ∧ ∃ g' cap', PileAt w' b g' cap' (d.push x) ∧ But (fun k => k = b ∨ k = g) w w' ∧ (g' = g ∨ w.heap.size ≤ g') := by
  have hW : But (fun _ => False) w (w.alloc (boxI x.b x.v)).drew := ((But.refl _ w).alloc _).drew
  have hP1 := h.but hW id id
  obtain ⟨g', cap', w', hrun, hrow, hbut, hg'⟩ := row_append g cap w.heap.size d x (w.alloc (boxI x.b x.v)).drew hP1.row (World.cell?_alloc_new w _ _ 0) (World.cell?_alloc_new w _ _ 1) hs
  have hsz : (w.alloc (boxI x.b x.v)).drew.heap.size = w.heap.size + 1 := by simp
  rw [hsz] at hg'
  have hd1 := hP1.hd
  have hd0 := h.hd
  have hbb : But (fun k => k = g) w w' := (hW.mono (fun _ _ e => e.elim)).trans hbut
  have hc2 : w'.cell? ⟨b, 0, none⟩ = some (.slice (some ⟨g, 0, none⟩) d.size cap) := by rw [hbb.cell (p := ⟨b, 0, none⟩) h.blt h.ne]; exact h.hd
  have hf2 : w'.frozen? ⟨b, 0, none⟩ = false := by rw [hbb.frozen (p := ⟨b, 0, none⟩) h.blt h.ne]; exact h.fz
  have hne' : b ≠ g' := by
    rcases hg' with e | e
    · rw [e]; exact h.ne
    · have := h.blt; omega
  have hend : PileAt (w'.setCell ⟨b, 0, none⟩ (.slice (some ⟨g', 0, none⟩) (d.size + 1) cap')) b g' cap' (d.push x) := by
    refine ⟨?_, by rw [World.frozen?_setCell]; exact hf2, hne', by rw [World.size_setCell]; exact Nat.lt_of_lt_of_le h.blt hbb.size, ?_⟩
    · rw [World.cell?_setCell_same' _ _ _ (by rw [hc2]; rfl)]; simp
    · exact hrow.but ((But.refl (fun k => k = b) w').set1 b 0 rfl _) (Ne.symm hne')
  have hbend : But (fun k => k = b ∨ k = g) w (w'.setCell ⟨b, 0, none⟩ (.slice (some ⟨g', 0, none⟩) (d.size + 1) cap')) := (hbb.mono (fun _ _ e => .inr e)).set1 b 0 (.inl rfl) _
  have hgg : g' = g ∨ w.heap.size ≤ g' := by omega
  clear hsz hg' hbut hbb hrow hP1 hW h
  have hta := assert_item
  have HR : Hid (∀ _ : Unit, (Builtin.append_ #[306, 306] 306 #[.slice (some ⟨g, 0, none⟩) d.size cap, .slice (some ⟨w.heap.size, 0, none⟩) 1 1]).run Tryz.prog (w.alloc (boxI x.b x.v)).drew = .ok (.slice (some ⟨g', 0, none⟩) (d.size + 1) cap') w') := fun _ => hrun
  clear hrun
  go_enter Tryz.func243, Tryz.ntmps243
  go_wp2
  go_region_law (refine step_append rfl (.tmp 7) (.tmp 10) 306 rfl _ _ (by simp [Act.eval]) (by simp [Act.eval]) _ _ (HR ()) ?_)
  all_goals go_wp2
  all_goals go_end0
  all_goals exact ⟨rfl, g', cap', hend, hbend, hgg⟩

theorem pop_get (d : Array KI) {i : Nat} (h : i + 1 < d.size) : d.pop[i]! = d[i]! := by
  rw [getElem!_pos d.pop i (by simp; omega), getElem!_pos d i (by omega), Array.getElem_pop]
theorem Row.pop {w : World} {g cap : Nat} {d : Array KI} (h : Row w g cap d) : Row w g cap d.pop :=
  ⟨h.lt, by have := h.le; simp; omega, by have := h.max; simp; omega, h.cmax, fun i hi => by simp at hi; rw [pop_get d (by omega)]; exact h.flt i (by omega), fun i hi => by simp at hi; rw [pop_get d (by omega)]; exact h.val i (by omega), h.there⟩

theorem popM_any (b g cap n : Nat) (d : Array KI) (w : World) (h : PileAt w b g cap d) (hn : d.size = n + 1) :
    Calls Tryz.prog 242 #[.pointer (some ⟨b, 0, none⟩)] w fun e w' => e = .returned (.iface 53 (.agg #[.float .f64 d[n]!.b, .int .i64 d[n]!.v])) ∧ PileAt w' b g cap d.pop ∧ But (fun k => k = b) w w' := by
  have f1 := h.row.flt n (by omega)
  have v1 := h.row.val n (by omega)
  have hd := h.hd
  have hfz := h.fz
  have hle := h.row.le
  have hmax := h.row.max
  rw [hn] at hle hmax hd
  have hend : ∀ o, PileAt ((w.setCell ⟨b, 0, none⟩ (.slice (some ⟨g, 0, none⟩) n cap)).alloc o) b g cap d.pop ∧ But (fun k => k = b) w ((w.setCell ⟨b, 0, none⟩ (.slice (some ⟨g, 0, none⟩) n cap)).alloc o) := fun o => by
    have hb : But (fun k => k = b) w (w.setCell ⟨b, 0, none⟩ (.slice (some ⟨g, 0, none⟩) n cap)) := (But.refl (fun k => k = b) w).set1 b 0 rfl _
    have hP : PileAt (w.setCell ⟨b, 0, none⟩ (.slice (some ⟨g, 0, none⟩) n cap)) b g cap d.pop := by
      refine ⟨?_, by rw [World.frozen?_setCell]; exact h.fz, h.ne, by rw [World.size_setCell]; exact h.blt, h.row.pop.but hb (Ne.symm h.ne)⟩
      rw [World.cell?_setCell_same' _ _ _ (by rw [h.hd]; rfl)]
      simp [hn]
    exact ⟨hP.but (S := fun _ => False) ((But.refl _ _).alloc o) id id, hb.alloc o⟩
  generalize d[n]! = x at *
  have hb := h.blt
  clear h hn
  have hsf := run_store_float (P := Tryz.prog)
  go_enter Tryz.func242, Tryz.ntmps242
  go_wp2
  go_ret
  exact ⟨rfl, (hend _).1, (hend _).2⟩
end Go.Proofs.YtdghgmaoamjnlaaGreat
