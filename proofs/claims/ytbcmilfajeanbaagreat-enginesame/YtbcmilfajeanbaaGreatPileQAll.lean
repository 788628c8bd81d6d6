/-
  Layer 13: an engine's machine, of a Net: contract.
  Layer 13: a new engine: contracts.
  Layer 7: a Tally's steps: contracts.
  Layer 7: a Tally's Sum: contract.
  Layer 7: a Tally's step, as a machine's: contract.
  How two words of 64 bits stand to each other as floats: by their rungs with signs. Plain numbers.
  The highest of 64 bits. Plain numbers.
  Layer 3, its calls and the document's answers by bits: contracts.
  A heap in an array: what sifting down and up keeps. Plain arrays.
  Layer 4: items, their order, their places: contracts.
  Canonical items, and their order.
  Layer 4: the library's heap over a pile's items: contracts.
  Calls through the heap's interface of a pile's items: which function is met, with which receiver.
  Layer 4: the library's heap, sifting: contracts.
  Layer 4: the library's heap, sifting up: contract.
  Layer 4: one more item, one less: contracts.
  Layer 4: the library's heap: Init, Push, Pop: contracts.
-/
import Derived.Test.YtbcmilfajeanbaaGreatOpIn6All
import Derived.Test.YtbcmilfajeanbaaGreatNetNewAAll
import Derived.Test.YtbcmilfajeanbaaGreatRegionAll
import Derived.StillTailTactics
import Derived.Test.YtbcmilfajeanbaaGreatTail
import Ieee.Arith
import Derived.Laws.BitsAllLaws
import Derived.Test.YtbcmilfajeanbaaGreatChecked
import Derived.WalkKit
import Derived.Laws.Cover2
import Derived.Laws.Externs
import Derived.Sort.Lot0
import Derived.Sort.LotA
import Derived.Test.YtbcmilfajeanbaaGreatKNew9All
import Derived.BigQuiet
import Derived.Deep.QuietTactic
import Derived.Deep.RegionWith
import Derived.Deep.AppendSrc
import Derived.Deep.Upon
import Derived.Laws.IdiomStrings
import Derived.Deep.RegionLaw
namespace Go.Proofs.YtbcmilfajeanbaaGreat
open Go.RowKit Go.Sort

theorem pow2_ex {p : Int} (h : legal 4 p = 0) : ∃ d n : Nat, d ≤ 4 ∧ n = 2 ^ d ∧ p = (n : Int) := by
  have h1 : 1 ≤ p ∧ p ≤ 16 := by
    rcases Classical.em (1 ≤ p ∧ p ≤ 16) with h' | h'
    · exact h'
    · rw [legal_par (by decide) h'] at h; cases h
  have h2 : pow2 p = true := by
    cases e : pow2 p
    · rw [legal_net (by decide) h1 ⟨rfl, e⟩] at h; cases h
    · rfl
  have : p = 1 ∨ p = 2 ∨ p = 4 ∨ p = 8 ∨ p = 16 := by simpa [pow2] using h2
  rcases this with rfl | rfl | rfl | rfl | rfl
  · exact ⟨0, 1, by decide, rfl, rfl⟩
  · exact ⟨1, 2, by decide, rfl, rfl⟩
  · exact ⟨2, 4, by decide, rfl, rfl⟩
  · exact ⟨3, 8, by decide, rfl, rfl⟩
  · exact ⟨4, 16, by decide, rfl, rfl⟩
theorem legal4_of {p : Int} (h : ¬ legal 4 p = 0) : legal 4 p = 5 := by
  by_cases h1 : 1 ≤ p ∧ p ≤ 16
  · by_cases h2 : pow2 p = false
    · exact legal_net (by decide) h1 ⟨rfl, h2⟩
    · exact absurd (legal_ok (by decide) h1 (fun e => h2 e.2)) h
  · exact legal_par (by decide) h1

/-- A Net whose plan lies from block L on. -/
def KN (p : Int) (L : Nat) (T : TypeId) (v : Value) (w : World) : Prop :=
  T = 141 ∧ (legal 4 p = 0 → ∃ (n c gc oc : Nat) (ga oa : Option Addr) (G : List (Nat × Nat)) (Os : List Nat) (D : Nat → Prop), p = (n : Int) ∧ v = .agg #[.int .i64 (n : Int), .slice ga c gc, .slice oa n oc] ∧ PF n c G Os ∧ NP w D ga gc c oa n G Os ∧ ∀ j, D j → L ≤ j)

theorem machine4_any (p : Int) (w : World) : Calls Tryz.prog 51 #[.int .i64 4, .int .i64 p] w (MachEnd (KN p) (legal 4 p) w) := by
  by_cases h : legal 4 p = 0
  · obtain ⟨d, n, hd, hn, rfl⟩ := pow2_ex h
    rw [h]
    have hN := fun w => nnew_ok d n hd hn w
    have HD := hidq (And.intro hd (And.intro hn h))
    clear hd hn h
    go_enter Tryz.func51, Tryz.ntmps51
    go_wp2_with fail
    refine (hN _).mono ?_
    rintro e w1 ⟨ga, gc, oa, oc, rfl, hS, hO, hf1, hf2, hb⟩
    have HB := hidq (And.intro hS (And.intro hO (And.intro hf1 (And.intro hf2 hb))))
    clear hb hN hS hO hf1 hf2
    go_wp2
    go_ret2
    obtain ⟨hS, hO, hf1, hf2, hb⟩ := HB.out
    obtain ⟨hd, hn, h⟩ := HD.out
    obtain ⟨f1, f2, _, _, _, _, _, f7, _⟩ := net_facts d n hd hn
    refine ⟨_, _, rfl, ⟨rfl, fun _ => ⟨n, cg d, gc, oc, ga, oa, _, _, fun j => w.heap.size ≤ j ∧ j < w1.heap.size, rfl, rfl, ⟨d, hd, hn, rfl, rfl, rfl⟩, ⟨hS, hO, fun j hj => ⟨hf1 j hj, hS.lt j hj⟩, fun j hj => ⟨hf2 j hj, ?_⟩, fun j hj => hj.2, f1, f2⟩, fun j hj => hj.1⟩⟩, hb⟩
    obtain ⟨b, off, e1, e2, _⟩ := hO 0 _ (List.getElem?_eq_getElem (by omega))
    obtain ⟨x, hx, rfl⟩ := hj
    rw [e1] at hx; cases hx
    exact e2
  · have h5 := legal4_of h
    have hN := fun w => nnew_no p w h5
    have HD := hidq (And.intro h h5)
    rw [h5]
    clear h h5
    go_enter Tryz.func51, Tryz.ntmps51
    go_wp2_with fail
    refine (hN _).mono ?_
    rintro e w1 ⟨rfl, hb⟩
    have HB := hidq hb
    clear hb hN
    go_wp2
    go_ret2
    exact ⟨_, _, rfl, ⟨rfl, fun h => absurd h HD.out.1⟩, HB.out⟩
end Go.Proofs.YtbcmilfajeanbaaGreat

namespace Go.Proofs.YtbcmilfajeanbaaGreat
open Go.RowKit Go.Sort

/-- How an engine is made: w1 is the world in which its machine was made. -/
def WithEnd (K : Nat → TypeId → Value → World → Prop) (kind param r : Int) (mb : Nat) (w : World) (e : Ending) (w' : World) : Prop :=
  Below w.heap.size w w' ∧ (¬ r = 0 → e = .returned (.tuple #[.pointer none, .int .i64 r])) ∧
    (r = 0 → ∃ T v eb w1, e = .returned (.tuple #[.pointer (some ⟨eb, 0, none⟩), .int .i64 0]) ∧ w.heap.size ≤ eb ∧ w1.heap.size = eb ∧ BoxAt w' eb (ecells kind param T v mb (fun _ => none) false 0) ∧ K w.heap.size T v w1 ∧ Below w1.heap.size w1 w')

theorem ewith_any (K : Nat → TypeId → Value → World → Prop) (kind p r : Int) (hM : ∀ w, Calls Tryz.prog 51 #[.int .i64 kind, .int .i64 p] w (MachEnd K r w)) (mb : Nat) (w : World) :
    Calls Tryz.prog 28 #[.int .i64 kind, .int .i64 p, .pointer (some ⟨mb, 0, none⟩)] w (WithEnd K kind p r mb w) := by
  by_cases hr : r = 0
  · subst hr
    go_enter Tryz.func28, Tryz.ntmps28
    go_wp2_with fail
    refine (hM _).mono ?_
    rintro e w1 ⟨T, v, rfl, hk, hb⟩
    have HE := hidq (And.intro hk hb)
    clear hk hb hM
    go_wp2
    go_ret2
    obtain ⟨hk, hb⟩ := HE.out
    have hba : Below w1.heap.size w1 (w1.alloc (.cells (ecells kind p T v mb (fun _ => none) false 0).toArray 90)) := (Below.refl _ _).alloc (Nat.le_refl _) _
    exact ⟨hb.trans (hba.mono hb.size), fun h => absurd rfl h, fun _ => ⟨T, v, w1.heap.size, w1, rfl, hb.size, rfl, BoxAt.new w1 _ _, hk, hba⟩⟩
  · have hne : (r == 0) = false := by simpa using hr
    have HR := hidq hr
    clear hr
    go_enter Tryz.func28, Tryz.ntmps28
    go_wp2_with fail
    refine (hM _).mono ?_
    rintro e w1 ⟨T, v, rfl, hk, hb⟩
    have HE := hidq hb
    clear hk hb hM
    go_wp2
    go_ret2
    exact ⟨HE.out, fun _ => rfl, fun h => absurd h HR.out⟩

/-- How a new engine is made: its memory at mb, L is behind that; w1 is the world in which its machine was made. -/
def NewEnd13 (K : Nat → TypeId → Value → World → Prop) (kind param r : Int) (w : World) (e : Ending) (w' : World) : Prop :=
  Below w.heap.size w w' ∧ (¬ r = 0 → e = .returned (.tuple #[.pointer none, .int .i64 r])) ∧
    (r = 0 → ∃ T v eb mb L w1, e = .returned (.tuple #[.pointer (some ⟨eb, 0, none⟩), .int .i64 0]) ∧ w.heap.size ≤ mb ∧ mb < L ∧ L ≤ eb ∧ w1.heap.size = eb ∧ MemAt w' mb (fun k => k = mb) Mem.empty ∧ BoxAt w' eb (ecells kind param T v mb (fun _ => none) false 0) ∧ K L T v w1 ∧ Below w1.heap.size w1 w')
theorem new13_any (K : Nat → TypeId → Value → World → Prop) (kind p r : Int) (hM : ∀ w, Calls Tryz.prog 51 #[.int .i64 kind, .int .i64 p] w (MachEnd K r w)) (w : World) :
    Calls Tryz.prog 7 #[.int .i64 kind, .int .i64 p] w (NewEnd13 K kind p r w) := by
  have hW := fun mb w => ewith_any K kind p r hM mb w
  clear hM
  go_enter Tryz.func7, Tryz.ntmps7
  go_wp2_with fail
  refine (new5_any _).mono ?_
  rintro e w1 ⟨rfl, hM1, hb1⟩
  obtain ⟨mb, hmb⟩ : ∃ mb, w.heap.size = mb := ⟨_, rfl⟩
  have hms := hM1.lt _ hM1.ob
  rw [hmb] at hM1 hms ⊢
  have H1 := hidq (And.intro hM1 (And.intro hb1 (And.intro hmb hms)))
  clear hM1 hb1 hmb hms
  go_wp2_with fail
  refine (hW mb _).mono ?_
  by_cases hr : r = 0
  · rintro e w2 ⟨hb2, _, h2⟩
    obtain ⟨T, v, eb, wm, rfl, hle, hwm, hB, hk, hbm⟩ := h2 hr
    have H2 := hidq (And.intro hb2 (And.intro hle (And.intro hB (And.intro hk (And.intro hr (And.intro hwm hbm))))))
    clear hb2 h2 hle hB hk hW hr hwm hbm
    go_wp2
    go_ret2
    obtain ⟨hM1, hb1, hmb, hms⟩ := H1.out
    obtain ⟨hb2, hle, hB, hk, hr, hwm, hbm⟩ := H2.out
    exact ⟨by rw [← hmb] at *; exact hb1.trans (hb2.mono hb1.size), fun h => absurd hr h, fun _ => ⟨T, v, eb, mb, w1.heap.size, wm, rfl, by omega, hms, hle, hwm, hM1.below hb2, hB, hk, hbm⟩⟩
  · rintro e w2 ⟨hb2, h2, _⟩
    have he := h2 hr
    subst he
    have H2 := hidq (And.intro hb2 hr)
    clear hb2 h2 hW hr
    go_wp2
    go_ret2
    obtain ⟨hM1, hb1, hmb, hms⟩ := H1.out
    obtain ⟨hb2, hr⟩ := H2.out
    exact ⟨by rw [← hmb] at *; exact hb1.trans (hb2.mono hb1.size), fun _ => rfl, fun h => absurd h hr⟩
end Go.Proofs.YtbcmilfajeanbaaGreat

namespace Go.Proofs.YtbcmilfajeanbaaGreat
open Go.RowKit Go.Sort

set_option maxHeartbeats 2000000 in
theorem tadd_read (sh : Int) (w : World) (b fb : Nat) (O P : Nat → Prop) (M : Mem) (F : Fr) (h : MemAt w b O M) (hf : FrAt w fb P F) (hd : ∀ k, O k → ¬ P k) (hs : 1 ≤ sh ∧ sh ≤ 16) (hp : F.pc = 0) :
    Calls Tryz.prog 191 #[.agg #[.int .i64 sh], .pointer (some ⟨b, 0, none⟩), .pointer (some ⟨fb, 0, none⟩)] w
      (StepEnd b fb O P (M, { F with c0 := M.look (into F.d0 sh), pc := 1 }, Ans.zero, false) w) := by
  obtain ⟨a0, k0, a1, k1, hB, hS0, hS1, hi0, hi1⟩ := hf.box
  have hfl := hB.lt
  have hsf := run_store_flt (P := Tryz.prog)
  obtain ⟨c3, _⟩ := hB.get 3 _ rfl
  obtain ⟨c5, z5⟩ := hB.get 5 _ rfl
  obtain ⟨c11, z11⟩ := hB.get 11 _ rfl
  obtain ⟨c12, z12⟩ := hB.get 12 _ rfl
  obtain ⟨c13, z13⟩ := hB.get 13 _ rfl
  rw [hp] at c5
  have hI := fun w => into_any F.d0 sh w (by omega)
  have hR := hidq (fun W (hW : Below w.heap.size w W) => read5_any b O M (into F.d0 sh) W (h.below hW))
  have hO : ¬ O fb := fun e => hd _ e hf.ob
  have HH := hidq (And.intro h (And.intro hf hd))
  have HB := hidq (And.intro hB (And.intro hS0 (And.intro hS1 (And.intro hi0 hi1))))
  clear h hf hd hB hS0 hS1 hi0 hi1 hp
  generalize into F.d0 sh = at_ at *
  go_enter Tryz.func191, Tryz.ntmps191
  go_wp2_with fail
  go_quiet ((go_at_call 35; exact Calls.quiet_of_same (hI _)))
  go_wp2_with fail
  obtain ⟨W1, hW1, hb0, hsz0, _, hA0⟩ := two_new w [.int .i64 sh] Ans.zero.l 155 46 nq
  rw [show (((w.alloc (.cells #[.int .i64 sh] 155)).alloc (.cells #[.bool false, .float .f64 0, .int .i64 0, .int .i64 0] 46)).drewN nq) = W1 from hW1]
  clear hW1
  refine (hR.out _ hb0).mono ?_
  rintro e w2 ⟨a2, k2, rfl, hS2, hn2, hb2⟩
  have hb02 := hb0.trans (hb2.mono hb0.size)
  have hA2 := hA0.below hb2
  have hsz := hb2.size
  rw [hsz0] at hn2 hsz
  obtain ⟨HM, HF, HD⟩ := HH.out
  obtain ⟨hB, hS0, hS1, hi0, hi1⟩ := HB.out
  have hB2 := hB.below hb02
  have FIN := hidq (stepEnd_of (F' := { F with c0 := M.look at_, pc := 1 }) (A := Ans.zero) (d := false) [(11, .int .u64 (M.look at_).ver), (12, .int .i64 (M.look at_).n), (13, .slice a2 (M.look at_).L.length k2), (5, .int .i64 1)]
    (HM.below hb02) (Grown.refl O w w2) (But.of_below hb02) HF.ob hB2 rfl hA2 (by omega) (fun e => by have := HM.lt _ e; omega) hO (by omega) hS2 (fun j hj => by have := hn2 j hj; exact ⟨by omega, by omega, fun e => by have := HM.lt _ e; omega, .inr (by omega)⟩)
    (hS1.below hb02) (fun j hj => by have := HF.lt _ (hi1 j hj).1; exact ⟨(hi1 j hj).2, by omega, fun e => HD _ e (hi1 j hj).1, .inl (hi1 j hj).1⟩))
  obtain ⟨d5, y5⟩ := hB2.get 5 _ rfl
  obtain ⟨d11, y11⟩ := hB2.get 11 _ rfl
  obtain ⟨d12, y12⟩ := hB2.get 12 _ rfl
  obtain ⟨d13, y13⟩ := hB2.get 13 _ rfl
  obtain ⟨g0, x0⟩ := hA2.get 0 _ rfl
  obtain ⟨g1, x1⟩ := hA2.get 1 _ rfl
  obtain ⟨g2, x2⟩ := hA2.get 2 _ rfl
  obtain ⟨g3, x3⟩ := hA2.get 3 _ rfl
  have hfa : ¬ fb = w.heap.size + 1 := by omega
  clear hb02 hA2 hB2 HM HF HD hB hS0 hS1 hi0 hi1 hb2 hS2 hn2 hA0 HH HB hR hb0 c5 c11 c12 c13 z5 z11 z12 z13 hI
  go_wp2
  exact ret_ans Tryz.results191 FIN.out.1 rfl rfl rfl FIN.out.2

set_option maxRecDepth 20000 in
set_option maxHeartbeats 2000000 in
theorem tadd_write (sh : Int) (w : World) (b fb : Nat) (O P : Nat → Prop) (M : Mem) (F : Fr) (h : MemAt w b O M) (hf : FrAt w fb P F) (hd : ∀ k, O k → ¬ P k) (hs : 1 ≤ sh ∧ sh ≤ 16) (hp : F.pc ≠ 0) (hck : M.clock < 4611686018427387904) :
    Calls Tryz.prog 191 #[.agg #[.int .i64 sh], .pointer (some ⟨b, 0, none⟩), .pointer (some ⟨fb, 0, none⟩)] w
      (StepEnd b fb O P (M.write (into F.d0 sh) F.c0.ver (wrap64 (F.c0.n + F.val)) [], { F with pc := 0 }, ⟨M.can (into F.d0 sh) F.c0.ver, 0, 0, 0⟩, M.can (into F.d0 sh) F.c0.ver) w) := by
  obtain ⟨a0, k0, a1, k1, hB, hS0, hS1, hi0, hi1⟩ := hf.box
  have hfl := hB.lt
  have hsf := run_store_flt (P := Tryz.prog)
  have c2 := (hB.get 2 _ rfl).1
  have c3 := (hB.get 3 _ rfl).1
  obtain ⟨c5, z5⟩ := hB.get 5 _ rfl
  have c11 := (hB.get 11 _ rfl).1
  have c12 := (hB.get 12 _ rfl).1
  have hp0 : (F.pc == 0) = false := by simpa using hp
  have hI := fun w => into_any F.d0 sh w (by omega)
  have hO : ¬ O fb := fun e => hd _ e hf.ob
  generalize hat : into F.d0 sh = at_ at *
  have HH := hidq (And.intro h (And.intro hf hd))
  have HB := hidq (And.intro hB (And.intro hS0 (And.intro hS1 (And.intro hi0 hi1))))
  clear h hf hd hB hS0 hS1 hi0 hi1 hp hat
  go_enter Tryz.func191, Tryz.ntmps191
  go_wp2_with fail
  go_quiet ((go_at_call 35; exact Calls.quiet_of_same (hI _)))
  go_wp2_with fail
  obtain ⟨W1, hW1, hb0, hsz0, _, hA0⟩ := two_new w [.int .i64 sh] Ans.zero.l 155 46 nq
  rw [show (((w.alloc (.cells #[.int .i64 sh] 155)).alloc (.cells #[.bool false, .float .f64 0, .int .i64 0, .int .i64 0] 46)).drewN nq) = W1 from hW1]
  clear hW1
  obtain ⟨HM, HF, HD⟩ := HH.out
  obtain ⟨hB, hS0, hS1, hi0, hi1⟩ := HB.out
  have hB2 := (hB.below hb0).set 5 (.int .i64 0)
  have hbw : But (fun j => j = fb) W1 (W1.setCell ⟨fb, 5, none⟩ (.int .i64 0)) := (But.refl (fun j => j = fb) W1).set1 fb 5 rfl _
  have hA2 := hA0.but hbw (by omega)
  have hM2 := (HM.below hb0).but hbw (fun k hk e => hO (e ▸ hk))
  have hS12 := (hS1.below hb0).but hbw (fun j hj => (hi1 j hj).2)
  have hS02 := (hS0.below hb0).but hbw (fun j hj => (hi0 j hj).2)
  have hz2 : (W1.setCell ⟨fb, 5, none⟩ (.int .i64 0)).heap.size = w.heap.size + 2 := by rw [World.size_setCell]; exact hsz0
  have hbut2 : But (fun k => O k ∨ P k) w (W1.setCell ⟨fb, 5, none⟩ (.int .i64 0)) := (But.of_below hb0).then hbw (fun j _ e => .inr (e ▸ HF.ob))
  clear hbw
  generalize W1.setCell ⟨fb, 5, none⟩ (.int .i64 0) = W2 at *
  have hWr := hidq (write_any b O M at_ F.c0.ver (wrap64 (F.c0.n + F.val)) none 0 [] W2.drew (hM2.but (S := fun _ => False) (But.refl _ _).drew (fun _ _ e => e)) (SlAt.nil _ _) (fun j hj => by obtain ⟨y, hy, _⟩ := hj; cases hy) (Nat.zero_le _) hck)
  have FIN := hidq (fun w3 (hM3 : MemAt w3 b (own' O (W2.drew) w3) (M.write at_ F.c0.ver (wrap64 (F.c0.n + F.val)) [])) (hb3 : But O (W2.drew) w3) => (by
    have hb3' : But O W2 w3 := ⟨hb3.os, hb3.tape, hb3.output, hb3.size, hb3.block⟩
    have hz3 := hb3'.size
    have hn : ∀ j, P j → ¬ own' O (W2.drew) w3 j := fun j hj e => by
      have := HF.lt _ hj
      rcases e with e | e
      · exact HD _ e hj
      · have h1 : W2.heap.size ≤ j := e.1; omega
    exact stepEnd_of (w := w) (P := P) (F' := { F with pc := 0 }) (A := ⟨M.can at_ F.c0.ver, 0, 0, 0⟩) (d := M.can at_ F.c0.ver) [] hM3 (fun k hk => by
        rcases hk with hk | hk
        · exact .inl hk
        · exact .inr ⟨by have h1 : W2.heap.size ≤ k := hk.1; omega, hk.2⟩) (hbut2.then hb3' (fun j _ e => .inl e)) HF.ob (hB2.but hb3' hO) rfl (hA2.but hb3' (fun e => by have := HM.lt _ e; omega)) (by omega)
        (fun e => by rcases e with e | e; have := HM.lt _ e; omega; have h1 : W2.heap.size ≤ w.heap.size + 1 := e.1; omega) (hn _ HF.ob) (by omega)
        (hS02.but hb3' (fun j hj e => HD _ e (hi0 j hj).1)) (fun j hj => by have := HF.lt _ (hi0 j hj).1; exact ⟨(hi0 j hj).2, by omega, hn _ (hi0 j hj).1, .inl (hi0 j hj).1⟩)
        (hS12.but hb3' (fun j hj e => HD _ e (hi1 j hj).1)) (fun j hj => by have := HF.lt _ (hi1 j hj).1; exact ⟨(hi1 j hj).2, by omega, hn _ (hi1 j hj).1, .inl (hi1 j hj).1⟩)))
  have GA := hidq (fun w3 (hb3 : But O (W2.drew) w3) => hA2.but (show But O W2 w3 from ⟨hb3.os, hb3.tape, hb3.output, hb3.size, hb3.block⟩) (fun e => by have := HM.lt _ e; omega))
  have d2 := (hB2.get 2 _ rfl).1
  have d11 := (hB2.get 11 _ rfl).1
  have d12 := (hB2.get 12 _ rfl).1
  clear hb0 hA0 hB2 hA2 hM2 hS12 hS02 hbut2 HM HF HD hB hS0 hS1 hi0 hi1 HH HB hI c2 c3 c5 z5 c11 c12
  go_still_tail 19, (by kernel_rfl)
  generalize hcan : M.can at_ F.c0.ver = can at *
  go_wp2_with fail
  refine hWr.out.mono ?_
  rintro e w3 ⟨rfl, hM3, hb3⟩
  obtain ⟨e1, e2⟩ := FIN.out w3 hM3 hb3
  have hA3 := GA.out w3 hb3
  obtain ⟨g0, x0⟩ := hA3.get 0 _ rfl
  obtain ⟨g1, x1⟩ := hA3.get 1 _ rfl
  obtain ⟨g2, x2⟩ := hA3.get 2 _ rfl
  obtain ⟨g3, x3⟩ := hA3.get 3 _ rfl
  have E1 := hidq e1
  have E2 := hidq e2
  clear e1 e2 hA3 hM3 hb3 hWr FIN GA

  go_wp2
  exact ret_ans Tryz.results191 E1.out rfl rfl rfl E2.out
end Go.Proofs.YtbcmilfajeanbaaGreat

namespace Go.Proofs.YtbcmilfajeanbaaGreat
open Go.RowKit Go.Sort

def sum7R (b fb : Nat) (M : Mem) (F : Fr) : List (Value → World → Prop) :=
  [fun v _ => v = .pointer (some ⟨fb, 0, none⟩),
   fun v _ => v = .pointer (some ⟨fb, 0, none⟩),
   fun v _ => v = .pointer (some ⟨fb, 9, none⟩),
   fun v _ => v = .int .i64 F.total,
   fun v _ => v = .pointer (some ⟨b, 0, none⟩),
   fun v _ => v = .pointer (some ⟨fb, 0, none⟩),
   fun v _ => v = .pointer (some ⟨fb, 0, none⟩),
   fun v _ => v = .pointer (some ⟨fb, 6, none⟩),
   fun v _ => v = .int .i64 F.at_,
   fun v _ => ∃ a c, v = .agg #[.int .u64 (M.look F.at_).ver, .int .i64 (M.look F.at_).n, .slice a (M.look F.at_).L.length c],
   fun v _ => ∃ a c, v = .agg #[.int .i64 (M.look F.at_).n, .slice a (M.look F.at_).L.length c],
   fun v _ => v = .int .i64 (M.look F.at_).n,
   fun v _ => v = .int .i64 (wrap64 (F.total + (M.look F.at_).n))]
theorem sum7R_kept (b fb : Nat) (M : Mem) (F : Fr) : Reg.AllKept Reg.Keeps (sum7R b fb M F) :=
  ⟨(fun _ _ _ _ h => h), (fun _ _ _ _ h => h), (fun _ _ _ _ h => h), (fun _ _ _ _ h => h), (fun _ _ _ _ h => h), (fun _ _ _ _ h => h), (fun _ _ _ _ h => h), (fun _ _ _ _ h => h), (fun _ _ _ _ h => h), (fun _ _ _ _ h => h), (fun _ _ _ _ h => h), (fun _ _ _ _ h => h), (fun _ _ _ _ h => h), trivial⟩

/-- What a step of Sum does. -/
def sumR (sh : Int) (M : Mem) (F : Fr) : Mem × Fr × Ans × Bool :=
  if F.at_ + 1 < sh then (M, { F with total := wrap64 (F.total + (M.look F.at_).n), at_ := F.at_ + 1 }, Ans.zero, false)
  else (M, { F with total := wrap64 (F.total + (M.look F.at_).n), at_ := F.at_ + 1 }, ⟨true, 0, 0, wrap64 (F.total + (M.look F.at_).n)⟩, true)
theorem sumR_lt {sh : Int} {M : Mem} {F : Fr} (h : F.at_ + 1 < sh) : sumR sh M F = (M, { F with total := wrap64 (F.total + (M.look F.at_).n), at_ := F.at_ + 1 }, Ans.zero, false) := if_pos h
theorem sumR_ge {sh : Int} {M : Mem} {F : Fr} (h : ¬ F.at_ + 1 < sh) : sumR sh M F = (M, { F with total := wrap64 (F.total + (M.look F.at_).n), at_ := F.at_ + 1 }, ⟨true, 0, 0, wrap64 (F.total + (M.look F.at_).n)⟩, true) := if_neg h
set_option maxRecDepth 20000 in
set_option maxHeartbeats 4000000 in
theorem tsum_any (sh : Int) (w : World) (b fb : Nat) (O P : Nat → Prop) (M : Mem) (F : Fr) (h : MemAt w b O M) (hf : FrAt w fb P F) (hd : ∀ k, O k → ¬ P k) (hs : 1 ≤ sh ∧ sh ≤ 16) (hat : 0 ≤ F.at_ ∧ F.at_ < sh) :
    Calls Tryz.prog 192 #[.agg #[.int .i64 sh], .pointer (some ⟨b, 0, none⟩), .pointer (some ⟨fb, 0, none⟩)] w
      (StepEnd b fb O P (sumR sh M F) w) := by
  obtain ⟨a0, k0, a1, k1, hB, hS0, hS1, hi0, hi1⟩ := hf.box
  have hfl := hB.lt
  have hsf := run_store_flt (P := Tryz.prog)
  have hf0 := fldC_1
  have hf1 := fldV_0
  obtain ⟨c6, _⟩ := hB.get 6 _ rfl
  obtain ⟨c9, _⟩ := hB.get 9 _ rfl
  have hO : ¬ O fb := fun e => hd _ e hf.ob
  have HH := hidq (And.intro h (And.intro hf hd))
  have HB := hidq (And.intro hB (And.intro hS0 (And.intro hS1 (And.intro hi0 hi1))))
  go_enter Tryz.func192, Tryz.ntmps192
  go_wp2_with fail
  obtain ⟨W1, hW1, hb0, hsz0, hR0, hA0⟩ := two_new w [.int .i64 sh] Ans.zero.l 155 46 0
  rw [show ((w.alloc (.cells #[.int .i64 sh] 155)).alloc (.cells #[.bool false, .float .f64 0, .int .i64 0, .int .i64 0] 46)) = W1 from hW1]
  clear hW1
  have hR := hidq (fun W (hW : Below W1.heap.size W1 W) => read5_any b O M F.at_ W (h.below (hb0.trans (hW.mono hb0.size))))
  have FC := hidq (fun W (hW : Below W1.heap.size W1 W) => And.intro (((hb0.trans (hW.mono hb0.size)).cell (p := ⟨fb, 9, none⟩) hfl).trans c9) (((hb0.trans (hW.mono hb0.size)).cell (p := ⟨fb, 6, none⟩) hfl).trans c6))
  clear h hf hd hB hS0 hS1 hi0 hi1
  have hrefl : ∀ w : World, Reg.Keeps w w := Reg.Keeps.refl
  refine Reg.wp_region_props_tail 13 (Reg.ofList (sum7R b fb M F)) Reg.Keeps (fun _ w => Reg.Keeps W1 w) (by kernel_rfl) (by kernel_rfl) (by kernel_rfl) (Reg.AllKept.at _ (sum7R_kept b fb M F)) hrefl (Reg.Keeps.drewN (Reg.Keeps.refl _) 1) ⟨?_, ?_, ?_, ?_, ?_, ?_, ?_, ?_, ?_, ?_, ?_, ?_, ?_, trivial⟩ ?_
  · refine Reg.StepAt.plain (i := 0) rfl ?_
    intro L ev w hI hk hp hA
    have e2 : ev (.tmp 2) = .pointer (some ⟨fb, 0, none⟩) := hA.oldNone 2 (by kernel_rfl)
    have hcc := hA.const
    clear hA hp
    refine Reg.out_value (v := .pointer (some ⟨fb, 0, none⟩)) ?_ ⟨rfl, hrefl _, hI⟩
    go_simp
  · refine Reg.StepAt.plain (i := 1) rfl ?_
    intro L ev w hI hk hp hA
    have e8 : ev (.tmp 8) = .pointer (some ⟨fb, 0, none⟩) := hA.val 0 _ 8 rfl (hp ⟨0, .data⟩ (by simp) rfl) rfl
    have hcc := hA.const
    clear hA hp
    refine Reg.out_value (v := .pointer (some ⟨fb, 0, none⟩)) ?_ ⟨rfl, hrefl _, hI⟩
    go_simp
  · refine Reg.StepAt.plain (i := 2) rfl ?_
    intro L ev w hI hk hp hA
    have e9 : ev (.tmp 9) = .pointer (some ⟨fb, 0, none⟩) := hA.val 1 _ 9 rfl (hp ⟨1, .data⟩ (by simp) rfl) rfl
    have hcc := hA.const
    clear hA hp
    refine Reg.out_value (v := .pointer (some ⟨fb, 9, none⟩)) ?_ ⟨rfl, hrefl _, hI⟩
    go_simp
  · refine Reg.StepAt.plain (i := 3) rfl ?_
    intro L ev w hI hk hp hA
    have e10 : ev (.tmp 10) = .pointer (some ⟨fb, 9, none⟩) := hA.val 2 _ 10 rfl (hp ⟨2, .data⟩ (by simp) rfl) rfl
    have hcc := hA.const
    clear hA hp
    obtain ⟨f9, f6⟩ := FC.out w hI
    refine Reg.out_value (v := .int .i64 F.total) ?_ ⟨rfl, hrefl _, hI⟩
    go_simp
  · refine Reg.StepAt.plain (i := 4) rfl ?_
    intro L ev w hI hk hp hA
    have e1 : ev (.tmp 1) = .pointer (some ⟨b, 0, none⟩) := hA.oldNone 1 (by kernel_rfl)
    have hcc := hA.const
    clear hA hp
    refine Reg.out_value (v := .pointer (some ⟨b, 0, none⟩)) ?_ ⟨rfl, hrefl _, hI⟩
    go_simp
  · refine Reg.StepAt.plain (i := 5) rfl ?_
    intro L ev w hI hk hp hA
    have e2 : ev (.tmp 2) = .pointer (some ⟨fb, 0, none⟩) := hA.oldNone 2 (by kernel_rfl)
    have hcc := hA.const
    clear hA hp
    refine Reg.out_value (v := .pointer (some ⟨fb, 0, none⟩)) ?_ ⟨rfl, hrefl _, hI⟩
    go_simp
  · refine Reg.StepAt.plain (i := 6) rfl ?_
    intro L ev w hI hk hp hA
    have e13 : ev (.tmp 13) = .pointer (some ⟨fb, 0, none⟩) := hA.val 5 _ 13 rfl (hp ⟨5, .data⟩ (by simp) rfl) rfl
    have hcc := hA.const
    clear hA hp
    refine Reg.out_value (v := .pointer (some ⟨fb, 0, none⟩)) ?_ ⟨rfl, hrefl _, hI⟩
    go_simp
  · refine Reg.StepAt.plain (i := 7) rfl ?_
    intro L ev w hI hk hp hA
    have e14 : ev (.tmp 14) = .pointer (some ⟨fb, 0, none⟩) := hA.val 6 _ 14 rfl (hp ⟨6, .data⟩ (by simp) rfl) rfl
    have hcc := hA.const
    clear hA hp
    refine Reg.out_value (v := .pointer (some ⟨fb, 6, none⟩)) ?_ ⟨rfl, hrefl _, hI⟩
    go_simp
  · refine Reg.StepAt.plain (i := 8) rfl ?_
    intro L ev w hI hk hp hA
    have e15 : ev (.tmp 15) = .pointer (some ⟨fb, 6, none⟩) := hA.val 7 _ 15 rfl (hp ⟨7, .data⟩ (by simp) rfl) rfl
    have hcc := hA.const
    clear hA hp
    obtain ⟨f9, f6⟩ := FC.out w hI
    refine Reg.out_value (v := .int .i64 F.at_) ?_ ⟨rfl, hrefl _, hI⟩
    go_simp
  · refine Reg.StepAt.plain (i := 9) rfl ?_
    intro L ev w hI hk hp hA
    have e12 : ev (.tmp 12) = .pointer (some ⟨b, 0, none⟩) := hA.val 4 _ 12 rfl (hp ⟨4, .data⟩ (by simp) rfl) rfl
    have e16 : ev (.tmp 16) = .int .i64 F.at_ := hA.val 8 _ 16 rfl (hp ⟨8, .data⟩ (by simp) rfl) rfl
    have hcc := hA.const
    have hcf := hA.func
    clear hA hp
    refine Reg.out_call (f := 80) (args := #[.pointer (some ⟨b, 0, none⟩), .int .i64 F.at_]) (w0 := w) ?_ ?_
    · go_simp
    refine (hR.out w hI).mono ?_
    rintro e w' ⟨a', c', rfl, _, _, hb'⟩
    exact ⟨_, rfl, ⟨a', c', rfl⟩, hb', Reg.Keeps.trans hI hb'⟩
  · refine Reg.StepAt.plain (i := 10) rfl ?_
    intro L ev w hI hk hp hA
    have e17 : (fun v _ => ∃ a c, v = .agg #[.int .u64 (M.look F.at_).ver, .int .i64 (M.look F.at_).n, .slice a (M.look F.at_).L.length c]) (ev (.tmp 17)) w := hA.val 9 _ 17 rfl (hp ⟨9, .data⟩ (by simp) rfl) rfl
    have hcc := hA.const
    clear hA hp
    obtain ⟨a, c, e17⟩ := e17
    refine Reg.out_value (v := .agg #[.int .i64 (M.look F.at_).n, .slice a (M.look F.at_).L.length c]) ?_ ⟨⟨a, c, rfl⟩, hrefl _, hI⟩
    go_simp
  · refine Reg.StepAt.plain (i := 11) rfl ?_
    intro L ev w hI hk hp hA
    have e18 : (fun v _ => ∃ a c, v = .agg #[.int .i64 (M.look F.at_).n, .slice a (M.look F.at_).L.length c]) (ev (.tmp 18)) w := hA.val 10 _ 18 rfl (hp ⟨10, .data⟩ (by simp) rfl) rfl
    have hcc := hA.const
    clear hA hp
    obtain ⟨a, c, e18⟩ := e18
    refine Reg.out_value (v := .int .i64 (M.look F.at_).n) ?_ ⟨rfl, hrefl _, hI⟩
    go_simp
  · refine Reg.StepAt.plain (i := 12) rfl ?_
    intro L ev w hI hk hp hA
    have e11 : ev (.tmp 11) = .int .i64 F.total := hA.val 3 _ 11 rfl (hp ⟨3, .data⟩ (by simp) rfl) rfl
    have e19 : ev (.tmp 19) = .int .i64 (M.look F.at_).n := hA.val 11 _ 19 rfl (hp ⟨11, .data⟩ (by simp) rfl) rfl
    have hcc := hA.const
    clear hA hp
    refine Reg.out_value (v := .int .i64 (wrap64 (F.total + (M.look F.at_).n))) ?_ ⟨rfl, hrefl _, hI⟩
    (go_simp; unfold wrap64; exact IntKind.wrap_i64 _)
  intro act wz hI hF
  have g8 : act.eval (.tmp 8) = .pointer (some ⟨fb, 0, none⟩) := hF.val 0 _ 8 rfl (by kernel_rfl) rfl
  have g9 : act.eval (.tmp 9) = .pointer (some ⟨fb, 0, none⟩) := hF.val 1 _ 9 rfl (by kernel_rfl) rfl
  have g10 : act.eval (.tmp 10) = .pointer (some ⟨fb, 9, none⟩) := hF.val 2 _ 10 rfl (by kernel_rfl) rfl
  have g11 : act.eval (.tmp 11) = .int .i64 F.total := hF.val 3 _ 11 rfl (by kernel_rfl) rfl
  have g12 : act.eval (.tmp 12) = .pointer (some ⟨b, 0, none⟩) := hF.val 4 _ 12 rfl (by kernel_rfl) rfl
  have g13 : act.eval (.tmp 13) = .pointer (some ⟨fb, 0, none⟩) := hF.val 5 _ 13 rfl (by kernel_rfl) rfl
  have g14 : act.eval (.tmp 14) = .pointer (some ⟨fb, 0, none⟩) := hF.val 6 _ 14 rfl (by kernel_rfl) rfl
  have g15 : act.eval (.tmp 15) = .pointer (some ⟨fb, 6, none⟩) := hF.val 7 _ 15 rfl (by kernel_rfl) rfl
  have g16 : act.eval (.tmp 16) = .int .i64 F.at_ := hF.val 8 _ 16 rfl (by kernel_rfl) rfl
  have g17 : (fun v _ => ∃ a c, v = .agg #[.int .u64 (M.look F.at_).ver, .int .i64 (M.look F.at_).n, .slice a (M.look F.at_).L.length c]) (act.eval (.tmp 17)) wz := hF.val 9 _ 17 rfl (by kernel_rfl) rfl
  have g18 : (fun v _ => ∃ a c, v = .agg #[.int .i64 (M.look F.at_).n, .slice a (M.look F.at_).L.length c]) (act.eval (.tmp 18)) wz := hF.val 10 _ 18 rfl (by kernel_rfl) rfl
  have g19 : act.eval (.tmp 19) = .int .i64 (M.look F.at_).n := hF.val 11 _ 19 rfl (by kernel_rfl) rfl
  have g20 : act.eval (.tmp 20) = .int .i64 (wrap64 (F.total + (M.look F.at_).n)) := hF.val 12 _ 20 rfl (by kernel_rfl) rfl
  have hact := hF.actHead [8, 9, 10, 11, 12, 13, 14, 15, 16, 17, 18, 19, 20] (by kernel_rfl)
  clear hF
  simp only [List.foldl_cons, List.foldl_nil] at hact
  rw [g8, g9, g10, g11, g12, g13, g14, g15, g16, g19, g20] at hact
  clear g8 g9 g10 g11 g12 g13 g14 g15 g16 g19 g20
  generalize act.eval (.tmp 17) = u17 at hact g17
  generalize act.eval (.tmp 18) = u18 at hact g18
  simp only [List.setIfInBounds_toArray, List.set_cons_succ, List.set_cons_zero] at hact
  subst hact
  simp only [List.drop_succ_cons, List.drop_zero]
  have hb2 : Below w.heap.size w wz := hb0.trans (Below.mono hI hb0.size)
  have hA2 := hA0.below (show Below W1.heap.size W1 wz from hI)
  have hR2 := hR0.below (show Below W1.heap.size W1 wz from hI)
  have hsz : w.heap.size + 2 ≤ wz.heap.size := by have : W1.heap.size ≤ wz.heap.size := hI.size; omega
  obtain ⟨HM, HF, HD⟩ := HH.out
  obtain ⟨hB, hS0, hS1, hi0, hi1⟩ := HB.out
  have hB2 := hB.below hb2
  have FIN := hidq (fun (n : Nat) (A : Ans) (dn : Bool) => stepEnd_ofN n (F' := { F with total := wrap64 (F.total + (M.look F.at_).n), at_ := F.at_ + 1 }) (A := A) (d := dn) [(9, .int .i64 (wrap64 (F.total + (M.look F.at_).n))), (6, .int .i64 (F.at_ + 1))]
    (HM.below hb2) (Grown.refl O w wz) (But.of_below hb2) HF.ob hB2 rfl hA2 (by omega) (fun e => by have := HM.lt _ e; omega) hO (by omega)
    (hS0.below hb2) (fun j hj => by have := HF.lt _ (hi0 j hj).1; exact ⟨(hi0 j hj).2, by omega, fun e => HD _ e (hi0 j hj).1, .inl (hi0 j hj).1⟩)
    (hS1.below hb2) (fun j hj => by have := HF.lt _ (hi1 j hj).1; exact ⟨(hi1 j hj).2, by omega, fun e => HD _ e (hi1 j hj).1, .inl (hi1 j hj).1⟩))
  obtain ⟨d6, y6⟩ := hB2.get 6 _ rfl
  obtain ⟨d9, y9⟩ := hB2.get 9 _ rfl
  obtain ⟨g0, x0⟩ := hA2.get 0 _ rfl
  obtain ⟨g1, x1⟩ := hA2.get 1 _ rfl
  obtain ⟨g2, x2⟩ := hA2.get 2 _ rfl
  obtain ⟨g3, x3⟩ := hA2.get 3 _ rfl
  have r0 := (hR2.get 0 _ rfl).1
  have hfa : ¬ fb = w.heap.size + 1 := by omega
  have hfb : ¬ fb = w.heap.size := by omega
  clear hb2 hA2 hR2 hB2 HM HF HD hB hS0 hS1 hi0 hi1 hb0 hA0 HH HB hR FC hI c6 c9
  have hat2 : F.at_ < 9223372036854775807 := by omega
  by_cases hlt : F.at_ + 1 < sh
  · have HS := hidq (sumR_lt (M := M) hlt)
    generalize wrap64 (F.total + (M.look F.at_).n) = tot at *
    go_wp2
    go_quiet (fail)
    go_wp2
    exact ret_ans Tryz.results192 (FIN.out nq Ans.zero false).1 rfl rfl rfl (by rw [HS.out]; exact (FIN.out nq Ans.zero false).2)
  · have HS := hidq (sumR_ge (M := M) hlt)
    generalize wrap64 (F.total + (M.look F.at_).n) = tot at *
    have hdl : decide (F.at_ + 1 < sh) = false := decide_eq_false hlt
    go_wp2
    go_quiet (fail)
    go_wp2
    exact ret_ans Tryz.results192 (FIN.out nq ⟨true, 0, 0, tot⟩ true).1 rfl rfl rfl (by rw [HS.out]; exact (FIN.out nq ⟨true, 0, 0, tot⟩ true).2)
end Go.Proofs.YtbcmilfajeanbaaGreat

namespace Go.Proofs.YtbcmilfajeanbaaGreat
open Go.RowKit Go.Sort

/-- A Tally's step. -/
def tStep (sh : Int) : StepFn := fun M F =>
  if F.kind = 5 then
    if F.pc = 0 then (M, { F with c0 := M.look (into F.d0 sh), pc := 1 }, Ans.zero, false)
    else (M.write (into F.d0 sh) F.c0.ver (wrap64 (F.c0.n + F.val)) [], { F with pc := 0 }, ⟨M.can (into F.d0 sh) F.c0.ver, 0, 0, 0⟩, M.can (into F.d0 sh) F.c0.ver)
  else sumR sh M F
/-- What is asked of a frame. -/
def tGood (sh : Int) (_ : Mem) (F : Fr) : Prop := F.kind = 5 ∨ (F.kind = 6 ∧ 0 ≤ F.at_ ∧ F.at_ < sh)

theorem tadd_any (sh : Int) (w : World) (b fb : Nat) (O P : Nat → Prop) (M : Mem) (F : Fr) (h : MemAt w b O M) (hf : FrAt w fb P F) (hd : ∀ k, O k → ¬ P k) (hs : 1 ≤ sh ∧ sh ≤ 16) (hk : F.kind = 5) (hck : M.clock < 4611686018427387904) :
    Calls Tryz.prog 191 #[.agg #[.int .i64 sh], .pointer (some ⟨b, 0, none⟩), .pointer (some ⟨fb, 0, none⟩)] w (StepEnd b fb O P (tStep sh M F) w) := by
  unfold tStep
  rw [if_pos hk]
  by_cases hp : F.pc = 0
  · rw [if_pos hp]; exact tadd_read sh w b fb O P M F h hf hd hs hp
  · rw [if_neg hp]; exact tadd_write sh w b fb O P M F h hf hd hs hp hck

set_option maxHeartbeats 2000000 in
theorem tstep_is (sh : Int) (hs : 1 ≤ sh ∧ sh ≤ 16) : IsStep 190 (.agg #[.int .i64 sh]) (tGood sh) (tStep sh) := by
  intro w b fb O P M F h hf hd hg hck
  obtain ⟨a0, k0, a1, k1, hB, _⟩ := hf.box
  have hfl := hB.lt
  have hsf := run_store_flt (P := Tryz.prog)
  have c0 := (hB.get 0 _ rfl).1
  obtain ⟨W1, hW1, hb0, hsz0, hR0, hA0⟩ := two_new w [.int .i64 sh] Ans.zero.l 155 46 0
  have hW2 : (w.alloc (.cells #[.int .i64 sh] 155)).alloc (.cells #[.bool false, .float .f64 0, .int .i64 0, .int .i64 0] 46) = W1 := hW1
  clear hW1
  have r0 := (hR0.get 0 _ rfl).1
  have c01 := (hb0.cell (p := ⟨fb, 0, none⟩) hfl).trans c0
  have hM1 := h.below hb0
  have hf1 := hf.below hb0
  have FIN := hidq (fun e w2 (hE : StepEnd b fb O P (tStep sh M F) W1 e w2) => stepEnd_on hb0 h.lt hf.lt hE hA0 (Nat.le_succ _))
  have GA := hidq (fun w2 (hb : But (fun k => O k ∨ P k) W1 w2) => hA0.but hb (fun e => by
    rcases e with e | e
    · have := h.lt _ e; omega
    · have := hf.lt _ e; omega))
  rcases hg with hk | ⟨hk, hat⟩
  · have hC := hidq (tadd_any sh W1 b fb O P M F hM1 hf1 hd hs hk hck)
    rw [hk] at c0 c01
    clear h hf hd hB hb0 hR0 hA0 hM1 hf1 hk
    generalize tStep sh M F = r at *
    obtain ⟨M', F', A, d⟩ := r
    obtain ⟨aok, api, av, an⟩ := A
    go_enter Tryz.func190, Tryz.ntmps190
    go_wp2_with fail
    refine hC.out.mono ?_
    intro e w2 hE
    obtain ⟨e1, e2⟩ := FIN.out _ _ hE
    obtain ⟨rfl, _, _, _, _, _, _, _, hb2⟩ := hE
    have hA2 := GA.out _ hb2
    obtain ⟨g0, x0⟩ := hA2.get 0 _ rfl
    obtain ⟨g1, x1⟩ := hA2.get 1 _ rfl
    obtain ⟨g2, x2⟩ := hA2.get 2 _ rfl
    obtain ⟨g3, x3⟩ := hA2.get 3 _ rfl
    have E1 := hidq e1
    have E2 := hidq e2
    clear e1 e2 hA2 hb2 hC FIN GA hW2
    go_wp2
    exact ret_ans Tryz.results190 E1.out rfl rfl rfl E2.out
  · have hC := hidq (tsum_any sh W1 b fb O P M F hM1 hf1 hd hs hat)
    have hT : sumR sh M F = tStep sh M F := by unfold tStep; rw [if_neg (by omega)]
    rw [hT] at hC
    rw [hk] at c0 c01
    clear h hf hd hB hb0 hR0 hA0 hM1 hf1 hk hat hT
    generalize tStep sh M F = r at *
    obtain ⟨M', F', A, d⟩ := r
    obtain ⟨aok, api, av, an⟩ := A
    go_enter Tryz.func190, Tryz.ntmps190
    go_wp2_with fail
    refine hC.out.mono ?_
    intro e w2 hE
    obtain ⟨e1, e2⟩ := FIN.out _ _ hE
    obtain ⟨rfl, _, _, _, _, _, _, _, hb2⟩ := hE
    have hA2 := GA.out _ hb2
    obtain ⟨g0, x0⟩ := hA2.get 0 _ rfl
    obtain ⟨g1, x1⟩ := hA2.get 1 _ rfl
    obtain ⟨g2, x2⟩ := hA2.get 2 _ rfl
    obtain ⟨g3, x3⟩ := hA2.get 3 _ rfl
    have E1 := hidq e1
    have E2 := hidq e2
    clear e1 e2 hA2 hb2 hC FIN GA hW2
    go_wp2
    exact ret_ans Tryz.results190 E1.out rfl rfl rfl E2.out
end Go.Proofs.YtbcmilfajeanbaaGreat

namespace Go.Proofs.YtbcmilfajeanbaaGreat.Flt
open Ieee

/-- The rung with its sign. -/
def srung (x : Nat) : Int := if x / 9223372036854775808 % 2 = 1 then -((x % 9223372036854775808 : Nat) : Int) else ((x % 9223372036854775808 : Nat) : Int)

def mag (r : Nat) : Nat := if r < 4503599627370496 then r else 4503599627370496 + r % 4503599627370496
def ex (r : Nat) : Nat := r / 4503599627370496 - 1
def val (r : Nat) : Nat := mag r * 2 ^ ex r

theorem val_succ (r : Nat) : val r < val (r + 1) := by
  unfold val mag ex
  by_cases h1 : r + 1 < 4503599627370496
  · have h2 : r < 4503599627370496 := by omega
    have e1 : r / 4503599627370496 - 1 = 0 := by omega
    have e2 : (r + 1) / 4503599627370496 - 1 = 0 := by omega
    rw [if_pos h2, if_pos h1, e1, e2]; omega
  · rw [if_neg h1]
    by_cases h2 : r < 4503599627370496
    · have e1 : r / 4503599627370496 - 1 = 0 := by omega
      have e2 : (r + 1) / 4503599627370496 - 1 = 0 := by omega
      have e3 : (r + 1) % 4503599627370496 = 0 := by omega
      rw [if_pos h2, e1, e2, e3]; omega
    · rw [if_neg h2]
      by_cases h3 : (r + 1) % 4503599627370496 = 0
      · have e2 : (r + 1) / 4503599627370496 - 1 = (r / 4503599627370496 - 1) + 1 := by omega
        have e3 : r % 4503599627370496 = 4503599627370495 := by omega
        rw [h3, e2, e3, Nat.pow_succ]
        have : 0 < 2 ^ (r / 4503599627370496 - 1) := Nat.two_pow_pos _
        generalize 2 ^ (r / 4503599627370496 - 1) = p at *
        omega
      · have e2 : (r + 1) / 4503599627370496 - 1 = r / 4503599627370496 - 1 := by omega
        have e3 : (r + 1) % 4503599627370496 = r % 4503599627370496 + 1 := by omega
        rw [e2, e3]
        have : 0 < 2 ^ (r / 4503599627370496 - 1) := Nat.two_pow_pos _
        exact Nat.mul_lt_mul_of_pos_right (by omega) this

theorem val_mono {r s : Nat} (h : r < s) : val r < val s := by
  induction s with
  | zero => omega
  | succ s ih =>
    by_cases e : r = s
    · subst e; exact val_succ r
    · exact Nat.lt_trans (ih (by omega)) (val_succ s)
theorem val_zero : val 0 = 0 := by simp [val, mag]
theorem val_lt_iff (r s : Nat) : val r < val s ↔ r < s := by
  constructor
  · intro h
    rcases Nat.lt_trichotomy r s with h1 | h1 | h1
    · exact h1
    · subst h1; omega
    · have := val_mono h1; omega
  · exact val_mono
theorem val_pos {r : Nat} (h : 0 < r) : 0 < val r := by have := val_mono h; omega

theorem read_num (x : Nat) (h : x % 9223372036854775808 < 9218868437227405312) :
    double.read x = .number (decide (x / 9223372036854775808 % 2 = 1)) (mag (x % 9223372036854775808)) (double.leastPlace + (ex (x % 9223372036854775808) : Nat)) := by
  unfold Format.read
  have e1 : double.signWeight = 9223372036854775808 := rfl
  have e2 : double.binade = 4503599627370496 := rfl
  have e3 : double.infRung = 9218868437227405312 := rfl
  simp only [e1, e2, e3]
  generalize x % 9223372036854775808 = r at *
  by_cases h1 : r < 4503599627370496
  · have e : r / 4503599627370496 - 1 = 0 := by omega
    simp [h1, mag, ex, e, BEq.beq]
  · simp [h1, h, mag, ex]
    rfl
theorem read_inf (x : Nat) (h : x % 9223372036854775808 = 9218868437227405312) : double.read x = .infinity (decide (x / 9223372036854775808 % 2 = 1)) := by
  unfold Format.read
  have e1 : double.signWeight = 9223372036854775808 := rfl
  have e2 : double.binade = 4503599627370496 := rfl
  have e3 : double.infRung = 9218868437227405312 := rfl
  simp only [e1, e2, e3, h]
  rfl
theorem read_nan (x : Nat) (h : 9218868437227405312 < x % 9223372036854775808) : ∃ s t, double.read x = .nan s t := by
  unfold Format.read
  have e1 : double.signWeight = 9223372036854775808 := rfl
  have e2 : double.binade = 4503599627370496 := rfl
  have e3 : double.infRung = 9218868437227405312 := rfl
  simp only [e1, e2, e3]
  rw [if_neg (by omega), if_neg (by omega), if_neg (by omega)]
  exact ⟨_, _, rfl⟩

theorem compare_int (a b : Int) : compare a b = if a < b then .lt else if a = b then .eq else .gt := rfl
theorem compare_scale (a b c d : Int) (h1 : a < b ↔ c < d) (h2 : a = b ↔ c = d) : compare a b = compare c d := by
  rw [compare_int, compare_int]; simp only [h1, h2]

def sval (s : Bool) (r : Nat) : Int := if s then -(val r : Int) else val r

theorem signed_scale (s : Bool) (r k : Nat) (hk : k ≤ ex r) : signed s (mag r) (ex r - k) * (2 ^ k : Nat) = sval s r := by
  have : mag r <<< (ex r - k) * 2 ^ k = val r := by
    rw [Nat.shiftLeft_eq, Nat.mul_assoc, ← Nat.pow_add, Nat.sub_add_cancel hk]; rfl
  unfold signed sval
  cases s
  · simp only [Bool.false_eq_true, if_false]; exact_mod_cast this
  · simp only [if_true]; rw [Int.neg_mul]; congr 1; exact_mod_cast this

theorem order_val (s t : Bool) (x y : Nat) : Datum.order (.number s (mag x) (double.leastPlace + (ex x : Nat))) (.number t (mag y) (double.leastPlace + (ex y : Nat))) = some (compare (sval s x) (sval t y)) := by
  unfold Datum.order
  simp only
  have e1 : (double.leastPlace + (ex x : Nat) - min (double.leastPlace + (ex x : Nat)) (double.leastPlace + (ex y : Nat))).toNat = ex x - min (ex x) (ex y) := by omega
  have e2 : (double.leastPlace + (ex y : Nat) - min (double.leastPlace + (ex x : Nat)) (double.leastPlace + (ex y : Nat))).toNat = ex y - min (ex x) (ex y) := by omega
  rw [e1, e2]
  have h1 := signed_scale s x (min (ex x) (ex y)) (Nat.min_le_left _ _)
  have h2 := signed_scale t y (min (ex x) (ex y)) (Nat.min_le_right _ _)
  have hp : (0 : Int) < ((2 ^ min (ex x) (ex y) : Nat) : Int) := by exact_mod_cast Nat.two_pow_pos _
  rw [← h1, ← h2]
  congr 1
  refine compare_scale _ _ _ _ ?_ ?_
  · exact (Int.mul_lt_mul_right hp).symm
  · exact (Int.mul_eq_mul_right_iff (by omega)).symm

theorem compare_sval (s t : Bool) (x y : Nat) : compare (sval s x) (sval t y) = compare (if s then -(x : Int) else x) (if t then -(y : Int) else y) := by
  have h1 := val_lt_iff x y
  have h2 := val_lt_iff y x
  have h3 : 0 < val x ↔ 0 < x := by have := val_lt_iff 0 x; rw [val_zero] at this; exact this
  have h4 : 0 < val y ↔ 0 < y := by have := val_lt_iff 0 y; rw [val_zero] at this; exact this
  refine compare_scale _ _ _ _ ?_ ?_ <;> cases s <;> cases t <;> simp only [sval, if_true, Bool.false_eq_true, if_false] <;> omega

theorem lt_of_word {x : Nat} (_h : x < 18446744073709551616) : x % 9223372036854775808 < 9223372036854775808 := by omega

/-- Of two that are numbers. -/
theorem order_eq (x y : Nat) (hx : x % 9223372036854775808 ≤ 9218868437227405312) (hy : y % 9223372036854775808 ≤ 9218868437227405312) :
    double.order x y = some (compare (srung x) (srung y)) := by
  unfold Format.order
  by_cases ix : x % 9223372036854775808 = 9218868437227405312
  · rw [read_inf x ix]
    by_cases iy : y % 9223372036854775808 = 9218868437227405312
    · rw [read_inf y iy]
      unfold srung
      rw [ix, iy]
      by_cases sx : x / 9223372036854775808 % 2 = 1 <;> by_cases sy : y / 9223372036854775808 % 2 = 1 <;> simp only [sx, sy, decide_true, decide_false, Datum.order, if_true, if_false] <;> rfl
    · rw [read_num y (by omega)]
      unfold srung
      rw [ix]
      by_cases sx : x / 9223372036854775808 % 2 = 1
      · simp only [sx, decide_true, Datum.order, if_true]
        rw [compare_int, if_pos (by split <;> omega)]
      · simp only [sx, decide_false, Datum.order, if_false, Bool.false_eq_true]
        rw [compare_int, if_neg (by split <;> omega), if_neg (by split <;> omega)]
  · rw [read_num x (by omega)]
    by_cases iy : y % 9223372036854775808 = 9218868437227405312
    · rw [read_inf y iy]
      unfold srung
      rw [iy]
      by_cases sy : y / 9223372036854775808 % 2 = 1
      · simp only [sy, decide_true, Datum.order, if_true]
        rw [compare_int, if_neg (by split <;> omega), if_neg (by split <;> omega)]
      · simp only [sy, decide_false, Datum.order, if_false, Bool.false_eq_true]
        rw [compare_int, if_pos (by split <;> omega)]
    · rw [read_num y (by omega), order_val, compare_sval]
      unfold srung
      congr 2
      · by_cases sx : x / 9223372036854775808 % 2 = 1 <;> simp only [sx, decide_true, decide_false, if_true, if_false, Bool.false_eq_true]
      · by_cases sy : y / 9223372036854775808 % 2 = 1 <;> simp only [sy, decide_true, decide_false, if_true, if_false, Bool.false_eq_true]
theorem order_nan_left (x y : Nat) (h : 9218868437227405312 < x % 9223372036854775808) : double.order x y = none := by
  obtain ⟨s, t, e⟩ := read_nan x h
  unfold Format.order; rw [e]; cases double.read y <;> rfl
theorem order_nan_right (x y : Nat) (h : 9218868437227405312 < y % 9223372036854775808) : double.order x y = none := by
  obtain ⟨s, t, e⟩ := read_nan y h
  unfold Format.order; rw [e]; cases double.read x <;> rfl
end Go.Proofs.YtbcmilfajeanbaaGreat.Flt

namespace Go.Proofs.YtbcmilfajeanbaaGreat.Top
open Go

theorem and_top (a : Nat) (h : a < 18446744073709551616) : a &&& 9223372036854775808 = a / 9223372036854775808 * 9223372036854775808 := by
  apply Nat.eq_of_testBit_eq
  intro i
  rw [Nat.testBit_and, show (9223372036854775808 : Nat) = 2 ^ 63 by decide, Nat.testBit_two_pow]
  have hc : a / 2 ^ 63 = 0 ∨ a / 2 ^ 63 = 1 := by rw [show (2 : Nat) ^ 63 = 9223372036854775808 by decide]; omega
  have ht : a.testBit 63 = decide (a / 2 ^ 63 % 2 = 1) := Nat.testBit_eq_decide_div_mod_eq
  rcases hc with h0 | h0
  · rw [h0, Nat.zero_mul, Nat.zero_testBit]
    by_cases hi : 63 = i
    · subst hi; rw [ht, h0]; rfl
    · simp [hi]
  · rw [h0, Nat.one_mul, Nat.testBit_two_pow]
    by_cases hi : 63 = i
    · subst hi; rw [ht, h0]; rfl
    · simp [hi]
theorem or_top (a : Nat) (h : a < 9223372036854775808) : a ||| 9223372036854775808 = a + 9223372036854775808 := by
  have e := Nat.two_pow_add_eq_or_of_lt (i := 63) (b := a) (by rw [show (2 : Nat) ^ 63 = 9223372036854775808 by decide]; exact h) 1
  rw [show (2 : Nat) ^ 63 = 9223372036854775808 by decide] at e
  rw [Nat.or_comm]; simp at e; omega
theorem xor_top_lo (a : Nat) (h : a < 9223372036854775808) : a ^^^ 9223372036854775808 = a + 9223372036854775808 := by
  rw [← or_top a h]
  apply Nat.eq_of_testBit_eq
  intro i
  rw [Nat.testBit_xor, Nat.testBit_or, show (9223372036854775808 : Nat) = 2 ^ 63 by decide, Nat.testBit_two_pow]
  by_cases hi : 63 = i
  · subst hi
    rw [Nat.testBit_lt_two_pow (by rw [show (2 : Nat) ^ 63 = 9223372036854775808 by decide]; exact h)]; rfl
  · simp [hi]
theorem xor_top_hi (a : Nat) (h : 9223372036854775808 ≤ a) (h2 : a < 18446744073709551616) : a ^^^ 9223372036854775808 = a - 9223372036854775808 := by
  have e := xor_top_lo (a - 9223372036854775808) (by omega)
  rw [show a - 9223372036854775808 + 9223372036854775808 = a by omega] at e
  generalize a - 9223372036854775808 = b at *
  rw [← e, Nat.xor_assoc, Nat.xor_self, Nat.xor_zero]
theorem andNot_top (a : Nat) : a &&& (18446744073709551615 - 9223372036854775808) = a % 9223372036854775808 := by
  have e := Nat.and_two_pow_sub_one_eq_mod a 63
  rw [show (2 : Nat) ^ 63 = 9223372036854775808 by decide] at e
  exact e

theorem u64_and_top (x : Int) (h0 : 0 ≤ x) (h1 : x < 18446744073709551616) : bits .and .u64 x 9223372036854775808 = x / 9223372036854775808 * 9223372036854775808 := by
  rw [u64_and x _ h0 h1 (by decide) (by decide), show (9223372036854775808 : Int).toNat = 9223372036854775808 from rfl, and_top _ (by omega)]; omega
theorem u64_or_top (x : Int) (h0 : 0 ≤ x) (h1 : x < 9223372036854775808) : bits .or .u64 x 9223372036854775808 = x + 9223372036854775808 := by
  rw [u64_or x _ h0 (by omega) (by decide) (by decide), show (9223372036854775808 : Int).toNat = 9223372036854775808 from rfl, or_top _ (by omega)]; omega
theorem u64_xor_lo (x : Int) (h0 : 0 ≤ x) (h1 : x < 9223372036854775808) : bits .xor .u64 x 9223372036854775808 = x + 9223372036854775808 := by
  rw [u64_xor x _ h0 (by omega) (by decide) (by decide), show (9223372036854775808 : Int).toNat = 9223372036854775808 from rfl, xor_top_lo _ (by omega)]; omega
theorem u64_xor_hi (x : Int) (h0 : 9223372036854775808 ≤ x) (h1 : x < 18446744073709551616) : bits .xor .u64 x 9223372036854775808 = x - 9223372036854775808 := by
  rw [u64_xor x _ (by omega) (by omega) (by decide) (by decide), show (9223372036854775808 : Int).toNat = 9223372036854775808 from rfl, xor_top_hi _ (by omega) (by omega)]; omega
theorem u64_not_top (x : Int) (h0 : 0 ≤ x) (h1 : x < 18446744073709551616) : bits .andNot .u64 x 9223372036854775808 = x % 9223372036854775808 := by
  rw [u64_andNot x _ h0 h1 (by decide) (by decide), show (9223372036854775808 : Int).toNat = 9223372036854775808 from rfl, andNot_top]; omega
theorem u64_flip (x : Int) (h0 : 0 ≤ x) (h1 : x < 18446744073709551616) : bits .xor .u64 IntKind.u64.max x = 18446744073709551615 - x := by
  rw [u64_xor _ x (by decide) (by decide) h0 h1, show (IntKind.u64.max).toNat = 2 ^ 64 - 1 from rfl]
  obtain ⟨n, rfl⟩ := Int.eq_ofNat_of_zero_le h0
  have hn : n < 2 ^ 64 := by rw [show (2 : Nat) ^ 64 = 18446744073709551616 by decide]; omega
  have e : (2 ^ 64 - 1) ^^^ n = 2 ^ 64 - 1 - n := by
    apply Nat.eq_of_testBit_eq
    intro i
    have e1 : 2 ^ 64 - 1 - n = 2 ^ 64 - (n + 1) := by omega
    rw [e1, Nat.testBit_two_pow_sub_succ hn, Nat.testBit_xor, Nat.testBit_two_pow_sub_one]
    by_cases hi : i < 64
    · simp [hi]
    · simp [hi]
      exact Nat.testBit_lt_two_pow (Nat.lt_of_lt_of_le hn (Nat.pow_le_pow_right (by decide) (by omega)))
  rw [Int.toNat_natCast, e]
  have : (2 : Nat) ^ 64 = 18446744073709551616 := by decide
  omega
end Go.Proofs.YtbcmilfajeanbaaGreat.Top

namespace Go.Proofs.YtbcmilfajeanbaaGreat
open Go.RowKit

/-- A number of bits as an integer, and back. -/
def ni (n : Nat) : Int := n
def nf (x : Int) : Nat := x.toNat
theorem ni_nf {x : Int} (h : 0 ≤ x) : ni (nf x) = x := Int.toNat_of_nonneg h
theorem nf_ni (n : Nat) : nf (ni n) = n := rfl

/-- Not a number. -/
def nanB (n : Nat) : Bool := decide (9218868437227405312 < n % 9223372036854775808)
theorem nanB_order (n : Nat) : (FloatKind.f64.format.order n n != some Ordering.eq) = nanB n := by
  show (Ieee.double.order n n != some Ordering.eq) = _
  unfold nanB
  by_cases h : 9218868437227405312 < n % 9223372036854775808
  · rw [Flt.order_nan_left n n h, decide_eq_true h]; rfl
  · rw [Flt.order_eq n n (by omega) (by omega), decide_eq_false h, Flt.compare_int, if_neg (by omega), if_pos rfl]; rfl

theorem run_bits (n : Nat) (w : World) : (callFunc 89 #[.float .f64 n]).run Tryz.prog w = .ok (.value (.int .u64 (ni n))) w := by
  rw [run_callFunc_extern (e := Extern.MathFloatBits.float64bits) Tryz.func89 (by kernel_rfl) (by kernel_rfl) (by kernel_rfl) (by kernel_rfl)]
  rfl
theorem run_frombits (x : Int) (w : World) : (callFunc 76 #[.int .u64 x]).run Tryz.prog w = .ok (.value (.float .f64 (nf x))) w := by
  rw [run_callFunc_extern (e := Extern.MathFloatBits.float64frombits) Tryz.func76 (by kernel_rfl) (by kernel_rfl) (by kernel_rfl) (by kernel_rfl)]
  rfl

theorem cisNaN64_any (x : Int) (w : World) : Calls Tryz.prog 77 #[.int .u64 x] w fun e w' => e = .returned (.bool false) ∧ w' = w := by
  go_enter Tryz.func77, Tryz.ntmps77
  go_wp2
  go_ret
  exact ⟨rfl, rfl⟩

theorem isNaN_any (n : Nat) (w : World) : Calls Tryz.prog 100 #[.float .f64 n] w fun e w' => e = .returned (.bool (nanB n)) ∧ w' = w := by
  go_enter Tryz.func100, Tryz.ntmps100
  have h := nanB_order n
  go_wp2
  go_ret
  exact ⟨rfl, rfl⟩

/-- Canonical bits. -/
def cbits (n : Nat) : Nat := if nanB n = true then 9221120237041090560 else n
theorem cbits_nan {n : Nat} (h : nanB n = true) : cbits n = 9221120237041090560 := if_pos h
theorem cbits_num {n : Nat} (h : nanB n = false) : cbits n = n := if_neg (by rw [h]; decide)
theorem cbits_lt {n : Nat} (h : n < 18446744073709551616) : cbits n < 18446744073709551616 := by
  unfold cbits; split <;> omega

theorem canon_any (n : Nat) (w : World) : Calls Tryz.prog 90 #[.float .f64 n] w fun e w' => e = .returned (.float .f64 (cbits n)) ∧ w' = w := by
  have h31 := run_frombits
  go_enter Tryz.func90, Tryz.ntmps90
  go_wp2_with (go_at_call 100; refine (isNaN_any _ _).mono ?_; rintro e w' ⟨rfl, rfl⟩)
  · have h : nanB n = true := by assumption
    go_ret
    exact ⟨by rw [cbits_nan h]; rfl, rfl⟩
  · have h : nanB n = false := by assumption
    go_ret
    exact ⟨by rw [cbits_num h]; rfl, rfl⟩

theorem canonBits_any (n : Nat) (w : World) : Calls Tryz.prog 78 #[.float .f64 n] w fun e w' => e = .returned (.int .u64 (ni (cbits n))) ∧ w' = w := by
  have h15 := run_bits
  go_enter Tryz.func78, Tryz.ntmps78
  go_wp2_with (go_at_call 90; refine (canon_any _ _).mono ?_; rintro e w' ⟨rfl, rfl⟩)
  go_ret
  exact ⟨rfl, rfl⟩

/-- The key of canonical bits. -/
def keyI (x : Int) : Int := if x < 9223372036854775808 then x + 9223372036854775808 else 18446744073709551615 - x
theorem keyI_lo {x : Int} (h : x < 9223372036854775808) : keyI x = x + 9223372036854775808 := if_pos h
theorem keyI_hi {x : Int} (h : ¬ x < 9223372036854775808) : keyI x = 18446744073709551615 - x := if_neg h
def key (n : Nat) : Int := keyI (ni (cbits n))
theorem ni_rng {n : Nat} (h : n < 18446744073709551616) : 0 ≤ ni n ∧ ni n < 18446744073709551616 := by unfold ni; omega
theorem key_rng {n : Nat} (h : n < 18446744073709551616) : 0 ≤ key n ∧ key n < 18446744073709551616 := by
  have := ni_rng (cbits_lt h)
  unfold key keyI; split <;> omega

theorem key_any (n : Nat) (w : World) (hn : n < 18446744073709551616) : Calls Tryz.prog 56 #[.float .f64 n] w fun e w' => e = .returned (.int .u64 (key n)) ∧ w' = w := by
  obtain ⟨x, hx⟩ : ∃ x, ni (cbits n) = x := ⟨_, rfl⟩
  have hr := ni_rng (cbits_lt hn)
  have hk : key n = keyI x := by unfold key; rw [hx]
  rw [hx] at hr
  rw [hk]
  obtain ⟨hx0, hx1⟩ := hr
  have ha := Top.u64_and_top x hx0 hx1
  by_cases hl : x < 9223372036854775808
  · have h0 : bits .and .u64 x 9223372036854775808 = 0 := by rw [ha]; omega
    rw [keyI_lo hl, ← Top.u64_or_top x hx0 hl]
    clear ha hk
    go_enter Tryz.func56, Tryz.ntmps56
    go_wp2_with (go_at_call 78; refine (canonBits_any _ _).mono ?_; rw [hx]; rintro e w' ⟨rfl, rfl⟩)
    go_ret
    exact ⟨rfl, rfl⟩
  · have h0 : bits .and .u64 x 9223372036854775808 = 9223372036854775808 := by rw [ha]; omega
    rw [keyI_hi hl, ← Top.u64_flip x hx0 hx1]
    clear ha hk
    go_enter Tryz.func56, Tryz.ntmps56
    go_wp2_with (go_at_call 78; refine (canonBits_any _ _).mono ?_; rw [hx]; rintro e w' ⟨rfl, rfl⟩)
    go_ret
    exact ⟨rfl, rfl⟩

/-- How two integers stand. -/
def cmpI (x y : Int) : Int := if x < y then -1 else if y < x then 1 else 0
theorem cmpI_lt {x y : Int} (h : x < y) : cmpI x y = -1 := if_pos h
theorem cmpI_gt {x y : Int} (h : y < x) : cmpI x y = 1 := by unfold cmpI; rw [if_neg (by omega), if_pos h]
theorem cmpI_eq {x y : Int} (h : x = y) : cmpI x y = 0 := by unfold cmpI; rw [if_neg (by omega), if_neg (by omega)]
theorem cmpI_rng (x y : Int) : -1 ≤ cmpI x y ∧ cmpI x y ≤ 1 := by unfold cmpI; split <;> (try split) <;> omega
theorem cmpI_neg (x y : Int) : cmpI y x = - cmpI x y := by unfold cmpI; split <;> split <;> (try split) <;> omega
theorem cmpI_le (x y : Int) : cmpI x y ≤ 0 ↔ x ≤ y := by unfold cmpI; split <;> (try split) <;> omega
theorem cmpI_zero (x y : Int) : cmpI x y = 0 ↔ x = y := by unfold cmpI; split <;> (try split) <;> omega
theorem cmpI_neg_iff (x y : Int) : cmpI x y < 0 ↔ x < y := by unfold cmpI; split <;> (try split) <;> omega
theorem cmpI_pos_iff (x y : Int) : 0 < cmpI x y ↔ y < x := by unfold cmpI; split <;> (try split) <;> omega
theorem cmpI_mone (x y : Int) : cmpI x y = -1 ↔ x < y := by unfold cmpI; split <;> (try split) <;> omega

theorem compare64_any (x y : Int) (w : World) : Calls Tryz.prog 55 #[.int .u64 x, .int .u64 y] w fun e w' => e = .returned (.int .i64 (cmpI x y)) ∧ w' = w := by
  have hc := cisNaN64_any
  rcases Int.lt_trichotomy x y with h | h | h
  · rw [cmpI_lt h]
    go_enter Tryz.func55, Tryz.ntmps55
    go_wp2_with (go_at_call 77; refine (cisNaN64_any _ _).mono ?_; rintro e w' ⟨rfl, rfl⟩)
    go_ret
    exact ⟨rfl, rfl⟩
  · rw [cmpI_eq h]
    subst h
    go_enter Tryz.func55, Tryz.ntmps55
    go_wp2_with (go_at_call 77; refine (cisNaN64_any _ _).mono ?_; rintro e w' ⟨rfl, rfl⟩)
    go_ret
    exact ⟨rfl, rfl⟩
  · rw [cmpI_gt h]
    have h' : ¬ x < y := by omega
    go_enter Tryz.func55, Tryz.ntmps55
    go_wp2_with (go_at_call 77; refine (cisNaN64_any _ _).mono ?_; rintro e w' ⟨rfl, rfl⟩)
    go_ret
    exact ⟨rfl, rfl⟩

theorem cmp_any (m n : Nat) (w : World) (hm : m < 18446744073709551616) (hn : n < 18446744073709551616) :
    Calls Tryz.prog 36 #[.float .f64 m, .float .f64 n] w fun e w' => e = .returned (.int .i64 (cmpI (key m) (key n))) ∧ w' = w := by
  go_enter Tryz.func36, Tryz.ntmps36
  go_wp2_with (first
    | (go_at_call 56; refine (key_any _ _ (by assumption)).mono ?_; rintro e w' ⟨rfl, rfl⟩)
    | (go_at_call 55; refine (compare64_any _ _ _).mono ?_; rintro e w' ⟨rfl, rfl⟩))
  go_ret
  exact ⟨rfl, rfl⟩

/-! The document's. -/
theorem nf_lt {x : Int} (h1 : x < 18446744073709551616) : nf x < 18446744073709551616 := by unfold nf; omega

theorem f_any (x : Int) (w : World) : Calls Tryz.prog 54 #[.int .u64 x] w fun e w' => e = .returned (.float .f64 (nf x)) ∧ w' = w := by
  have h31 := run_frombits
  go_enter Tryz.func54, Tryz.ntmps54
  go_wp2
  go_ret
  exact ⟨rfl, rfl⟩

def infN (s : Int) : Nat := if 0 ≤ s then 9218868437227405312 else 18442240474082181120
theorem infN_pos : infN 1 = 9218868437227405312 := rfl
theorem infN_neg : infN (-1) = 18442240474082181120 := rfl
end Go.Proofs.YtbcmilfajeanbaaGreat

namespace Go.Proofs.YtbcmilfajeanbaaGreat.Hp
open Go Go.Sort
variable {α : Type} [Inhabited α] (lt : α → α → Bool)

def Child (c p : Nat) : Prop := c = 2 * p + 1 ∨ c = 2 * p + 2
/-- All parents from k on have no lesser child. -/
def Heap (d : Array α) (n k : Nat) : Prop := ∀ p c, k ≤ p → Child c p → c < n → lt d[c]! d[p]! = false
/-- The same but at i, whose parent is no greater than its children. -/
structure Down (d : Array α) (n k i : Nat) : Prop where
  ok : ∀ p c, k ≤ p → p ≠ i → Child c p → c < n → lt d[c]! d[p]! = false
  up : ∀ p c, k ≤ p → Child i p → Child c i → c < n → lt d[c]! d[p]! = false
  le : k ≤ i
/-- All but j against its parent. -/
structure Up (d : Array α) (n j : Nat) : Prop where
  ok : ∀ p c, c ≠ j → Child c p → c < n → lt d[c]! d[p]! = false
  up : ∀ p c, Child j p → Child c j → c < n → lt d[c]! d[p]! = false

variable {lt}
theorem asym {β : Type} {lt : β → β → Bool} (hS : SWO lt) {x y : β} (h : lt x y = true) : lt y x = false := by
  cases e : lt y x
  · rfl
  · have := hS.trans x y x h e; rw [hS.irrefl] at this; cases this

theorem Down.start {d : Array α} {n k : Nat} (h : Heap lt d n (k + 1)) : Down lt d n k k :=
  ⟨fun p c hp hne hc hn => h p c (by omega) hc hn, fun p c hp hc => by unfold Child at hc; omega, Nat.le_refl _⟩
theorem Down.done {d : Array α} {n k i : Nat} (h : Down lt d n k i) (hi : n ≤ 2 * i + 1) : Heap lt d n k := by
  intro p c hp hc hn
  by_cases e : p = i
  · subst e; unfold Child at hc; omega
  · exact h.ok p c hp e hc hn
/-- c is the lesser child. -/
structure Least (lt : α → α → Bool) (d : Array α) (n i c : Nat) : Prop where
  child : Child c i
  inn : c < n
  le : ∀ o, Child o i → o < n → lt d[o]! d[c]! = false
theorem Down.stop (hS : SWO lt) {d : Array α} {n k i c : Nat} (h : Down lt d n k i) (hc : Least lt d n i c) (hl : lt d[c]! d[i]! = false) : Heap lt d n k := by
  intro p o hp ho hn
  by_cases e : p = i
  · subst e; exact hS.ntrans _ _ _ (hc.le o ho hn) hl
  · exact h.ok p o hp e ho hn
theorem Down.step (hS : SWO lt) {d : Array α} {n k i c : Nat} (h : Down lt d n k i) (hc : Least lt d n i c) (hl : lt d[c]! d[i]! = true) (hn : n ≤ d.size) : Down lt (swp d i c) n k c := by
  have hci : c ≠ i := by have := hc.child; unfold Child at this; omega
  have hcn := hc.inn
  have hcc := hc.child
  have hin : i < n := by unfold Child at hcc; omega
  have e1 : (swp d i c)[i]! = d[c]! := swp_left d i c (by omega) (by omega)
  have e2 : (swp d i c)[c]! = d[i]! := swp_right d i c (by omega)
  have e3 : ∀ x, x ≠ i → x ≠ c → (swp d i c)[x]! = d[x]! := fun x h1 h2 => swp_other d i c x h1 h2
  refine ⟨fun p o hp hpc ho hon => ?_, fun p o hp hcp ho hon => ?_, ?_⟩
  · by_cases ei : p = i
    · subst ei
      by_cases eo : o = c
      · subst eo; rw [e1, e2]; exact asym hS hl
      · have : o ≠ p := by unfold Child at ho; omega
        rw [e1, e3 o this eo]; exact hc.le o ho hon
    · rw [e3 p ei hpc]
      by_cases eo : o = i
      · subst eo; rw [e1]; exact h.up p c hp ho hc.child hc.inn
      · by_cases eo2 : o = c
        · subst eo2; exfalso; unfold Child at ho hcc; omega
        · rw [e3 o eo eo2]; exact h.ok p o hp ei ho hon
  · have ep : p = i := by unfold Child at hcp hcc; omega
    subst ep
    have o1 : o ≠ p := by unfold Child at ho hcc; omega
    have o2 : o ≠ c := by unfold Child at ho; omega
    rw [e1, e3 o o1 o2]
    exact h.ok c o (by have := h.le; unfold Child at hcc; omega) hci ho hon
  · have := h.le; unfold Child at hcc; omega

theorem Up.start {d : Array α} {n : Nat} (h : Heap lt d n 0) (x : α) (hn : n = d.size) : Up lt (d.push x) (n + 1) n := by
  refine ⟨fun p c hc hcp hcn => ?_, fun p c hp hc hcn => by unfold Child at hc; omega⟩
  have h1 : c < d.size := by omega
  have h2 : p < d.size := by unfold Child at hcp; omega
  have e : ∀ i, i < d.size → (d.push x)[i]! = d[i]! := fun i hi => by
    rw [getElem!_pos (d.push x) i (by simp; omega), getElem!_pos d i hi, Array.getElem_push_lt hi]
  rw [e c h1, e p h2]
  exact h p c (Nat.zero_le _) hcp (by omega)
theorem Up.top {d : Array α} {n : Nat} (h : Up lt d n 0) : Heap lt d n 0 := fun p c _ hc hn => h.ok p c (by unfold Child at hc; omega) hc hn
theorem Up.stop {d : Array α} {n j i : Nat} (h : Up lt d n j) (hi : Child j i) (hl : lt d[j]! d[i]! = false) : Heap lt d n 0 := by
  intro p c _ hc hn
  by_cases e : c = j
  · subst e
    have : p = i := by unfold Child at hc hi; omega
    subst this; exact hl
  · exact h.ok p c e hc hn
theorem Up.step (hS : SWO lt) {d : Array α} {n j i : Nat} (h : Up lt d n j) (hi : Child j i) (hl : lt d[j]! d[i]! = true) (hj : j < n) (hn : n ≤ d.size) : Up lt (swp d i j) n i := by
  have hij : i ≠ j := by unfold Child at hi; omega
  have hil : i < n := by unfold Child at hi; omega
  have e1 : (swp d i j)[i]! = d[j]! := swp_left d i j (by omega) hij
  have e2 : (swp d i j)[j]! = d[i]! := swp_right d i j (by omega)
  have e3 : ∀ x, x ≠ i → x ≠ j → (swp d i j)[x]! = d[x]! := fun x h1 h2 => swp_other d i j x h1 h2
  refine ⟨fun p c hci hc hcn => ?_, fun p c hp hc hcn => ?_⟩
  · by_cases ej : c = j
    · subst ej
      have : p = i := by unfold Child at hc hi; omega
      subst this
      rw [e1, e2]; exact asym hS hl
    · rw [e3 c hci ej]
      by_cases ep : p = i
      · subst ep
        rw [e1]
        have hh := h.ok p c ej hc hcn
        cases e : lt d[c]! d[j]!
        · rfl
        · have := hS.trans _ _ _ e hl; rw [hh] at this; cases this
      · by_cases ep2 : p = j
        · subst ep2; rw [e2]; exact h.up i c hi hc hcn
        · rw [e3 p ep ep2]; exact h.ok p c ej hc hcn
  · have p1 : p ≠ i := by unfold Child at hp; omega
    have p2 : p ≠ j := by unfold Child at hp hi; omega
    rw [e3 p p1 p2]
    have hip := h.ok p i hij hp hil
    by_cases ej : c = j
    · subst ej; rw [e2]; exact hip
    · have c1 : c ≠ i := by unfold Child at hc; omega
      rw [e3 c c1 ej]
      exact hS.ntrans _ _ _ (h.ok i c ej hc hcn) hip

/-- The first one is least. -/
theorem Heap.first (hS : SWO lt) {d : Array α} {n : Nat} (h : Heap lt d n 0) : ∀ i, i < n → lt d[i]! d[0]! = false := by
  intro i
  induction i using Nat.strongRecOn with
  | ind i ih =>
    intro hi
    by_cases e : i = 0
    · subst e; exact hS.irrefl _
    · have hc : Child i ((i - 1) / 2) := by unfold Child; omega
      exact hS.ntrans _ _ _ (h _ _ (Nat.zero_le _) hc hi) (ih ((i - 1) / 2) (by omega) (by omega))
theorem Heap.mono {d : Array α} {n m k : Nat} (h : Heap lt d n k) (hm : m ≤ n) : Heap lt d m k := fun p c hp hc hn => h p c hp hc (by omega)
theorem Heap.none {d : Array α} {n k : Nat} (h : n ≤ 2 * k + 1) : Heap lt d n k := fun p c hp hc hn => by unfold Child at hc; omega
/-- After the first and the last one are exchanged. -/
theorem Heap.swapped {d : Array α} {n : Nat} (h : Heap lt d (n + 1) 0) : Heap lt (swp d 0 n) n 1 := by
  intro p c hp hc hcn
  have h1 : c ≠ 0 := by unfold Child at hc; omega
  rw [swp_other d 0 n c h1 (by omega), swp_other d 0 n p (by omega) (by unfold Child at hc; omega)]
  exact h p c (Nat.zero_le _) hc (by omega)

theorem swp_perm (d : Array α) (i j : Nat) (hi : i < d.size) (hj : j < d.size) : (swp d i j).toList.Perm d.toList := by
  have := swp_permIn d 0 d.size i j (Nat.zero_le _) hi (Nat.zero_le _) hj (Nat.le_refl _)
  have h2 := this.2.2
  have e : (swp d i j).extract 0 d.size = swp d i j := by rw [← size_swp d i j]; exact Array.extract_size
  rw [e, Array.extract_size] at h2
  exact h2
end Go.Proofs.YtbcmilfajeanbaaGreat.Hp

namespace Go.Proofs.YtbcmilfajeanbaaGreat
open Go.RowKit Go.Sort

theorem cisNaNi_any (x : Int) (w : World) : Calls Tryz.prog 57 #[.int .i64 x] w fun e w' => e = .returned (.bool false) ∧ w' = w := by
  go_enter Tryz.func57, Tryz.ntmps57
  go_wp2
  go_ret
  exact ⟨rfl, rfl⟩
theorem comparei_any (x y : Int) (w : World) : Calls Tryz.prog 37 #[.int .i64 x, .int .i64 y] w fun e w' => e = .returned (.int .i64 (cmpI x y)) ∧ w' = w := by
  rcases Int.lt_trichotomy x y with h | h | h
  · rw [cmpI_lt h]
    go_enter Tryz.func37, Tryz.ntmps37
    go_wp2_with (go_at_call 57; refine (cisNaNi_any _ _).mono ?_; rintro e w' ⟨rfl, rfl⟩)
    go_ret
    exact ⟨rfl, rfl⟩
  · rw [cmpI_eq h]
    subst h
    go_enter Tryz.func37, Tryz.ntmps37
    go_wp2_with (go_at_call 57; refine (cisNaNi_any _ _).mono ?_; rintro e w' ⟨rfl, rfl⟩)
    go_ret
    exact ⟨rfl, rfl⟩
  · rw [cmpI_gt h]
    have h' : ¬ x < y := by omega
    go_enter Tryz.func37, Tryz.ntmps37
    go_wp2_with (go_at_call 57; refine (cisNaNi_any _ _).mono ?_; rintro e w' ⟨rfl, rfl⟩)
    go_ret
    exact ⟨rfl, rfl⟩


/-- How two items stand, by bits. -/
def cmpN (m : Nat) (a : Int) (n : Nat) (b : Int) : Int := if cmpI (key m) (key n) = 0 then cmpI a b else cmpI (key m) (key n)
theorem cmpN_same {m n : Nat} (h : cmpI (key m) (key n) = 0) (a b : Int) : cmpN m a n b = cmpI a b := if_pos h
theorem cmpN_other {m n : Nat} (h : ¬ cmpI (key m) (key n) = 0) (a b : Int) : cmpN m a n b = cmpI (key m) (key n) := if_neg h

/-- An item in a box. -/
abbrev boxI (m : Nat) (a : Int) : Obj := .cells #[.float .f64 m, .int .i64 a] 40

theorem icmp_any (m n : Nat) (a b : Int) (w : World) (hm : m < 18446744073709551616) (hn : n < 18446744073709551616) :
    Calls Tryz.prog 11 #[.agg #[.float .f64 m, .int .i64 a], .agg #[.float .f64 n, .int .i64 b]] w fun e w' => e = .returned (.int .i64 (cmpN m a n b)) ∧ w' = (w.alloc (boxI m a)).alloc (boxI n b) := by
  have hC := fun w => cmp_any m n w hm hn
  obtain ⟨c, hc⟩ : ∃ c, cmpI (key m) (key n) = c := ⟨_, rfl⟩
  by_cases h0 : c = 0
  · rw [cmpN_same (by rw [hc]; exact h0)]
    subst h0
    rw [hc] at hC
    clear hc hm hn
    go_enter Tryz.func11, Tryz.ntmps11
    go_wp2_with (first
      | (go_at_call 36; refine (hC _).mono ?_; rintro e w1 ⟨rfl, hw1⟩; replace hw1 := hw1.symm; subst hw1)
      | (go_at_call 37; refine (comparei_any _ _ _).mono ?_; rintro e w1 ⟨rfl, hw1⟩; replace hw1 := hw1.symm; subst hw1))
    go_ret
    exact ⟨rfl, rfl⟩
  · rw [cmpN_other (by rw [hc]; exact h0), hc]
    have hb : (c != 0) = true := by simpa using h0
    rw [hc] at hC
    clear hc hm hn
    go_enter Tryz.func11, Tryz.ntmps11
    go_wp2_with (first
      | (go_at_call 36; refine (hC _).mono ?_; rintro e w1 ⟨rfl, hw1⟩; replace hw1 := hw1.symm; subst hw1))
    go_ret
    exact ⟨rfl, rfl⟩

theorem icanon_any (m : Nat) (a : Int) (w : World) :
    Calls Tryz.prog 102 #[.agg #[.float .f64 m, .int .i64 a]] w fun e w' => e = .returned (.agg #[.float .f64 (cbits m), .int .i64 a]) ∧ Below w.heap.size w w' := by
  have hsf := run_store_float (P := Tryz.prog)
  go_enter Tryz.func102, Tryz.ntmps102
  go_wp2_with (go_at_call 90; refine (canon_any _ _).mono ?_; rintro e w1 ⟨rfl, hw1⟩; replace hw1 := hw1.symm; subst hw1)
  exact bodyPost_ret (v := .agg #[.float .f64 (cbits m), .int .i64 a]) (by simp [results, Tryz.results102, go_sem]) rfl ⟨rfl, ((Below.refl _ _).alloc (Nat.le_refl _) _).alloc (by simp) _⟩
end Go.Proofs.YtbcmilfajeanbaaGreat

namespace Go.Proofs.YtbcmilfajeanbaaGreat
open Go.RowKit Go.Sort

/-- A canonical item: none is that of bits 0 and value 0. -/
abbrev KI := Option { p : Nat × Int // (p.1 < 18446744073709551616 ∧ cbits p.1 = p.1) ∧ p ≠ (0, 0) }
def KI.b (x : KI) : Nat := match x with | none => 0 | some p => p.1.1
def KI.v (x : KI) : Int := match x with | none => 0 | some p => p.1.2
theorem KI.ok (x : KI) : x.b < 18446744073709551616 ∧ cbits x.b = x.b := by
  match x with
  | none => exact ⟨by decide, by decide⟩
  | some p => exact p.2.1
theorem KI.ext' {x y : KI} (hb : x.b = y.b) (hv : x.v = y.v) : x = y := by
  match x, y with
  | none, none => rfl
  | none, some q => exact absurd (Prod.ext hb.symm hv.symm) q.2.2
  | some p, none => exact absurd (Prod.ext hb hv) p.2.2
  | some p, some q => exact congrArg some (Subtype.ext (Prod.ext hb hv))
def KI.of (b : Nat) (v : Int) (ok : b < 18446744073709551616 ∧ cbits b = b) : KI := if h : (b, v) = (0, 0) then none else some ⟨(b, v), ok, h⟩
theorem KI.of_b (b : Nat) (v : Int) (ok : b < 18446744073709551616 ∧ cbits b = b) : (KI.of b v ok).b = b := by
  unfold KI.of
  split
  case isTrue h => injection h with h1 h2; exact h1.symm
  case isFalse h => rfl
theorem KI.of_v (b : Nat) (v : Int) (ok : b < 18446744073709551616 ∧ cbits b = b) : (KI.of b v ok).v = v := by
  unfold KI.of
  split
  case isTrue h => injection h with h1 h2; exact h2.symm
  case isFalse h => rfl
def KI.lt (x y : KI) : Bool := decide (cmpN x.b x.v y.b y.v < 0)
theorem key_canon {m n : Nat} (hm : m < 18446744073709551616 ∧ cbits m = m) (hn : n < 18446744073709551616 ∧ cbits n = n) (h : key m = key n) : m = n := by
  unfold key keyI ni at h
  rw [hm.2, hn.2] at h
  split at h <;> split at h <;> omega
theorem cmpN_lt (m n : Nat) (a b : Int) : cmpN m a n b < 0 ↔ key m < key n ∨ (key m = key n ∧ a < b) := by
  unfold cmpN
  have h1 := cmpI_neg_iff (key m) (key n)
  have h2 := cmpI_zero (key m) (key n)
  have h3 := cmpI_neg_iff a b
  generalize cmpI (key m) (key n) = c at *
  generalize key m = p at *
  generalize key n = q at *
  split
  · rw [h3]
    constructor
    · intro h; exact .inr ⟨h2.1 ‹_›, h⟩
    · rintro (h | h)
      · omega
      · exact h.2
  · rw [h1]
    constructor
    · intro h; exact .inl h
    · rintro (h | h)
      · exact h
      · exact absurd (h2.2 h.1) ‹_›
theorem KI.lt_iff (x y : KI) : x.lt y = true ↔ key x.b < key y.b ∨ (key x.b = key y.b ∧ x.v < y.v) := by
  unfold KI.lt; rw [decide_eq_true_eq, cmpN_lt]
theorem KI.lt_false (x y : KI) : x.lt y = false ↔ ¬ (key x.b < key y.b ∨ (key x.b = key y.b ∧ x.v < y.v)) := by
  rw [← KI.lt_iff]; cases x.lt y <;> simp
theorem KI.swo : SWO KI.lt where
  irrefl x := by rw [KI.lt_false]; omega
  trans x y z h1 h2 := by
    rw [KI.lt_iff] at *
    generalize key x.b = p at *; generalize key y.b = q at *; generalize key z.b = r at *
    omega
  ntrans x y z h1 h2 := by
    rw [KI.lt_false] at *
    generalize key x.b = p at *; generalize key y.b = q at *; generalize key z.b = r at *
    omega
theorem KI.total (x y : KI) (h1 : x.lt y = false) (h2 : y.lt x = false) : x = y := by
  rw [KI.lt_false] at h1 h2
  have hk : key x.b = key y.b := by
    generalize key x.b = p at *; generalize key y.b = q at *; omega
  have hb := key_canon x.ok y.ok hk
  have hv : x.v = y.v := by
    rw [hk] at h1 h2; omega
  exact KI.ext' hb hv

theorem cbits_idem (n : Nat) : cbits (cbits n) = cbits n := by
  cases h : nanB n
  · rw [cbits_num h, cbits_num h]
  · rw [cbits_nan h]; decide
/-- Made canonical. -/
def mkKI (p : Nat) (v : Int) : KI := if h : p < 18446744073709551616 then KI.of (cbits p) v ⟨cbits_lt h, cbits_idem p⟩ else none
theorem mkKI_b {p : Nat} (h : p < 18446744073709551616) (v : Int) : (mkKI p v).b = cbits p := by unfold mkKI; rw [dif_pos h]; exact KI.of_b _ _ _
theorem mkKI_v {p : Nat} (h : p < 18446744073709551616) (v : Int) : (mkKI p v).v = v := by unfold mkKI; rw [dif_pos h]; exact KI.of_v _ _ _
theorem mkKI_self (x : KI) : mkKI x.b x.v = x := by
  have h1 := mkKI_b x.ok.1 x.v
  rw [x.ok.2] at h1
  exact KI.ext' h1 (mkKI_v x.ok.1 x.v)
def kiOf (P V : Nat → Int) (i : Nat) : KI := mkKI (nf (P i)) (V i)
end Go.Proofs.YtbcmilfajeanbaaGreat

namespace Go.Proofs.YtbcmilfajeanbaaGreat
open Go.RowKit Go.Sort

/-- Block g holds a row of items with room for cap. -/
structure Row (w : World) (g cap : Nat) (d : Array KI) : Prop where
  lt : g < w.heap.size
  le : d.size ≤ cap
  max : d.size ≤ 1099511627776
  cmax : cap ≤ maxLen
  flt : ∀ i, i < d.size → w.cell? ⟨g, i * 2, none⟩ = some (.float .f64 d[i]!.b)
  val : ∀ i, i < d.size → w.cell? ⟨g, i * 2 + 1, none⟩ = some (.int .i64 d[i]!.v)
  there : ∀ j, j < cap * 2 → (w.cell? ⟨g, j, none⟩).isSome = true ∧ w.frozen? ⟨g, j, none⟩ = false

theorem less_any (g cap i j : Nat) (d : Array KI) (w : World) (h : Row w g cap d) (hi : i < d.size) (hj : j < d.size) :
    Calls Tryz.prog 196 #[.slice (some ⟨g, 0, none⟩) d.size cap, .int .i64 (i : Int), .int .i64 (j : Int)] w fun e w' => e = .returned (.bool (d[i]!.lt d[j]!)) ∧ Below w.heap.size w w' := by
  have f1 := h.flt i hi
  have f2 := h.flt j hj
  have v1 := h.val i hi
  have v2 := h.val j hj
  generalize d[i]! = x at *
  generalize d[j]! = y at *
  have hN := h.max
  have hle := h.le
  obtain ⟨n, hn⟩ : ∃ n, d.size = n := ⟨_, rfl⟩
  rw [hn] at hi hj hle hN ⊢
  have i1 : (i : Int) < (n : Int) := by omega
  have j1 : (j : Int) < (n : Int) := by omega
  have hC := fun w => icmp_any x.b y.b x.v y.v w x.ok.1 y.ok.1
  obtain ⟨c, hc⟩ : ∃ c, cmpN x.b x.v y.b y.v = c := ⟨_, rfl⟩
  rw [hc] at hC
  have hl : x.lt y = decide (c < 0) := by unfold KI.lt; rw [hc]
  rw [hl]
  clear hl hc hn h
  go_enter Tryz.func196, Tryz.ntmps196
  go_wp2
  go_region_with (go_at_call 11; refine (hC _).mono ?_; rintro e w1 ⟨rfl, rfl⟩)
  all_goals go_wp2
  all_goals go_ret
  all_goals exact ⟨rfl, (((Below.refl _ _).alloc (Nat.le_refl _) _).alloc (by simp) _).drew⟩

theorem Row.but {S : Nat → Prop} {w w' : World} {g cap : Nat} {d : Array KI} (h : Row w g cap d) (hb : But S w w') (hS : ¬ S g) : Row w' g cap d :=
  ⟨Nat.lt_of_lt_of_le h.lt hb.size, h.le, h.max, h.cmax, fun i hi => by rw [hb.cell (p := ⟨g, i * 2, none⟩) h.lt hS]; exact h.flt i hi,
   fun i hi => by rw [hb.cell (p := ⟨g, i * 2 + 1, none⟩) h.lt hS]; exact h.val i hi,
   fun j hj => by rw [hb.cell (p := ⟨g, j, none⟩) h.lt hS, hb.frozen (p := ⟨g, j, none⟩) h.lt hS]; exact h.there j hj⟩

/-- One item is laid over another one. -/
theorem Row.set {w : World} {g cap : Nat} {d : Array KI} (h : Row w g cap d) (i : Nat) (hi : i < d.size) (x : KI) :
    Row ((w.setCell ⟨g, i * 2, none⟩ (.float .f64 x.b)).setCell ⟨g, i * 2 + 1, none⟩ (.int .i64 x.v)) g cap (d.setIfInBounds i x) := by
  have s1 : (w.cell? ⟨g, i * 2, none⟩).isSome = true := by rw [h.flt i hi]; rfl
  have hne : ∀ a b : Nat, a ≠ b → (⟨g, a, none⟩ : Addr) ≠ ⟨g, b, none⟩ := fun a b hab e => by injection e; omega
  have s2 : ((w.setCell ⟨g, i * 2, none⟩ (.float .f64 x.b)).cell? ⟨g, i * 2 + 1, none⟩).isSome = true := by
    rw [World.cell?_setCell_other _ _ _ _ (hne _ _ (by omega)), h.val i hi]; rfl
  have gx : ∀ k, k < d.size → (d.setIfInBounds i x)[k]! = if k = i then x else d[k]! := fun k hk => by
    rw [getElem!_pos (d.setIfInBounds i x) k (by simpa using hk), getElem!_pos d k hk, Array.getElem_setIfInBounds (by simpa using hk)]
    by_cases e : i = k
    · subst e; simp
    · rw [if_neg e, if_neg (Ne.symm e)]
  refine ⟨by rw [World.size_setCell, World.size_setCell]; exact h.lt, by simpa using h.le, by simpa using h.max, h.cmax, fun k hk => ?_, fun k hk => ?_, fun j hj => ⟨?_, ?_⟩⟩
  · have hk' : k < d.size := by simpa using hk
    rw [gx k hk', World.cell?_setCell_other _ _ _ _ (hne _ _ (by omega))]
    by_cases e : k = i
    · subst e; rw [if_pos rfl, World.cell?_setCell_same' _ _ _ s1]
    · rw [if_neg e, World.cell?_setCell_other _ _ _ _ (hne _ _ (by omega))]; exact h.flt k hk'
  · have hk' : k < d.size := by simpa using hk
    rw [gx k hk']
    by_cases e : k = i
    · subst e; rw [if_pos rfl, World.cell?_setCell_same' _ _ _ s2]
    · rw [if_neg e, World.cell?_setCell_other _ _ _ _ (hne _ _ (by omega)), World.cell?_setCell_other _ _ _ _ (hne _ _ (by omega))]; exact h.val k hk'
  · by_cases e2 : j = i * 2 + 1
    · subst e2; rw [World.cell?_setCell_same' _ _ _ s2]; rfl
    · rw [World.cell?_setCell_other _ _ _ _ (hne _ _ (Ne.symm e2))]
      by_cases e1 : j = i * 2
      · subst e1; rw [World.cell?_setCell_same' _ _ _ s1]; rfl
      · rw [World.cell?_setCell_other _ _ _ _ (hne _ _ (Ne.symm e1))]; exact (h.there j hj).1
  · rw [World.frozen?_setCell, World.frozen?_setCell]; exact (h.there j hj).2

theorem but4 (w : World) (g a b c e : Nat) (v1 v2 v3 v4 : Value) : But (fun k => k = g) w (((((w.setCell ⟨g, a, none⟩ v1).setCell ⟨g, b, none⟩ v2).setCell ⟨g, c, none⟩ v3).setCell ⟨g, e, none⟩ v4).drew) :=
  (((((But.refl (fun k => k = g) w).set1 g a rfl v1).set1 g b rfl v2).set1 g c rfl v3).set1 g e rfl v4).drew

theorem swap_any (I J : Int) (g cap i j : Nat) (d : Array KI) (w : World) (hI : I = (i : Int)) (hJ : J = (j : Int)) (h : Row w g cap d) (hi : i < d.size) (hj : j < d.size) (hij : i ≠ j) :
    Calls Tryz.prog 197 #[.slice (some ⟨g, 0, none⟩) d.size cap, .int .i64 I, .int .i64 J] w fun e w' => e = .returned (.tuple #[]) ∧ Row w' g cap (swp d i j) ∧ But (fun k => k = g) w w' := by
  subst hI; subst hJ
  have hend : Row (((((w.setCell ⟨g, i * 2, none⟩ (.float .f64 d[j]!.b)).setCell ⟨g, i * 2 + 1, none⟩ (.int .i64 d[j]!.v)).setCell ⟨g, j * 2, none⟩ (.float .f64 d[i]!.b)).setCell ⟨g, j * 2 + 1, none⟩ (.int .i64 d[i]!.v)).drew) g cap (swp d i j) := by
    have h2 := (h.set i hi d[j]!).set j (by simpa using hj) d[i]!
    exact h2.but (S := fun _ => False) (But.refl _ _).drew id
  have f1 := h.flt i hi
  have f2 := h.flt j hj
  have v1 := h.val i hi
  have v2 := h.val j hj
  generalize d[i]! = x at *
  generalize d[j]! = y at *
  have hN := h.max
  have hle := h.le
  have z1 := (h.there (i * 2) (by omega)).2
  have z2 := (h.there (i * 2 + 1) (by omega)).2
  have z3 := (h.there (j * 2) (by omega)).2
  have z4 := (h.there (j * 2 + 1) (by omega)).2
  clear h
  generalize swp d i j = d2 at hend ⊢
  generalize d.size = n at *
  have i1 : (i : Int) < (n : Int) := by omega
  have j1 : (j : Int) < (n : Int) := by omega
  have hsf := run_store_float (P := Tryz.prog)
  have n1 : ¬ i * 2 = j * 2 := by omega
  have n2 : ¬ i * 2 = j * 2 + 1 := by omega
  have n3 : ¬ i * 2 + 1 = j * 2 := by omega
  have n4 : ¬ i * 2 + 1 = j * 2 + 1 := by omega
  go_enter Tryz.func197, Tryz.ntmps197
  go_wp2
  go_region
  go_wp2
  go_end0
  exact ⟨rfl, hend, but4 _ _ _ _ _ _ _ _ _ _⟩
end Go.Proofs.YtbcmilfajeanbaaGreat

namespace Go.Proofs.YtbcmilfajeanbaaGreat
open Go.RowKit Go.Sort

theorem via (b : Nat) (name : String) (f : Nat) (w : World) (v : Value) (h : w.cell? ⟨b, 0, none⟩ = some v)
    (hm : (method 369 252 (.pointer (some ⟨b, 0, none⟩)) name).run Tryz.prog w = (Sem.load .plain ⟨b, 0, none⟩ fun v => pure (f, v)).run Tryz.prog w) :
    (method 369 252 (.pointer (some ⟨b, 0, none⟩)) name).run Tryz.prog w = .ok (f, v) w := by
  rw [hm]
  simp only [Sem.run, h]
  rfl
theorem mLen (b : Nat) (w : World) (v : Value) (h : w.cell? ⟨b, 0, none⟩ = some v) : (method 369 252 (.pointer (some ⟨b, 0, none⟩)) "Len").run Tryz.prog w = .ok (195, v) w :=
  via b "Len" 195 w v h (by kernel_rfl)
theorem mLess (b : Nat) (w : World) (v : Value) (h : w.cell? ⟨b, 0, none⟩ = some v) : (method 369 252 (.pointer (some ⟨b, 0, none⟩)) "Less").run Tryz.prog w = .ok (196, v) w :=
  via b "Less" 196 w v h (by kernel_rfl)
theorem mSwap (b : Nat) (w : World) (v : Value) (h : w.cell? ⟨b, 0, none⟩ = some v) : (method 369 252 (.pointer (some ⟨b, 0, none⟩)) "Swap").run Tryz.prog w = .ok (197, v) w :=
  via b "Swap" 197 w v h (by kernel_rfl)
theorem mPush (b : Nat) (w : World) : (method 369 252 (.pointer (some ⟨b, 0, none⟩)) "Push").run Tryz.prog w = .ok (199, .pointer (some ⟨b, 0, none⟩)) w := by kernel_rfl
theorem mPop (b : Nat) (w : World) : (method 369 252 (.pointer (some ⟨b, 0, none⟩)) "Pop").run Tryz.prog w = .ok (198, .pointer (some ⟨b, 0, none⟩)) w := by kernel_rfl
end Go.Proofs.YtbcmilfajeanbaaGreat

namespace Go.Proofs.YtbcmilfajeanbaaGreat
open Go.RowKit Go.Sort

/-- Block b is a pile whose items lie in block g. -/
structure PileAt (w : World) (b g cap : Nat) (d : Array KI) : Prop where
  hd : w.cell? ⟨b, 0, none⟩ = some (.slice (some ⟨g, 0, none⟩) d.size cap)
  fz : w.frozen? ⟨b, 0, none⟩ = false
  ne : b ≠ g
  blt : b < w.heap.size
  row : Row w g cap d
theorem PileAt.but {S : Nat → Prop} {w w' : World} {b g cap : Nat} {d : Array KI} (h : PileAt w b g cap d) (hb : But S w w') (h1 : ¬ S b) (h2 : ¬ S g) : PileAt w' b g cap d :=
  ⟨by rw [hb.cell (p := ⟨b, 0, none⟩) h.blt h1]; exact h.hd, by rw [hb.frozen (p := ⟨b, 0, none⟩) h.blt h1]; exact h.fz, h.ne, Nat.lt_of_lt_of_le h.blt hb.size, h.row.but hb h2⟩
theorem PileAt.rows {w w' : World} {b g cap : Nat} {d d' : Array KI} (h : PileAt w b g cap d) (hb : But (fun k => k = g) w w') (hr : Row w' g cap d') (hs : d'.size = d.size) : PileAt w' b g cap d' :=
  ⟨by rw [hb.cell (p := ⟨b, 0, none⟩) h.blt h.ne, hs]; exact h.hd, by rw [hb.frozen (p := ⟨b, 0, none⟩) h.blt h.ne]; exact h.fz, h.ne, Nat.lt_of_lt_of_le h.blt hb.size, hr⟩

theorem less_at (I J : Int) (g cap i j : Nat) (d : Array KI) (w : World) (hI : I = (i : Int)) (hJ : J = (j : Int)) (h : Row w g cap d) (hi : i < d.size) (hj : j < d.size) :
    Calls Tryz.prog 196 #[.slice (some ⟨g, 0, none⟩) d.size cap, .int .i64 I, .int .i64 J] w fun e w' => e = .returned (.bool (d[i]!.lt d[j]!)) ∧ Below w.heap.size w w' := by
  subst hI; subst hJ; exact less_any g cap i j d w h hi hj

/-- What sifting down leaves. -/
structure Sift (w w' : World) (b g cap n : Nat) (d d' : Array KI) : Prop where
  pile : PileAt w' b g cap d'
  but : But (fun k => k = g) w w'
  perm : d'.toList.Perm d.toList
  rest : ∀ x, n ≤ x → d'[x]! = d[x]!
theorem Sift.size {w w' : World} {b g cap n : Nat} {d d' : Array KI} (h : Sift w w' b g cap n d d') : d'.size = d.size := by
  have := h.perm.length_eq; simpa using this

set_option maxHeartbeats 1000000 in
theorem down_any (b g cap n i0 : Nat) (d : Array KI) (w : World) (h : PileAt w b g cap d) (hn : n ≤ d.size) (hh : Hp.Heap KI.lt d n (i0 + 1)) (hi0 : i0 ≤ n) :
    Calls Tryz.prog 179 #[.iface 252 (.pointer (some ⟨b, 0, none⟩)), .int .i64 (i0 : Int), .int .i64 (n : Int)] w fun e w' => (∃ r, e = .returned (.bool r)) ∧ ∃ d', Sift w w' b g cap n d d' ∧ Hp.Heap KI.lt d' n i0 := by
  have hmax := h.row.max
  have hle := h.row.le
  have hn40 : (n : Int) ≤ 1099511627776 := by omega
  go_enter Tryz.func179, Tryz.ntmps179
  go_wp2
  go_loopw [7] (fun a wr => ∃ (i : Nat) (d' : Array KI), a = .int .i64 (i : Int) ∧ i ≤ n ∧ Sift w wr b g cap n d d' ∧ Hp.Down KI.lt d' n i0 i) (fun a _ => n - (intOf a).toNat)
  case atStart => exact ⟨i0, d, rfl, hi0, ⟨h, But.refl _ _, List.Perm.refl _, fun _ _ => rfl⟩, Hp.Down.start hh⟩
  case round =>
    obtain ⟨i, d', rfl, hin, hS, hD⟩ := hrel
    by_cases hj1 : 2 * i + 1 < n
    · have hnd : n ≤ d'.size := by rw [hS.size]; exact hn
      have hP := hS.pile
      have hdn : decide ((n : Int) ≤ 2 * (i : Int) + 1) = false := decide_eq_false (by omega)
      have hdz : decide (2 * (i : Int) + 1 < 0) = false := decide_eq_false (by omega)
      by_cases hj2 : 2 * i + 2 < n
      · have h2n : 2 * (i : Int) + 1 + 1 < (n : Int) := by omega
        cases hl1 : d'[2 * i + 2]!.lt d'[2 * i + 1]!
        · have hL : Hp.Least KI.lt d' n i (2 * i + 1) := ⟨by unfold Hp.Child; omega, by omega, fun o ho hon => by
            unfold Hp.Child at ho
            rcases ho with rfl | rfl
            · exact KI.swo.irrefl _
            · exact hl1⟩
          cases hl2 : d'[2 * i + 1]!.lt d'[i]!
          · have HH := hD.stop KI.swo hL hl2
            have hml := mLess b wr _ hP.hd
            clear hD hL
            go_wp2_with (go_at_call 196; refine (less_at _ _ g cap (2 * i + 2) (2 * i + 1) d' _ (by omega) (by omega) hP.row (by omega) (by omega)).mono ?_; rw [hl1]; rintro e w1 ⟨rfl, hb1⟩; have hP1 := hP.but (S := fun _ => False) (But.of_below hb1) id id; have hml1 := mLess b w1 _ hP1.hd)
            refine (less_at _ _ g cap (2 * i + 1) i d' _ (by omega) (by omega) hP1.row (by omega) (by omega)).mono ?_
            rw [hl2]
            rintro e w2 ⟨rfl, hb2⟩
            have hP2 := hP1.but (S := fun _ => False) (But.of_below hb2) id id
            have hms2 := mSwap b w2 _ hP2.hd
            have hB2 : But (fun k => k = g) w w2 := hS.but.trans ((But.of_below hb1).trans (But.of_below hb2))
            go_wp2
            go_ret
            exact ⟨⟨_, rfl⟩, d', ⟨hP2, hB2, hS.perm, hS.rest⟩, HH⟩
          · have HH := hD.step KI.swo hL hl2 (by omega)
            have hml := mLess b wr _ hP.hd
            clear hD hL
            go_wp2_with (go_at_call 196; refine (less_at _ _ g cap (2 * i + 2) (2 * i + 1) d' _ (by omega) (by omega) hP.row (by omega) (by omega)).mono ?_; rw [hl1]; rintro e w1 ⟨rfl, hb1⟩; have hP1 := hP.but (S := fun _ => False) (But.of_below hb1) id id; have hml1 := mLess b w1 _ hP1.hd)
            refine (less_at _ _ g cap (2 * i + 1) i d' _ (by omega) (by omega) hP1.row (by omega) (by omega)).mono ?_
            rw [hl2]
            rintro e w2 ⟨rfl, hb2⟩
            have hP2 := hP1.but (S := fun _ => False) (But.of_below hb2) id id
            have hms2 := mSwap b w2 _ hP2.hd
            have hB2 : But (fun k => k = g) w w2 := hS.but.trans ((But.of_below hb1).trans (But.of_below hb2))
            go_wp2_with fail
            refine (swap_any _ _ g cap i (2 * i + 1) d' _ (by omega) (by omega) hP2.row (by omega) (by omega) (by omega)).mono ?_
            rintro e w3 ⟨rfl, hr3, hb3⟩
            have hs3 := Hp.swp_perm d' i (2 * i + 1) (by omega) (by omega)
            have hP3 := hP2.rows hb3 hr3 (size_swp _ _ _)
            have HR : ∀ x, n ≤ x → (swp d' i (2 * i + 1))[x]! = d[x]! := fun x hx => by rw [swp_other d' i (2 * i + 1) x (by omega) (by omega)]; exact hS.rest x hx
            go_wp2
            go_roundw
            case rel => exact ⟨2 * i + 1, _, congrArg (Value.int .i64) (by omega), by omega, ⟨hP3, hB2.trans hb3, hs3.trans hS.perm, HR⟩, HH⟩
            case measure => simp [intOf]; omega
        · have hL : Hp.Least KI.lt d' n i (2 * i + 2) := ⟨by unfold Hp.Child; omega, by omega, fun o ho hon => by
            unfold Hp.Child at ho
            rcases ho with rfl | rfl
            · exact Hp.asym KI.swo hl1
            · exact KI.swo.irrefl _⟩
          cases hl2 : d'[2 * i + 2]!.lt d'[i]!
          · have HH := hD.stop KI.swo hL hl2
            have hml := mLess b wr _ hP.hd
            clear hD hL
            go_wp2_with (go_at_call 196; refine (less_at _ _ g cap (2 * i + 2) (2 * i + 1) d' _ (by omega) (by omega) hP.row (by omega) (by omega)).mono ?_; rw [hl1]; rintro e w1 ⟨rfl, hb1⟩; have hP1 := hP.but (S := fun _ => False) (But.of_below hb1) id id; have hml1 := mLess b w1 _ hP1.hd)
            refine (less_at _ _ g cap (2 * i + 2) i d' _ (by omega) (by omega) hP1.row (by omega) (by omega)).mono ?_
            rw [hl2]
            rintro e w2 ⟨rfl, hb2⟩
            have hP2 := hP1.but (S := fun _ => False) (But.of_below hb2) id id
            have hms2 := mSwap b w2 _ hP2.hd
            have hB2 : But (fun k => k = g) w w2 := hS.but.trans ((But.of_below hb1).trans (But.of_below hb2))
            go_wp2
            go_ret
            exact ⟨⟨_, rfl⟩, d', ⟨hP2, hB2, hS.perm, hS.rest⟩, HH⟩
          · have HH := hD.step KI.swo hL hl2 (by omega)
            have hml := mLess b wr _ hP.hd
            clear hD hL
            go_wp2_with (go_at_call 196; refine (less_at _ _ g cap (2 * i + 2) (2 * i + 1) d' _ (by omega) (by omega) hP.row (by omega) (by omega)).mono ?_; rw [hl1]; rintro e w1 ⟨rfl, hb1⟩; have hP1 := hP.but (S := fun _ => False) (But.of_below hb1) id id; have hml1 := mLess b w1 _ hP1.hd)
            refine (less_at _ _ g cap (2 * i + 2) i d' _ (by omega) (by omega) hP1.row (by omega) (by omega)).mono ?_
            rw [hl2]
            rintro e w2 ⟨rfl, hb2⟩
            have hP2 := hP1.but (S := fun _ => False) (But.of_below hb2) id id
            have hms2 := mSwap b w2 _ hP2.hd
            have hB2 : But (fun k => k = g) w w2 := hS.but.trans ((But.of_below hb1).trans (But.of_below hb2))
            go_wp2_with fail
            refine (swap_any _ _ g cap i (2 * i + 2) d' _ (by omega) (by omega) hP2.row (by omega) (by omega) (by omega)).mono ?_
            rintro e w3 ⟨rfl, hr3, hb3⟩
            have hs3 := Hp.swp_perm d' i (2 * i + 2) (by omega) (by omega)
            have hP3 := hP2.rows hb3 hr3 (size_swp _ _ _)
            have HR : ∀ x, n ≤ x → (swp d' i (2 * i + 2))[x]! = d[x]! := fun x hx => by rw [swp_other d' i (2 * i + 2) x (by omega) (by omega)]; exact hS.rest x hx
            go_wp2
            go_roundw
            case rel => exact ⟨2 * i + 2, _, congrArg (Value.int .i64) (by omega), by omega, ⟨hP3, hB2.trans hb3, hs3.trans hS.perm, HR⟩, HH⟩
            case measure => simp [intOf]; omega
      · have h2n : decide (2 * (i : Int) + 1 + 1 < (n : Int)) = false := decide_eq_false (by omega)
        have hL : Hp.Least KI.lt d' n i (2 * i + 1) := ⟨by unfold Hp.Child; omega, by omega, fun o ho hon => by
          unfold Hp.Child at ho
          rcases ho with rfl | rfl
          · exact KI.swo.irrefl _
          · exfalso; omega⟩
        cases hl2 : d'[2 * i + 1]!.lt d'[i]!
        · have HH := hD.stop KI.swo hL hl2
          have hml := mLess b wr _ hP.hd
          clear hD hL
          go_wp2_with fail
          refine (less_at _ _ g cap (2 * i + 1) i d' _ (by omega) (by omega) hP.row (by omega) (by omega)).mono ?_
          rw [hl2]
          rintro e w2 ⟨rfl, hb2⟩
          have hP2 := hP.but (S := fun _ => False) (But.of_below hb2) id id
          have hms2 := mSwap b w2 _ hP2.hd
          have hB2 : But (fun k => k = g) w w2 := hS.but.trans (But.of_below hb2)
          go_wp2
          go_ret
          exact ⟨⟨_, rfl⟩, d', ⟨hP2, hB2, hS.perm, hS.rest⟩, HH⟩
        · have HH := hD.step KI.swo hL hl2 (by omega)
          have hml := mLess b wr _ hP.hd
          clear hD hL
          go_wp2_with fail
          refine (less_at _ _ g cap (2 * i + 1) i d' _ (by omega) (by omega) hP.row (by omega) (by omega)).mono ?_
          rw [hl2]
          rintro e w2 ⟨rfl, hb2⟩
          have hP2 := hP.but (S := fun _ => False) (But.of_below hb2) id id
          have hms2 := mSwap b w2 _ hP2.hd
          have hB2 : But (fun k => k = g) w w2 := hS.but.trans (But.of_below hb2)
          go_wp2_with fail
          refine (swap_any _ _ g cap i (2 * i + 1) d' _ (by omega) (by omega) hP2.row (by omega) (by omega) (by omega)).mono ?_
          rintro e w3 ⟨rfl, hr3, hb3⟩
          have hs3 := Hp.swp_perm d' i (2 * i + 1) (by omega) (by omega)
          have hP3 := hP2.rows hb3 hr3 (size_swp _ _ _)
          have HR : ∀ x, n ≤ x → (swp d' i (2 * i + 1))[x]! = d[x]! := fun x hx => by rw [swp_other d' i (2 * i + 1) x (by omega) (by omega)]; exact hS.rest x hx
          go_wp2
          go_roundw
          case rel => exact ⟨2 * i + 1, _, congrArg (Value.int .i64) (by omega), by omega, ⟨hP3, hB2.trans hb3, hs3.trans hS.perm, HR⟩, HH⟩
          case measure => simp [intOf]; omega
    · have hge : (n : Int) ≤ 2 * (i : Int) + 1 := by omega
      have HE := hD.done (by omega)
      clear hD
      go_wp2
      go_ret
      exact ⟨⟨_, rfl⟩, d', hS, HE⟩
end Go.Proofs.YtbcmilfajeanbaaGreat

namespace Go.Proofs.YtbcmilfajeanbaaGreat
open Go.RowKit Go.Sort

set_option maxHeartbeats 1000000 in
theorem up_any (b g cap j0 : Nat) (d : Array KI) (w : World) (h : PileAt w b g cap d) (hj0 : j0 < d.size) (hu : Hp.Up KI.lt d d.size j0) :
    Calls Tryz.prog 180 #[.iface 252 (.pointer (some ⟨b, 0, none⟩)), .int .i64 (j0 : Int)] w fun e w' => e = .returned (.tuple #[]) ∧ ∃ d', Sift w w' b g cap d.size d d' ∧ Hp.Heap KI.lt d' d.size 0 := by
  have hmax := h.row.max
  have hle := h.row.le
  obtain ⟨n, hn⟩ : ∃ n, n = d.size := ⟨_, rfl⟩
  rw [← hn] at hj0 hu hle hmax ⊢
  go_enter Tryz.func180, Tryz.ntmps180
  go_wp2
  go_loopw [1] (fun a wr => ∃ (j : Nat) (d' : Array KI), a = .int .i64 (j : Int) ∧ j < n ∧ Sift w wr b g cap n d d' ∧ Hp.Up KI.lt d' n j) (fun a _ => (intOf a).toNat)
  case atStart => exact ⟨j0, d, rfl, hj0, ⟨h, But.refl _ _, List.Perm.refl _, fun _ _ => rfl⟩, hu⟩
  case round =>
    obtain ⟨j, d', rfl, hjn, hS, hU⟩ := hrel
    have hnd : n = d'.size := by rw [hS.size]; exact hn
    have hnd2 : n ≤ d'.size := by omega
    have HN : Hid (n = d'.size) := hnd
    clear hnd
    have hP := hS.pile
    have hml := mLess b wr _ hP.hd
    rcases j with _ | k
    · have HH := hU.top
      clear hU
      go_wp2
      go_end0
      exact ⟨rfl, d', hS, HH⟩
    · have hne : ((k : Int) / 2 == (k : Int) + 1) = false := by simp; omega
      have hC : Hp.Child (k + 1) (k / 2) := by unfold Hp.Child; omega
      have hk40 : (k : Int) ≤ 1099511627776 := by omega
      cases hl : d'[k + 1]!.lt d'[k / 2]!
      · have HH := hU.stop hC hl
        clear hU hC
        go_wp2_with (go_at_call 196; refine (less_at _ _ g cap (k + 1) (k / 2) d' _ (by omega) (by omega) hP.row (by omega) (by omega)).mono ?_; rw [hl]; rintro e w1 ⟨rfl, hb1⟩; have hP1 := hP.but (S := fun _ => False) (But.of_below hb1) id id)
        go_end0
        exact ⟨rfl, d', ⟨hP1, hS.but.trans (But.of_below hb1), hS.perm, hS.rest⟩, HH⟩
      · have HH := hU.step KI.swo hC hl hjn hnd2
        clear hU hC
        go_wp2_with (go_at_call 196; refine (less_at _ _ g cap (k + 1) (k / 2) d' _ (by omega) (by omega) hP.row (by omega) (by omega)).mono ?_; rw [hl]; rintro e w1 ⟨rfl, hb1⟩; have hP1 := hP.but (S := fun _ => False) (But.of_below hb1) id id; have hms1 := mSwap b w1 _ hP1.hd)
        refine (swap_any _ _ g cap (k / 2) (k + 1) d' _ (by omega) (by omega) hP1.row (by omega) (by omega) (by omega)).mono ?_
        rintro e w3 ⟨rfl, hr3, hb3⟩
        have hs3 := Hp.swp_perm d' (k / 2) (k + 1) (by omega) (by omega)
        have hP3 := hP1.rows hb3 hr3 (size_swp _ _ _)
        have HR : ∀ x, n ≤ x → (swp d' (k / 2) (k + 1))[x]! = d[x]! := fun x hx => by rw [swp_other d' (k / 2) (k + 1) x (by omega) (by omega)]; exact hS.rest x hx
        go_wp2
        go_roundw
        case rel => exact ⟨k / 2, _, congrArg (Value.int .i64) (by omega), by omega, ⟨hP3, (hS.but.trans (But.of_below hb1)).trans hb3, hs3.trans hS.perm, HR⟩, HH⟩
        case measure => simp [intOf]; omega
end Go.Proofs.YtbcmilfajeanbaaGreat

namespace Go.Proofs.YtbcmilfajeanbaaGreat
open Go.RowKit Go.Sort

/-- A row's cells, one behind the other. -/
def cellOf (d : Array KI) (t : Nat) : Value := if t % 2 = 0 then .float .f64 d[t / 2]!.b else .int .i64 d[t / 2]!.v
def flat (d : Array KI) : List Value := (List.range (d.size * 2)).map (cellOf d)
theorem flat_length (d : Array KI) : (flat d).length = d.size * 2 := by simp [flat]
theorem flat_get (d : Array KI) {t : Nat} {u : Value} (h : (flat d)[t]? = some u) : t < d.size * 2 ∧ u = cellOf d t := by
  have ht : t < (flat d).length := (List.getElem?_eq_some_iff.1 h).1
  rw [flat_length] at ht
  refine ⟨ht, ?_⟩
  simp [flat, ht] at h
  exact h.symm
theorem Row.cell {w : World} {g cap : Nat} {d : Array KI} (h : Row w g cap d) {t : Nat} (ht : t < d.size * 2) : w.cell? ⟨g, t, none⟩ = some (cellOf d t) := by
  unfold cellOf
  by_cases e : t % 2 = 0
  · have := h.flt (t / 2) (by omega)
    rw [show t / 2 * 2 = t by omega] at this
    rw [if_pos e]; exact this
  · have := h.val (t / 2) (by omega)
    rw [show t / 2 * 2 + 1 = t by omega] at this
    rw [if_neg e]; exact this
theorem Row.ofCells {w : World} {g cap : Nat} {d : Array KI} (h1 : g < w.heap.size) (h2 : d.size ≤ cap) (h3 : d.size ≤ 1099511627776) (h4 : cap ≤ maxLen) (h5 : ∀ t, t < d.size * 2 → w.cell? ⟨g, t, none⟩ = some (cellOf d t))
    (h6 : ∀ j, j < cap * 2 → (w.cell? ⟨g, j, none⟩).isSome = true ∧ w.frozen? ⟨g, j, none⟩ = false) : Row w g cap d :=
  ⟨h1, h2, h3, h4, fun i hi => by rw [h5 (i * 2) (by omega)]; unfold cellOf; rw [if_pos (by omega), show i * 2 / 2 = i by omega],
   fun i hi => by rw [h5 (i * 2 + 1) (by omega)]; unfold cellOf; rw [if_neg (by omega), show (i * 2 + 1) / 2 = i by omega], h6⟩
theorem push_get (d : Array KI) (x : KI) {i : Nat} (h : i < d.size) : (d.push x)[i]! = d[i]! := by
  rw [getElem!_pos (d.push x) i (by simp; omega), getElem!_pos d i h, Array.getElem_push_lt h]
theorem push_last (d : Array KI) (x : KI) : (d.push x)[d.size]! = x := by
  rw [getElem!_pos (d.push x) d.size (by simp), Array.getElem_push_eq]
theorem cellOf_push (d : Array KI) (x : KI) {t : Nat} (h : t < d.size * 2) : cellOf (d.push x) t = cellOf d t := by
  unfold cellOf; rw [push_get d x (by omega)]
theorem cellOf_last (d : Array KI) (x : KI) : cellOf (d.push x) (d.size * 2) = .float .f64 x.b ∧ cellOf (d.push x) (d.size * 2 + 1) = .int .i64 x.v := by
  unfold cellOf
  rw [if_pos (by omega), if_neg (by omega), show d.size * 2 / 2 = d.size by omega, show (d.size * 2 + 1) / 2 = d.size by omega, push_last]
  exact ⟨rfl, rfl⟩

theorem info_item : ∃ i : TypeInfo, Tryz.prog.info? 40 = some i ∧ i.zero = some (.agg #[.float .f64 0, .int .i64 0]) ∧ i.size = 2 ∧ i.bytes = 16 := by
  have h : (Tryz.prog.info? 40).map (fun i => (i.zero, i.size, i.bytes)) = some (some (.agg #[.float .f64 0, .int .i64 0]), 2, 16) := by kernel_rfl
  obtain ⟨i, hi, he⟩ := Option.map_eq_some_iff.1 h
  simp only [Prod.mk.injEq] at he
  exact ⟨i, hi, he.1, he.2.1, he.2.2⟩

theorem row_append (g cap a : Nat) (d : Array KI) (x : KI) (w : World) (h : Row w g cap d) (hx1 : w.cell? ⟨a, 0, none⟩ = some (.float .f64 x.b)) (hx2 : w.cell? ⟨a, 1, none⟩ = some (.int .i64 x.v)) (hs : d.size + 1 ≤ 1099511627776) :
    ∃ g' cap' w', (Builtin.append_ #[248, 248] 248 #[.slice (some ⟨g, 0, none⟩) d.size cap, .slice (some ⟨a, 0, none⟩) 1 1]).run Tryz.prog w = .ok (.slice (some ⟨g', 0, none⟩) (d.size + 1) cap') w' ∧
      Row w' g' cap' (d.push x) ∧ But (fun k => k = g) w w' ∧ (g' = g ∨ w.heap.size ≤ g') := by
  obtain ⟨i, hi, hz, hsz, hby⟩ := info_item
  have hsrc : Src Tryz.prog i.size 248 (.slice (some ⟨a, 0, none⟩) 1 1) 1 [.float .f64 x.b, .int .i64 x.v] w := by
    rw [hsz]
    refine Src.ofSlice w Tryz.underlying248 _ 1 1 _ rfl (fun j u hu => ?_) (fun u hu => by simp at hu; rcases hu with rfl | rfl <;> rfl)
    rw [Addr.add_lit]
    rcases j with _ | _ | j
    · simp at hu; subst hu; exact hx1
    · simp at hu; subst hu; exact hx2
    · simp at hu
  by_cases hroom : d.size + 1 ≤ cap
  · have hin : ∀ j, j < 2 → 0 + d.size * i.size + j < cap * 2 := fun j hj => by rw [hsz]; omega
    have hr := run_append_room_src (P := Tryz.prog) w 248 248 248 40 i Tryz.underlying248 hi g 0 d.size cap _ 1 _ hsrc hroom (fun j hj => (h.there _ (hin j hj)).1) (fun j hj => (h.there _ (hin j hj)).2)
    rw [show 0 + d.size * i.size = d.size * 2 by rw [hsz]; omega] at hr
    have hne : ∀ p q : Nat, p ≠ q → (⟨g, p, none⟩ : Addr) ≠ ⟨g, q, none⟩ := fun p q hpq e => by injection e; omega
    have t1 := (h.there (d.size * 2) (by omega)).1
    have t2 : ((w.setCell ⟨g, d.size * 2, none⟩ (.float .f64 x.b)).cell? ⟨g, d.size * 2 + 1, none⟩).isSome = true := by
      rw [World.cell?_setCell_other _ _ _ _ (hne _ _ (by omega))]; exact (h.there _ (by omega)).1
    refine ⟨g, cap, _, hr, ?_, ((But.refl (fun k => k = g) w).set1 g _ rfl _).set1 g _ rfl _, .inl rfl⟩
    show Row ((w.setCell ⟨g, d.size * 2, none⟩ (.float .f64 x.b)).setCell ⟨g, d.size * 2 + 1, none⟩ (.int .i64 x.v)) g cap (d.push x)
    refine Row.ofCells (by rw [World.size_setCell, World.size_setCell]; exact h.lt) (by simpa using hroom) (by simpa using hs) h.cmax (fun t ht => ?_) (fun j hj => ⟨?_, by rw [World.frozen?_setCell, World.frozen?_setCell]; exact (h.there j hj).2⟩)
    · have ht' : t < (d.size + 1) * 2 := by simpa using ht
      by_cases e2 : t = d.size * 2 + 1
      · subst e2; rw [World.cell?_setCell_same' _ _ _ t2, (cellOf_last d x).2]
      · rw [World.cell?_setCell_other _ _ _ _ (hne _ _ (Ne.symm e2))]
        by_cases e1 : t = d.size * 2
        · subst e1; rw [World.cell?_setCell_same' _ _ _ t1, (cellOf_last d x).1]
        · rw [World.cell?_setCell_other _ _ _ _ (hne _ _ (Ne.symm e1)), cellOf_push d x (by omega)]; exact h.cell (by omega)
    · by_cases e2 : j = d.size * 2 + 1
      · subst e2; rw [World.cell?_setCell_same' _ _ _ t2]; rfl
      · rw [World.cell?_setCell_other _ _ _ _ (hne _ _ (Ne.symm e2))]
        by_cases e1 : j = d.size * 2
        · subst e1; rw [World.cell?_setCell_same' _ _ _ t1]; rfl
        · rw [World.cell?_setCell_other _ _ _ _ (hne _ _ (Ne.symm e1))]; exact (h.there j hj).1
  · have hold : (Builtin.firstCells i.size d.size (.slice (some ⟨g, 0, none⟩) d.size cap)).run Tryz.prog w.drew = .ok (flat d).toArray w.drew :=
      run_firstCells_some w.drew i.size d.size ⟨g, 0, none⟩ d.size cap (flat d) (by rw [flat_length, hsz]) (fun j u hu => by
        obtain ⟨hj, rfl⟩ := flat_get d hu
        rw [Addr.add_lit, Nat.zero_add]; exact h.cell hj)
    have hg : cap < d.size + 1 := by omega
    have hmx : d.size + 1 ≤ maxLen := by unfold maxLen; omega
    have hr := run_append_grow_src (P := Tryz.prog) w 248 248 248 40 i _ Tryz.underlying248 hi hz (some ⟨g, 0, none⟩) d.size cap (flat d) hold _ 1 _ hsrc hg (by omega) (growslice_fits hg (by rw [hby]; omega))
    have hge := grownCap_ge w (d.size + 1) cap 40
    have hcm := grownCap_le_maxLen w (d.size + 1) cap 40 hmx
    generalize grownCap w (d.size + 1) cap 40 = C at hr hge hcm
    refine ⟨w.heap.size, C, _, hr, ?_, ?_, .inr (Nat.le_refl _)⟩
    · have hc : ∀ j, (w.drew.alloc (.cells ((flat d ++ [Value.float .f64 x.b, Value.int .i64 x.v]).toArray ++ Builtin.zeroCells (Value.agg #[.float .f64 0, .int .i64 0]).cells (C - (d.size + 1))) 40)).cell? ⟨w.heap.size, j, none⟩ =
          ((flat d ++ [Value.float .f64 x.b, Value.int .i64 x.v]).toArray ++ Builtin.zeroCells (Value.agg #[.float .f64 0, .int .i64 0]).cells (C - (d.size + 1)))[j]? := fun j => World.cell?_alloc_new w.drew _ _ j
      refine Row.ofCells (by simp) (by simpa using hge) (by simpa using hs) hcm (fun t ht => ?_) (fun j hj => ⟨?_, World.frozen?_alloc_new w.drew _ _ _⟩)
      · have ht' : t < (d.size + 1) * 2 := by simpa using ht
        rw [hc, Array.getElem?_append_left (by simp [flat_length]; omega)]
        by_cases e : t < d.size * 2
        · rw [cellOf_push d x e, List.getElem?_toArray, List.getElem?_append_left (by rw [flat_length]; exact e)]
          simp [flat, e]
        · have : t = d.size * 2 ∨ t = d.size * 2 + 1 := by omega
          rcases this with rfl | rfl
          · rw [(cellOf_last d x).1, List.getElem?_toArray, List.getElem?_append_right (by rw [flat_length]; omega), flat_length]; simp
          · rw [(cellOf_last d x).2, List.getElem?_toArray, List.getElem?_append_right (by rw [flat_length]; omega), flat_length]; simp
      · rw [hc]
        have : j < ((flat d ++ [Value.float .f64 x.b, Value.int .i64 x.v]).toArray ++ Builtin.zeroCells (Value.agg #[.float .f64 0, .int .i64 0]).cells (C - (d.size + 1))).size := by
          rw [Array.size_append, size_zeroCells]
          simp [flat_length, Value.cells]
          omega
        rw [Array.getElem?_eq_getElem this]; rfl
    · exact But.of_below ⟨rfl, rfl, rfl, by simp, fun k hk => Below.heap_alloc w.drew _ k hk⟩

theorem assert_item (v : Value) (w : World) : (Instr.typeAssert (.iface 40 v) 20 40 false).run Tryz.prog w = .ok v w := by kernel_rfl

theorem pushM_any (b g cap : Nat) (d : Array KI) (x : KI) (w : World) (h : PileAt w b g cap d) (hs : d.size + 1 ≤ 1099511627776) :
    Calls Tryz.prog 199 #[.pointer (some ⟨b, 0, none⟩), .iface 40 (.agg #[.float .f64 x.b, .int .i64 x.v])] w fun e w' => e = .returned (.tuple #[]) ∧ ∃ g' cap', PileAt w' b g' cap' (d.push x) ∧ But (fun k => k = b ∨ k = g) w w' ∧ (g' = g ∨ w.heap.size ≤ g') := by
  have hW : But (fun _ => False) w (w.alloc (boxI x.b x.v)).drew := ((But.refl _ w).alloc _).drew
  have hP1 := h.but hW id id
  obtain ⟨g', cap', w', hrun, hrow, hbut, hg'⟩ := row_append g cap w.heap.size d x (w.alloc (boxI x.b x.v)).drew hP1.row (World.cell?_alloc_new w _ _ 0) (World.cell?_alloc_new w _ _ 1) hs
  have hsz : (w.alloc (boxI x.b x.v)).drew.heap.size = w.heap.size + 1 := by simp
  rw [hsz] at hg'
  have hd1 := hP1.hd
  have hd0 := h.hd
  have hbb : But (fun k => k = g) w w' := (hW.mono (fun _ _ e => e.elim)).trans hbut
  have hc2 : w'.cell? ⟨b, 0, none⟩ = some (.slice (some ⟨g, 0, none⟩) d.size cap) := by rw [hbb.cell (p := ⟨b, 0, none⟩) h.blt h.ne]; exact h.hd
  have hf2 : w'.frozen? ⟨b, 0, none⟩ = false := by rw [hbb.frozen (p := ⟨b, 0, none⟩) h.blt h.ne]; exact h.fz
  have hne' : b ≠ g' := by
    rcases hg' with e | e
    · rw [e]; exact h.ne
    · have := h.blt; omega
  have hend : PileAt (w'.setCell ⟨b, 0, none⟩ (.slice (some ⟨g', 0, none⟩) (d.size + 1) cap')) b g' cap' (d.push x) := by
    refine ⟨?_, by rw [World.frozen?_setCell]; exact hf2, hne', by rw [World.size_setCell]; exact Nat.lt_of_lt_of_le h.blt hbb.size, ?_⟩
    · rw [World.cell?_setCell_same' _ _ _ (by rw [hc2]; rfl)]; simp
    · exact hrow.but ((But.refl (fun k => k = b) w').set1 b 0 rfl _) (Ne.symm hne')
  have hbend : But (fun k => k = b ∨ k = g) w (w'.setCell ⟨b, 0, none⟩ (.slice (some ⟨g', 0, none⟩) (d.size + 1) cap')) := (hbb.mono (fun _ _ e => .inr e)).set1 b 0 (.inl rfl) _
  have hgg : g' = g ∨ w.heap.size ≤ g' := by omega
  clear hsz hg' hbut hbb hrow hP1 hW h
  have hta := assert_item
  have HR : Hid (∀ _ : Unit, (Builtin.append_ #[248, 248] 248 #[.slice (some ⟨g, 0, none⟩) d.size cap, .slice (some ⟨w.heap.size, 0, none⟩) 1 1]).run Tryz.prog (w.alloc (boxI x.b x.v)).drew = .ok (.slice (some ⟨g', 0, none⟩) (d.size + 1) cap') w') := fun _ => hrun
  clear hrun
  go_enter Tryz.func199, Tryz.ntmps199
  go_wp2
  go_region_law (refine step_append rfl (.tmp 7) (.tmp 10) 248 rfl _ _ (by simp [Act.eval]) (by simp [Act.eval]) _ _ (HR ()) ?_)
  all_goals go_wp2
  all_goals go_end0
  all_goals exact ⟨rfl, g', cap', hend, hbend, hgg⟩

theorem pop_get (d : Array KI) {i : Nat} (h : i + 1 < d.size) : d.pop[i]! = d[i]! := by
  rw [getElem!_pos d.pop i (by simp; omega), getElem!_pos d i (by omega), Array.getElem_pop]
theorem Row.pop {w : World} {g cap : Nat} {d : Array KI} (h : Row w g cap d) : Row w g cap d.pop :=
  ⟨h.lt, by have := h.le; simp; omega, by have := h.max; simp; omega, h.cmax, fun i hi => by simp at hi; rw [pop_get d (by omega)]; exact h.flt i (by omega), fun i hi => by simp at hi; rw [pop_get d (by omega)]; exact h.val i (by omega), h.there⟩

theorem popM_any (b g cap n : Nat) (d : Array KI) (w : World) (h : PileAt w b g cap d) (hn : d.size = n + 1) :
    Calls Tryz.prog 198 #[.pointer (some ⟨b, 0, none⟩)] w fun e w' => e = .returned (.iface 40 (.agg #[.float .f64 d[n]!.b, .int .i64 d[n]!.v])) ∧ PileAt w' b g cap d.pop ∧ But (fun k => k = b) w w' := by
  have f1 := h.row.flt n (by omega)
  have v1 := h.row.val n (by omega)
  have hd := h.hd
  have hfz := h.fz
  have hle := h.row.le
  have hmax := h.row.max
  rw [hn] at hle hmax hd
  have hend : ∀ o, PileAt ((w.setCell ⟨b, 0, none⟩ (.slice (some ⟨g, 0, none⟩) n cap)).alloc o) b g cap d.pop ∧ But (fun k => k = b) w ((w.setCell ⟨b, 0, none⟩ (.slice (some ⟨g, 0, none⟩) n cap)).alloc o) := fun o => by
    have hb : But (fun k => k = b) w (w.setCell ⟨b, 0, none⟩ (.slice (some ⟨g, 0, none⟩) n cap)) := (But.refl (fun k => k = b) w).set1 b 0 rfl _
    have hP : PileAt (w.setCell ⟨b, 0, none⟩ (.slice (some ⟨g, 0, none⟩) n cap)) b g cap d.pop := by
      refine ⟨?_, by rw [World.frozen?_setCell]; exact h.fz, h.ne, by rw [World.size_setCell]; exact h.blt, h.row.pop.but hb (Ne.symm h.ne)⟩
      rw [World.cell?_setCell_same' _ _ _ (by rw [h.hd]; rfl)]
      simp [hn]
    exact ⟨hP.but (S := fun _ => False) ((But.refl _ _).alloc o) id id, hb.alloc o⟩
  generalize d[n]! = x at *
  have hb := h.blt
  clear h hn
  have hsf := run_store_float (P := Tryz.prog)
  go_enter Tryz.func198, Tryz.ntmps198
  go_wp2
  go_ret
  exact ⟨rfl, (hend _).1, (hend _).2⟩
end Go.Proofs.YtbcmilfajeanbaaGreat

namespace Go.Proofs.YtbcmilfajeanbaaGreat
open Go.RowKit Go.Sort

theorem swp_self (d : Array KI) (i : Nat) (hi : i < d.size) : swp d i i = d := by
  apply Array.ext
  · simp [swp]
  · intro k h1 h2
    have e := swp_get d hi hi k
    rw [getElem!_pos _ k h1, getElem!_pos d k h2] at e
    rw [e]
    by_cases hk : k = i
    · subst hk; simp [h2]
    · simp [hk]
theorem swap_self (I J : Int) (g cap i : Nat) (d : Array KI) (w : World) (hI : I = (i : Int)) (hJ : J = (i : Int)) (h : Row w g cap d) (hi : i < d.size) :
    Calls Tryz.prog 197 #[.slice (some ⟨g, 0, none⟩) d.size cap, .int .i64 I, .int .i64 J] w fun e w' => e = .returned (.tuple #[]) ∧ Row w' g cap (swp d i i) ∧ But (fun k => k = g) w w' := by
  subst hI; subst hJ
  have hend : Row (((((w.setCell ⟨g, i * 2, none⟩ (.float .f64 d[i]!.b)).setCell ⟨g, i * 2 + 1, none⟩ (.int .i64 d[i]!.v)).setCell ⟨g, i * 2, none⟩ (.float .f64 d[i]!.b)).setCell ⟨g, i * 2 + 1, none⟩ (.int .i64 d[i]!.v)).drew) g cap (swp d i i) := by
    have h2 := (h.set i hi d[i]!).set i (by simpa using hi) d[i]!
    exact h2.but (S := fun _ => False) (But.refl _ _).drew id
  have f1 := h.flt i hi
  have v1 := h.val i hi
  generalize d[i]! = x at *
  have hN := h.max
  have hle := h.le
  have z1 := (h.there (i * 2) (by omega)).2
  have z2 := (h.there (i * 2 + 1) (by omega)).2
  clear h
  generalize swp d i i = d2 at hend ⊢
  generalize d.size = n at *
  have i1 : (i : Int) < (n : Int) := by omega
  have hsf := run_store_float (P := Tryz.prog)
  go_enter Tryz.func197, Tryz.ntmps197
  go_wp2
  go_region
  go_wp2
  go_end0
  exact ⟨rfl, hend, but4 _ _ _ _ _ _ _ _ _ _⟩

theorem len_any (a : Option Addr) (n c : Nat) (w : World) : Calls Tryz.prog 195 #[.slice a n c] w fun e w' => e = .returned (.int .i64 (n : Int)) ∧ w' = w := by
  go_enter Tryz.func195, Tryz.ntmps195
  go_wp2
  go_ret
  exact ⟨rfl, rfl⟩


theorem down_at (I N : Int) (b g cap n i0 : Nat) (d : Array KI) (w : World) (hI : I = (i0 : Int)) (hN : N = (n : Int)) (h : PileAt w b g cap d) (hn : n ≤ d.size) (hh : Hp.Heap KI.lt d n (i0 + 1)) (hi0 : i0 ≤ n) :
    Calls Tryz.prog 179 #[.iface 252 (.pointer (some ⟨b, 0, none⟩)), .int .i64 I, .int .i64 N] w fun e w' => (∃ r, e = .returned (.bool r)) ∧ ∃ d', Sift w w' b g cap n d d' ∧ Hp.Heap KI.lt d' n i0 := by
  subst hI; subst hN; exact down_any b g cap n i0 d w h hn hh hi0
theorem up_at (J : Int) (b g cap j0 : Nat) (d : Array KI) (w : World) (hJ : J = (j0 : Int)) (h : PileAt w b g cap d) (hj0 : j0 < d.size) (hu : Hp.Up KI.lt d d.size j0) :
    Calls Tryz.prog 180 #[.iface 252 (.pointer (some ⟨b, 0, none⟩)), .int .i64 J] w fun e w' => e = .returned (.tuple #[]) ∧ ∃ d', Sift w w' b g cap d.size d d' ∧ Hp.Heap KI.lt d' d.size 0 := by
  subst hJ; exact up_any b g cap j0 d w h hj0 hu

theorem init_any (b g cap : Nat) (d : Array KI) (w : World) (h : PileAt w b g cap d) :
    Calls Tryz.prog 176 #[.iface 252 (.pointer (some ⟨b, 0, none⟩))] w fun e w' => e = .returned (.tuple #[]) ∧ ∃ d', Sift w w' b g cap d.size d d' ∧ Hp.Heap KI.lt d' d.size 0 := by
  have hmax := h.row.max
  obtain ⟨n, hn⟩ : ∃ n, n = d.size := ⟨_, rfl⟩
  have hml := mLen b w _ h.hd
  rw [← hn] at hmax hml ⊢
  go_enter Tryz.func176, Tryz.ntmps176
  go_wp2_with (go_at_call 195; refine (len_any _ _ _ _).mono ?_; rintro e w1 ⟨rfl, hw1⟩; replace hw1 := hw1.symm; subst hw1)
  go_loopw [3] (fun a wr => ∃ (k : Nat) (d' : Array KI), a = .int .i64 ((k : Int) - 1) ∧ k ≤ n ∧ Sift w wr b g cap n d d' ∧ Hp.Heap KI.lt d' n k) (fun a _ => (intOf a + 1).toNat)
  case atStart => exact ⟨n / 2, d, congrArg (Value.int .i64) (by omega), by omega, ⟨h, But.refl _ _, List.Perm.refl _, fun _ _ => rfl⟩, Hp.Heap.none (by omega)⟩
  case round =>
    obtain ⟨k, d', rfl, hkn, hS, hH⟩ := hrel
    rcases k with _ | k
    · go_wp2
      go_end0
      exact ⟨rfl, d', hS, hH⟩
    · have hk0 : (0 : Int) ≤ (k : Int) := by omega
      have hle : n ≤ d'.size := by rw [hS.size]; omega
      clear hml
      go_wp2_with (go_at_call 179; refine (down_at _ _ b g cap n k d' _ (by omega) (by omega) hS.pile hle hH (by omega)).mono ?_; rintro e w2 ⟨⟨r, rfl⟩, d2, hS2, hH2⟩)
      go_roundw
      case rel => exact ⟨k, d2, congrArg (Value.int .i64) (by omega), by omega, ⟨hS2.pile, hS.but.trans hS2.but, hS2.perm.trans hS.perm, fun x hx => (hS2.rest x hx).trans (hS.rest x hx)⟩, hH2⟩
      case measure => simp [intOf]

theorem hpush_any (b g cap : Nat) (d : Array KI) (x : KI) (w : World) (h : PileAt w b g cap d) (hs : d.size + 1 ≤ 1099511627776) (hh : Hp.Heap KI.lt d d.size 0) :
    Calls Tryz.prog 177 #[.iface 252 (.pointer (some ⟨b, 0, none⟩)), .iface 40 (.agg #[.float .f64 x.b, .int .i64 x.v])] w fun e w' => e = .returned (.tuple #[]) ∧
      ∃ g' cap' d', PileAt w' b g' cap' d' ∧ Hp.Heap KI.lt d' d'.size 0 ∧ d'.toList.Perm (x :: d.toList) ∧ But (fun k => k = b ∨ k = g) w w' ∧ (g' = g ∨ w.heap.size ≤ g') := by
  have hmp := mPush b w
  go_enter Tryz.func177, Tryz.ntmps177
  go_wp2_with fail
  refine (pushM_any b g cap d x w h hs).mono ?_
  rintro e w1 ⟨rfl, g', cap', hP, hB, hg⟩
  have hml := mLen b w1 _ hP.hd
  have hU := Hp.Up.start hh x rfl
  have hsz : (d.push x).size = d.size + 1 := by simp
  rw [← hsz] at hU
  have hpm : (d.push x).toList.Perm (x :: d.toList) := by
    rw [Array.toList_push]; exact List.perm_append_comm (l₁ := d.toList) (l₂ := [x])
  have hlt : d.size < (d.push x).size := by omega
  have hJ : ((d.push x).size : Int) - 1 = (d.size : Int) := by omega
  have HJ : Hid (((d.push x).size : Int) - 1 = (d.size : Int)) := hJ
  have hi1 : ((d.push x).size : Int) ≤ 1099511627776 := by omega
  have hi2 : 1 ≤ ((d.push x).size : Int) := by omega
  clear hJ hsz hmp
  generalize d.push x = d1 at *
  go_wp2_with (go_at_call 195; refine (len_any _ _ _ _).mono ?_; rintro e w2 ⟨rfl, hw2⟩; replace hw2 := hw2.symm; subst hw2)
  refine (up_at _ b g' cap' d.size d1 _ (by have := HJ.out; omega) hP hlt hU).mono ?_
  rintro e w2 ⟨rfl, d', hS, hH⟩
  go_wp2
  go_end0
  refine ⟨rfl, g', cap', d', hS.pile, by rw [hS.size]; exact hH, hS.perm.trans hpm, hB.then hS.but (fun i hi e => ?_), hg⟩
  rcases hg with hg | hg
  · exact .inr (e.trans hg)
  · omega

theorem pop_push (d : Array KI) (n : Nat) (hn : d.size = n + 1) : d.pop.push d[n]! = d := by
  apply Array.ext
  · simp [hn]
  · intro k h1 h2
    rw [Array.getElem_push]
    split
    · rw [Array.getElem_pop]
    · rename_i e
      have hk : k = n := by simp at e; omega
      subst hk
      exact getElem!_pos d k h2

theorem hpop_any (b g cap n : Nat) (d : Array KI) (w : World) (h : PileAt w b g cap d) (hn : d.size = n + 1) (hh : Hp.Heap KI.lt d d.size 0) :
    Calls Tryz.prog 178 #[.iface 252 (.pointer (some ⟨b, 0, none⟩))] w fun e w' => e = .returned (.iface 40 (.agg #[.float .f64 d[0]!.b, .int .i64 d[0]!.v])) ∧
      ∃ d', PileAt w' b g cap d' ∧ Hp.Heap KI.lt d' d'.size 0 ∧ d.toList.Perm (d[0]! :: d'.toList) ∧ But (fun k => k = b ∨ k = g) w w' := by
  have hml := mLen b w _ h.hd
  have hms := mSwap b w _ h.hd
  have hSw : ∀ I J : Int, I = ((0 : Nat) : Int) → J = (n : Int) → Calls Tryz.prog 197 #[.slice (some ⟨g, 0, none⟩) d.size cap, .int .i64 I, .int .i64 J] w fun e w' => e = .returned (.tuple #[]) ∧ Row w' g cap (swp d 0 n) ∧ But (fun k => k = g) w w' := fun I J hI hJ => by
    by_cases e : n = 0
    · subst e; exact swap_self I J g cap 0 d w hI hJ h.row (by omega)
    · exact swap_any I J g cap 0 n d w hI hJ h.row (by omega) (by omega) (Ne.symm e)
  have hH1 : Hp.Heap KI.lt (swp d 0 n) n 1 := Hp.Heap.swapped (by rw [← hn]; exact hh)
  have hperm := Hp.swp_perm d 0 n (by omega) (by omega)
  have hlast : (swp d 0 n)[n]! = d[0]! := swp_right d 0 n (by omega)
  have hsz1 : (swp d 0 n).size = n + 1 := by rw [size_swp]; exact hn
  have hmax : n + 1 ≤ 1099511627776 := by have := h.row.max; omega
  have hi1 : (d.size : Int) ≤ 1099511627776 := by omega
  have hi2 : 1 ≤ (d.size : Int) := by omega
  have hNI : Hid (∀ _ : Unit, (d.size : Int) - 1 = (n : Int)) := fun _ => by omega
  clear hh hn
  go_enter Tryz.func178, Tryz.ntmps178
  go_wp2_with (go_at_call 195; refine (len_any _ _ _ _).mono ?_; rintro e w1 ⟨rfl, hw1⟩; replace hw1 := hw1.symm; subst hw1)
  refine (hSw _ _ (by rfl) (by have := hNI (); omega)).mono ?_
  rintro e w2 ⟨rfl, hr2, hb2⟩
  have hP2 := h.rows hb2 hr2 (size_swp _ _ _)
  clear hSw
  generalize swp d 0 n = d1 at *
  go_wp2_with fail
  refine (down_at _ _ b g cap n 0 d1 _ (by rfl) (by have := hNI (); omega) hP2 (by omega) hH1 (Nat.zero_le _)).mono ?_
  rintro e w3 ⟨⟨r, rfl⟩, d2, hS, hH2⟩
  have hmpop := mPop b w3
  have hsz2 : d2.size = n + 1 := by rw [hS.size]; exact hsz1
  have hl2 : d2[n]! = d[0]! := (hS.rest n (Nat.le_refl _)).trans hlast
  have HS2 : Hid (∀ _ : Unit, d2.size = n + 1) := fun _ => hsz2
  have HL2 : Hid (∀ _ : Unit, d2[n]! = d[0]!) := fun _ => hl2
  clear hsz2 hl2 hsz1 hlast
  go_wp2_with fail
  refine (popM_any b g cap n d2 w3 hS.pile (HS2 ())).mono ?_
  rw [HL2 ()]
  rintro e w4 ⟨rfl, hP4, hb4⟩
  go_wp2
  go_ret
  have hz : d2.pop.size = n := by have := HS2 (); simp; omega
  refine ⟨rfl, d2.pop, hP4, ?_, ?_, ?_⟩
  · rw [hz]
    intro p c hp hc hcn
    have hcc : p < n := by unfold Hp.Child at hc; omega
    have := HS2 ()
    rw [pop_get d2 (by omega), pop_get d2 (by omega)]
    exact hH2 p c hp hc hcn
  · have e1 := pop_push d2 n (HS2 ())
    rw [HL2 ()] at e1
    have e2 : d2.toList = d2.pop.toList ++ [d[0]!] := by rw [← Array.toList_push, e1]
    have h3 : d.toList.Perm d2.toList := (hS.perm.trans hperm).symm
    rw [e2] at h3
    exact h3.trans (List.perm_append_comm (l₁ := d2.pop.toList) (l₂ := [d[0]!]))
  · exact ((hb2.mono (fun _ _ e => .inr e)).then hS.but (fun _ _ e => .inr e)).then hb4 (fun _ _ e => .inl e)
end Go.Proofs.YtbcmilfajeanbaaGreat
