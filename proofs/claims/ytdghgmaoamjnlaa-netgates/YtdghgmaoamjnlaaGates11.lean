/-
  Layer 11's law of gates: the call returns true.
-/
import Derived.Test.YtdghgmaoamjnlaaGateStAll
import Derived.Test.YtdghgmaoamjnlaaStepReg13All
import Derived.Test.YtdghgmaoamjnlaaWireDAll
import Derived.Test.YtdghgmaoamjnlaaNetDAll
import Derived.Test.YtdghgmaoamjnlaaAloneG6All
namespace Go.Proofs.Ytdghgmaoamjnlaa
open Go.RowKit Go.Sort

theorem plainF : PlainK Try.prog 1 58 59 := by
  have h : (Try.prog.info? 59).map (fun i => (i.zero, i.size, i.bytes)) = some (some (.pointer none), 1, 8) := by kernel_rfl
  obtain ⟨i, hi, he⟩ := Option.map_eq_some_iff.1 h
  simp only [Prod.mk.injEq] at he
  exact ⟨i, _, Try.underlying58, hi, he.1, he.2.1, rfl, by rw [he.2.2]; decide⟩
theorem plainZ : PlainK Try.prog 1 57 2 := by
  have h : (Try.prog.info? 2).map (fun i => (i.zero, i.size, i.bytes)) = some (some (.int .i64 0), 1, 8) := by kernel_rfl
  obtain ⟨i, hi, he⟩ := Option.map_eq_some_iff.1 h
  simp only [Prod.mk.injEq] at he
  exact ⟨i, _, Try.underlying57, hi, he.1, he.2.1, rfl, by rw [he.2.2]; decide⟩
def gates7R (n lo : Nat) : List (Value → (Nat → Option Nat) → World → Prop) :=
  [MadeM 0 lo,
   fun v _ _ => v = .int .i64 (n : Int),
   Made 2 n lo,
   MadeE 3 1 lo,
   MadeM 0 lo,
   Made 2 n lo,
   MadeE 3 1 lo]
theorem gates7R_kept (n lo : Nat) : Reg.GAllKept (Reg.DPres) (gates7R n lo) :=
  ⟨(fun _ _ _ _ _ hp h => h.kept hp), (fun _ _ _ _ _ _ h => h), (fun _ _ _ _ _ hp h => h.kept hp), (fun _ _ _ _ _ hp h => h.kept hp), (fun _ _ _ _ _ hp h => h.kept hp), (fun _ _ _ _ _ hp h => h.kept hp), (fun _ _ _ _ _ hp h => h.kept hp), trivial⟩

def gates22R (mb lb fb k n c gc oc i lcap : Nat) (ga oa : Option Addr) (r : Mem × Fr × Ans × Bool) : List (Value → Ar.Gh → World → Prop) :=
  [fun u0 _ _ => u0 = .agg #[.int .i64 (n : Int), .slice ga c gc, .slice oa n oc],
   fun u0 _ _ => u0 = .pointer (some ⟨mb, 0, none⟩),
   fun u0 _ _ => u0 = .slice (some ⟨lb, 0, none⟩) i lcap,
   fun u0 _ _ => u0 = .int .i64 (k : Int),
   fun u0 _ _ => u0 = .pointer (some ⟨lb, k, none⟩),
   fun u0 _ _ => u0 = .pointer (some ⟨fb, 0, none⟩),
   fun u0 _ _ => u0 = .tuple #[.agg #[.bool r.2.2.1.ok, .float .f64 r.2.2.1.pri, .int .i64 r.2.2.1.val, .int .i64 r.2.2.1.n], .bool r.2.2.2],
   fun u0 _ _ => u0 = .tuple #[.agg #[.bool r.2.2.1.ok, .float .f64 r.2.2.1.pri, .int .i64 r.2.2.1.val, .int .i64 r.2.2.1.n], .bool r.2.2.2],
   fun u0 _ _ => u0 = .agg #[.bool r.2.2.1.ok, .float .f64 r.2.2.1.pri, .int .i64 r.2.2.1.val, .int .i64 r.2.2.1.n],
   fun u0 _ _ => u0 = .bool r.2.2.2,
   fun u0 x _ => ∃ bx, x.2 = some bx ∧ u0 = .pointer (some ⟨bx, 0, none⟩),
   fun _ _ _ => True,
   fun u0 _ _ => u0 = .bool r.2.2.2]
theorem gates22R_kept (mb lb fb k n c gc oc i lcap : Nat) (ga oa : Option Addr) (r : Mem × Fr × Ans × Bool) : Reg.GAllKept Ar.Pres (gates22R mb lb fb k n c gc oc i lcap ga oa r) :=
  ⟨(fun _ _ _ _ _ _ h => h), (fun _ _ _ _ _ _ h => h), (fun _ _ _ _ _ _ h => h), (fun _ _ _ _ _ _ h => h), (fun _ _ _ _ _ _ h => h), (fun _ _ _ _ _ _ h => h), (fun _ _ _ _ _ _ h => h), (fun _ _ _ _ _ _ h => h), (fun _ _ _ _ _ _ h => h), (fun _ _ _ _ _ _ h => h), (fun _ _ _ _ _ hp h => by obtain ⟨bx, h1, h2⟩ := h; exact ⟨bx, hp bx h1, h2⟩), (fun _ _ _ _ _ _ h => h), (fun _ _ _ _ _ _ h => h), trivial⟩

set_option maxRecDepth 20000 in
set_option maxHeartbeats 16000000 in
theorem netGates_any (a0 : Int) (a1 : Option Addr) (n1 c1 : Nat) (Z1 : Nat → Int) (tg : Bool) (w : World) (h1 : IntsIn w a1 n1 Z1) (_hl1 : n1 ≤ 9223372036854775807) :
    Calls Try.prog 4 #[.int .i64 a0, .slice a1 n1 c1, .bool tg] w fun e w' => e = .returned (.bool true) ∧ Below w.heap.size w w' := by
  have hsf := run_store_flt (P := Try.prog)
  have hA := awake11_any w
  have hWd := fun W => width_any a0 W
  obtain ⟨d, hd⟩ : ∃ d, dOf a0 = d := ⟨_, rfl⟩
  have hd4 : d ≤ 4 := by rw [← hd]; exact dOf_le a0
  rw [hd] at hWd
  obtain ⟨n, hn⟩ : ∃ n, n = 2 ^ d := ⟨_, rfl⟩
  rw [← hn] at hWd
  obtain ⟨c, G, Os, hP, hN⟩ := nnew_any d n hd4 hn
  obtain ⟨hn1, hn16, hc100⟩ := hP.le
  have HN := hidq hN
  have HP := hidq hP
  have HZ := hidq h1
  clear hN hP h1 hn hd hd4
  go_enter Try.func4, Try.ntmps4
  go_wp2_with fail
  refine hA.mono ?_
  rintro e w1 ⟨rfl, hb1⟩
  clear hA
  go_wp2_with fail
  refine (hWd _).mono ?_
  rintro e w0 ⟨rfl, hw0⟩
  subst w0
  clear hWd
  go_wp2_with fail
  refine (HN.out _).mono ?_
  rintro e w2 ⟨ga, gc, oa, oc, rfl, hNP, hb2⟩
  obtain ⟨sb, hsb⟩ : ∃ sb, w2.heap.size = sb := ⟨_, rfl⟩
  obtain ⟨W2, hW2⟩ : ∃ W2, w2.alloc (.cells #[.int .i64 (n : Int), .slice ga c gc, .slice oa n oc] 52) = W2 := ⟨_, rfl⟩
  have hB2 := BoxAt.new w2 [.int .i64 (n : Int), .slice ga c gc, .slice oa n oc] 52
  rw [show w2.alloc (.cells [.int .i64 (n : Int), .slice ga c gc, .slice oa n oc].toArray 52) = W2 from hW2, hsb] at hB2
  have hbW2 : Below w2.heap.size w2 W2 := by rw [← hW2]; exact (Below.refl _ _).alloc (Nat.le_refl _) _
  obtain ⟨lo, hlo⟩ : ∃ lo, W2.heap.size = lo := ⟨_, rfl⟩
  have hls : lo = sb + 1 := by rw [← hlo, ← hW2, World.size_alloc, hsb]
  rw [hsb] at hNP
  have H2 := hidq (And.intro (hNP.below hbW2) (And.intro hB2 (And.intro ((hb1.trans (hb2.mono hb1.size)).trans (hbW2.mono (by have := hb1.size; have := hb2.size; omega))) hls)))
  have HW2 := hidq hW2
  clear hNP hB2 hbW2 hb1 hb2 hW2 HN hls
  go_wp2_with fail
  rw [HW2.out]
  clear HW2
  refine Reg.wp_region_ghost (Reg.gofList (gates7R n lo)) (Reg.DPres) (Reg.DInv W2) (fun _ => none) (by kernel_rfl) (by kernel_rfl) (Reg.GAllKept.at _ (gates7R_kept n lo)) (Reg.DInv.start 7) ⟨?_, ?_, ?_, ?_, ?_, ?_, ?_, trivial⟩ ?_
  · refine Reg.GStepAt.plain (i := 0) rfl ?_
    intro x L ev w hI hk hp hA
    have hcc := hA.const
    have hcf := hA.func
    clear hA hp
    have hSz := hI.1.size
    refine Reg.out_call (f := 15) (args := #[]) (w0 := w) ?_ ?_
    · go_simp
    refine (new5_any w).mono ?_
    rintro e w' ⟨rfl, hM, hbl⟩
    have hml := hM.lt _ rfl
    exact ⟨_, rfl, Reg.dset x 0 w.heap.size, MadeM.new hI (by omega) hM, Reg.DPres.new hI hk hbl, Reg.DInv.new hI hk hbl hml⟩
  · refine Reg.GStepAt.plain (i := 1) rfl ?_
    intro x L ev w hI hk hp hA
    have e0 : ev (.tmp 0) = .int .i64 (n : Int) := hA.oldNone 0 (by kernel_rfl)
    have hcc := hA.const
    clear hA hp
    refine Reg.out_value (v := .int .i64 (n : Int)) ?_ ⟨x, rfl, Reg.DPres.refl _ _, Reg.DInv.light hI 1⟩
    go_simp
  · refine Reg.GStepAt.plain (i := 2) rfl ?_
    intro x L ev w hI hk hp hA
    have e34 : ev (.tmp 34) = .int .i64 (n : Int) := hA.val 1 _ 34 rfl (hp ⟨1, .data⟩ (by simp) rfl) rfl
    have hcc := hA.const
    clear hA hp
    have hmk := zerosL n (by omega) w
    rw [List.toArray_replicate] at hmk
    have hSz := hI.1.size
    have hbl : Below w.heap.size w (w.alloc (.cells (Array.replicate n (Value.int .i64 0)) 2)) := (Below.refl _ _).alloc (Nat.le_refl _) _
    refine Reg.out_new (v := .slice (some ⟨w.heap.size, 0, none⟩) n n) (w' := w.alloc (.cells (Array.replicate n (Value.int .i64 0)) 2)) ?_ ⟨Reg.dset x 2 w.heap.size, Made.new hI (by omega), Reg.DPres.new hI hk hbl, Reg.DInv.new hI hk hbl (by simp)⟩
    clear hI hk hbl
    go_simp
  · refine Reg.GStepAt.plain (i := 3) rfl ?_
    intro x L ev w hI hk hp hA
    have hcc := hA.const
    clear hA hp
    have hSz := hI.1.size
    have hbl : Below w.heap.size w (w.alloc (.cells #[] 59)) := (Below.refl _ _).alloc (Nat.le_refl _) _
    refine Reg.out_new (v := .slice (some ⟨w.heap.size, 0, none⟩) 0 0) (w' := w.alloc (.cells #[] 59)) ?_ ⟨Reg.dset x 3 w.heap.size, MadeE.new hI (by omega), Reg.DPres.new hI hk hbl, Reg.DInv.new hI hk hbl (by simp)⟩
    clear hI hk hbl
    go_simp
  · refine Reg.GStepAt.plain (i := 4) rfl ?_
    intro x L ev w hI hk hp hA
    have e33 : (MadeM 0 lo) (ev (.tmp 33)) x w := hA.val 0 _ 33 rfl (hp ⟨0, .data⟩ (by simp) rfl) rfl
    have hcc := hA.const
    clear hA hp
    exact Reg.out_value rfl ⟨x, e33, Reg.DPres.refl _ _, Reg.DInv.light hI 4⟩
  · refine Reg.GStepAt.plain (i := 5) rfl ?_
    intro x L ev w hI hk hp hA
    have e35 : (Made 2 n lo) (ev (.tmp 35)) x w := hA.val 2 _ 35 rfl (hp ⟨2, .data⟩ (by simp) rfl) rfl
    have hcc := hA.const
    clear hA hp
    exact Reg.out_value rfl ⟨x, e35, Reg.DPres.refl _ _, Reg.DInv.light hI 5⟩
  · refine Reg.GStepAt.plain (i := 6) rfl ?_
    intro x L ev w hI hk hp hA
    have e36 : (MadeE 3 1 lo) (ev (.tmp 36)) x w := hA.val 3 _ 36 rfl (hp ⟨3, .data⟩ (by simp) rfl) rfl
    have hcc := hA.const
    clear hA hp
    exact Reg.out_value rfl ⟨x, e36, Reg.DPres.refl _ _, Reg.DInv.light hI 6⟩
  intro gx L act wz hall hI hF
  have g33 : (MadeM 0 lo) (act.eval (.tmp 33)) gx wz := hF.val 0 _ 33 rfl (hall 0 (by simp)) rfl
  have g34 : act.eval (.tmp 34) = .int .i64 (n : Int) := hF.val 1 _ 34 rfl (hall 1 (by simp)) rfl
  have g35 : (Made 2 n lo) (act.eval (.tmp 35)) gx wz := hF.val 2 _ 35 rfl (hall 2 (by simp)) rfl
  have g36 : (MadeE 3 1 lo) (act.eval (.tmp 36)) gx wz := hF.val 3 _ 36 rfl (hall 3 (by simp)) rfl
  have g9 : (MadeM 0 lo) (act.eval (.tmp 9)) gx wz := hF.val 4 _ 9 rfl (hall 4 (by simp)) rfl
  have g10 : (Made 2 n lo) (act.eval (.tmp 10)) gx wz := hF.val 5 _ 10 rfl (hall 5 (by simp)) rfl
  have g11 : (MadeE 3 1 lo) (act.eval (.tmp 11)) gx wz := hF.val 6 _ 11 rfl (hall 6 (by simp)) rfl
  have hact := hF.act [33, 34, 35, 36, 9, 10, 11] (by kernel_rfl)
  have hBz := hI.1
  clear hF hall
  simp only [List.foldl_cons, List.foldl_nil] at hact
  rw [g34] at hact
  clear g34
  generalize act.eval (.tmp 33) = u33 at hact g33
  generalize act.eval (.tmp 35) = u35 at hact g35
  generalize act.eval (.tmp 36) = u36 at hact g36
  generalize act.eval (.tmp 9) = u9 at hact g9
  generalize act.eval (.tmp 10) = u10 at hact g10
  generalize act.eval (.tmp 11) = u11 at hact g11
  simp only [List.setIfInBounds_toArray, List.set_cons_succ, List.set_cons_zero] at hact
  subst hact
  obtain ⟨mb, rfl, x0, m0, B0, N0⟩ := g9
  obtain ⟨ib, rfl, x2, m2, B2, N2⟩ := g10
  obtain ⟨lb0, rfl, x3, m3, B3, N3⟩ := g11
  have hmi : ib ≠ mb := fun e => N0 2 ib (by decide) x2 e
  have hml : lb0 ≠ mb := fun e => N0 3 lb0 (by decide) x3 e
  have hil : lb0 ≠ ib := fun e => N2 3 lb0 (by decide) x3 e
  have hT0 : LG w lo n c gc oc ga oa (fun j => j < sb) G Os sb mb ib 0 lb0 0 wz := by
    obtain ⟨k1, k2, k3, k4⟩ := H2.out
    refine ⟨[], fun _ => 0, ⟨B0, k1.below hBz, by rw [tab_zero]; exact B2, m2, fun k hk => by rw [hk]; exact ⟨m0, fun e => hmi e.symm⟩, fun k hk => by rw [k4]; exact Nat.lt_succ_of_lt hk, fun i t ht => by simp at ht, fun i j t u _ ht => by simp at ht, TInv.start n c G Os, Nat.zero_le _⟩, rfl, fun v => Nat.le_refl _, fun v _ => rfl, (fun x hx => by cases hx), B3, ⟨m3, hil, fun e => ?_⟩, k2.below hBz, by omega, k3.trans (hBz.mono k3.size)⟩
    rcases e with e | ⟨t, ht, _⟩
    · exact hml e
    · cases ht
  have HT0 := hidq hT0
  have HWL := hidq (show w.heap.size ≤ lo from by rw [← hlo]; exact H2.out.2.2.1.size)
  clear hI hBz B0 B2 B3 N0 N2 N3 x0 x2 x3 hmi hml hil hT0 m0 m2 m3 g33 g35 g36 hsb
  go_wp2_with fail
  go_loopw [11, 12] (fun s11 s12 wr => ∃ i lb lcap : Nat, s11 = .slice (some ⟨lb, 0, none⟩) i lcap ∧ s12 = .int .i64 (i : Int) ∧ i ≤ n1 ∧ i ≤ 30 ∧ Hid (LG w lo n c gc oc ga oa (fun j => j < sb) G Os sb mb ib i lb lcap wr)) (fun _ s12 _ => 30 - (intOf s12).toNat)
  case atStart => exact ⟨0, lb0, 0, rfl, rfl, Nat.zero_le _, Nat.zero_le _, HT0⟩
  case round =>
    obtain ⟨i, lb, lcap, rfl, rfl, hi1, hi30, hT⟩ := hrel
    clear HT0
    by_cases hlt : i < n1 ∧ i < 30
    · obtain ⟨hlt1, hlt2⟩ := hlt
      have hltI1 : (i : Int) < (n1 : Int) := by omega
      have hltI2 : (i : Int) < 30 := by omega
      obtain ⟨cs, s, hS, hcl, hs1, hs2, hsm, hF, hlb, hBx, hsB, hlow⟩ := hT.out
      obtain ⟨zb, zo, rfl, hzl, hz⟩ := HZ.out i hlt1
      have hzz := (hlow.cell (p := ⟨zb, zo + i, none⟩) hzl).trans hz
      obtain ⟨z, hz1⟩ : ∃ z, Z1 i = z := ⟨_, rfl⟩
      rw [hz1] at hzz
      have hrng := into_rng (d := z) (n := (n : Int)) (by omega)
      obtain ⟨v, hv⟩ : ∃ v : Nat, into z (n : Int) = (v : Int) := ⟨(into z (n : Int)).toNat, by omega⟩
      have hvn : v < n := by omega
      have hvnI : (v : Int) < (n : Int) := by omega
      have hIn := rinto_any z (n : Int) wr (by omega)
      rw [hv] at hIn
      obtain ⟨x, hx⟩ : ∃ x, s v = x := ⟨_, rfl⟩
      have hxb : (x : Int) ≤ 30 := by have := hs1 v; omega
      obtain ⟨c0, y0⟩ := hS.inb.get v (.int .i64 (x : Int)) (by rw [← hx]; simp [vals, tab_get _ hvn])
      have hil := hS.inb.lt
      have hiu := hS.upi
      have hwl := HWL.out
      have hzi : zb ≠ ib := by omega
      obtain ⟨Wa, hWa⟩ : ∃ Wa, wr.setCell ⟨ib, v, none⟩ (.int .i64 ((x : Int) + 1)) = Wa := ⟨_, rfl⟩
      have hza : Wa.cell? ⟨zb, zo + i, none⟩ = some (.int .i64 z) := by
        rw [← hWa, World.cell?_setCell_other _ _ _ _ (fun q => hzi (by injection q with e; exact e.symm))]; exact hzz
      obtain ⟨fb, hfb⟩ : ∃ fb, Wa.heap.size = fb := ⟨_, rfl⟩
      obtain ⟨Wf, hWf⟩ : ∃ Wf, Wa.alloc (.cells #[.int .i64 7, .float .f64 0, .int .i64 0, .int .i64 z, .int .i64 0, .int .i64 0, .int .i64 0, .int .i64 0, .int .i64 0, .int .i64 0, .bool false, .int .u64 0, .int .i64 0, .slice none 0 0, .int .u64 0, .int .i64 0, .slice none 0 0] 67) = Wf := ⟨_, rfl⟩
      have hbb : But (fun k => k = ib) wr Wf := by rw [← hWf, ← hWa]; exact ((But.refl (fun k => k = ib) wr).set1 ib v rfl _).alloc _
      have HSL := hidq (show SlAt 1 (Wf.alloc (.cells #[.pointer (some ⟨fb, 0, none⟩)] 59)) (some ⟨lb, 0, none⟩) lcap i (tkv cs) from .inr ⟨lb, rfl, (hF.but hbb hlb.2.1).but (S := fun _ => False) (But.of_below ((Below.refl _ _).alloc (Nat.le_refl _) _)) id⟩)
      have HNX := hidq (fun g2 c2 w3 hF3 hb3 hg3 => LG.next (w3 := w3) (g2 := g2) (c2 := c2) (ob := .cells #[.pointer (some ⟨fb, 0, none⟩)] 59) hS hcl hs1 hs2 hsm hF hlb hBx hsB hlow hwl hn1 (by obtain ⟨k1, _⟩ := H2.out; exact k1.gl) (fun g hg => by obtain ⟨d, hd, hn, hc, hG, _⟩ := HP.out.ex; subst hG; exact ((net_facts d n hd hn).2.2.1 g hg).1) hv hvn hx hWa hWf hfb hF3 hb3 hg3)
      have hi12 : i + 1 ≤ 1099511627776 := by omega
      clear hS hcl hs1 hs2 hsm hF hlb hBx hsB hlow hT hz hz1 hrng hx hbb hv
      go_wp2_with fail
      refine hIn.mono ?_
      rintro e w0 ⟨rfl, hw0⟩
      subst w0
      clear hIn
      go_wp2_with (at_builtin; refine wpList_sl plainF _ rfl (.tmp 58) (.tmp 67) rfl (some ⟨lb, 0, none⟩) lcap i (tkv cs) rfl HSL.out _ rfl 1 [.pointer (some ⟨fb, 0, none⟩)] (src_new 1 _ Try.underlying58 Wf.heap.size [.pointer (some ⟨fb, 0, none⟩)] rfl (fun j u hu => by rw [World.cell?_alloc_new]; simpa using hu) (by intro u hu; simp at hu; subst hu; rfl)) (by omega) hi12 ?_; intro g2 c2 w3 hF3 hb3 hg3; have HN3 := hidq (HNX.out g2 c2 w3 hF3 hb3 hg3); clear hF3 hb3 hg3)
      go_roundw
      case rel => exact ⟨i + 1, g2, c2, rfl, by go_num, by omega, by omega, HN3⟩
      case measure => simp [intOf]; omega
    · have hnd : ¬ ((i : Int) < (n1 : Int)) ∨ ((i : Int) < (n1 : Int) ∧ ¬ ((i : Int) < 30)) := by omega
      have HSG := hidq (hT.out.sg hi30 tg)
      clear hT
      rcases hnd with h | ⟨h, h'⟩
      focus
        have hd1 : decide ((i : Int) < (n1 : Int)) = false := decide_eq_false h
        have hd2 : decide (i < n1) = false := decide_eq_false (by omega)
        go_wp2_with fail
        clear h hd1 hd2 hlt
      rotate_left
      focus
        have hd1 : decide ((i : Int) < 30) = false := decide_eq_false h'
        have hd2 : decide (i < 30) = false := decide_eq_false (by omega)
        go_wp2_with fail
        clear h h' hd1 hd2 hlt
      all_goals
        obtain ⟨w6, h6⟩ : ∃ w6, w6 = wr := ⟨_, rfl⟩
        subst h6
        go_loopw [13, 14] (fun s13 s14 wr => ∃ left j : Nat, s13 = .int .i64 (left : Int) ∧ s14 = .int .i64 (j : Int) ∧ left ≤ 30 ∧ j ≤ 4000 ∧ Hid (SG w lo n c gc oc ga oa (fun j => j < sb) G Os sb mb ib lb i tg left j wr)) (fun _ s14 _ => 4000 - (intOf s14).toNat)
        case atStart => exact ⟨i, 0, rfl, rfl, hi30, Nat.zero_le _, HSG⟩
        case round =>
          obtain ⟨left, j, rfl, rfl, hl30, hj, hT⟩ := hrel
          clear HSG
          by_cases hl0 : left = 0
          · subst hl0
            obtain ⟨O, M, cs, s, hS, hcl, hck, hs30, hs2, hti, hlv, hBl, hlb, hBx, hsB, hlow⟩ := hT.out
            obtain ⟨d, hd, hn, hc, hG, hO⟩ := HP.out.ex
            obtain ⟨f1, f2, f3, f4, _⟩ := net_facts d n hd hn
            obtain ⟨_, _, f5, _⟩ := plan_facts d hd
            rw [← hn, ← hO] at f5
            rw [← hG] at f1 f3
            rw [← hO] at f2 f4
            have htold := hS.inv.told hS.np.gl (none_live hlv) f4 f5
            have hPs := pass_any n c ga gc oa oc ib 0 n G Os (tab n s) wr hS.np.sl hS.np.ns (fun q v hv => ⟨ib, 0, rfl, hS.inb.lt, id, by rw [Nat.zero_add]; exact hS.inb.cell q _ (by simp [vals, hv])⟩) hS.np.gl hS.np.ol (tab_len n s) (fun g hg => (f3 g hg).2) f5 (by omega) hn1 hn16 (fun q => by
              have := congrFun (tab_fun hs2) q
              rw [this]
              have := hs30 q
              omega)
            rw [tab_fun hs2] at hPs
            have hcn : (Wr.cnts G s).length = c := by rw [Wr.cnts_length, f1, ← hc]
            have hrn : (Os.map (Wr.run G s)).length = n := by rw [List.length_map, f2]
            obtain ⟨A, hAe⟩ : ∃ A, Wr.cnts G s = A := ⟨_, rfl⟩
            obtain ⟨R, hRe⟩ : ∃ R, Os.map (Wr.run G s) = R := ⟨_, rfl⟩
            rw [hAe] at hcn htold
            rw [hRe] at hrn htold
            have b0 := (hBx.get 0 _ rfl).1
            have b1 := (hBx.get 1 _ rfl).1
            have b2 := (hBx.get 2 _ rfl).1
            have hbl := hBx.lt
            have HPs := hidq (show Calls Try.prog 18 #[.agg #[.int .i64 (n : Int), .slice ga c gc, .slice oa n oc], .slice (some ⟨ib, 0, none⟩) n n] wr fun e w' => ∃ gb ob, e = .returned (.tuple #[.slice (some ⟨gb, 0, none⟩) c c, .slice (some ⟨ob, 0, none⟩) n n]) ∧ BoxAt w' gb (vals A) ∧ BoxAt w' ob (vals R) ∧ wr.heap.size ≤ gb ∧ Below wr.heap.size wr w' from hPs.mono (by
              rintro e w' ⟨gb, ob, e1, e2, e3, e4, _, e6⟩
              rw [hAe] at e2
              rw [hRe] at e3
              exact ⟨gb, ob, e1, e2, e3, e4, e6⟩))
            have HM := hidq (And.intro hS.mem (And.intro htold hlow))
            have HLL := hidq (And.intro hcn hrn)
            have hl0 : ¬ ((0 : Int) < 0) := by decide
            clear hS hcl hck hs30 hs2 hti hlv hBl hlb hBx hsB hlow hT hPs htold hcn hrn hAe hRe f1 f2 f3 f4 f5 hd hn hc hG hO
            go_wp2_with fail
            refine (HPs.out).mono ?_
            rintro e w5 ⟨gb, ob, rfl, hBg, hBo, hgl, hb5⟩
            have HG5 := hidq (show SlAt 1 w5 (some ⟨gb, 0, none⟩) c c (vals A) from .inr ⟨gb, rfl, flat_vals hBg HLL.out.1 (by omega)⟩)
            have HO5 := hidq (show Src Try.prog 1 57 (.slice (some ⟨ob, 0, none⟩) n n) n (vals R) w5 from (flat_vals hBo HLL.out.2 (by omega)).src Try.underlying57)
            have H5 := hidq (And.intro hgl hb5)
            have hcn9 : c + n ≤ 1099511627776 := by omega
            clear hBg hBo hgl hb5 HPs b0 b1 b2 hbl
            go_wp2_with (at_builtin; refine wpList_sl plainZ _ rfl (.tmp 124) (.tmp 125) rfl (some ⟨gb, 0, none⟩) c c (vals A) rfl HG5.out _ rfl n (vals R) HO5.out (by omega) hcn9 ?_; intro g7 c7 w7 hF7 hb7 hg7; have HF7 := hidq hF7; have HB7 := hidq hb7; clear hF7 hb7 hg7)
            have HW7 := hidq (show Below wr.heap.size wr w7 from H5.out.2.trans (HB7.out.below H5.out.2.size (fun q hq => by obtain ⟨x, hx, rfl⟩ := hq; cases hx; exact H5.out.1)))
            have HM7 := hidq (And.intro (HM.out.1.below HW7.out) (HM.out.2.2.trans (HW7.out.mono HM.out.2.2.size)))
            have htold := HM.out.2.1
            have HTD := hidq htold
            obtain ⟨wy, hwy⟩ : ∃ wy, wy = wr := ⟨_, rfl⟩
            subst hwy
            clear HB7 HW7 HM H5 HG5 HO5 htold
            go_wp2_with fail
            go_loopw [128] (fun s128 wr => ∃ k : Nat, s128 = .int .i64 (k : Int) ∧ k ≤ c + n ∧ Hid (Below w7.heap.size w7 wr)) (fun s128 _ => c + n - (intOf s128).toNat)
            case atStart => exact ⟨0, rfl, Nat.zero_le _, hidq (Below.refl _ _)⟩
            case round =>
              obtain ⟨k, rfl, hkn, hbr⟩ := hrel
              by_cases hlt : k < c + n
              · have hltI : (k : Int) < ((c + n : Nat) : Int) := by omega
                have hltI2 : (k : Int) < (c : Int) + (n : Int) := by omega
                obtain ⟨x, hx⟩ : ∃ x, (A ++ R)[k]? = some x := ⟨_, List.getElem?_eq_getElem (by rw [List.length_append, HLL.out.1, HLL.out.2]; exact hlt)⟩
                have hcell := ((HF7.out.but (S := fun _ => False) (But.of_below hbr.out) id).cell k (.int .i64 (x : Int)) (by rw [← vals_app]; unfold vals; rw [List.getElem?_map, hx]; rfl))
                have hMn := HTD.out k x hx
                have hRd := hidq (show Calls Try.prog 19 #[.pointer (some ⟨mb, 0, none⟩), .int .i64 (k : Int)] wr fun e w' => ∃ v sl, e = .returned (.agg #[.int .u64 v, .int .i64 (x : Int), sl]) ∧ Below wr.heap.size wr w' from (read5_any mb O M (k : Int) wr (HM7.out.1.below hbr.out)).mono (by
                  rintro e w' ⟨a', cap', e1, _, _, e4⟩
                  rw [look_nat, hMn] at e1
                  exact ⟨_, _, e1, e4⟩))
                clear hx hMn
                go_wp2_with fail
                refine (hRd.out).mono ?_
                rintro e w8 ⟨v, sl, rfl, hb8⟩
                have ef1 := fldC_1 (.int .u64 v) (.int .i64 (x : Int)) sl
                have ef2 := fldV_0 (.int .i64 (x : Int)) sl
                have HB8 := hidq (hbr.out.trans (hb8.mono hbr.out.size))
                clear hb8 hRd
                go_wp2_with fail
                go_roundw
                case rel => exact ⟨k + 1, by go_num, by omega, HB8⟩
                case measure => simp [intOf]; omega
              · have hkk : k = c + n := by omega
                have HFIN := hidq (HM7.out.2.trans (hbr.out.mono HM7.out.2.size))
                have hd1 : decide ((k : Int) < ((c + n : Nat) : Int)) = false := decide_eq_false (by omega)
                have hd2 : decide (k < c + n) = false := decide_eq_false hlt
                have hd3 : decide ((k : Int) < (c : Int) + (n : Int)) = false := decide_eq_false (by omega)
                clear hkk hlt
                go_wp2_with fail
                go_ret
                exact ⟨rfl, HFIN.out⟩
          · have hlp : 0 < left := by omega
            have hj4 := hT.out.time hi30 hc100 hlp
            have hlI : (0 : Int) < (left : Int) := by omega
            have hjI : (j : Int) < 4000 := by omega
            obtain ⟨O, M, cs, s, hS, hcl, hck, hs30, hs2, hti, hlv, hBl, hlb, hBx, hsB, hlow⟩ := hT.out
            have hil : left ≤ i := by rw [← hlv, ← hcl]; exact List.countP_le_length
            obtain ⟨k0, hk0⟩ : ∃ k0 : Nat, k0Of tg j i = k0 := ⟨_, rfl⟩
            have hk0i : k0 ≤ i := by
              have := Nat.mod_lt j (show 0 < i by omega)
              rw [← hk0]; unfold k0Of; split <;> omega
            have HK0 := hidq hk0
            have HC := hidq (And.intro hS (And.intro hcl (And.intro hck (And.intro hs30 (And.intro hs2 (And.intro hti (And.intro hlv (And.intro hBl (And.intro hlb (And.intro hBx (And.intro hsB hlow)))))))))))
            have HTG : tg = true → (j : Int).tmod (i : Int) = (k0 : Int) := fun e => by
              have h := HK0.out
              rw [k0Of_t e] at h
              rw [← h]; rfl
            have hi0 : ¬ ((i : Int) = 0) := by omega
            have hi0b : ((i : Int) == 0) = false := by simp; omega
            clear hS hcl hck hs30 hs2 hti hlv hBl hlb hBx hsB hlow hT hk0
            cases tg
            focus
              clear HTG
              go_wp2_with fail
            rotate_left
            focus
              have hmt := HTG rfl
              clear HTG
              go_wp2_with fail
              clear hmt
            all_goals
              obtain ⟨wx, h6⟩ : ∃ wx, wx = wr := ⟨_, rfl⟩
              subst h6
              clear hi0 hi0b
              go_loopw [15] (fun s15 wr => ∃ k : Nat, s15 = .int .i64 (k : Int) ∧ k ≤ i ∧ wr = wx ∧ Hid (k0 ≤ k ∧ ∀ q, k0 ≤ q → q < k → cs[q]? = some none)) (fun s15 _ => i - (intOf s15).toNat)
              case atStart => exact ⟨k0, by first | rfl | (have h : 0 = k0 := HK0.out; subst h; rfl), hk0i, rfl, hidq ⟨Nat.le_refl _, fun q h1 h2 => by omega⟩⟩
              case round =>
                obtain ⟨k, rfl, hki, rfl, hX⟩ := hrel
                by_cases hlt : k < i
                · have hltI : (k : Int) < (i : Int) := by omega
                  obtain ⟨hS, hcl, hck, hs30, hs2, hti, hlv, hBl, hlb, hBx, hsB, hlow⟩ := HC.out
                  obtain ⟨y, hy⟩ : ∃ y, cs[k]? = some y := ⟨_, List.getElem?_eq_getElem (by omega)⟩
                  have hcell := (hBl.get k _ (tkv_get hy)).1
                  have hbll := hBl.lt
                  cases y with
                  | none =>
                    replace hcell : wr.cell? ⟨lb, k, none⟩ = some (.pointer none) := hcell
                    have HY := hidq (show k0 ≤ k + 1 ∧ ∀ q, k0 ≤ q → q < k + 1 → cs[q]? = some none from ⟨by have := hX.out.1; omega, fun q a b => by
                      by_cases e : q = k
                      · rw [e]; exact hy
                      · exact hX.out.2 q a (by omega)⟩)
                    clear hS hcl hck hs30 hs2 hti hlv hBl hlb hBx hsB hlow hy
                    go_wp2_with fail
                    go_roundw
                    case rel => exact ⟨k + 1, by go_num, by omega, by first | trivial | rfl, HY⟩
                    case measure => simp [intOf]; omega
                  | some t =>
                    obtain ⟨fb, hfb⟩ : ∃ fb, t.fb = fb := ⟨_, rfl⟩
                    replace hcell : wr.cell? ⟨lb, k, none⟩ = some (.pointer (some ⟨fb, 0, none⟩)) := by rw [← hfb]; exact hcell
                    obtain ⟨r, hr⟩ : ∃ r, nStep n c G Os M t.F = r := ⟨_, rfl⟩
                    obtain ⟨d, hd, hn, hc, hG, hO⟩ := HP.out.ex
                    obtain ⟨f1, f2, f3, f4, f5, _⟩ := net_facts d n hd hn
                    rw [← hG] at f3
                    rw [← hO] at f5
                    obtain ⟨g1, g2⟩ := hS.fr k t hy
                    have hS1 := hidq (fun W (hW : Below wr.heap.size wr W) => (show Calls Try.prog 17 #[.agg #[.int .i64 (n : Int), .slice ga c gc, .slice oa n oc], .pointer (some ⟨mb, 0, none⟩), .pointer (some ⟨fb, 0, none⟩)] W (StepEnd mb fb O t.P r W) from by
                      rw [← hr, ← hfb]
                      exact nstep_is n c gc oc ga oa (fun j => j < sb) G Os (by omega) hn1 hn16 f5 W mb t.fb O t.P M t.F (hS.np.below hW) (fun q hq => ⟨fun e => by have := (hS.upo q e).1; have hq' : q < sb := hq; omega, fun e => by have := (g2 q e).1; have hq' : q < sb := hq; omega⟩) (hS.mem.below hW) (g1.below hW) (fun q a b => (g2 q b).2.2 a) (hS.inv.good t.F (by unfold frs; exact List.mem_map.2 ⟨some t, List.mem_of_getElem? hy, rfl⟩)) (by omega)))
                    have hgt : ∀ q, O q ∨ t.P q → GK O cs q := fun q e => e.elim .inl (fun e => .inr ⟨t, List.mem_of_getElem? hy, e⟩)
                    have FL := hidq (fun q (e : O q ∨ t.P q) => (hS.gk_lt q (hgt q e)).2.1)
                    have FSg := hidq (And.intro hBx (And.intro (show ¬ (O sb ∨ t.P sb) from fun e => by have := (hS.gk_lt _ (hgt _ e)).1; omega) (And.intro hBl (And.intro (show ¬ (O lb ∨ t.P lb) from fun e => hlb.2.2 (hgt _ e)) (show (tkv cs)[k]? = some (.pointer (some ⟨fb, 0, none⟩)) from by rw [tkv_get hy, ← hfb]; rfl)))))
                    have HGO := hidq (fun (W' : World) (O' P' : Nat → Prop) (h1 : MemAt W' mb O' r.1) (h2 : FrAt W' fb P' r.2.1) (h3 : ∀ k, O' k → ¬ P' k) (h4 : Grown O wr W' O') (h5 : Grown t.P wr W' P') (h6 : But (fun k => O k ∨ t.P k) wr W') => SG.go (i := j) (N := i) hS hcl hck hs30 hs2 hti hlv hBl hlb hBx hsB hlow HWL.out hS.np.gl hn1 f3 f5 hy hj4 (fun e => by
                      have h := HK0.out
                      rw [k0Of_t e] at h
                      rw [h]; exact hX.out) hr h1 (by rw [hfb]; exact h2) h3 h4 h5 h6)
                    have HK := hidq (fun W (hW : But (fun k => O k ∨ t.P k) wr W) => (hBl.but hW (fun e => hlb.2.2 (hgt _ e))).get k _ (tkv_get hy))
                    have HKL := hidq (fun W (hW : But (fun k => O k ∨ t.P k) wr W) => (hBl.but hW (fun e => hlb.2.2 (hgt _ e))).lt)
                    have hke : ((k : Int) == (i : Int)) = false := by simp; omega
                    have hke2 : (k == i) = false := by simp; omega
                    have hke3 : ¬ (k : Int) = (i : Int) := by omega
                    obtain ⟨wx, h6⟩ : ∃ wx, wx = wr := ⟨_, rfl⟩
                    subst h6
                    clear hS hcl hck hs30 hs2 hti hlv hBl hlb hBx hsB hlow hy hr hd hn hc hG hO f1 f2 f3 f4 f5 g1 g2 hgt hfb
                    go_wp2_with fail
                    refine Reg.wp_region_ghost (Reg.gofList (gates22R mb lb fb k n c gc oc i lcap ga oa r)) Ar.Pres (Er.GI wx mb fb O t.P r 6 10 11) (O, none) (by kernel_rfl) (by kernel_rfl) (Reg.GAllKept.at _ (gates22R_kept mb lb fb k n c gc oc i lcap ga oa r)) (Er.GI.start wx mb fb O t.P r 6 10 11 FL.out _) ⟨?_, ?_, ?_, ?_, ?_, ?_, ?_, ?_, ?_, ?_, ?_, ?_, ?_, trivial⟩ ?_
                    · refine Reg.GStepAt.plain (i := 0) rfl ?_
                      intro x L ev w hI hk hp hA
                      have e7 : ev (.tmp 7) = .pointer (some ⟨sb, 0, none⟩) := hA.oldNone 7 (by kernel_rfl)
                      have hcc := hA.const
                      clear hA hp
                      have f0 := ((FSg.out.1.but hI.chg FSg.out.2.1).get 0 _ rfl).1
                      have f1 := ((FSg.out.1.but hI.chg FSg.out.2.1).get 1 _ rfl).1
                      have f2 := ((FSg.out.1.but hI.chg FSg.out.2.1).get 2 _ rfl).1
                      have f3 := ((FSg.out.2.2.1.but hI.chg FSg.out.2.2.2.1).get k _ FSg.out.2.2.2.2).1
                      refine Reg.out_value (v := .agg #[.int .i64 (n : Int), .slice ga c gc, .slice oa n oc]) ?_ ⟨x, rfl, Ar.Pres.refl _ _ _, hI.quiet 0 (by decide) (by decide) (by decide)⟩
                      go_simp
                    · refine Reg.GStepAt.plain (i := 1) rfl ?_
                      intro x L ev w hI hk hp hA
                      have e9 : ev (.tmp 9) = .pointer (some ⟨mb, 0, none⟩) := hA.oldNone 9 (by kernel_rfl)
                      have hcc := hA.const
                      clear hA hp
                      refine Reg.out_value (v := .pointer (some ⟨mb, 0, none⟩)) ?_ ⟨x, rfl, Ar.Pres.refl _ _ _, hI.quiet 1 (by decide) (by decide) (by decide)⟩
                      go_simp
                    · refine Reg.GStepAt.plain (i := 2) rfl ?_
                      intro x L ev w hI hk hp hA
                      have e11 : ev (.tmp 11) = .slice (some ⟨lb, 0, none⟩) i lcap := hA.oldNone 11 (by kernel_rfl)
                      have hcc := hA.const
                      clear hA hp
                      refine Reg.out_value (v := .slice (some ⟨lb, 0, none⟩) i lcap) ?_ ⟨x, rfl, Ar.Pres.refl _ _ _, hI.quiet 2 (by decide) (by decide) (by decide)⟩
                      go_simp
                    · refine Reg.GStepAt.plain (i := 3) rfl ?_
                      intro x L ev w hI hk hp hA
                      have e15 : ev (.tmp 15) = .int .i64 (k : Int) := hA.oldNone 15 (by kernel_rfl)
                      have hcc := hA.const
                      clear hA hp
                      refine Reg.out_value (v := .int .i64 (k : Int)) ?_ ⟨x, rfl, Ar.Pres.refl _ _ _, hI.quiet 3 (by decide) (by decide) (by decide)⟩
                      go_simp
                    · refine Reg.GStepAt.plain (i := 4) rfl ?_
                      intro x L ev w hI hk hp hA
                      have e104 : ev (.tmp 104) = .slice (some ⟨lb, 0, none⟩) i lcap := hA.val 2 _ 104 rfl (hp ⟨2, .data⟩ (by simp) rfl) rfl
                      have e105 : ev (.tmp 105) = .int .i64 (k : Int) := hA.val 3 _ 105 rfl (hp ⟨3, .data⟩ (by simp) rfl) rfl
                      have hcc := hA.const
                      clear hA hp
                      refine Reg.out_value (v := .pointer (some ⟨lb, k, none⟩)) ?_ ⟨x, rfl, Ar.Pres.refl _ _ _, hI.quiet 4 (by decide) (by decide) (by decide)⟩
                      go_simp
                    · refine Reg.GStepAt.plain (i := 5) rfl ?_
                      intro x L ev w hI hk hp hA
                      have e106 : ev (.tmp 106) = .pointer (some ⟨lb, k, none⟩) := hA.val 4 _ 106 rfl (hp ⟨4, .data⟩ (by simp) rfl) rfl
                      have hcc := hA.const
                      clear hA hp
                      have f0 := ((FSg.out.1.but hI.chg FSg.out.2.1).get 0 _ rfl).1
                      have f1 := ((FSg.out.1.but hI.chg FSg.out.2.1).get 1 _ rfl).1
                      have f2 := ((FSg.out.1.but hI.chg FSg.out.2.1).get 2 _ rfl).1
                      have f3 := ((FSg.out.2.2.1.but hI.chg FSg.out.2.2.2.1).get k _ FSg.out.2.2.2.2).1
                      refine Reg.out_value (v := .pointer (some ⟨fb, 0, none⟩)) ?_ ⟨x, rfl, Ar.Pres.refl _ _ _, hI.quiet 5 (by decide) (by decide) (by decide)⟩
                      go_simp
                    · refine Reg.GStepAt.plain (i := 6) rfl ?_
                      intro x L ev w hI hk hp hA
                      have e102 : ev (.tmp 102) = .agg #[.int .i64 (n : Int), .slice ga c gc, .slice oa n oc] := hA.val 0 _ 102 rfl (hp ⟨0, .data⟩ (by simp) rfl) rfl
                      have e103 : ev (.tmp 103) = .pointer (some ⟨mb, 0, none⟩) := hA.val 1 _ 103 rfl (hp ⟨1, .data⟩ (by simp) rfl) rfl
                      have e107 : ev (.tmp 107) = .pointer (some ⟨fb, 0, none⟩) := hA.val 5 _ 107 rfl (hp ⟨5, .data⟩ (by simp) rfl) rfl
                      have hcc := hA.const
                      have hcf := hA.func
                      clear hA hp
                      refine Reg.out_call (f := 17) (args := #[.agg #[.int .i64 (n : Int), .slice ga c gc, .slice oa n oc], .pointer (some ⟨mb, 0, none⟩), .pointer (some ⟨fb, 0, none⟩)]) (w0 := w) ?_ ?_
                      · go_simp
                      refine (hS1.out w (hI.pre hk)).mono ?_
                      rintro e w' ⟨rfl, O', P', h1, h2, h3, h4, h5, h6⟩
                      exact ⟨_, rfl, (fun k => O' k ∨ P' k, x.2), rfl, fun _ h => h, hI.call hk (by decide) (by decide) h1 h2 h3 h4 h5 h6⟩
                    · refine Reg.GStepAt.plain (i := 7) rfl ?_
                      intro x L ev w hI hk hp hA
                      have e108 : ev (.tmp 108) = .tuple #[.agg #[.bool r.2.2.1.ok, .float .f64 r.2.2.1.pri, .int .i64 r.2.2.1.val, .int .i64 r.2.2.1.n], .bool r.2.2.2] := hA.val 6 _ 108 rfl (hp ⟨6, .data⟩ (by simp) rfl) rfl
                      have hcc := hA.const
                      clear hA hp
                      refine Reg.out_value (v := .tuple #[.agg #[.bool r.2.2.1.ok, .float .f64 r.2.2.1.pri, .int .i64 r.2.2.1.val, .int .i64 r.2.2.1.n], .bool r.2.2.2]) ?_ ⟨x, rfl, Ar.Pres.refl _ _ _, hI.quiet 7 (by decide) (by decide) (by decide)⟩
                      go_simp
                    · refine Reg.GStepAt.plain (i := 8) rfl ?_
                      intro x L ev w hI hk hp hA
                      have e101 : ev (.tmp 101) = .tuple #[.agg #[.bool r.2.2.1.ok, .float .f64 r.2.2.1.pri, .int .i64 r.2.2.1.val, .int .i64 r.2.2.1.n], .bool r.2.2.2] := hA.val 7 _ 101 rfl (hp ⟨7, .data⟩ (by simp) rfl) rfl
                      have hcc := hA.const
                      clear hA hp
                      refine Reg.out_value (v := .agg #[.bool r.2.2.1.ok, .float .f64 r.2.2.1.pri, .int .i64 r.2.2.1.val, .int .i64 r.2.2.1.n]) ?_ ⟨x, rfl, Ar.Pres.refl _ _ _, hI.quiet 8 (by decide) (by decide) (by decide)⟩
                      go_simp
                    · refine Reg.GStepAt.plain (i := 9) rfl ?_
                      intro x L ev w hI hk hp hA
                      have e101 : ev (.tmp 101) = .tuple #[.agg #[.bool r.2.2.1.ok, .float .f64 r.2.2.1.pri, .int .i64 r.2.2.1.val, .int .i64 r.2.2.1.n], .bool r.2.2.2] := hA.val 7 _ 101 rfl (hp ⟨7, .data⟩ (by simp) rfl) rfl
                      have hcc := hA.const
                      clear hA hp
                      refine Reg.out_value (v := .bool r.2.2.2) ?_ ⟨x, rfl, Ar.Pres.refl _ _ _, hI.quiet 9 (by decide) (by decide) (by decide)⟩
                      go_simp
                    · refine Reg.GStepAt.plain (i := 10) rfl ?_
                      intro x L ev w hI hk hp hA
                      have hcc := hA.const
                      have hSf : L.getD 11 false = false := by
                        cases hq : L.getD 11 false with
                        | false => rfl
                        | true => have := hA.closed 11 _ rfl hq ⟨10, .data⟩ (by simp) rfl; rw [show (⟨10, .data⟩ : Edge).on = 10 from rfl, Ar.getD_false hk] at this; cases this
                      clear hA hp
                      refine Reg.out_new (v := .pointer (some ⟨w.heap.size, 0, none⟩)) (w' := w.alloc (.cells Ans.zero.l.toArray 30)) ?_ ⟨(x.1, some w.heap.size), ⟨_, rfl, rfl⟩, fun b hb => (by rw [hI.no (Ar.getD_false hk)] at hb; cases hb), hI.alloc hk hSf (by decide) (by decide) _⟩
                      (go_simp; try rfl)
                    · refine Reg.GStepAt.plain (i := 11) rfl ?_
                      intro x L ev w hI hk hp hA
                      have e16 : ∃ bx, x.2 = some bx ∧ ev (.tmp 16) = .pointer (some ⟨bx, 0, none⟩) := hA.val 10 _ 16 rfl (hp ⟨10, .data⟩ (by simp) rfl) rfl
                      have e109 : ev (.tmp 109) = .agg #[.bool r.2.2.1.ok, .float .f64 r.2.2.1.pri, .int .i64 r.2.2.1.val, .int .i64 r.2.2.1.n] := hA.val 8 _ 109 rfl (hp ⟨8, .data⟩ (by simp) rfl) rfl
                      have hcc := hA.const
                      clear hA hp
                      obtain ⟨bx, hx, e16⟩ := e16
                      have hbx := (hI.box bx hx).2.2.2.2
                      rw [Ar.getD_false hk] at hbx
                      obtain ⟨g0, x0⟩ := hbx.get 0 _ rfl
                      obtain ⟨g1, x1⟩ := hbx.get 1 _ rfl
                      obtain ⟨g2, x2⟩ := hbx.get 2 _ rfl
                      obtain ⟨g3, x3⟩ := hbx.get 3 _ rfl
                      refine Ar.out_skip (w' := setBox w bx r.2.2.1.s) ?_ ⟨x, trivial, Ar.Pres.refl _ _ _, hI.store hk (by decide) (by decide) hx⟩
                      clear hbx
                      simp only [setBox]
                      go_simp
                    · refine Reg.GStepAt.plain (i := 12) rfl ?_
                      intro x L ev w hI hk hp hA
                      have e110 : ev (.tmp 110) = .bool r.2.2.2 := hA.val 9 _ 110 rfl (hp ⟨9, .data⟩ (by simp) rfl) rfl
                      have hcc := hA.const
                      clear hA hp
                      refine Reg.out_value (v := .bool r.2.2.2) ?_ ⟨x, rfl, Ar.Pres.refl _ _ _, hI.quiet 12 (by decide) (by decide) (by decide)⟩
                      go_simp
                    intro x L act wz hall hI hF
                    have q102 : act.eval (.tmp 102) = .agg #[.int .i64 (n : Int), .slice ga c gc, .slice oa n oc] := hF.val 0 _ 102 rfl (hall 0 (by simp)) rfl
                    have q103 : act.eval (.tmp 103) = .pointer (some ⟨mb, 0, none⟩) := hF.val 1 _ 103 rfl (hall 1 (by simp)) rfl
                    have q104 : act.eval (.tmp 104) = .slice (some ⟨lb, 0, none⟩) i lcap := hF.val 2 _ 104 rfl (hall 2 (by simp)) rfl
                    have q105 : act.eval (.tmp 105) = .int .i64 (k : Int) := hF.val 3 _ 105 rfl (hall 3 (by simp)) rfl
                    have q106 : act.eval (.tmp 106) = .pointer (some ⟨lb, k, none⟩) := hF.val 4 _ 106 rfl (hall 4 (by simp)) rfl
                    have q107 : act.eval (.tmp 107) = .pointer (some ⟨fb, 0, none⟩) := hF.val 5 _ 107 rfl (hall 5 (by simp)) rfl
                    have q108 : act.eval (.tmp 108) = .tuple #[.agg #[.bool r.2.2.1.ok, .float .f64 r.2.2.1.pri, .int .i64 r.2.2.1.val, .int .i64 r.2.2.1.n], .bool r.2.2.2] := hF.val 6 _ 108 rfl (hall 6 (by simp)) rfl
                    have q101 : act.eval (.tmp 101) = .tuple #[.agg #[.bool r.2.2.1.ok, .float .f64 r.2.2.1.pri, .int .i64 r.2.2.1.val, .int .i64 r.2.2.1.n], .bool r.2.2.2] := hF.val 7 _ 101 rfl (hall 7 (by simp)) rfl
                    have q109 : act.eval (.tmp 109) = .agg #[.bool r.2.2.1.ok, .float .f64 r.2.2.1.pri, .int .i64 r.2.2.1.val, .int .i64 r.2.2.1.n] := hF.val 8 _ 109 rfl (hall 8 (by simp)) rfl
                    have q110 : act.eval (.tmp 110) = .bool r.2.2.2 := hF.val 9 _ 110 rfl (hall 9 (by simp)) rfl
                    have q16 : ∃ bx, x.2 = some bx ∧ act.eval (.tmp 16) = .pointer (some ⟨bx, 0, none⟩) := hF.val 10 _ 16 rfl (hall 10 (by simp)) rfl
                    obtain ⟨bx, hx, q16⟩ := q16
                    have q17 : act.eval (.tmp 17) = .bool r.2.2.2 := hF.val 12 _ 17 rfl (hall 12 (by simp)) rfl
                    have hact := hF.act [102, 103, 104, 105, 106, 107, 108, 101, 109, 110, 16, 17] (by kernel_rfl)
                    have hst := hI.st
                    rw [hall 6 (by simp), if_pos rfl] at hst
                    have hchg := hI.chg
                    have hgrw := hI.grow
                    obtain ⟨hx0, hx1, hx2, hx3, hbx⟩ := hI.box bx hx
                    rw [hall 11 (by simp), if_pos rfl] at hbx
                    clear hF hall hI
                    simp only [List.foldl_cons, List.foldl_nil] at hact
                    rw [q102, q103, q104, q105, q106, q107, q108, q101, q109, q110, q16, q17] at hact
                    clear q102 q103 q104 q105 q106 q107 q108 q101 q109 q110 q16 q17
                    simp only [List.setIfInBounds_toArray, List.set_cons_succ, List.set_cons_zero] at hact
                    subst hact
                    obtain ⟨O', P', hM', hF', hD', hGO, hGP, _⟩ := hst
                    have HN := HGO.out wz O' P' hM' hF' hD' hGO hGP hchg
                    obtain ⟨l0, y0⟩ := HK.out wz hchg
                    have hll := HKL.out wz hchg
                    obtain ⟨M2, F2, A, dn⟩ := r
                    clear hx0 hx1 hx2 hx3 hx hbx hM' hF' hD' hGO hGP HGO HK HKL FSg FL hS1
                    cases dn with
                    | false =>
                      have HN2 := hidq (show SG w lo n c gc oc ga oa (fun j => j < sb) G Os sb mb ib lb i _ left (j + 1) wz from HN)
                      clear HN
                      go_wp2_with fail
                      go_roundw
                      case rel => exact ⟨left, j + 1, rfl, by go_num, by omega, by omega, HN2⟩
                      case measure => simp [intOf]; omega
                    | true =>
                      have HN2 := hidq (show SG w lo n c gc oc ga oa (fun j => j < sb) G Os sb mb ib lb i _ (left - 1) (j + 1) (wz.setCell ⟨lb, k, none⟩ (.pointer none)) from HN)
                      clear HN
                      go_wp2_with fail
                      go_roundw
                      case rel => exact ⟨left - 1, j + 1, congrArg _ (by omega), by go_num, by omega, by omega, HN2⟩
                      case measure => simp [intOf]; omega
                · have hkk : k = i := by omega
                  have HN := hidq (show SG w lo n c gc oc ga oa (fun j => j < sb) G Os sb mb ib lb i _ left (j + 1) wr from by
                    obtain ⟨hS, hcl, hck, hs30, hs2, hti, hlv, hBl, hlb, hBx, hsB, hlow⟩ := HC.out
                    exact SG.pass hS hcl hck hs30 hs2 hti hlv hBl hlb hBx hsB hlow hlp (by
                      rw [HK0.out]
                      intro q a b
                      exact hX.out.2 q a (by omega)))
                  have hd1 : decide ((k : Int) < (i : Int)) = false := decide_eq_false (by omega)
                  have hd2 : decide (k < i) = false := decide_eq_false hlt
                  clear hlt HC hX
                  subst hkk
                  go_wp2_with fail
                  go_roundw
                  case rel => exact ⟨left, j + 1, rfl, by go_num, by omega, by omega, HN⟩
                  case measure => simp [intOf]; omega
end Go.Proofs.Ytdghgmaoamjnlaa
