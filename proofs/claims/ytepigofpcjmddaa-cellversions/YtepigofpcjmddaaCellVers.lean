/-
  Layer 5's law of versions: the call returns true.
-/
import Derived.Test.YtepigofpcjmddaaAt5All
import Derived.Test.YtepigofpcjmddaaFits5All
import Derived.Test.YtepigofpcjmddaaTail
import Derived.Test.YtepigofpcjmddaaBoxG
import Derived.Deep.CutBlock
import Derived.Maps.RangeWalk
namespace Go.Proofs.Ytepigofpcjmddaa
open Go.RowKit Go.Sort Go.Maps

def cv10R (b : Nat) (b7 : Nat) (ga : Nat) (off : Nat) (n : Nat) (cap : Nat) (oi : Nat) (m : Nat) (lo : Nat) (ln : Nat) (cp : Nat) (kq : Int) (ver : Int) (mo : Int) (mb : Int) (vq : Int) (x : Int) (i : Int) (s : Option Addr) (RL : List KI) : List (Value → World → Prop) :=
  [fun v _ => v = .pointer (some ⟨b, 0, none⟩),
   fun v _ => v = .int .i64 kq,
   fun v _ => v = .pointer (some ⟨b7, 0, none⟩),
   fun v _ => v = .int .u64 ver,
   fun v _ => v = .slice (some ⟨ga, off, none⟩) n cap,
   fun v _ => v = .int .i64 i,
   fun v _ => v = .pointer (some ⟨ga, oi, none⟩),
   fun v _ => v = .pointer (some ⟨ga, oi + 2, none⟩),
   fun v _ => v = .int .i64 mo,
   fun v _ => v = .int .i64 mb,
   fun v _ => v = .int .u64 mb,
   fun v _ => v = .int .u64 vq,
   fun v _ => v = .slice (some ⟨ga, off, none⟩) n cap,
   fun v _ => v = .int .i64 i,
   fun v _ => v = .pointer (some ⟨ga, oi, none⟩),
   fun v _ => v = .pointer (some ⟨ga, oi + 3, none⟩),
   fun v _ => v = .agg #[.int .i64 x, .slice s ln cp],
   fun v w => ∃ a' c', v = .agg #[.int .i64 x, .slice a' m c'] ∧ SlAt 2 w a' c' m (flatI (kts RL)) ∧ ∀ j, inB a' j → lo ≤ j]
theorem cv10R_kept (b : Nat) (b7 : Nat) (ga : Nat) (off : Nat) (n : Nat) (cap : Nat) (oi : Nat) (m : Nat) (lo : Nat) (ln : Nat) (cp : Nat) (kq : Int) (ver : Int) (mo : Int) (mb : Int) (vq : Int) (x : Int) (i : Int) (s : Option Addr) (RL : List KI) : Reg.AllKept Reg.Keeps (cv10R b b7 ga off n cap oi m lo ln cp kq ver mo mb vq x i s RL) :=
  ⟨(fun _ _ _ _ h => h), (fun _ _ _ _ h => h), (fun _ _ _ _ h => h), (fun _ _ _ _ h => h), (fun _ _ _ _ h => h), (fun _ _ _ _ h => h), (fun _ _ _ _ h => h), (fun _ _ _ _ h => h), (fun _ _ _ _ h => h), (fun _ _ _ _ h => h), (fun _ _ _ _ h => h), (fun _ _ _ _ h => h), (fun _ _ _ _ h => h), (fun _ _ _ _ h => h), (fun _ _ _ _ h => h), (fun _ _ _ _ h => h), (fun _ _ _ _ h => h), (fun v w w' hk h => by obtain ⟨a', c', h1, h2, h3⟩ := h; exact ⟨a', c', h1, h2.below hk, h3⟩), trivial⟩
def cv16R (b : Nat) (b9 : Nat) (g : Nat) (nv : Int) : List (Value → World → Prop) :=
  [fun v _ => v = .map (some g),
   fun v _ => v = .pointer (some ⟨b9, 0, none⟩),
   fun v _ => v = .int .u64 nv,
   fun v _ => v = .int .i64 1,
   fun v _ => v = .bool false,
   fun v _ => v = .bool false,
   fun v _ => v = .pointer (some ⟨b9, 0, none⟩),
   fun v _ => v = .int .u64 nv,
   fun v _ => v = .pointer (some ⟨b, 0, none⟩),
   fun v _ => v = .int .u64 nv,
   fun v _ => v = .bool false,
   fun v _ => v = .bool false]
theorem cv16R_kept (b : Nat) (b9 : Nat) (g : Nat) (nv : Int) : Reg.AllKept Reg.Keeps (cv16R b b9 g nv) :=
  ⟨(fun _ _ _ _ h => h), (fun _ _ _ _ h => h), (fun _ _ _ _ h => h), (fun _ _ _ _ h => h), (fun _ _ _ _ h => h), (fun _ _ _ _ h => h), (fun _ _ _ _ h => h), (fun _ _ _ _ h => h), (fun _ _ _ _ h => h), (fun _ _ _ _ h => h), (fun _ _ _ _ h => h), (fun _ _ _ _ h => h), trivial⟩

/-- Between two rounds. -/
def CVr (w : World) (i b g : Nat) (O : Nat → Prop) (M : Mem) (wr : World) : Prop :=
  (MemAt wr b O M ∧ (∀ k, O k → w.heap.size ≤ k) ∧ ¬ O g) ∧ w.heap.size ≤ g ∧ wr.ownsMap Try.prog 31 (plainElem Try.prog 3) g M.clock (Dm M.clock) ∧ M.clock ≤ i ∧ VOk M ∧ Below w.heap.size w wr
theorem u64_wrap (n : Int) : IntKind.u64.wrap n = n % 18446744073709551616 := by simp [IntKind.wrap, IntKind.signed, IntKind.bits]
theorem owns_but {w w' : World} {S : Nat → Prop} {R : Value → Option (DataW Unit × List MemPlace)} {t : TypeId} {b n : Nat} {D : DataW Unit} (h : w.ownsMap Try.prog t R b n D) (hb : But S w w') (hS : ¬ S b) : w'.ownsMap Try.prog t R b n D := by
  have hl := h.lt
  obtain ⟨es, clock, hb0, F, hs, hD⟩ := h
  exact ⟨es, clock, (hb.block b hl hS).trans hb0, F, hs, hD⟩
theorem but_grown {w w' : World} {g : Nat} (h : w.grownBy w' (some g)) : But (fun k => k = g) w w' := ⟨h.os, h.tape, h.output, h.size, fun k hk hn => h.block k hk (fun e => hn (by injection e))⟩
theorem look_few {w : World} {b : Nat} {O : Nat → Prop} {M : Mem} (h : MemAt w b O M) (i : Int) : (M.look i).L.length ≤ 1000000 := by
  unfold Mem.look
  split
  · exact Nat.zero_le _
  · exact h.few _
theorem sameV_self (x : Int) (L : List KI) : sameV x x L L = true := by unfold sameV; rw [sameK_self]; simp

set_option maxRecDepth 20000 in
set_option maxHeartbeats 8000000 in
theorem cellVersions_any (a : Option Addr) (n cap : Nat) (w : World) (h : Acts w a n) :
    Calls Try.prog 5 #[.slice a n cap] w fun e w' => e = .returned (.bool true) ∧ Below w.heap.size w w' := by
  have hmm := @run_makeMap Try.prog
  have HA := hidq h
  clear h
  go_enter Try.func5, Try.ntmps5
  go_wp2_with fail
  refine (awake5_any w).mono ?_
  rintro e w1 ⟨rfl, hb1⟩
  have HB1 := hidq hb1
  clear hb1
  go_wp2_with fail
  refine (new5_any w1).mono ?_
  rintro e w2 ⟨rfl, hM2, hb2⟩
  obtain ⟨b, hb⟩ : ∃ b, w1.heap.size = b := ⟨_, rfl⟩
  obtain ⟨g, hg⟩ : ∃ g, w2.heap.size = g := ⟨_, rfl⟩
  obtain ⟨W3, hW3⟩ : ∃ W3, w2.alloc (.map #[] 0) = W3 := ⟨_, rfl⟩
  have HT := hidq (show CVr w 0 b g (fun k => k = b) Mem.empty W3 from by
    have z1 := HB1.out.size
    have z2 := hb2.size
    have hlt := hM2.lt w1.heap.size rfl
    have hba : Below w2.heap.size w2 (w2.alloc (.map #[] 0)) := (Below.refl _ _).alloc (Nat.le_refl _) _
    rw [← hW3, ← hb]
    refine ⟨⟨hM2.below hba, fun k hk => by omega, by omega⟩, by omega, ?_, Nat.le_refl _, VOk.empty, (HB1.out.trans (hb2.mono z1)).trans (hba.mono (by omega))⟩
    rw [← hg]
    exact World.ownsMap_made _ _ _ _)
  rw [hb]
  clear hM2 hb2 hb
  go_wp2_with fail
  try rw [hW3]
  try rw [hg]
  clear hW3 hg HB1
  go_loopw [5] (fun s5 wr => ∃ (i : Nat) (O : Nat → Prop) (M : Mem), s5 = .int .i64 (i : Int) ∧ i ≤ n ∧ i ≤ 40 ∧ Hid (CVr w i b g O M wr)) (fun s5 _ => 40 - (intOf s5).toNat)
  case atStart => exact ⟨0, _, _, rfl, Nat.zero_le _, Nat.zero_le _, HT⟩
  case round =>
    clear HT
    obtain ⟨i, O, M, rfl, hi1, hi2, HT⟩ := hrel
    by_cases hlt : i < n ∧ i < 40
    · obtain ⟨hlt1, hlt2⟩ := hlt
      have hltI1 : (i : Int) < (n : Int) := by omega
      have hltI2 : (i : Int) < 40 := by omega
      obtain ⟨ga, off, rfl, hgl, kd, ka, mo, x, s, ln, cp, K, V, ⟨c0, c1, c2⟩, ⟨c3, c4⟩, hka, hRw⟩ := HA.out i hlt1
      obtain ⟨oi, hoi⟩ : ∃ oi, off + i * 5 = oi := ⟨_, rfl⟩
      rw [hoi] at c0 c1 c2 c3 c4
      have HIX := hoi
      have HC := hidq (And.intro hgl (And.intro c1 (And.intro c2 (And.intro c3 (And.intro c4 hRw)))))
      have m1 : wr.cell? ⟨ga, oi + 1, none⟩ = some (.int .i64 ka) := (HT.out.2.2.2.2.2.cell (p := ⟨ga, oi + 1, none⟩) hgl).trans c1
      obtain ⟨kq, hkq⟩ : ∃ kq, at5 ka = kq := ⟨_, rfl⟩
      have HAT := hidq (at5_any ka wr)
      rw [hkq] at HAT
      clear c0 c1 c2 c3 c4 hRw hgl hka hkq
      go_wp2_with fail
      refine HAT.out.mono ?_
      rintro e w3 ⟨rfl, rfl⟩
      obtain ⟨wr, hwr⟩ : ∃ wr, wr = w3 := ⟨_, rfl⟩
      subst hwr
      clear HAT m1
      obtain ⟨KL, hKL⟩ := HT.out.2.2.2.2.1.2 kq
      have hRd := hidq (read5_any b O M kq wr HT.out.1.1)
      rw [hKL] at hRd
      obtain ⟨kl, hkl⟩ : ∃ kl, (kts KL).length = kl := ⟨_, rfl⟩
      rw [hkl] at hRd
      have HKL := hidq (And.intro hKL hkl)
      obtain ⟨ver, hver⟩ : ∃ ver, (M.look kq).ver = ver := ⟨_, rfl⟩
      obtain ⟨nn, hnn⟩ : ∃ nn, (M.look kq).n = nn := ⟨_, rfl⟩
      rw [hver, hnn] at hRd
      have HV := hidq (And.intro hver hnn)
      clear hKL hkl hver hnn
      go_wp2_with fail
      refine hRd.out.mono ?_
      rintro e w3 ⟨a7, c7, rfl, hS7, hf7, hb7⟩
      obtain ⟨b7, hb7e⟩ : ∃ b7, w3.heap.size = b7 := ⟨_, rfl⟩
      obtain ⟨w4, hw4⟩ : ∃ w4, w3.alloc (.cells #[.int .u64 ver, .int .i64 nn, .slice a7 kl c7] 64) = w4 := ⟨_, rfl⟩
      have H34 := hidq (show Below wr.heap.size wr w4 ∧ SlAt 2 w4 a7 c7 kl (flatI (kts KL)) ∧ BoxAt w4 b7 [.int .u64 ver, .int .i64 nn, .slice a7 kl c7] ∧ wr.heap.size ≤ b7 from by
        have hba : Below w3.heap.size w3 w4 := by rw [← hw4]; exact (Below.refl _ _).alloc (Nat.le_refl _) _
        refine ⟨hb7.trans (hba.mono hb7.size), hS7.below hba, by rw [← hb7e, ← hw4]; exact BoxAt.new w3 _ _, by rw [← hb7e]; exact hb7.size⟩)
      have Hf7 := hidq hf7
      clear hS7 hf7 hb7 hRd
      go_wp2_with fail
      try rw [hw4]
      try rw [hb7e]
      clear hw4 hb7e
      obtain ⟨mb, hmb⟩ : ∃ mb, bits .and .i64 mo 1 = mb := ⟨_, rfl⟩
      obtain ⟨m, hm⟩ : ∃ m, min ln 6 = m := ⟨_, rfl⟩
      have hm6 : m ≤ 6 := by omega
      obtain ⟨RL, hRL⟩ : ∃ RL, rawL K V m = RL := ⟨_, rfl⟩
      have HRL := hidq (show RL.length = m from by rw [← hRL]; simp [rawL])
      have HOW := hidq (fun W (hW : Reg.Keeps w4 W) => (show Calls Try.prog 28 #[.agg #[.int .i64 x, .slice s ln cp]] W fun e w' => ∃ a' c', e = .returned (.agg #[.int .i64 x, .slice a' m c']) ∧ SlAt 2 w' a' c' m (flatI (kts RL)) ∧ (∀ j, inB a' j → W.heap.size ≤ j) ∧ Below W.heap.size W w' from by
        have z1 := HT.out.2.2.2.2.2
        have z2 := H34.out.1
        have hb5 : Below w.heap.size w W := (z1.trans (z2.mono z1.size)).trans ((show Below w4.heap.size w4 W from hW).mono (by have := z1.size; have := z2.size; omega))
        refine (own5_any x s ln cp K V W (HC.out.2.2.2.2.2.below hb5)).mono ?_
        rintro e w' ⟨m', a', c', hm', rfl, hS', hf', hb'⟩
        rw [hm] at hm'
        subst hm'
        rw [hRL] at hS'
        exact ⟨a', c', rfl, hS', hf', hb'⟩))
      have FC1 := hidq (fun W (hW : Reg.Keeps w4 W) => (show W.cell? ⟨b7, 0, none⟩ = some (.int .u64 ver) ∧ W.cell? ⟨ga, oi + 2, none⟩ = some (.int .i64 mo) ∧ W.cell? ⟨ga, oi + 3, none⟩ = some (.int .i64 x) ∧ W.cell? ⟨ga, oi + 3 + 1, none⟩ = some (.slice s ln cp) from by
        have z1 := HT.out.2.2.2.2.2
        have z2 := H34.out.1
        have hb5 : Below w.heap.size w W := (z1.trans (z2.mono z1.size)).trans ((show Below w4.heap.size w4 W from hW).mono (by have := z1.size; have := z2.size; omega))
        obtain ⟨h1, _, h3, h4, h5, _⟩ := HC.out
        exact ⟨(H34.out.2.2.1.below (show Below w4.heap.size w4 W from hW)).get 0 _ rfl |>.1, (hb5.cell (p := ⟨ga, oi + 2, none⟩) h1).trans h3, (hb5.cell (p := ⟨ga, oi + 3, none⟩) h1).trans h4, (hb5.cell (p := ⟨ga, oi + 3 + 1, none⟩) h1).trans h5⟩))
      clear hm hRL
      have HMB := hmb
      have hmb1 : 0 ≤ mb ∧ mb ≤ 1 := by rw [← hmb, i64_and1]; omega
      have HCV : IntKind.u64.wrap mb = mb := by rw [u64_wrap]; omega
      obtain ⟨vq, HVQ⟩ : ∃ vq : Int, IntKind.u64.wrap (ver - mb) = vq := ⟨_, rfl⟩
      go_upto_region 10 with fail
      have hrefl : ∀ w : World, Reg.Keeps w w := Reg.Keeps.refl
      refine Reg.wp_region_props_tail 18 (Reg.ofList (cv10R b b7 ga off n cap oi m w4.heap.size ln cp kq ver mo mb vq x i s RL)) Reg.Keeps (fun _ w => Reg.Keeps w4 w) (by kernel_rfl) (by kernel_rfl) (by kernel_rfl) (Reg.AllKept.at _ (cv10R_kept b b7 ga off n cap oi m w4.heap.size ln cp kq ver mo mb vq x i s RL)) hrefl (Reg.Keeps.drewN (Reg.Keeps.refl _) 1) ⟨?_, ?_, ?_, ?_, ?_, ?_, ?_, ?_, ?_, ?_, ?_, ?_, ?_, ?_, ?_, ?_, ?_, ?_, trivial⟩ ?_
      · refine Reg.StepAt.plain (i := 0) rfl ?_
        intro L ev w hI hk hp hA
        have e3 : ev (.tmp 3) = .pointer (some ⟨b, 0, none⟩) := hA.oldNone 3 (by kernel_rfl)
        have hcc := hA.const
        clear hA hp
        refine Reg.out_value (v := .pointer (some ⟨b, 0, none⟩)) ?_ ⟨rfl, hrefl _, hI⟩
        go_simp
      · refine Reg.StepAt.plain (i := 1) rfl ?_
        intro L ev w hI hk hp hA
        have e6 : ev (.tmp 6) = .int .i64 kq := hA.oldNone 6 (by kernel_rfl)
        have hcc := hA.const
        clear hA hp
        refine Reg.out_value (v := .int .i64 kq) ?_ ⟨rfl, hrefl _, hI⟩
        go_simp
      · refine Reg.StepAt.plain (i := 2) rfl ?_
        intro L ev w hI hk hp hA
        have e7 : ev (.tmp 7) = .pointer (some ⟨b7, 0, none⟩) := hA.oldNone 7 (by kernel_rfl)
        have hcc := hA.const
        clear hA hp
        refine Reg.out_value (v := .pointer (some ⟨b7, 0, none⟩)) ?_ ⟨rfl, hrefl _, hI⟩
        go_simp
      · refine Reg.StepAt.plain (i := 3) rfl ?_
        intro L ev w hI hk hp hA
        have e35 : ev (.tmp 35) = .pointer (some ⟨b7, 0, none⟩) := hA.val 2 _ 35 rfl (hp ⟨2, .data⟩ (by simp) rfl) rfl
        have hcc := hA.const
        clear hA hp
        obtain ⟨f0, f1, f2, f3⟩ := FC1.out w hI
        refine Reg.out_value (v := .int .u64 ver) ?_ ⟨rfl, hrefl _, hI⟩
        go_simp
      · refine Reg.StepAt.plain (i := 4) rfl ?_
        intro L ev w hI hk hp hA
        have e0 : ev (.tmp 0) = .slice (some ⟨ga, off, none⟩) n cap := hA.oldNone 0 (by kernel_rfl)
        have hcc := hA.const
        clear hA hp
        refine Reg.out_value (v := .slice (some ⟨ga, off, none⟩) n cap) ?_ ⟨rfl, hrefl _, hI⟩
        go_simp
      · refine Reg.StepAt.plain (i := 5) rfl ?_
        intro L ev w hI hk hp hA
        have e5 : ev (.tmp 5) = .int .i64 i := hA.oldNone 5 (by kernel_rfl)
        have hcc := hA.const
        clear hA hp
        refine Reg.out_value (v := .int .i64 i) ?_ ⟨rfl, hrefl _, hI⟩
        go_simp
      · refine Reg.StepAt.plain (i := 6) rfl ?_
        intro L ev w hI hk hp hA
        have e37 : ev (.tmp 37) = .slice (some ⟨ga, off, none⟩) n cap := hA.val 4 _ 37 rfl (hp ⟨4, .data⟩ (by simp) rfl) rfl
        have e38 : ev (.tmp 38) = .int .i64 i := hA.val 5 _ 38 rfl (hp ⟨5, .data⟩ (by simp) rfl) rfl
        have hcc := hA.const
        clear hA hp
        refine Reg.out_value (v := .pointer (some ⟨ga, oi, none⟩)) ?_ ⟨rfl, hrefl _, hI⟩
        (have hq := HIX; go_simp; try omega)
      · refine Reg.StepAt.plain (i := 7) rfl ?_
        intro L ev w hI hk hp hA
        have e39 : ev (.tmp 39) = .pointer (some ⟨ga, oi, none⟩) := hA.val 6 _ 39 rfl (hp ⟨6, .data⟩ (by simp) rfl) rfl
        have hcc := hA.const
        clear hA hp
        refine Reg.out_value (v := .pointer (some ⟨ga, oi + 2, none⟩)) ?_ ⟨rfl, hrefl _, hI⟩
        go_simp
      · refine Reg.StepAt.plain (i := 8) rfl ?_
        intro L ev w hI hk hp hA
        have e40 : ev (.tmp 40) = .pointer (some ⟨ga, oi + 2, none⟩) := hA.val 7 _ 40 rfl (hp ⟨7, .data⟩ (by simp) rfl) rfl
        have hcc := hA.const
        clear hA hp
        obtain ⟨f0, f1, f2, f3⟩ := FC1.out w hI
        refine Reg.out_value (v := .int .i64 mo) ?_ ⟨rfl, hrefl _, hI⟩
        go_simp
      · refine Reg.StepAt.plain (i := 9) rfl ?_
        intro L ev w hI hk hp hA
        have e41 : ev (.tmp 41) = .int .i64 mo := hA.val 8 _ 41 rfl (hp ⟨8, .data⟩ (by simp) rfl) rfl
        have hcc := hA.const
        clear hA hp
        refine Reg.out_value (v := .int .i64 mb) ?_ ⟨rfl, hrefl _, hI⟩
        (have hq := HMB; go_simp)
      · refine Reg.StepAt.plain (i := 10) rfl ?_
        intro L ev w hI hk hp hA
        have e42 : ev (.tmp 42) = .int .i64 mb := hA.val 9 _ 42 rfl (hp ⟨9, .data⟩ (by simp) rfl) rfl
        have hcc := hA.const
        clear hA hp
        refine Reg.out_value (v := .int .u64 mb) ?_ ⟨rfl, hrefl _, hI⟩
        (have hq := HCV; go_simp)
      · refine Reg.StepAt.plain (i := 11) rfl ?_
        intro L ev w hI hk hp hA
        have e36 : ev (.tmp 36) = .int .u64 ver := hA.val 3 _ 36 rfl (hp ⟨3, .data⟩ (by simp) rfl) rfl
        have e43 : ev (.tmp 43) = .int .u64 mb := hA.val 10 _ 43 rfl (hp ⟨10, .data⟩ (by simp) rfl) rfl
        have hcc := hA.const
        clear hA hp
        refine Reg.out_value (v := .int .u64 vq) ?_ ⟨rfl, hrefl _, hI⟩
        (have hq := HVQ; go_simp)
      · refine Reg.StepAt.plain (i := 12) rfl ?_
        intro L ev w hI hk hp hA
        have e0 : ev (.tmp 0) = .slice (some ⟨ga, off, none⟩) n cap := hA.oldNone 0 (by kernel_rfl)
        have hcc := hA.const
        clear hA hp
        refine Reg.out_value (v := .slice (some ⟨ga, off, none⟩) n cap) ?_ ⟨rfl, hrefl _, hI⟩
        go_simp
      · refine Reg.StepAt.plain (i := 13) rfl ?_
        intro L ev w hI hk hp hA
        have e5 : ev (.tmp 5) = .int .i64 i := hA.oldNone 5 (by kernel_rfl)
        have hcc := hA.const
        clear hA hp
        refine Reg.out_value (v := .int .i64 i) ?_ ⟨rfl, hrefl _, hI⟩
        go_simp
      · refine Reg.StepAt.plain (i := 14) rfl ?_
        intro L ev w hI hk hp hA
        have e45 : ev (.tmp 45) = .slice (some ⟨ga, off, none⟩) n cap := hA.val 12 _ 45 rfl (hp ⟨12, .data⟩ (by simp) rfl) rfl
        have e46 : ev (.tmp 46) = .int .i64 i := hA.val 13 _ 46 rfl (hp ⟨13, .data⟩ (by simp) rfl) rfl
        have hcc := hA.const
        clear hA hp
        refine Reg.out_value (v := .pointer (some ⟨ga, oi, none⟩)) ?_ ⟨rfl, hrefl _, hI⟩
        (have hq := HIX; go_simp; try omega)
      · refine Reg.StepAt.plain (i := 15) rfl ?_
        intro L ev w hI hk hp hA
        have e47 : ev (.tmp 47) = .pointer (some ⟨ga, oi, none⟩) := hA.val 14 _ 47 rfl (hp ⟨14, .data⟩ (by simp) rfl) rfl
        have hcc := hA.const
        clear hA hp
        refine Reg.out_value (v := .pointer (some ⟨ga, oi + 3, none⟩)) ?_ ⟨rfl, hrefl _, hI⟩
        go_simp
      · refine Reg.StepAt.plain (i := 16) rfl ?_
        intro L ev w hI hk hp hA
        have e48 : ev (.tmp 48) = .pointer (some ⟨ga, oi + 3, none⟩) := hA.val 15 _ 48 rfl (hp ⟨15, .data⟩ (by simp) rfl) rfl
        have hcc := hA.const
        clear hA hp
        obtain ⟨f0, f1, f2, f3⟩ := FC1.out w hI
        refine Reg.out_value (v := .agg #[.int .i64 x, .slice s ln cp]) ?_ ⟨rfl, hrefl _, hI⟩
        go_simp
      · refine Reg.StepAt.plain (i := 17) rfl ?_
        intro L ev w hI hk hp hA
        have e49 : ev (.tmp 49) = .agg #[.int .i64 x, .slice s ln cp] := hA.val 16 _ 49 rfl (hp ⟨16, .data⟩ (by simp) rfl) rfl
        have hcc := hA.const
        have hcf := hA.func
        clear hA hp
        refine Reg.out_call (f := 28) (args := #[.agg #[.int .i64 x, .slice s ln cp]]) (w0 := w) ?_ ?_
        · go_simp
        refine (HOW.out w hI).mono ?_
        rintro e w' ⟨a', c', rfl, hS', hf', hb'⟩
        exact ⟨_, rfl, ⟨a', c', rfl, hS', fun j hj => by have h1 := hf' j hj; have h2 : w4.heap.size ≤ w.heap.size := hI.size; omega⟩, hb', Reg.Keeps.trans hI hb'⟩
      intro act wz hI hF
      have g33 : act.eval (.tmp 33) = .pointer (some ⟨b, 0, none⟩) := hF.val 0 _ 33 rfl (by kernel_rfl) rfl
      have g34 : act.eval (.tmp 34) = .int .i64 kq := hF.val 1 _ 34 rfl (by kernel_rfl) rfl
      have g35 : act.eval (.tmp 35) = .pointer (some ⟨b7, 0, none⟩) := hF.val 2 _ 35 rfl (by kernel_rfl) rfl
      have g36 : act.eval (.tmp 36) = .int .u64 ver := hF.val 3 _ 36 rfl (by kernel_rfl) rfl
      have g37 : act.eval (.tmp 37) = .slice (some ⟨ga, off, none⟩) n cap := hF.val 4 _ 37 rfl (by kernel_rfl) rfl
      have g38 : act.eval (.tmp 38) = .int .i64 i := hF.val 5 _ 38 rfl (by kernel_rfl) rfl
      have g39 : act.eval (.tmp 39) = .pointer (some ⟨ga, oi, none⟩) := hF.val 6 _ 39 rfl (by kernel_rfl) rfl
      have g40 : act.eval (.tmp 40) = .pointer (some ⟨ga, oi + 2, none⟩) := hF.val 7 _ 40 rfl (by kernel_rfl) rfl
      have g41 : act.eval (.tmp 41) = .int .i64 mo := hF.val 8 _ 41 rfl (by kernel_rfl) rfl
      have g42 : act.eval (.tmp 42) = .int .i64 mb := hF.val 9 _ 42 rfl (by kernel_rfl) rfl
      have g43 : act.eval (.tmp 43) = .int .u64 mb := hF.val 10 _ 43 rfl (by kernel_rfl) rfl
      have g44 : act.eval (.tmp 44) = .int .u64 vq := hF.val 11 _ 44 rfl (by kernel_rfl) rfl
      have g45 : act.eval (.tmp 45) = .slice (some ⟨ga, off, none⟩) n cap := hF.val 12 _ 45 rfl (by kernel_rfl) rfl
      have g46 : act.eval (.tmp 46) = .int .i64 i := hF.val 13 _ 46 rfl (by kernel_rfl) rfl
      have g47 : act.eval (.tmp 47) = .pointer (some ⟨ga, oi, none⟩) := hF.val 14 _ 47 rfl (by kernel_rfl) rfl
      have g48 : act.eval (.tmp 48) = .pointer (some ⟨ga, oi + 3, none⟩) := hF.val 15 _ 48 rfl (by kernel_rfl) rfl
      have g49 : act.eval (.tmp 49) = .agg #[.int .i64 x, .slice s ln cp] := hF.val 16 _ 49 rfl (by kernel_rfl) rfl
      have g50 : (fun v w => ∃ a' c', v = .agg #[.int .i64 x, .slice a' m c'] ∧ SlAt 2 w a' c' m (flatI (kts RL)) ∧ ∀ j, inB a' j → w4.heap.size ≤ j) (act.eval (.tmp 50)) wz := hF.val 17 _ 50 rfl (by kernel_rfl) rfl
      have hact := hF.actHead [33, 34, 35, 36, 37, 38, 39, 40, 41, 42, 43, 44, 45, 46, 47, 48, 49, 50] (by kernel_rfl)
      clear hF
      simp only [List.foldl_cons, List.foldl_nil] at hact
      rw [g33, g34, g35, g36, g37, g38, g39, g40, g41, g42, g43, g44, g45, g46, g47, g48, g49] at hact
      clear g33 g34 g35 g36 g37 g38 g39 g40 g41 g42 g43 g44 g45 g46 g47 g48 g49
      generalize act.eval (.tmp 50) = u50 at hact g50
      simp only [List.setIfInBounds_toArray, List.set_cons_succ, List.set_cons_zero] at hact
      subst hact
      simp only [List.drop_succ_cons, List.drop_zero]
      obtain ⟨a5, c5, rfl, hS5, hf5⟩ := g50
      have hlm : (kts RL).length = m := by rw [kts_length, HRL.out]
      have hI4 : Below w4.heap.size w4 wz := hI
      have H4z := hidq (show Below w.heap.size w wz ∧ Below wr.heap.size wr wz from by
        have z1 := HT.out.2.2.2.2.2
        have z2 := H34.out.1
        exact ⟨(z1.trans (z2.mono z1.size)).trans (hI4.mono (by have := z1.size; have := z2.size; omega)), z2.trans (hI4.mono z2.size)⟩)
      have H7z := hidq (show SlAt 2 wz a7 c7 kl (flatI (kts KL)) ∧ BoxAt wz b7 [.int .u64 ver, .int .i64 nn, .slice a7 kl c7] from ⟨H34.out.2.1.below hI4, H34.out.2.2.1.below hI4⟩)
      have hWr := hidq (write_any b O M kq vq x a5 c5 (kts RL) wz (HT.out.1.1.below H4z.out.2) (by rw [hlm]; exact hS5) (fun j hj hO => by have h1 := hf5 j hj; have h2 := HT.out.1.1.lt j hO; have h3 := H34.out.1.size; omega) (by rw [hlm, ← HRL.out]; have := HRL.out; omega) (by have := HT.out.2.2.2.1; omega))
      rw [hlm] at hWr
      obtain ⟨M', hM'⟩ : ∃ M', M.write kq vq x (kts RL) = M' := ⟨_, rfl⟩
      obtain ⟨can, ver1, nn1, L1, hcan, hlk, HD⟩ : ∃ (can : Bool) (ver1 nn1 : Int) (L1 : List KI), M.can kq vq = can ∧ M'.look kq = ⟨ver1, nn1, kts L1⟩ ∧ ((can = true ∧ ver1 = ((M.clock + 1 : Nat) : Int) ∧ M'.clock = M.clock + 1 ∧ VOk M' ∧ L1 = RL) ∨ (can = false ∧ M' = M ∧ ver1 = ver ∧ nn1 = nn ∧ L1 = KL)) := by
        rcases can_as (M := M) kq vq x (kts RL) with ⟨h1, h2, h3, h4, h5⟩ | ⟨h1, h2⟩
        · rw [hM'] at h2 h4 h5
          exact ⟨true, _, x, RL, h1, h4, .inl ⟨rfl, rfl, h5, by rw [h2]; exact HT.out.2.2.2.2.1.put _ _ _, rfl⟩⟩
        · rw [hM'] at h2
          refine ⟨false, ver, nn, KL, h1, ?_, .inr ⟨rfl, h2, rfl, rfl, rfl⟩⟩
          rw [h2, ← HV.out.1, ← HV.out.2, ← HKL.out.1]
      rw [hM', hcan] at hWr
      have HD' := hidq HD
      have HLK := hidq hlk
      clear hM' hcan hS5 hI4 hlm hlk HD hI hmb hmb1 HCV HVQ HMB HOW FC1
      go_wp2_with fail
      refine hWr.out.mono ?_
      rintro e w6 ⟨rfl, hM6, hb6⟩
      have hRd := hidq (read5_any b _ M' kq w6 hM6)
      rw [HLK.out] at hRd
      obtain ⟨kl1, hkl1⟩ : ∃ kl1, (kts L1).length = kl1 := ⟨_, rfl⟩
      dsimp only at hRd
      rw [hkl1] at hRd
      have HM6 := hidq (And.intro hM6 (And.intro hb6 hkl1))
      have Hkl1 := hidq hkl1
      clear hM6 hb6 hkl1 hWr
      go_wp2_with fail
      refine hRd.out.mono ?_
      rintro e w7 ⟨a9, c9, rfl, hS9, hf9, hb9⟩
      obtain ⟨b9, hb9e⟩ : ∃ b9, w7.heap.size = b9 := ⟨_, rfl⟩
      obtain ⟨w8, hw8⟩ : ∃ w8, w7.alloc (.cells #[.int .u64 ver1, .int .i64 nn1, .slice a9 kl1 c9] 64) = w8 := ⟨_, rfl⟩
      have H8 := hidq (show ((∃ O', MemAt w8 b O' M' ∧ (∀ k, O' k → w.heap.size ≤ k) ∧ ¬ O' g) ∧ Below w.heap.size w w8) ∧ SlAt 2 w8 a7 c7 kl (flatI (kts KL)) ∧ BoxAt w8 b7 [.int .u64 ver, .int .i64 nn, .slice a7 kl c7] ∧ SlAt 2 w8 a9 c9 kl1 (flatI (kts L1)) ∧ BoxAt w8 b9 [.int .u64 ver1, .int .i64 nn1, .slice a9 kl1 c9] ∧ b9 ≠ g ∧ w8.ownsMap Try.prog 31 (plainElem Try.prog 3) g M.clock (Dm M.clock) from by
        have hba : Below w7.heap.size w7 w8 := by rw [← hw8]; exact (Below.refl _ _).alloc (Nat.le_refl _) _
        obtain ⟨q1, q2, q3⟩ := HM6.out
        obtain ⟨⟨t1, t2, t3⟩, t4, t5, t6, t7, t8⟩ := HT.out
        have hb68 : Below w6.heap.size w6 w8 := hb9.trans (hba.mono hb9.size)
        have hbz8 : But O wz w8 := q2.trans (But.of_below hb68)
        have zz := H4z.out.1.size
        have z1 := H4z.out.2.size
        have z2 := q2.size
        have z3 := hb9.size
        have z4 := hba.size
        have z5 := t5.lt
        have z6 := t8.size
        have hO7a : ∀ j, inB a7 j → ¬ O j := fun j hj hO => by have h1 := Hf7.out j hj; have h2 := t1.lt j hO; omega
        refine ⟨⟨⟨own' O wz w6, q1.below hb68, fun k hk => ?_, ?_⟩, H4z.out.1.trans (hbz8.below zz t2)⟩, (H7z.out.1.but q2 hO7a).below hb68, (H7z.out.2.but hbz8 (fun hO => by have h2 := t1.lt b7 hO; have := H34.out.2.2.2; omega)), hS9.below hba, by rw [← hb9e, ← hw8]; exact BoxAt.new w7 _ _, by omega, owns_but (owns_but t5 (But.of_below (S := fun _ => False) H4z.out.2) id) hbz8 t3⟩
        · rcases hk with e | e
          · exact t2 k e
          · omega
        · rintro (e | e)
          · exact t3 e
          · omega)
      clear hS9 hf9 hb9 hRd Hf7 HM6 H7z H34 H4z
      go_upto_region 12 with fail
      try rw [hw8]
      try rw [hb9e]
      clear hw8 hb9e
      obtain ⟨⟨⟨O', hM8, hO8, hOg⟩, hB8⟩, hS7, hX7, hS9, hX9, hbg, hown⟩ := H8.out
      have HM8 := hidq (And.intro hM8 (And.intro hO8 (And.intro hOg hB8)))
      have HS8 := hidq (And.intro hS7 (And.intro hS9 (And.intro hX9 hbg)))
      have m70 := (hX7.get 0 _ rfl).1
      have m71 := (hX7.get 1 _ rfl).1
      have m72 := (hX7.get 2 _ rfl).1
      have m90 := (hX9.get 0 _ rfl).1
      have m91 := (hX9.get 1 _ rfl).1
      have m92 := (hX9.get 2 _ rfl).1
      have hcl : M.clock ≤ 40 := by have := HT.out.2.2.2.1; omega
      have hvl := (HT.out.2.2.2.2.1.1 kq).2
      rw [HV.out.1] at hvl
      clear hM8 hO8 hOg hB8 hS7 hX7 hS9 hX9 H8 hbg
      rcases HD'.out with ⟨hc, hv1, hck, hvok, hl1⟩ | ⟨hc, hMM, hv1, hn1, hL1⟩
      · subst hc
        obtain ⟨nv, hnv⟩ : ∃ nv : Nat, nv = M.clock + 1 := ⟨_, rfl⟩
        rw [← hnv] at hv1 hck
        subst hv1
        have hne : ((nv : Int) != ver) = true := by simp; omega
        have hne0 : ¬ (nv : Int) = ver := by omega
        have hle : decide ((nv : Int) ≤ ver) = false := by simp; omega
        have hle0 : ¬ (nv : Int) ≤ ver := by omega
        have HCK := hidq hck
        have HVO := hidq hvok
        have hkey : keyOf Try.prog 31 (.int .u64 (nv : Int)) = some (.int .u64 (nv : Int)) := keyOf_int_mk Try.underlying31 (wfU (by omega))
        have HKEY := hidq hkey
        have HNV := hidq hnv
        clear hck hvok m71 m72 m91 m92 hl1 HD' hnv hvl
        go_upto_region 16 with (first
          | (at_lookup; refine wpList_lookup_own_int _ rfl _ _ 69 rfl 31 3 .i64 lawU Try.underlying69 Try.underlying3 (zeroI _) g M.clock _ rfl hown _ _ rfl hkey ?_; intro c hat hwc; obtain rfl : (0 : Int) = c := (by rw [dm_new M.clock nv (by rw [HNV.out]; omega)] at hat; injection hat with e; injection e with _ e2); clear hat hwc)
          | (at_mapUpdate; refine wpList_mapUpdate_own _ rfl _ _ _ 69 rfl 31 3 lawU Try.underlying69 _ g M.clock _ rfl hown (by unfold maxLen; omega) _ _ _ rfl rfl hkey _ [] (plainElem_int Try.underlying3 (a := 1) (by decide)) ?_; intro w9 hown1 hgrow1))
        go_frame
        have HOW9 := hidq (show w9.ownsMap Try.prog 31 (plainElem Try.prog 3) g nv (Dm nv) from by
          have e := HNV.out
          subst e
          exact hown1)
        have HG9 := hidq (but_grown hgrow1)
        clear hown1 hgrow1 hown hkey m70 m90 hne hne0 hle hle0
        have FC3 := hidq (fun W (hW : Reg.Keeps w9 W) => ((HS8.out.2.2.1.but HG9.out HS8.out.2.2.2).below (show Below w9.heap.size w9 W from hW)).get 0 _ rfl |>.1)
        have HM9 := hidq (HM8.out.1.but HG9.out (fun k hk e => by have e2 : k = g := e; subst e2; exact HM8.out.2.2.1 hk))
        have HCL := hidq (fun W (hW : Reg.Keeps w9 W) => (show Calls Try.prog 30 #[.pointer (some ⟨b, 0, none⟩)] W fun e w' => e = .returned (.int .u64 (nv : Int)) ∧ w' = W from by
          have := clock5_any b O' M' W (HM9.out.below (show Below w9.heap.size w9 W from hW))
          rw [HCK.out] at this
          exact this))
        have HLKU := hidq (fun W (hW : Reg.Keeps w9 W) => (show (Instr.lookup 69 (.map (some g)) (.int .u64 (nv : Int)) false).run Try.prog W = .ok (.int .i64 1) W from by
          obtain ⟨c, h1, h2, _⟩ := (owns_but HOW9.out (But.of_below (S := fun _ => False) (show Below w9.heap.size w9 W from hW)) id).lookup_int lawU Try.underlying69 Try.underlying3 (zeroI _) HKEY.out
          rw [HNV.out, dm_at] at h2
          injection h2 with h2
          injection h2 with _ h2
          rw [h1, ← h2]))
        have hnv2 : nv ≤ 1000 := by have := HNV.out; omega
        have hrefl : ∀ w : World, Reg.Keeps w w := Reg.Keeps.refl
        refine Reg.wp_region_props (Reg.ofList (cv16R b b9 g nv)) Reg.Keeps (fun _ w => Reg.Keeps w9 w) (by kernel_rfl) (by kernel_rfl) (Reg.AllKept.at _ (cv16R_kept b b9 g nv)) hrefl (Reg.Keeps.drewN (Reg.Keeps.refl _) 1) ⟨?_, ?_, ?_, ?_, ?_, ?_, ?_, ?_, ?_, ?_, ?_, ?_, trivial⟩ ?_
        · refine Reg.StepAt.plain (i := 0) rfl ?_
          intro L ev w hI hk hp hA
          have e4 : ev (.tmp 4) = .map (some g) := hA.oldNone 4 (by kernel_rfl)
          have hcc := hA.const
          clear hA hp
          refine Reg.out_value (v := .map (some g)) ?_ ⟨rfl, hrefl _, hI⟩
          go_simp
        · refine Reg.StepAt.plain (i := 1) rfl ?_
          intro L ev w hI hk hp hA
          have e9 : ev (.tmp 9) = .pointer (some ⟨b9, 0, none⟩) := hA.oldNone 9 (by kernel_rfl)
          have hcc := hA.const
          clear hA hp
          refine Reg.out_value (v := .pointer (some ⟨b9, 0, none⟩)) ?_ ⟨rfl, hrefl _, hI⟩
          go_simp
        · refine Reg.StepAt.plain (i := 2) rfl ?_
          intro L ev w hI hk hp hA
          have e91 : ev (.tmp 91) = .pointer (some ⟨b9, 0, none⟩) := hA.val 1 _ 91 rfl (hp ⟨1, .data⟩ (by simp) rfl) rfl
          have hcc := hA.const
          clear hA hp
          have f0 := FC3.out w hI
          refine Reg.out_value (v := .int .u64 nv) ?_ ⟨rfl, hrefl _, hI⟩
          go_simp
        · refine Reg.StepAt.plain (i := 3) rfl ?_
          intro L ev w hI hk hp hA
          have e90 : ev (.tmp 90) = .map (some g) := hA.val 0 _ 90 rfl (hp ⟨0, .data⟩ (by simp) rfl) rfl
          have e92 : ev (.tmp 92) = .int .u64 nv := hA.val 2 _ 92 rfl (hp ⟨2, .data⟩ (by simp) rfl) rfl
          have hcc := hA.const
          clear hA hp
          refine Reg.out_value (v := .int .i64 1) ?_ ⟨rfl, hrefl _, hI⟩
          (have hq := HLKU.out w hI; go_simp)
        · refine Reg.StepAt.plain (i := 4) rfl ?_
          intro L ev w hI hk hp hA
          have e93 : ev (.tmp 93) = .int .i64 1 := hA.val 3 _ 93 rfl (hp ⟨3, .data⟩ (by simp) rfl) rfl
          have hcc := hA.const
          clear hA hp
          refine Reg.out_value (v := .bool false) ?_ ⟨rfl, hrefl _, hI⟩
          go_simp
        · refine Reg.StepAt.plain (i := 5) rfl ?_
          intro L ev w hI hk hp hA
          have e94 : ev (.tmp 94) = .bool false := hA.val 4 _ 94 rfl (hp ⟨4, .data⟩ (by simp) rfl) rfl
          have hcc := hA.const
          clear hA hp
          refine Reg.out_value (v := .bool false) ?_ ⟨rfl, hrefl _, hI⟩
          go_simp
        · refine Reg.StepAt.guarded (i := 6) rfl ?_
          intro L ev w hI hk hp hA
          have e9 : ev (.tmp 9) = .pointer (some ⟨b9, 0, none⟩) := hA.oldNone 9 (by kernel_rfl)
          have eg : ev (.tmp 95) = .bool false := hA.val 5 _ 95 rfl (hp ⟨5, .guard⟩ (by simp) rfl) rfl
          refine ⟨_, 95, false, rfl, rfl, eg, ?_⟩
          rw [if_pos rfl]
          have hcc := hA.const
          clear hA hp
          refine Reg.out_value (v := .pointer (some ⟨b9, 0, none⟩)) ?_ ⟨rfl, hrefl _, hI⟩
          go_simp
        · refine Reg.StepAt.guarded (i := 7) rfl ?_
          intro L ev w hI hk hp hA
          have e96 : ev (.tmp 96) = .pointer (some ⟨b9, 0, none⟩) := hA.val 6 _ 96 rfl (hp ⟨6, .data⟩ (by simp) rfl) rfl
          have eg : ev (.tmp 95) = .bool false := hA.val 5 _ 95 rfl (hp ⟨5, .guard⟩ (by simp) rfl) rfl
          refine ⟨_, 95, false, rfl, rfl, eg, ?_⟩
          rw [if_pos rfl]
          have hcc := hA.const
          clear hA hp
          have f0 := FC3.out w hI
          refine Reg.out_value (v := .int .u64 nv) ?_ ⟨rfl, hrefl _, hI⟩
          go_simp
        · refine Reg.StepAt.guarded (i := 8) rfl ?_
          intro L ev w hI hk hp hA
          have e3 : ev (.tmp 3) = .pointer (some ⟨b, 0, none⟩) := hA.oldNone 3 (by kernel_rfl)
          have eg : ev (.tmp 95) = .bool false := hA.val 5 _ 95 rfl (hp ⟨5, .guard⟩ (by simp) rfl) rfl
          refine ⟨_, 95, false, rfl, rfl, eg, ?_⟩
          rw [if_pos rfl]
          have hcc := hA.const
          clear hA hp
          refine Reg.out_value (v := .pointer (some ⟨b, 0, none⟩)) ?_ ⟨rfl, hrefl _, hI⟩
          go_simp
        · refine Reg.StepAt.guarded (i := 9) rfl ?_
          intro L ev w hI hk hp hA
          have e98 : ev (.tmp 98) = .pointer (some ⟨b, 0, none⟩) := hA.val 8 _ 98 rfl (hp ⟨8, .data⟩ (by simp) rfl) rfl
          have eg : ev (.tmp 95) = .bool false := hA.val 5 _ 95 rfl (hp ⟨5, .chain⟩ (by simp) rfl) rfl
          refine ⟨_, 95, false, rfl, rfl, eg, ?_⟩
          rw [if_pos rfl]
          have hcc := hA.const
          have hcf := hA.func
          clear hA hp
          refine Reg.out_call (f := 30) (args := #[.pointer (some ⟨b, 0, none⟩)]) (w0 := w) ?_ ?_
          · go_simp
          refine (HCL.out w hI).mono ?_
          rintro e w' ⟨rfl, rfl⟩
          exact ⟨_, rfl, rfl, hrefl _, hI⟩
        · refine Reg.StepAt.guarded (i := 10) rfl ?_
          intro L ev w hI hk hp hA
          have e97 : ev (.tmp 97) = .int .u64 nv := hA.val 7 _ 97 rfl (hp ⟨7, .data⟩ (by simp) rfl) rfl
          have e99 : ev (.tmp 99) = .int .u64 nv := hA.val 9 _ 99 rfl (hp ⟨9, .data⟩ (by simp) rfl) rfl
          have eg : ev (.tmp 95) = .bool false := hA.val 5 _ 95 rfl (hp ⟨5, .guard⟩ (by simp) rfl) rfl
          refine ⟨_, 95, false, rfl, rfl, eg, ?_⟩
          rw [if_pos rfl]
          have hcc := hA.const
          clear hA hp
          refine Reg.out_value (v := .bool false) ?_ ⟨rfl, hrefl _, hI⟩
          go_simp
        · refine Reg.StepAt.plain (i := 11) rfl ?_
          intro L ev w hI hk hp hA
          have e95 : ev (.tmp 95) = .bool false := hA.val 5 _ 95 rfl (hp ⟨5, .data⟩ (by simp) rfl) rfl
          have e100 : ev (.tmp 100) = .bool false := hA.val 10 _ 100 rfl (hp ⟨10, .data⟩ (by simp) rfl) rfl
          have hcc := hA.const
          clear hA hp
          refine Reg.out_value (v := .bool false) ?_ ⟨rfl, hrefl _, hI⟩
          go_simp
        intro L act wz hall hI hF
        have g90 : act.eval (.tmp 90) = .map (some g) := hF.val 0 _ 90 rfl (hall 0 (by simp)) rfl
        have g91 : act.eval (.tmp 91) = .pointer (some ⟨b9, 0, none⟩) := hF.val 1 _ 91 rfl (hall 1 (by simp)) rfl
        have g92 : act.eval (.tmp 92) = .int .u64 nv := hF.val 2 _ 92 rfl (hall 2 (by simp)) rfl
        have g93 : act.eval (.tmp 93) = .int .i64 1 := hF.val 3 _ 93 rfl (hall 3 (by simp)) rfl
        have g94 : act.eval (.tmp 94) = .bool false := hF.val 4 _ 94 rfl (hall 4 (by simp)) rfl
        have g95 : act.eval (.tmp 95) = .bool false := hF.val 5 _ 95 rfl (hall 5 (by simp)) rfl
        have g96 : act.eval (.tmp 96) = .pointer (some ⟨b9, 0, none⟩) := hF.val 6 _ 96 rfl (hall 6 (by simp)) rfl
        have g97 : act.eval (.tmp 97) = .int .u64 nv := hF.val 7 _ 97 rfl (hall 7 (by simp)) rfl
        have g98 : act.eval (.tmp 98) = .pointer (some ⟨b, 0, none⟩) := hF.val 8 _ 98 rfl (hall 8 (by simp)) rfl
        have g99 : act.eval (.tmp 99) = .int .u64 nv := hF.val 9 _ 99 rfl (hall 9 (by simp)) rfl
        have g100 : act.eval (.tmp 100) = .bool false := hF.val 10 _ 100 rfl (hall 10 (by simp)) rfl
        have g101 : act.eval (.tmp 101) = .bool false := hF.val 11 _ 101 rfl (hall 11 (by simp)) rfl
        have hact := hF.act [90, 91, 92, 93, 94, 95, 96, 97, 98, 99, 100, 101] (by kernel_rfl)
        clear hF hall
        simp only [List.foldl_cons, List.foldl_nil] at hact
        rw [g90, g91, g92, g93, g94, g95, g96, g97, g98, g99, g100, g101] at hact
        clear g90 g91 g92 g93 g94 g95 g96 g97 g98 g99 g100 g101
        simp only [List.setIfInBounds_toArray, List.set_cons_succ, List.set_cons_zero] at hact
        subst hact
        have HN := hidq (show CVr w (i + 1) b g O' M' wz from by
          have z1 := HM8.out.2.2.2
          have z2 := HG9.out
          have hI9 : Below w9.heap.size w9 wz := hI
          have z3 := z2.size
          have z4 := z1.size
          have e := HNV.out
          have e2 := HT.out.2.2.2.1
          refine ⟨⟨HM9.out.below hI9, HM8.out.2.1, HM8.out.2.2.1⟩, HT.out.2.1, ?_, by rw [HCK.out]; omega, HVO.out, (z1.trans (z2.below z4 (fun k hk => by rw [show k = g from hk]; exact HT.out.2.1))).trans (hI9.mono (by omega))⟩
          rw [HCK.out]
          exact owns_but HOW9.out (But.of_below (S := fun _ => False) hI9) id)
        clear hI FC3 HLKU HCL
        go_wp2_with fail
        exact ⟨⟨i + 1, O', M', by push_cast; rfl, by omega, by omega, HN⟩, by simp [intOf]; omega⟩
      · subst hc
        subst hMM
        subst hv1
        subst hn1
        subst hL1
        have hlkl : L1.length = kl := by have := HKL.out.2; rw [kts_length] at this; exact this
        have hlkl1 : L1.length = kl1 := by have := Hkl1.out; rw [kts_length] at this; exact this
        have HSM := hidq (vsame_any nn1 nn1 a9 a7 c9 c7 kl1 kl L1 L1 w8 hlkl1 hlkl HS8.out.2.1 HS8.out.1 (by have h1 := look_few HT.out.1.1 kq; rw [HKL.out.1, Hkl1.out] at h1; omega))
        rw [sameV_self] at HSM
        have HOWN := hidq hown
        clear hown hlkl hlkl1 HD' hcl hvl
        go_wp2_with fail
        refine HSM.out.mono ?_
        rintro e w9 ⟨rfl, hb9⟩
        have HN := hidq (show CVr w (i + 1) b g O' M' w9 from by
          have z1 := HM8.out.2.2.2
          refine ⟨⟨HM8.out.1.below hb9, HM8.out.2.1, HM8.out.2.2.1⟩, HT.out.2.1, ?_, Nat.le_succ_of_le HT.out.2.2.2.1, HT.out.2.2.2.2.1, z1.trans (hb9.mono z1.size)⟩
          exact owns_but HOWN.out (But.of_below (S := fun _ => False) hb9) id)
        clear hb9 HSM m70 m71 m72 m90 m91 m92
        go_wp2_with fail
        exact ⟨⟨i + 1, O', M', by push_cast; rfl, by omega, by omega, HN⟩, by simp [intOf]; omega⟩
    · have hnx : ∀ (Q : Prop), (¬ ((i : Int) < 40) → (i : Int) < (n : Int) → Q) → (¬ ((i : Int) < (n : Int)) → Q) → Q := fun Q h1 h2 => by
        rcases Nat.lt_or_ge i n with e | e
        · exact h1 (by omega) (by omega)
        · exact h2 (by omega)
      obtain ⟨nv, hnv⟩ : ∃ nv, M.clock = nv := ⟨_, rfl⟩
      have hnl : nv ≤ 40 := by have := HT.out.2.2.2.1; omega
      have hCk := clock5_any b O M wr HT.out.1.1
      rw [hnv] at hCk
      have HCL := hidq hCk
      have hown : wr.ownsMap Try.prog 31 (plainElem Try.prog 3) g nv (Dm nv) := by rw [← hnv]; exact HT.out.2.2.1
      have HB := hidq HT.out.2.2.2.2.2
      have hcv : wrap64 (nv : Int) = (nv : Int) := by unfold wrap64; omega
      clear hCk HT hlt hnv
      apply hnx
      · intro q0 q1
        clear hnx
        go_wp2_with fail
        refine HCL.out.mono ?_
        rintro e w3 ⟨rfl, rfl⟩
        go_wp2_with (at_len; refine wpList_len_own _ rfl _ 69 rfl 31 3 Try.underlying69 _ g nv (Dm nv) rfl hown ?_; rw [dm_size])
        go_ret
        exact ⟨by simp, HB.out⟩
      · intro q0
        clear hnx
        go_wp2_with fail
        refine HCL.out.mono ?_
        rintro e w3 ⟨rfl, rfl⟩
        go_wp2_with (at_len; refine wpList_len_own _ rfl _ 69 rfl 31 3 Try.underlying69 _ g nv (Dm nv) rfl hown ?_; rw [dm_size])
        go_ret
        exact ⟨by simp, HB.out⟩
end Go.Proofs.Ytepigofpcjmddaa
