/-
  Layer 13's law of an engine on a memory that is there: the call returns true.
-/
import Derived.Test.YtdghgmaoamjnlaaGreatPilePAll
import Derived.Test.YtdghgmaoamjnlaaGreatMultiStep8All
import Derived.Test.YtdghgmaoamjnlaaGreatEn13g
import Derived.Test.YtdghgmaoamjnlaaGreatEqPtr
import Derived.Test.YtdghgmaoamjnlaaGreatFlat4All
import Derived.Test.YtdghgmaoamjnlaaGreatTail
namespace Go.Proofs.YtdghgmaoamjnlaaGreat
open Go.RowKit Go.Sort

theorem run_neq_memory (a : Addr) (w : World) : (binOp .neq 93 (.pointer (some a)) (.pointer (some a))).run Tryz.prog w = .ok (.bool false) w := by
  have h : (Tryz.prog.info? 161).map (fun i => i.size) = some 2 := by kernel_rfl
  obtain ⟨j, hj, _⟩ := Option.map_eq_some_iff.1 h
  exact run_neq_ptr_same a w Tryz.underlying93 hj
/-- The memory: one cell with one item. -/
def ewM (x : KI) : Mem := Mem.empty.put 0 0 (kit [x])
/-- The operation behind k of its steps. -/
def ewF (x : KI) (d : Int) : Nat → Fr
  | 0 => Fr.of 2 0 0 d 0
  | 1 => { Fr.of 2 0 0 d 0 with c0 := ⟨1, 0, kit [x]⟩, pc := 1 }
  | _ => { Fr.of 2 0 0 d 0 with c0 := ⟨1, 0, kit [x]⟩, c1 := ⟨1, 0, kit [x]⟩, pc := 2 }
theorem into_one (d : Int) : into d 1 = 0 := by have := into_rng (d := d) (n := 1) (by decide); omega
theorem ewM_look (x : KI) : (ewM x).look 0 = ⟨1, 0, kit [x]⟩ := rfl
theorem ewF_0 (x : KI) (d : Int) : ewF x d 0 = Fr.of 2 0 0 d 0 := rfl
theorem ewF_1 (x : KI) (d : Int) : ewF x d 1 = { Fr.of 2 0 0 d 0 with c0 := ⟨1, 0, kit [x]⟩, pc := 1 } := rfl
theorem ew_step0 (x : KI) (d : Int) : mStep 1 (ewM x) (ewF x d 0) = (ewM x, ewF x d 1, Ans.zero, false) := by
  rw [ewF_0, ewF_1]
  unfold mStep
  have h : (ewM x).look (into (Fr.of 2 0 0 d 0).d0 1) = ⟨1, 0, kit [x]⟩ := by rw [show (Fr.of 2 0 0 d 0).d0 = d from rfl, into_one]; rfl
  rw [if_neg (show ¬ (Fr.of 2 0 0 d 0).kind = 1 from (by decide : ¬ (2 : Int) = 1)), remS_0 (show (Fr.of 2 0 0 d 0).pc = 0 from rfl), h]
theorem ew_ahead (x : KI) : mAhead (kis (kit [x])) (kis (kit [x])) = (0, true) := by
  have e : x.lt x = false := KI.swo.irrefl x
  rw [kis_kit]
  simp [mAhead, e]
theorem ew_step1 (x : KI) (d : Int) : mStep 1 (ewM x) (ewF x d 1) = (ewM x, ewF x d 2, Ans.zero, false) := by
  unfold mStep
  have h : (ewM x).look (into (ewF x d 1).d1 1) = ⟨1, 0, kit [x]⟩ := by rw [show (ewF x d 1).d1 = 0 from rfl, into_one]; rfl
  rw [if_neg (show ¬ (ewF x d 1).kind = 1 from (by decide : ¬ (2 : Int) = 1)), remS_1t rfl (by rw [h]; show (mAhead (kis (kit [x])) (kis (kit [x]))).2 = true; rw [ew_ahead]), h]
  rfl
theorem ew_step2 (x : KI) (d : Int) : ∃ M Fx, mStep 1 (ewM x) (ewF x d 2) = (M, Fx, ⟨true, x.b, x.v, 0⟩, true) ∧ (M.look 0).L = [] := by
  unfold mStep
  have hc : (ewM x).can (into (ewF x d 2).d0 1) (ewF x d 2).c0.ver = true := by rw [into_one]; exact can_yes (i := 0) (by decide) rfl
  rw [if_neg (show ¬ (ewF x d 2).kind = 1 from (by decide : ¬ (2 : Int) = 1)), remS_2a (x := x) (K := []) (show ¬ (ewF x d 2).pc = 0 from (by decide : ¬ (2 : Int) = 0)) (show ¬ (ewF x d 2).pc = 1 from (by decide : ¬ (2 : Int) = 1)) (by show (mAhead (kis (kit [x])) (kis (kit [x]))).1 = 0; rw [ew_ahead]) (kis_kit [x]), hc, if_pos rfl]
  refine ⟨_, _, rfl, ?_⟩
  rw [into_one]
  rfl
theorem ew_step01 (x : KI) (d : Int) {k : Nat} (h : k < 2) : mStep 1 (ewM x) (ewF x d k) = (ewM x, ewF x d (k + 1), Ans.zero, false) := by
  have : k = 0 ∨ k = 1 := by omega
  rcases this with rfl | rfl
  · exact ew_step0 x d
  · exact ew_step1 x d
theorem one_ok (x : KI) : KOk 62 (kit [x]) := ⟨[x], rfl, List.pairwise_singleton _ _, (by decide : 1 ≤ 62)⟩
theorem ewM_ok (x : KI) : MOk (ewM x) := fun i => by
  by_cases h : i = 0
  · subst h; exact one_ok x
  · show KOk 62 (if i = 0 then (⟨_, _, kit [x]⟩ : CV) else CV.zero).L
    rw [if_neg h]
    exact KOk.nil 62
theorem ewF_ok (x : KI) (d : Int) : ∀ k, FOk (ewF x d k)
  | 0 => ⟨KOk.nil 62, KOk.nil 62, .inr ⟨rfl, fun h => absurd rfl h⟩⟩
  | 1 => ⟨one_ok x, KOk.nil 62, .inr ⟨rfl, fun _ h => absurd rfl h⟩⟩
  | _ + 2 => ⟨one_ok x, one_ok x, .inr ⟨rfl, fun _ _ => by show (mAhead (kis (kit [x])) (kis (kit [x]))).2 = true; rw [ew_ahead]⟩⟩

/-- Behind k of the steps. -/
def EW (w0 : World) (eb mb : Nat) (x : KI) (d : Int) (k : Nat) (W : World) : Prop :=
  ∃ (O P : Nat → Prop) (fb : Nat), BoxAt W eb (ecells 1 1 209 (.agg #[.int .i64 1]) mb (qset (fun _ => none) 0 (some fb)) false (k : Int)) ∧ MemAt W mb O (ewM x) ∧ FrAt W fb P (ewF x d k) ∧ (∀ j, O j → ¬ P j) ∧ ¬ (O eb ∨ P eb) ∧ (∀ j, O j ∨ P j ∨ j = eb → w0.heap.size ≤ j) ∧ Below w0.heap.size w0 W
section
variable {w0 W W' : World} {eb mb k : Nat} {x : KI} {d : Int}
theorem EW.below (h : EW w0 eb mb x d k W) (hb : Below W.heap.size W W') : EW w0 eb mb x d k W' := by
  obtain ⟨O, P, fb, h1, h2, h3, h4, h5, h6, h7⟩ := h
  exact ⟨O, P, fb, h1.below hb, h2.below hb, h3.below hb, h4, h5, h6, h7.trans (hb.mono h7.size)⟩
theorem EW.low (h : EW w0 eb mb x d k W) : Below w0.heap.size w0 W := by
  obtain ⟨O, P, fb, _, _, _, _, _, _, h7⟩ := h
  exact h7
theorem EW.pick_ (h : EW w0 eb mb x d k W) (hk : k ≤ 2) (pick : Int) {r : Mem × Fr × Ans × Bool} (hr : mStep 1 (ewM x) (ewF x d k) = r) :
    Calls Tryz.prog 35 #[.pointer (some ⟨eb, 0, none⟩), .int .i64 pick] W fun e w' => e = .returned (.tuple #[evV 0 r.2.1 r.2.2.1 r.2.2.2, .bool true]) ∧ Below w0.heap.size w0 w' ∧
      (r.2.2.2 = false → r.1 = ewM x → r.2.1 = ewF x d (k + 1) → EW w0 eb mb x d (k + 1) w') ∧ (r.2.2.2 = true → ∃ O', MemAt w' mb O' r.1 ∧ BoxAt w' eb (ecells 1 1 209 (.agg #[.int .i64 1]) mb (fun _ => none) false ((k + 1 : Nat) : Int))) := by
  obtain ⟨O, P, fb, hE, hM, hF, hd, hne, hup, hlow⟩ := h
  obtain ⟨a0, k0, a1, k1, hB, _⟩ := hF.box
  have hb : (busyTo (qset (fun _ => none) 0 (some fb)) 6)[(into pick (busyTo (qset (fun _ => none) 0 (some fb)) 6).length).toNat]? = some 0 := by
    rw [busyTo_one 0 fb (by decide)]
    show [0][(into pick 1).toNat]? = some 0
    rw [into_one]; rfl
  have hP := pickM_any 1 eb 1 1 mb (qset (fun _ => none) 0 (some fb)) false k pick 0 fb O P r W hE hb rfl (by omega) (fun j hj => hj.elim (hM.lt j) (hF.lt j)) hne ⟨_, _, _, _, _, hB⟩ (fun V hV => by
    have h := mstep_is 1 ⟨by decide, by decide⟩ V mb fb O P (ewM x) (ewF x d k) (hM.below hV) (hF.below hV) hd ⟨ewM_ok x, ewF_ok x d k⟩ (show (1 : Nat) < 4611686018427387904 by decide)
    rw [hr] at h
    exact h)
  refine hP.mono ?_
  rintro e w' ⟨rfl, h1, O', P', h2, h3, h4, h5, h6, h7⟩
  have hws := hlow.size
  have hb7 : Below w0.heap.size w0 w' := hlow.trans (h7.below hws hup)
  have hel := hE.lt
  refine ⟨rfl, hb7, fun e1 e2 e3 => ?_, fun e1 => ⟨O', h2, ?_⟩⟩
  · rw [e1, if_neg (by decide)] at h1
    rw [e2] at h2
    rw [e3] at h3
    refine ⟨O', P', fb, h1, h2, h3, h4, fun e => ?_, fun j hj => ?_, hb7⟩
    · rcases e with e | e
      · rcases h5 _ e with q | q
        · exact hne (.inl q)
        · omega
      · rcases h6 _ e with q | q
        · exact hne (.inr q)
        · omega
    · rcases hj with e | e | e
      · rcases h5 _ e with q | q
        · exact hup j (.inl q)
        · omega
      · rcases h6 _ e with q | q
        · exact hup j (.inr (.inl q))
        · omega
      · exact hup j (.inr (.inr e))
  · rw [e1, if_pos rfl] at h1
    have : qset (qset (fun _ => none) 0 (some fb)) 0 none = fun _ => none := by
      funext j
      unfold qset
      split <;> rfl
    rw [this] at h1
    exact h1
end

def ew16R (vb mb xb : Nat) (xv p q V N : Int) : List (Value → World → Prop) :=
  [fun v _ => v = .bool true,
   fun v _ => v = .bool true,
   fun v _ => v = .pointer (some ⟨vb, 6, none⟩),
   fun v _ => v = .bool true,
   fun v _ => v = .bool true,
   fun v _ => v = .bool true,
   fun v _ => v = .pointer (some ⟨vb, 7, none⟩),
   fun v _ => v = .pointer (some ⟨vb, 7, none⟩),
   fun v _ => v = .bool true,
   fun v _ => v = .bool true,
   fun v _ => v = .bool true,
   fun v _ => v = .pointer (some ⟨vb, 7, none⟩),
   fun v _ => v = .pointer (some ⟨vb, 8, none⟩),
   fun v _ => v = .agg #[.float .f64 xb, .int .i64 xv],
   fun v _ => v = .agg #[.int .u64 p, .int .i64 xv],
   fun v _ => v = .agg #[.int .u64 q, .int .i64 xv],
   fun v _ => v = .int .i64 0,
   fun v _ => v = .bool true,
   fun v _ => v = .bool true,
   fun v _ => v = .bool true,
   fun v _ => v = .bool false,
   fun v _ => v = .bool true,
   fun v _ => v = .bool true,
   fun v _ => v = .bool true,
   fun v _ => v = .pointer (some ⟨mb, 0, none⟩),
   fun u _ => ∃ a c, u = .agg #[.int .u64 V, .int .i64 N, .slice a 0 c],
   fun u _ => ∃ a c, u = .agg #[.int .i64 N, .slice a 0 c],
   fun u _ => ∃ a c, u = .slice a 0 c,
   fun v _ => v = .int .i64 0,
   fun v _ => v = .bool true,
   fun v _ => v = .bool true,
   fun v _ => v = .bool true]
theorem ew16R_kept (vb mb xb : Nat) (xv p q V N : Int) : Reg.AllKept Reg.Keeps (ew16R vb mb xb xv p q V N) :=
  ⟨(fun _ _ _ _ h => h), (fun _ _ _ _ h => h), (fun _ _ _ _ h => h), (fun _ _ _ _ h => h), (fun _ _ _ _ h => h), (fun _ _ _ _ h => h), (fun _ _ _ _ h => h), (fun _ _ _ _ h => h), (fun _ _ _ _ h => h), (fun _ _ _ _ h => h), (fun _ _ _ _ h => h), (fun _ _ _ _ h => h), (fun _ _ _ _ h => h), (fun _ _ _ _ h => h), (fun _ _ _ _ h => h), (fun _ _ _ _ h => h), (fun _ _ _ _ h => h), (fun _ _ _ _ h => h), (fun _ _ _ _ h => h), (fun _ _ _ _ h => h), (fun _ _ _ _ h => h), (fun _ _ _ _ h => h), (fun _ _ _ _ h => h), (fun _ _ _ _ h => h), (fun _ _ _ _ h => h), (fun _ _ _ _ h => h), (fun _ _ _ _ h => h), (fun _ _ _ _ h => h), (fun _ _ _ _ h => h), (fun _ _ _ _ h => h), (fun _ _ _ _ h => h), (fun _ _ _ _ h => h), trivial⟩

set_option maxRecDepth 20000 in
set_option maxHeartbeats 8000000 in
theorem engineWith_any (p v d : Int) (w : World) (hp0 : 0 ≤ p) (hp1 : p < 18446744073709551616) :
    Calls Tryz.prog 7 #[.agg #[.int .u64 p, .int .i64 v], .int .i64 d] w fun e w' => e = .returned (.bool true) ∧ Below w.heap.size w w' := by
  have hsf := run_store_flt (P := Tryz.prog)
  have hA := fun W => awake13_any W
  obtain ⟨x, hx⟩ : ∃ x, mkKI (nf p) v = x := ⟨_, rfl⟩
  have hxb : x.b = cbits (nf p) := by rw [← hx]; exact mkKI_b (nf_lt hp1) v
  have hxv : x.v = v := by rw [← hx]; exact mkKI_v (nf_lt hp1) v
  subst hxv
  have hOw := fun W => own_any p x.v W
  have hCa := fun W => icanon_any (nf p) x.v W
  have hTd := fun W => told_any p x.v W hp0 hp1
  have hIs := fun W => is_any (cbits (nf p)) x.v (ni (cbits (nf p))) x.v W
  rw [show isV (cbits (nf p)) x.v (ni (cbits (nf p))) x.v = 0 from if_pos ⟨rfl, rfl⟩] at hIs
  rw [← hxb] at hCa hTd hIs
  obtain ⟨q, hq⟩ : ∃ q, ni x.b = q := ⟨_, rfl⟩
  rw [hq] at hTd hIs
  have HTD := hidq hTd
  have HIS := hidq hIs
  obtain ⟨bx, hbx⟩ : ∃ bx, w.heap.size = bx := ⟨_, rfl⟩
  obtain ⟨W0, hW0⟩ : ∃ W0, w.alloc (.cells #[.int .u64 p, .int .i64 x.v] 57) = W0 := ⟨_, rfl⟩
  have hBX := BoxAt.new w [.int .u64 p, .int .i64 x.v] 57
  rw [show w.alloc (.cells [.int .u64 p, .int .i64 x.v].toArray 57) = W0 from hW0, hbx] at hBX
  have hb0 : Below w.heap.size w W0 := by rw [← hW0]; exact (Below.refl _ _).alloc (Nat.le_refl _) _
  clear hTd hIs hq hx hxb hp0 hp1
  go_enter Tryz.func7, Tryz.ntmps7
  go_wp2_with fail
  refine (hA _).mono ?_
  rintro e w1 ⟨rfl, hb1⟩
  clear hA
  go_wp2_with fail
  refine (new5_any _).mono ?_
  rintro e w2 ⟨rfl, hM2, hb2⟩
  obtain ⟨mb, hmb⟩ : ∃ mb, w1.heap.size = mb := ⟨_, rfl⟩
  rw [hmb] at hM2 ⊢
  have hl2 : Below W0.heap.size W0 w2 := hb1.trans (hb2.mono hb1.size)
  have hBX2 := hBX.below hl2
  have HBX := hidq (And.intro hBX hb0)
  obtain ⟨f0, _⟩ := hBX2.get 0 _ rfl
  obtain ⟨f1, _⟩ := hBX2.get 1 _ rfl
  have hbxl := hBX2.lt
  have hbm : bx < mb := by have := hBX.lt; have := hb1.size; omega
  have hmw : W0.heap.size ≤ mb := by have := hb1.size; omega
  have H2 := hidq (And.intro hM2 (And.intro hl2 (And.intro hbm hmw)))
  clear hM2 hBX2 hl2 hb2 hb1 hb0 hBX hW0 hmb hbm hmw
  go_wp2_with fail
  refine (hOw _).mono ?_
  rintro e w3 ⟨rfl, hb3⟩
  clear hOw f0 f1 hbxl
  go_wp2_with fail
  refine (hCa _).mono ?_
  rintro e w4 ⟨rfl, hb4⟩
  clear hCa
  obtain ⟨gb, hgb⟩ : ∃ gb, w4.heap.size = gb := ⟨_, rfl⟩
  obtain ⟨W4, hW4⟩ : ∃ W4, w4.alloc (.cells #[.float .f64 x.b, .int .i64 x.v] 53) = W4 := ⟨_, rfl⟩
  have hb34 := hb3.trans (hb4.mono hb3.size)
  have hbW4 : Below w4.heap.size w4 W4 := by rw [← hW4]; exact (Below.refl _ _).alloc (Nat.le_refl _) _
  have hb24 : Below w2.heap.size w2 W4 := hb34.trans (hbW4.mono hb34.size)
  have hFl : Flat 2 W4 gb 1 1 (flatI (kit [x])) := by rw [← hW4, ← hgb]; exact Flat.new w4 [.float .f64 x.b, .int .i64 x.v] 53 2 1 rfl (by decide) (fun u hu => by simp at hu; rcases hu with rfl | rfl <;> rfl)
  have hmg : mb < gb := by have := H2.out.1.lt mb rfl; have := hb34.size; omega
  have hFo := force_any mb 0 (fun k => k = mb) Mem.empty 0 (some ⟨gb, 0, none⟩) 1 (kit [x]) W4 (H2.out.1.below hb24) (.inr ⟨gb, rfl, hFl⟩) (fun j hj e => by obtain ⟨y, hy, rfl⟩ := hj; cases hy; have e' : gb = mb := e; omega) (show 1 ≤ 1000000 by decide) (by decide) (by decide)
  have HFO := hidq (show Calls Tryz.prog 31 #[.pointer (some ⟨mb, 0, none⟩), .int .i64 0, .agg #[.int .i64 0, .slice (some ⟨gb, 0, none⟩) 1 1]] W4 (fun e w' => e = .returned (.bool true) ∧ MemAt w' mb (own' (fun k => k = mb) W4 w') (ewM x) ∧ But (fun k => k = mb) W4 w') from hFo)
  have H4 := hidq hb24
  have HW4 := hidq hW4
  clear hb3 hb4 hb34 hbW4 hb24 hFl hFo hmg
  go_wp2_with fail
  try rw [HW4.out]
  refine (HFO.out).mono ?_
  rintro e w5 ⟨rfl, hM5, hb5⟩
  clear HFO hW4 HW4
  have H5 := hidq (And.intro hM5 hb5)
  clear hM5 hb5
  have HWi := hidq (fun W => ewith_any _ 1 1 _ (fun W => machine1_any 1 W) mb W)
  go_wp2_with fail
  refine (HWi.out _).mono ?_
  rintro e w6 ⟨hb6, _, hok⟩
  obtain ⟨T, mv, eb, wm, rfl, heb, hwm, hE, ⟨rfl, hK⟩, hbm⟩ := hok (by decide)
  obtain rfl := hK (by decide)
  clear hok hK HWi
  have hel := hE.lt
  have hMe := fun (_ : Unit) => memory_any eb 1 1 209 (.agg #[.int .i64 1]) mb (fun _ => none) false 0 w6 hE
  have hBe := begin_any eb 1 1 209 (.agg #[.int .i64 1]) mb (fun _ => none) false 0 0 2 0 0 d 0 w6 hE
  have hnq := fun W => run_neq_memory ⟨mb, 0, none⟩ W
  have H6 := hidq (And.intro hb6 (And.intro heb hel))
  clear hb6 heb hel hwm hE hbm
  go_wp2_with fail
  refine (hMe ()).mono ?_
  rintro e w0 ⟨rfl, hw0⟩
  replace hw0 := hw0.symm
  subst hw0
  clear hMe
  go_wp2_with fail
  refine hBe.mono ?_
  rintro e w7 ⟨rfl, _, hok⟩
  clear hBe hnq
  obtain ⟨_, _, _, fb, hfb, hF, hE2, hbt⟩ := hok (by decide)
  rw [show begE 1 false (fun _ => none) 0 2 0 = 0 by decide]
  have hT : EW W0 eb mb x d 0 w7 := by
    obtain ⟨k1, k3, k4, k5⟩ := H2.out
    obtain ⟨m1, m2⟩ := H5.out
    obtain ⟨n1, n2, n3⟩ := H6.out
    have h24 := H4.out
    have s1 := h24.size
    have s2 := m2.size
    have s3 := n1.size
    have s4 := hbt.size
    have s5 := k3.size
    have hfl := hF.lt
    have hml := k1.lt mb rfl
    have hm7 := (m1.below n1).but hbt (fun j hj e => by
      have e' : j = eb := e
      subst e'
      have := m1.lt _ hj
      omega)
    have hOlt : ∀ j, own' (fun k => k = mb) W4 w5 j → W0.heap.size ≤ j ∧ j < w5.heap.size := fun j hj => by
      have h5 := m1.lt j hj
      rcases hj with e | e
      · have e' : j = mb := e
        omega
      · omega
    have hlow5 : Below W0.heap.size W0 w5 := (k3.trans (h24.mono k3.size)).trans (m2.below (by omega) (fun j e => by have e' : j = mb := e; omega))
    have hlow7 : Below W0.heap.size W0 w7 := (hlow5.trans (n1.mono hlow5.size)).trans (hbt.below (by omega) (fun j e => by have e' : j = eb := e; omega))
    refine ⟨_, fun j => j = fb, fb, hE2, hm7, frAt_new hF rfl rfl, fun j hj e => ?_, fun e => ?_, fun j hj => ?_, hlow7⟩
    · have e' : j = fb := e
      have := (hOlt j hj).2
      omega
    · rcases e with e | e
      · have := (hOlt _ e).2; omega
      · have e' : eb = fb := e
        omega
    · rcases hj with e | e | e
      · exact (hOlt j e).1
      · have e' : j = fb := e
        omega
      · omega
  have HT := hidq hT
  clear hT hok hfb hF hE2 hbt
  go_wp2_with fail
  go_loopw [49] (fun s49 wr => ∃ k : Nat, s49 = .int .i64 (k : Int) ∧ k ≤ 2 ∧ Hid (EW W0 eb mb x d k wr)) (fun s49 _ => 2 - (intOf s49).toNat)
  case atStart => exact ⟨0, rfl, by decide, HT⟩
  case round =>
    obtain ⟨k, rfl, hk, hR⟩ := hrel
    clear HT
    have hpk := hidq (fun r (hr : mStep 1 (ewM x) (ewF x d k) = r) => hR.out.pick_ hk d hr)
    by_cases hlt : k < 2
    · have hltI : (k : Int) < 2 := by omega
      have HP := hidq (hpk.out _ (ew_step01 x d hlt))
      clear hpk
      go_wp2_with fail
      refine (HP.out).mono ?_
      rintro e w8 ⟨rfl, _, hnx, _⟩
      have hn := hnx (by first | trivial | rfl) (by first | trivial | rfl) (by first | trivial | rfl)
      have HN := hidq (fun o => hn.below ((Below.refl w8.heap.size w8).alloc (Nat.le_refl _) o))
      clear hnx HP hn
      go_wp2_with fail
      go_roundw
      case rel => exact ⟨k + 1, by go_num, by omega, hidq (HN.out _)⟩
      case measure => simp [intOf]; omega
    · have hk2 : k = 2 := by omega
      subst hk2
      obtain ⟨M3, F3, hs3, hL3⟩ := ew_step2 x d
      have HP := hidq (hpk.out _ hs3)
      clear hpk hs3 hlt hR
      go_wp2_with fail
      refine (HP.out).mono ?_
      rintro e w8 ⟨rfl, hb8, _, hnx⟩
      obtain ⟨O3, hM3, hE3⟩ := hnx (by first | trivial | rfl)
      clear hnx HP
      obtain ⟨vb, hvb⟩ : ∃ vb, w8.heap.size = vb := ⟨_, rfl⟩
      obtain ⟨W8, hW8⟩ : ∃ W8, w8.alloc (.cells #[.int .i64 0, .int .i64 F3.kind, .float .f64 F3.pri, .int .i64 F3.val, .int .i64 F3.d0, .int .i64 F3.d1, .bool true, .bool true, .float .f64 x.b, .int .i64 x.v, .int .i64 0] 101) = W8 := ⟨_, rfl⟩
      have HW8 := hidq hW8
      have hb88 : Below w8.heap.size w8 W8 := by rw [← hW8]; exact (Below.refl _ _).alloc (Nat.le_refl _) _
      have hVB : BoxAt W8 vb [.int .i64 0, .int .i64 F3.kind, .float .f64 F3.pri, .int .i64 F3.val, .int .i64 F3.d0, .int .i64 F3.d1, .bool true, .bool true, .float .f64 x.b, .int .i64 x.v, .int .i64 0] := by rw [← hW8, ← hvb]; exact BoxAt.new w8 _ _
      have hPn := hidq (pickno_any eb 1 1 209 (.agg #[.int .i64 1]) mb (fun _ => none) false _ 0 W8 (hE3.below hb88) rfl)
      have H8 := hidq (And.intro (hM3.below hb88) (And.intro hVB (hb8.trans (hb88.mono hb8.size))))
      clear hW8 hb88 hVB hM3 hE3 hb8
      go_wp2_with fail
      rw [HW8.out]
      clear HW8
      refine (hPn.out).mono ?_
      rintro e w9 ⟨rfl, hb9⟩
      obtain ⟨W9, hW9⟩ : ∃ W9, w9.alloc (.cells #[.int .i64 0, .int .i64 0, .float .f64 0, .int .i64 0, .int .i64 0, .int .i64 0, .bool false, .bool false, .float .f64 0, .int .i64 0, .int .i64 0] 101) = W9 := ⟨_, rfl⟩
      have HW9 := hidq hW9
      have hb99 : Below W8.heap.size W8 W9 := by rw [← hW9]; exact hb9.alloc hb9.size _
      clear hW9 hb9 hPn
      go_wp2_with fail
      rw [HW9.out]
      clear HW9
      have hlow9 := H8.out.2.2.trans (hb99.mono H8.out.2.2.size)
      have FC := hidq (fun W (hW : Reg.Keeps W9 W) => (show _ from And.intro (((H8.out.2.1.below hb99).below hW).get 6 _ rfl).1 (And.intro (((H8.out.2.1.below hb99).below hW).get 7 _ rfl).1 (And.intro (((H8.out.2.1.below hb99).below hW).get 8 _ rfl).1 (And.intro (((H8.out.2.1.below hb99).below hW).get 9 _ rfl).1 (And.intro (((HBX.out.1.below hlow9).below hW).get 0 _ rfl).1 (And.intro (((HBX.out.1.below hlow9).below hW).get 1 _ rfl).1 (And.intro ((H8.out.2.1.below hb99).below hW).lt ((HBX.out.1.below hlow9).below hW).lt))))))))
      obtain ⟨V, hV⟩ : ∃ V, (M3.look 0).ver = V := ⟨_, rfl⟩
      obtain ⟨N, hN⟩ : ∃ N, (M3.look 0).n = N := ⟨_, rfl⟩
      have HRD := hidq (fun W (hW : Reg.Keeps W9 W) => (show Calls Tryz.prog 38 #[.pointer (some ⟨mb, 0, none⟩), .int .i64 0] W fun e w' => ∃ a' c', e = .returned (.agg #[.int .u64 V, .int .i64 N, .slice a' 0 c']) ∧ Below W.heap.size W w' from (read5_any mb O3 M3 0 W ((H8.out.1.below hb99).below hW)).mono (by
        rintro e w' ⟨a', c', e1, _, _, e4⟩
        rw [hL3, hV, hN] at e1
        exact ⟨_, _, e1, e4⟩)))
      obtain ⟨xb, hxb⟩ : ∃ xb, x.b = xb := ⟨_, rfl⟩
      obtain ⟨xv, hxv⟩ : ∃ xv, x.v = xv := ⟨_, rfl⟩
      rw [hxb, hxv] at FC HIS
      rw [hxv] at HTD ⊢
      have HLW := hidq (HBX.out.2.trans (hlow9.mono HBX.out.2.size))
      clear hlow9 hb99 H8 HBX hL3 hV hN hxb hxv
      have hrefl : ∀ w : World, Reg.Keeps w w := Reg.Keeps.refl
      refine Reg.wp_region_props (Reg.ofList (ew16R vb mb xb xv p q V N)) Reg.Keeps (fun _ w => Reg.Keeps W9 w) (by kernel_rfl) (by kernel_rfl) (Reg.AllKept.at _ (ew16R_kept vb mb xb xv p q V N)) hrefl (Reg.Keeps.drewN (Reg.Keeps.refl _) 1) ⟨?_, ?_, ?_, ?_, ?_, ?_, ?_, ?_, ?_, ?_, ?_, ?_, ?_, ?_, ?_, ?_, ?_, ?_, ?_, ?_, ?_, ?_, ?_, ?_, ?_, ?_, ?_, ?_, ?_, ?_, ?_, ?_, trivial⟩ ?_
      · refine Reg.StepAt.plain (i := 0) rfl ?_
        intro L ev w hI hk hp hA
        have e11 : ev (.tmp 11) = .bool true := hA.oldNone 11 (by kernel_rfl)
        have hcc := hA.const
        clear hA hp
        refine Reg.out_value (v := .bool true) ?_ ⟨rfl, hrefl _, hI⟩
        go_simp
      · refine Reg.StepAt.plain (i := 1) rfl ?_
        intro L ev w hI hk hp hA
        have e75 : ev (.tmp 75) = .bool true := hA.val 0 _ 75 rfl (hp ⟨0, .data⟩ (by simp) rfl) rfl
        have hcc := hA.const
        clear hA hp
        refine Reg.out_value (v := .bool true) ?_ ⟨rfl, hrefl _, hI⟩
        go_simp
      · refine Reg.StepAt.guarded (i := 2) rfl ?_
        intro L ev w hI hk hp hA
        have e10 : ev (.tmp 10) = .pointer (some ⟨vb, 0, none⟩) := hA.oldNone 10 (by kernel_rfl)
        have eg : ev (.tmp 76) = .bool true := hA.val 1 _ 76 rfl (hp ⟨1, .guard⟩ (by simp) rfl) rfl
        refine ⟨_, 76, true, rfl, rfl, eg, ?_⟩
        rw [if_pos rfl]
        have hcc := hA.const
        clear hA hp
        refine Reg.out_value (v := .pointer (some ⟨vb, 6, none⟩)) ?_ ⟨rfl, hrefl _, hI⟩
        go_simp
      · refine Reg.StepAt.guarded (i := 3) rfl ?_
        intro L ev w hI hk hp hA
        have e77 : ev (.tmp 77) = .pointer (some ⟨vb, 6, none⟩) := hA.val 2 _ 77 rfl (hp ⟨2, .data⟩ (by simp) rfl) rfl
        have eg : ev (.tmp 76) = .bool true := hA.val 1 _ 76 rfl (hp ⟨1, .guard⟩ (by simp) rfl) rfl
        refine ⟨_, 76, true, rfl, rfl, eg, ?_⟩
        rw [if_pos rfl]
        have hcc := hA.const
        clear hA hp
        obtain ⟨m0, m1, m2, m3, m4, m5, m6, m7⟩ := FC.out w hI
        refine Reg.out_value (v := .bool true) ?_ ⟨rfl, hrefl _, hI⟩
        go_simp
      · refine Reg.StepAt.plain (i := 4) rfl ?_
        intro L ev w hI hk hp hA
        have e76 : ev (.tmp 76) = .bool true := hA.val 1 _ 76 rfl (hp ⟨1, .data⟩ (by simp) rfl) rfl
        have e78 : ev (.tmp 78) = .bool true := hA.val 3 _ 78 rfl (hp ⟨3, .data⟩ (by simp) rfl) rfl
        have hcc := hA.const
        clear hA hp
        refine Reg.out_value (v := .bool true) ?_ ⟨rfl, hrefl _, hI⟩
        go_simp
      · refine Reg.StepAt.plain (i := 5) rfl ?_
        intro L ev w hI hk hp hA
        have e79 : ev (.tmp 79) = .bool true := hA.val 4 _ 79 rfl (hp ⟨4, .data⟩ (by simp) rfl) rfl
        have hcc := hA.const
        clear hA hp
        refine Reg.out_value (v := .bool true) ?_ ⟨rfl, hrefl _, hI⟩
        go_simp
      · refine Reg.StepAt.guarded (i := 6) rfl ?_
        intro L ev w hI hk hp hA
        have e10 : ev (.tmp 10) = .pointer (some ⟨vb, 0, none⟩) := hA.oldNone 10 (by kernel_rfl)
        have eg : ev (.tmp 80) = .bool true := hA.val 5 _ 80 rfl (hp ⟨5, .guard⟩ (by simp) rfl) rfl
        refine ⟨_, 80, true, rfl, rfl, eg, ?_⟩
        rw [if_pos rfl]
        have hcc := hA.const
        clear hA hp
        refine Reg.out_value (v := .pointer (some ⟨vb, 7, none⟩)) ?_ ⟨rfl, hrefl _, hI⟩
        go_simp
      · refine Reg.StepAt.guarded (i := 7) rfl ?_
        intro L ev w hI hk hp hA
        have e81 : ev (.tmp 81) = .pointer (some ⟨vb, 7, none⟩) := hA.val 6 _ 81 rfl (hp ⟨6, .data⟩ (by simp) rfl) rfl
        have eg : ev (.tmp 80) = .bool true := hA.val 5 _ 80 rfl (hp ⟨5, .guard⟩ (by simp) rfl) rfl
        refine ⟨_, 80, true, rfl, rfl, eg, ?_⟩
        rw [if_pos rfl]
        have hcc := hA.const
        clear hA hp
        refine Reg.out_value (v := .pointer (some ⟨vb, 7, none⟩)) ?_ ⟨rfl, hrefl _, hI⟩
        go_simp
      · refine Reg.StepAt.guarded (i := 8) rfl ?_
        intro L ev w hI hk hp hA
        have e82 : ev (.tmp 82) = .pointer (some ⟨vb, 7, none⟩) := hA.val 7 _ 82 rfl (hp ⟨7, .data⟩ (by simp) rfl) rfl
        have eg : ev (.tmp 80) = .bool true := hA.val 5 _ 80 rfl (hp ⟨5, .guard⟩ (by simp) rfl) rfl
        refine ⟨_, 80, true, rfl, rfl, eg, ?_⟩
        rw [if_pos rfl]
        have hcc := hA.const
        clear hA hp
        obtain ⟨m0, m1, m2, m3, m4, m5, m6, m7⟩ := FC.out w hI
        refine Reg.out_value (v := .bool true) ?_ ⟨rfl, hrefl _, hI⟩
        go_simp
      · refine Reg.StepAt.plain (i := 9) rfl ?_
        intro L ev w hI hk hp hA
        have e80 : ev (.tmp 80) = .bool true := hA.val 5 _ 80 rfl (hp ⟨5, .data⟩ (by simp) rfl) rfl
        have e83 : ev (.tmp 83) = .bool true := hA.val 8 _ 83 rfl (hp ⟨8, .data⟩ (by simp) rfl) rfl
        have hcc := hA.const
        clear hA hp
        refine Reg.out_value (v := .bool true) ?_ ⟨rfl, hrefl _, hI⟩
        go_simp
      · refine Reg.StepAt.plain (i := 10) rfl ?_
        intro L ev w hI hk hp hA
        have e84 : ev (.tmp 84) = .bool true := hA.val 9 _ 84 rfl (hp ⟨9, .data⟩ (by simp) rfl) rfl
        have hcc := hA.const
        clear hA hp
        refine Reg.out_value (v := .bool true) ?_ ⟨rfl, hrefl _, hI⟩
        go_simp
      · refine Reg.StepAt.guarded (i := 11) rfl ?_
        intro L ev w hI hk hp hA
        have e10 : ev (.tmp 10) = .pointer (some ⟨vb, 0, none⟩) := hA.oldNone 10 (by kernel_rfl)
        have eg : ev (.tmp 85) = .bool true := hA.val 10 _ 85 rfl (hp ⟨10, .guard⟩ (by simp) rfl) rfl
        refine ⟨_, 85, true, rfl, rfl, eg, ?_⟩
        rw [if_pos rfl]
        have hcc := hA.const
        clear hA hp
        refine Reg.out_value (v := .pointer (some ⟨vb, 7, none⟩)) ?_ ⟨rfl, hrefl _, hI⟩
        go_simp
      · refine Reg.StepAt.guarded (i := 12) rfl ?_
        intro L ev w hI hk hp hA
        have e86 : ev (.tmp 86) = .pointer (some ⟨vb, 7, none⟩) := hA.val 11 _ 86 rfl (hp ⟨11, .data⟩ (by simp) rfl) rfl
        have eg : ev (.tmp 85) = .bool true := hA.val 10 _ 85 rfl (hp ⟨10, .guard⟩ (by simp) rfl) rfl
        refine ⟨_, 85, true, rfl, rfl, eg, ?_⟩
        rw [if_pos rfl]
        have hcc := hA.const
        clear hA hp
        refine Reg.out_value (v := .pointer (some ⟨vb, 8, none⟩)) ?_ ⟨rfl, hrefl _, hI⟩
        go_simp
      · refine Reg.StepAt.guarded (i := 13) rfl ?_
        intro L ev w hI hk hp hA
        have e87 : ev (.tmp 87) = .pointer (some ⟨vb, 8, none⟩) := hA.val 12 _ 87 rfl (hp ⟨12, .data⟩ (by simp) rfl) rfl
        have eg : ev (.tmp 85) = .bool true := hA.val 10 _ 85 rfl (hp ⟨10, .guard⟩ (by simp) rfl) rfl
        refine ⟨_, 85, true, rfl, rfl, eg, ?_⟩
        rw [if_pos rfl]
        have hcc := hA.const
        clear hA hp
        obtain ⟨m0, m1, m2, m3, m4, m5, m6, m7⟩ := FC.out w hI
        refine Reg.out_value (v := .agg #[.float .f64 xb, .int .i64 xv]) ?_ ⟨rfl, hrefl _, hI⟩
        go_simp
      · refine Reg.StepAt.guarded (i := 14) rfl ?_
        intro L ev w hI hk hp hA
        have e2 : ev (.tmp 2) = .pointer (some ⟨bx, 0, none⟩) := hA.oldNone 2 (by kernel_rfl)
        have eg : ev (.tmp 85) = .bool true := hA.val 10 _ 85 rfl (hp ⟨10, .guard⟩ (by simp) rfl) rfl
        refine ⟨_, 85, true, rfl, rfl, eg, ?_⟩
        rw [if_pos rfl]
        have hcc := hA.const
        clear hA hp
        obtain ⟨m0, m1, m2, m3, m4, m5, m6, m7⟩ := FC.out w hI
        refine Reg.out_value (v := .agg #[.int .u64 p, .int .i64 xv]) ?_ ⟨rfl, hrefl _, hI⟩
        go_simp
      · refine Reg.StepAt.guarded (i := 15) rfl ?_
        intro L ev w hI hk hp hA
        have e89 : ev (.tmp 89) = .agg #[.int .u64 p, .int .i64 xv] := hA.val 14 _ 89 rfl (hp ⟨14, .data⟩ (by simp) rfl) rfl
        have eg : ev (.tmp 85) = .bool true := hA.val 10 _ 85 rfl (hp ⟨10, .chain⟩ (by simp) rfl) rfl
        refine ⟨_, 85, true, rfl, rfl, eg, ?_⟩
        rw [if_pos rfl]
        have hcc := hA.const
        have hcf := hA.func
        clear hA hp
        refine Reg.out_call (f := 37) (args := #[.agg #[.int .u64 p, .int .i64 xv]]) (w0 := w) ?_ ?_
        · go_simp
        refine (HTD.out w).mono ?_
        rintro e w' ⟨rfl, hb'⟩
        exact ⟨_, rfl, rfl, hb', Reg.Keeps.trans hI hb'⟩
      · refine Reg.StepAt.guarded (i := 16) rfl ?_
        intro L ev w hI hk hp hA
        have e88 : ev (.tmp 88) = .agg #[.float .f64 xb, .int .i64 xv] := hA.val 13 _ 88 rfl (hp ⟨13, .data⟩ (by simp) rfl) rfl
        have e90 : ev (.tmp 90) = .agg #[.int .u64 q, .int .i64 xv] := hA.val 15 _ 90 rfl (hp ⟨15, .data⟩ (by simp) rfl) rfl
        have eg : ev (.tmp 85) = .bool true := hA.val 10 _ 85 rfl (hp ⟨10, .guard⟩ (by simp) rfl) rfl
        refine ⟨_, 85, true, rfl, rfl, eg, ?_⟩
        rw [if_pos rfl]
        have hcc := hA.const
        have hcf := hA.func
        clear hA hp
        refine Reg.out_call (f := 36) (args := #[.agg #[.float .f64 xb, .int .i64 xv], .agg #[.int .u64 q, .int .i64 xv]]) (w0 := w) ?_ ?_
        · go_simp
        refine (HIS.out w).mono ?_
        rintro e w' ⟨rfl, hb'⟩
        exact ⟨_, rfl, rfl, hb', Reg.Keeps.trans hI hb'⟩
      · refine Reg.StepAt.guarded (i := 17) rfl ?_
        intro L ev w hI hk hp hA
        have e91 : ev (.tmp 91) = .int .i64 0 := hA.val 16 _ 91 rfl (hp ⟨16, .data⟩ (by simp) rfl) rfl
        have eg : ev (.tmp 85) = .bool true := hA.val 10 _ 85 rfl (hp ⟨10, .guard⟩ (by simp) rfl) rfl
        refine ⟨_, 85, true, rfl, rfl, eg, ?_⟩
        rw [if_pos rfl]
        have hcc := hA.const
        clear hA hp
        refine Reg.out_value (v := .bool true) ?_ ⟨rfl, hrefl _, hI⟩
        go_simp
      · refine Reg.StepAt.plain (i := 18) rfl ?_
        intro L ev w hI hk hp hA
        have e85 : ev (.tmp 85) = .bool true := hA.val 10 _ 85 rfl (hp ⟨10, .data⟩ (by simp) rfl) rfl
        have e92 : ev (.tmp 92) = .bool true := hA.val 17 _ 92 rfl (hp ⟨17, .data⟩ (by simp) rfl) rfl
        have hcc := hA.const
        clear hA hp
        refine Reg.out_value (v := .bool true) ?_ ⟨rfl, hrefl _, hI⟩
        go_simp
      · refine Reg.StepAt.plain (i := 19) rfl ?_
        intro L ev w hI hk hp hA
        have e93 : ev (.tmp 93) = .bool true := hA.val 18 _ 93 rfl (hp ⟨18, .data⟩ (by simp) rfl) rfl
        have hcc := hA.const
        clear hA hp
        refine Reg.out_value (v := .bool true) ?_ ⟨rfl, hrefl _, hI⟩
        go_simp
      · refine Reg.StepAt.guarded (i := 20) rfl ?_
        intro L ev w hI hk hp hA
        have e13 : ev (.tmp 13) = .bool false := hA.oldNone 13 (by kernel_rfl)
        have eg : ev (.tmp 94) = .bool true := hA.val 19 _ 94 rfl (hp ⟨19, .guard⟩ (by simp) rfl) rfl
        refine ⟨_, 94, true, rfl, rfl, eg, ?_⟩
        rw [if_pos rfl]
        have hcc := hA.const
        clear hA hp
        refine Reg.out_value (v := .bool false) ?_ ⟨rfl, hrefl _, hI⟩
        go_simp
      · refine Reg.StepAt.guarded (i := 21) rfl ?_
        intro L ev w hI hk hp hA
        have e95 : ev (.tmp 95) = .bool false := hA.val 20 _ 95 rfl (hp ⟨20, .data⟩ (by simp) rfl) rfl
        have eg : ev (.tmp 94) = .bool true := hA.val 19 _ 94 rfl (hp ⟨19, .guard⟩ (by simp) rfl) rfl
        refine ⟨_, 94, true, rfl, rfl, eg, ?_⟩
        rw [if_pos rfl]
        have hcc := hA.const
        clear hA hp
        refine Reg.out_value (v := .bool true) ?_ ⟨rfl, hrefl _, hI⟩
        go_simp
      · refine Reg.StepAt.plain (i := 22) rfl ?_
        intro L ev w hI hk hp hA
        have e94 : ev (.tmp 94) = .bool true := hA.val 19 _ 94 rfl (hp ⟨19, .data⟩ (by simp) rfl) rfl
        have e96 : ev (.tmp 96) = .bool true := hA.val 21 _ 96 rfl (hp ⟨21, .data⟩ (by simp) rfl) rfl
        have hcc := hA.const
        clear hA hp
        refine Reg.out_value (v := .bool true) ?_ ⟨rfl, hrefl _, hI⟩
        go_simp
      · refine Reg.StepAt.plain (i := 23) rfl ?_
        intro L ev w hI hk hp hA
        have e97 : ev (.tmp 97) = .bool true := hA.val 22 _ 97 rfl (hp ⟨22, .data⟩ (by simp) rfl) rfl
        have hcc := hA.const
        clear hA hp
        refine Reg.out_value (v := .bool true) ?_ ⟨rfl, hrefl _, hI⟩
        go_simp
      · refine Reg.StepAt.guarded (i := 24) rfl ?_
        intro L ev w hI hk hp hA
        have e5 : ev (.tmp 5) = .pointer (some ⟨mb, 0, none⟩) := hA.oldNone 5 (by kernel_rfl)
        have eg : ev (.tmp 98) = .bool true := hA.val 23 _ 98 rfl (hp ⟨23, .guard⟩ (by simp) rfl) rfl
        refine ⟨_, 98, true, rfl, rfl, eg, ?_⟩
        rw [if_pos rfl]
        have hcc := hA.const
        clear hA hp
        refine Reg.out_value (v := .pointer (some ⟨mb, 0, none⟩)) ?_ ⟨rfl, hrefl _, hI⟩
        go_simp
      · refine Reg.StepAt.guarded (i := 25) rfl ?_
        intro L ev w hI hk hp hA
        have e99 : ev (.tmp 99) = .pointer (some ⟨mb, 0, none⟩) := hA.val 24 _ 99 rfl (hp ⟨24, .data⟩ (by simp) rfl) rfl
        have eg : ev (.tmp 98) = .bool true := hA.val 23 _ 98 rfl (hp ⟨23, .chain⟩ (by simp) rfl) rfl
        refine ⟨_, 98, true, rfl, rfl, eg, ?_⟩
        rw [if_pos rfl]
        have hcc := hA.const
        have hcf := hA.func
        clear hA hp
        refine Reg.out_call (f := 38) (args := #[.pointer (some ⟨mb, 0, none⟩), .int .i64 0]) (w0 := w) ?_ ?_
        · go_simp
        refine (HRD.out w hI).mono ?_
        rintro e w' ⟨a', c', rfl, hb'⟩
        exact ⟨_, rfl, ⟨a', c', rfl⟩, hb', Reg.Keeps.trans hI hb'⟩
      · refine Reg.StepAt.guarded (i := 26) rfl ?_
        intro L ev w hI hk hp hA
        have e100 : (fun u _ => ∃ a c, u = .agg #[.int .u64 V, .int .i64 N, .slice a 0 c]) (ev (.tmp 100)) w := hA.val 25 _ 100 rfl (hp ⟨25, .data⟩ (by simp) rfl) rfl
        have eg : ev (.tmp 98) = .bool true := hA.val 23 _ 98 rfl (hp ⟨23, .guard⟩ (by simp) rfl) rfl
        refine ⟨_, 98, true, rfl, rfl, eg, ?_⟩
        rw [if_pos rfl]
        have hcc := hA.const
        clear hA hp
        obtain ⟨a', c', e100⟩ := e100
        have ef := fldC_1 (.int .u64 V) (.int .i64 N) (.slice a' 0 c')
        refine Reg.out_value (v := .agg #[.int .i64 N, .slice a' 0 c']) ?_ ⟨⟨a', c', rfl⟩, hrefl _, hI⟩
        go_simp
      · refine Reg.StepAt.guarded (i := 27) rfl ?_
        intro L ev w hI hk hp hA
        have e101 : (fun u _ => ∃ a c, u = .agg #[.int .i64 N, .slice a 0 c]) (ev (.tmp 101)) w := hA.val 26 _ 101 rfl (hp ⟨26, .data⟩ (by simp) rfl) rfl
        have eg : ev (.tmp 98) = .bool true := hA.val 23 _ 98 rfl (hp ⟨23, .guard⟩ (by simp) rfl) rfl
        refine ⟨_, 98, true, rfl, rfl, eg, ?_⟩
        rw [if_pos rfl]
        have hcc := hA.const
        clear hA hp
        obtain ⟨a', c', e101⟩ := e101
        have ef := fldV_1 (.int .i64 N) (.slice a' 0 c')
        refine Reg.out_value (v := .slice a' 0 c') ?_ ⟨⟨a', c', rfl⟩, hrefl _, hI⟩
        go_simp
      · refine Reg.StepAt.guarded (i := 28) rfl ?_
        intro L ev w hI hk hp hA
        have e102 : (fun u _ => ∃ a c, u = .slice a 0 c) (ev (.tmp 102)) w := hA.val 27 _ 102 rfl (hp ⟨27, .data⟩ (by simp) rfl) rfl
        have eg : ev (.tmp 98) = .bool true := hA.val 23 _ 98 rfl (hp ⟨23, .guard⟩ (by simp) rfl) rfl
        refine ⟨_, 98, true, rfl, rfl, eg, ?_⟩
        rw [if_pos rfl]
        have hcc := hA.const
        clear hA hp
        obtain ⟨a', c', e102⟩ := e102
        refine Reg.out_value (v := .int .i64 0) ?_ ⟨rfl, hrefl _, hI⟩
        go_simp
      · refine Reg.StepAt.guarded (i := 29) rfl ?_
        intro L ev w hI hk hp hA
        have e103 : ev (.tmp 103) = .int .i64 0 := hA.val 28 _ 103 rfl (hp ⟨28, .data⟩ (by simp) rfl) rfl
        have eg : ev (.tmp 98) = .bool true := hA.val 23 _ 98 rfl (hp ⟨23, .guard⟩ (by simp) rfl) rfl
        refine ⟨_, 98, true, rfl, rfl, eg, ?_⟩
        rw [if_pos rfl]
        have hcc := hA.const
        clear hA hp
        refine Reg.out_value (v := .bool true) ?_ ⟨rfl, hrefl _, hI⟩
        go_simp
      · refine Reg.StepAt.plain (i := 30) rfl ?_
        intro L ev w hI hk hp hA
        have e98 : ev (.tmp 98) = .bool true := hA.val 23 _ 98 rfl (hp ⟨23, .data⟩ (by simp) rfl) rfl
        have e104 : ev (.tmp 104) = .bool true := hA.val 29 _ 104 rfl (hp ⟨29, .data⟩ (by simp) rfl) rfl
        have hcc := hA.const
        clear hA hp
        refine Reg.out_value (v := .bool true) ?_ ⟨rfl, hrefl _, hI⟩
        go_simp
      · refine Reg.StepAt.plain (i := 31) rfl ?_
        intro L ev w hI hk hp hA
        have e105 : ev (.tmp 105) = .bool true := hA.val 30 _ 105 rfl (hp ⟨30, .data⟩ (by simp) rfl) rfl
        have hcc := hA.const
        clear hA hp
        refine Reg.out_value (v := .bool true) ?_ ⟨rfl, hrefl _, hI⟩
        go_simp
      intro L act wz hall hI hF
      have g75 : act.eval (.tmp 75) = .bool true := hF.val 0 _ 75 rfl (hall 0 (by simp)) rfl
      have g76 : act.eval (.tmp 76) = .bool true := hF.val 1 _ 76 rfl (hall 1 (by simp)) rfl
      have g77 : act.eval (.tmp 77) = .pointer (some ⟨vb, 6, none⟩) := hF.val 2 _ 77 rfl (hall 2 (by simp)) rfl
      have g78 : act.eval (.tmp 78) = .bool true := hF.val 3 _ 78 rfl (hall 3 (by simp)) rfl
      have g79 : act.eval (.tmp 79) = .bool true := hF.val 4 _ 79 rfl (hall 4 (by simp)) rfl
      have g80 : act.eval (.tmp 80) = .bool true := hF.val 5 _ 80 rfl (hall 5 (by simp)) rfl
      have g81 : act.eval (.tmp 81) = .pointer (some ⟨vb, 7, none⟩) := hF.val 6 _ 81 rfl (hall 6 (by simp)) rfl
      have g82 : act.eval (.tmp 82) = .pointer (some ⟨vb, 7, none⟩) := hF.val 7 _ 82 rfl (hall 7 (by simp)) rfl
      have g83 : act.eval (.tmp 83) = .bool true := hF.val 8 _ 83 rfl (hall 8 (by simp)) rfl
      have g84 : act.eval (.tmp 84) = .bool true := hF.val 9 _ 84 rfl (hall 9 (by simp)) rfl
      have g85 : act.eval (.tmp 85) = .bool true := hF.val 10 _ 85 rfl (hall 10 (by simp)) rfl
      have g86 : act.eval (.tmp 86) = .pointer (some ⟨vb, 7, none⟩) := hF.val 11 _ 86 rfl (hall 11 (by simp)) rfl
      have g87 : act.eval (.tmp 87) = .pointer (some ⟨vb, 8, none⟩) := hF.val 12 _ 87 rfl (hall 12 (by simp)) rfl
      have g88 : act.eval (.tmp 88) = .agg #[.float .f64 xb, .int .i64 xv] := hF.val 13 _ 88 rfl (hall 13 (by simp)) rfl
      have g89 : act.eval (.tmp 89) = .agg #[.int .u64 p, .int .i64 xv] := hF.val 14 _ 89 rfl (hall 14 (by simp)) rfl
      have g90 : act.eval (.tmp 90) = .agg #[.int .u64 q, .int .i64 xv] := hF.val 15 _ 90 rfl (hall 15 (by simp)) rfl
      have g91 : act.eval (.tmp 91) = .int .i64 0 := hF.val 16 _ 91 rfl (hall 16 (by simp)) rfl
      have g92 : act.eval (.tmp 92) = .bool true := hF.val 17 _ 92 rfl (hall 17 (by simp)) rfl
      have g93 : act.eval (.tmp 93) = .bool true := hF.val 18 _ 93 rfl (hall 18 (by simp)) rfl
      have g94 : act.eval (.tmp 94) = .bool true := hF.val 19 _ 94 rfl (hall 19 (by simp)) rfl
      have g95 : act.eval (.tmp 95) = .bool false := hF.val 20 _ 95 rfl (hall 20 (by simp)) rfl
      have g96 : act.eval (.tmp 96) = .bool true := hF.val 21 _ 96 rfl (hall 21 (by simp)) rfl
      have g97 : act.eval (.tmp 97) = .bool true := hF.val 22 _ 97 rfl (hall 22 (by simp)) rfl
      have g98 : act.eval (.tmp 98) = .bool true := hF.val 23 _ 98 rfl (hall 23 (by simp)) rfl
      have g99 : act.eval (.tmp 99) = .pointer (some ⟨mb, 0, none⟩) := hF.val 24 _ 99 rfl (hall 24 (by simp)) rfl
      have g100 : (fun u _ => ∃ a c, u = .agg #[.int .u64 V, .int .i64 N, .slice a 0 c]) (act.eval (.tmp 100)) wz := hF.val 25 _ 100 rfl (hall 25 (by simp)) rfl
      have g101 : (fun u _ => ∃ a c, u = .agg #[.int .i64 N, .slice a 0 c]) (act.eval (.tmp 101)) wz := hF.val 26 _ 101 rfl (hall 26 (by simp)) rfl
      have g102 : (fun u _ => ∃ a c, u = .slice a 0 c) (act.eval (.tmp 102)) wz := hF.val 27 _ 102 rfl (hall 27 (by simp)) rfl
      have g103 : act.eval (.tmp 103) = .int .i64 0 := hF.val 28 _ 103 rfl (hall 28 (by simp)) rfl
      have g104 : act.eval (.tmp 104) = .bool true := hF.val 29 _ 104 rfl (hall 29 (by simp)) rfl
      have g105 : act.eval (.tmp 105) = .bool true := hF.val 30 _ 105 rfl (hall 30 (by simp)) rfl
      have g4 : act.eval (.tmp 4) = .bool true := hF.val 31 _ 4 rfl (hall 31 (by simp)) rfl
      have hact := hF.act [75, 76, 77, 78, 79, 80, 81, 82, 83, 84, 85, 86, 87, 88, 89, 90, 91, 92, 93, 94, 95, 96, 97, 98, 99, 100, 101, 102, 103, 104, 105, 4] (by kernel_rfl)
      clear hF hall
      simp only [List.foldl_cons, List.foldl_nil] at hact
      rw [g75, g76, g77, g78, g79, g80, g81, g82, g83, g84, g85, g86, g87, g88, g89, g90, g91, g92, g93, g94, g95, g96, g97, g98, g99, g103, g104, g105, g4] at hact
      clear g75 g76 g77 g78 g79 g80 g81 g82 g83 g84 g85 g86 g87 g88 g89 g90 g91 g92 g93 g94 g95 g96 g97 g98 g99 g103 g104 g105 g4
      generalize act.eval (.tmp 100) = u100 at hact g100
      generalize act.eval (.tmp 101) = u101 at hact g101
      generalize act.eval (.tmp 102) = u102 at hact g102
      simp only [List.setIfInBounds_toArray, List.set_cons_succ, List.set_cons_zero] at hact
      subst hact
      have HF := hidq (HLW.out.trans ((show Below W9.heap.size W9 wz from hI).mono HLW.out.size))
      clear hI
      go_wp2_with fail
      go_ret
      exact ⟨rfl, HF.out⟩
end Go.Proofs.YtdghgmaoamjnlaaGreat
