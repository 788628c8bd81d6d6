/-
  Layer 12: the law of what isn't asked of a kind.
-/
import Derived.Test.YtbcmilfajeanbaaKit8All
import Derived.Test.YtbcmilfajeanbaaRSame12All
import Derived.Test.YtbcmilfajeanbaaOp6rAll
namespace Go.Proofs.Ytbcmilfajeanbaa
open Go.RowKit Go.Sort

theorem ofK_any (kd pa : Int) (b : Nat) (O : Nat → Prop) (w : World) (h : MemAt w b O Mem.empty) :
    Calls Try.prog 8 #[.int .i64 kd, .int .i64 pa, .pointer (some ⟨b, 0, none⟩)] w fun e w' => (∃ k a n c N, e = .returned (.tuple #[.agg #[.int .i64 k, .slice a n c, .int .i64 N], .int .i64 (legal kd pa)]) ∧ ((legal kd pa = 0 ∧ k = kd) ∨ (¬ legal kd pa = 0 ∧ k = 0))) ∧ Below w.heap.size w w' := by
  by_cases hL : legal kd pa = 0
  · refine (ofnew_any kd pa b O w hL h).mono ?_
    rintro e w' ⟨⟨a, n, c, N, rfl⟩, hb⟩
    exact ⟨⟨kd, a, n, c, N, by rw [hL], .inl ⟨hL, rfl⟩⟩, hb⟩
  · refine (ofno_any kd pa b w hL).mono ?_
    rintro e w' ⟨rfl, hb⟩
    exact ⟨⟨0, none, 0, 0, 0, rfl, .inr ⟨hL, rfl⟩⟩, hb⟩
theorem mayF_chk {kd o v : Int} (h : chk kd o v = 0) : mayF o = decide (o < 5) := by
  have hr : opFrom kd ≤ o ∧ o ≤ opTo kd := by
    rcases Classical.em (opFrom kd ≤ o ∧ o ≤ opTo kd) with e | e
    · exact e
    · rw [chk6 e] at h; cases h
  have h2 : opTo kd ≤ 7 := by unfold opTo; split <;> (try split) <;> (try split) <;> (try split) <;> omega
  unfold mayF
  by_cases h5 : o < 5
  · simp [h5]; omega
  · simp [h5]; omega
theorem eqI_canon {a b : It} (ha : a.1 < 18446744073709551616) (hb : b.1 < 18446744073709551616) : eqI a b = eqK (mkKI a.1 a.2) (mkKI b.1 b.2) := by
  unfold eqI eqK
  rw [mkKI_b ha, mkKI_b hb, mkKI_v ha, mkKI_v hb]
  unfold cmpN key
  rw [cbits_idem, cbits_idem]
theorem same_one {a b : It} (ha : a.1 < 18446744073709551616) (hb : b.1 < 18446744073709551616) : sameI [a] [b] = sameK [mkKI a.1 a.2] [mkKI b.1 b.2] := by
  unfold sameI sameK
  refine decide_eq_decide.2 ⟨fun h => ⟨rfl, fun k hk => ?_⟩, fun h => ⟨rfl, fun k hk => ?_⟩⟩
  · have hk0 : k = 0 := by simpa using hk
    subst hk0
    have := h.2 0 (by simp)
    rw [show eqI ([a] : List It)[0]! ([b] : List It)[0]! = eqI a b from rfl, eqI_canon ha hb] at this
    exact this
  · have hk0 : k = 0 := by simpa using hk
    subst hk0
    have := h.2 0 (by simp)
    rw [show eqI ([a] : List It)[0]! ([b] : List It)[0]! = eqI a b from rfl, eqI_canon ha hb]
    exact this

/-- What the two values hold. -/
def vkW (m n : Nat) (xv yv : Int) (i : Nat) : Nat × List Value := if i = 0 then (1, [.float .f64 m, .int .i64 xv]) else (1, [.float .f64 n, .int .i64 yv])
def vk10R (_b10 _b11 : Nat) (p q xv yv : Int) (m n : Nat) : List (Value → Bx.Gh → World → Prop) :=
  [fun v _ _ => v = .agg #[.int .u64 p, .int .i64 xv],
   fun v _ _ => v = .agg #[.float .f64 m, .int .i64 xv],
   fun v x w => Bx.Free 2 1 [.float .f64 m, .int .i64 xv] v x w,
   fun v x w => Bx.Val3 1 [.float .f64 m, .int .i64 xv] v x w,
   fun v _ _ => v = .agg #[.int .u64 q, .int .i64 yv],
   fun v _ _ => v = .agg #[.float .f64 n, .int .i64 yv],
   fun v x w => Bx.Free 2 1 [.float .f64 n, .int .i64 yv] v x w,
   fun v x w => Bx.Val3 1 [.float .f64 n, .int .i64 yv] v x w,
   fun v x _ => ∃ c, x 0 = some c ∧ v = .pointer (some ⟨c, 0, none⟩),
   fun v x _ => ∃ c, x 1 = some c ∧ v = .pointer (some ⟨c, 0, none⟩),
   fun _ _ _ => True,
   fun _ _ _ => True]
theorem vk10R_kept (b10 b11 : Nat) (p q xv yv : Int) (m n : Nat) : Reg.GAllKept Bx.Pres (vk10R b10 b11 p q xv yv m n) :=
  ⟨(fun _ _ _ _ _ _ h => h), (fun _ _ _ _ _ _ h => h), (fun _ _ _ _ _ hp h => h.kept hp), (fun _ _ _ _ _ hp h => h.kept hp), (fun _ _ _ _ _ _ h => h), (fun _ _ _ _ _ _ h => h), (fun _ _ _ _ _ hp h => h.kept hp), (fun _ _ _ _ _ hp h => h.kept hp), (fun _ _ _ _ _ hp ⟨c, h1, h2⟩ => ⟨c, hp.old _ _ h1, h2⟩), (fun _ _ _ _ _ hp ⟨c, h1, h2⟩ => ⟨c, hp.old _ _ h1, h2⟩), (fun _ _ _ _ _ _ _ => trivial), (fun _ _ _ _ _ _ _ => trivial), trivial⟩
def vk11R (_b18 _b19 _b15 : Nat) (a8 a9 : Option Addr) (c8 c9 : Nat) (kd d : Int) (s : Bool) (K0 K1 : KI) : List (Value → World → Prop) :=
  [fun v _ => v = .agg #[.int .i64 0, .slice a8 1 c8, .int .i64 0],
   fun v _ => v = .agg #[.int .i64 0, .slice a9 1 c9, .int .i64 0],
   fun v _ => v = .bool s,
   fun v _ => v = .agg #[.int .i64 0, .slice a8 1 c8, .int .i64 0],
   fun v w => ∃ a c, v = .agg #[.int .i64 0, .slice a 1 c, .int .i64 0] ∧ SlAt 2 w a c 1 (flatR [K0]),
   fun v _ => v = .agg #[.int .i64 0, .slice a9 1 c9, .int .i64 0],
   fun v w => ∃ a c, v = .agg #[.int .i64 0, .slice a 1 c, .int .i64 0] ∧ SlAt 2 w a c 1 (flatR [K1]),
   fun v _ => v = .int .i64 d,
   fun v _ => v = .bool s,
   fun v _ => v = .bool true,
   fun v _ => v = .bool true,
   fun v _ => v = .agg #[.int .i64 0, .slice a8 1 c8, .int .i64 0],
   fun v _ => v = .agg #[.int .i64 0, .slice a8 1 c8, .int .i64 0],
   fun v _ => v = .bool true,
   fun v _ => v = .bool true,
   fun v _ => v = .bool true,
   fun v _ => v = .agg #[.int .i64 0, .slice a8 1 c8, .int .i64 0],
   fun v _ => v = .agg #[.int .i64 kd, .slice none 0 0, .int .i64 5],
   fun v _ => v = .bool false,
   fun v _ => v = .bool true,
   fun v _ => v = .bool true,
   fun v _ => v = .bool true]
theorem vk11R_kept (b18 b19 b15 : Nat) (a8 a9 : Option Addr) (c8 c9 : Nat) (kd d : Int) (s : Bool) (K0 K1 : KI) : Reg.AllKept Reg.Keeps (vk11R b18 b19 b15 a8 a9 c8 c9 kd d s K0 K1) :=
  ⟨(fun _ _ _ _ h => h), (fun _ _ _ _ h => h), (fun _ _ _ _ h => h), (fun _ _ _ _ h => h), (fun v w w' hk h => by obtain ⟨a, c, h1, h2⟩ := h; exact ⟨a, c, h1, h2.below hk⟩), (fun _ _ _ _ h => h), (fun v w w' hk h => by obtain ⟨a, c, h1, h2⟩ := h; exact ⟨a, c, h1, h2.below hk⟩), (fun _ _ _ _ h => h), (fun _ _ _ _ h => h), (fun _ _ _ _ h => h), (fun _ _ _ _ h => h), (fun _ _ _ _ h => h), (fun _ _ _ _ h => h), (fun _ _ _ _ h => h), (fun _ _ _ _ h => h), (fun _ _ _ _ h => h), (fun _ _ _ _ h => h), (fun _ _ _ _ h => h), (fun _ _ _ _ h => h), (fun _ _ _ _ h => h), (fun _ _ _ _ h => h), (fun _ _ _ _ h => h), trivial⟩

set_option maxRecDepth 20000 in
set_option maxHeartbeats 8000000 in
theorem kinds_any (kd pa o val p xv q yv : Int) (hp : 0 ≤ p ∧ p < 18446744073709551616) (hq : 0 ≤ q ∧ q < 18446744073709551616) (w : World) :
    Calls Try.prog 3 #[.int .i64 kd, .int .i64 pa, .int .i64 o, .int .i64 val, .agg #[.int .u64 p, .int .i64 xv], .agg #[.int .u64 q, .int .i64 yv]] w fun e w' => e = .returned (.bool true) ∧ Below w.heap.size w w' := by
  have hsf := run_store_float (P := Try.prog)
  have HPQ := hidq (And.intro hp hq)
  clear hp hq
  obtain ⟨b10, hb10⟩ : ∃ b, w.heap.size = b := ⟨_, rfl⟩
  obtain ⟨b11, hb11⟩ : ∃ b, b10 + 1 = b := ⟨_, rfl⟩
  have HN := hidq (And.intro hb10 hb11)
  obtain ⟨W1, hW1⟩ : ∃ W1, (w.alloc (.cells #[.int .u64 p, .int .i64 xv] 24)).alloc (.cells #[.int .u64 q, .int .i64 yv] 24) = W1 := ⟨_, rfl⟩
  have H1 := hidq (show Below w.heap.size w W1 ∧ BoxAt W1 b10 [.int .u64 p, .int .i64 xv] ∧ BoxAt W1 b11 [.int .u64 q, .int .i64 yv] from by
    have al : ∀ (w : World) (o : Obj), Below w.heap.size w (w.alloc o) := fun w o => (Below.refl _ _).alloc (Nat.le_refl _) _
    have x0 := (BoxAt.new w [.int .u64 p, .int .i64 xv] 24).below (al _ (.cells #[.int .u64 q, .int .i64 yv] 24))
    have x1 := BoxAt.new (w.alloc (.cells #[.int .u64 p, .int .i64 xv] 24)) [.int .u64 q, .int .i64 yv] 24
    rw [World.size_alloc, hb10, hb11] at x1
    rw [hb10] at x0
    rw [← hW1]
    exact ⟨(al _ _).trans ((al _ _).mono (by simp)), x0, x1⟩)
  have HW1 := hidq hW1
  clear hb10 hb11 hW1
  go_enter Try.func3, Try.ntmps3
  go_wp2_with fail
  rw [show (w.alloc (.cells #[.int .u64 p, .int .i64 xv] 24)).alloc (.cells #[.int .u64 q, .int .i64 yv] 24) = W1 from HW1.out, HN.out.1, HN.out.2]
  refine (awake12_any W1).mono ?_
  rintro e w1 ⟨rfl, hb1⟩
  have H2 := hidq (show Below w.heap.size w w1 ∧ BoxAt w1 b10 [.int .u64 p, .int .i64 xv] ∧ BoxAt w1 b11 [.int .u64 q, .int .i64 yv] from ⟨H1.out.1.trans (hb1.mono H1.out.1.size), H1.out.2.1.below hb1, H1.out.2.2.below hb1⟩)
  clear hb1 H1 HW1
  go_wp2_with fail
  refine (new5_any w1).mono ?_
  rintro e w2 ⟨rfl, hM2, hb2⟩
  have hOf := hidq (ofK_any kd pa w1.heap.size _ w2 hM2)
  have H3 := hidq (show Below w.heap.size w w2 ∧ BoxAt w2 b10 [.int .u64 p, .int .i64 xv] ∧ BoxAt w2 b11 [.int .u64 q, .int .i64 yv] from ⟨H2.out.1.trans (hb2.mono H2.out.1.size), H2.out.2.1.below hb2, H2.out.2.2.below hb2⟩)
  clear hM2 hb2 H2
  go_wp2_with fail
  refine hOf.out.mono ?_
  rintro e w3 ⟨⟨k3, a3, n3, c3, N3, rfl, hk3⟩, hb3⟩
  obtain ⟨b13, hb13⟩ : ∃ b, w3.heap.size = b := ⟨_, rfl⟩
  have HK := hidq hk3
  have H4 := hidq (show Below w.heap.size w w3 ∧ BoxAt w3 b10 [.int .u64 p, .int .i64 xv] ∧ BoxAt w3 b11 [.int .u64 q, .int .i64 yv] ∧ w3.heap.size = b13 from ⟨H3.out.1.trans (hb3.mono H3.out.1.size), H3.out.2.1.below hb3, H3.out.2.2.below hb3, hb13⟩)
  clear hb3 H3 hk3 hOf
  go_upto_region 4 with fail
  try rw [hb13]
  obtain ⟨W4, hW4⟩ : ∃ W4, w3.alloc (.cells #[.int .i64 k3, .slice a3 n3 c3, .int .i64 N3] 28) = W4 := ⟨_, rfl⟩
  rw [hW4]
  have H5 := hidq (show Below w.heap.size w W4 ∧ BoxAt W4 b10 [.int .u64 p, .int .i64 xv] ∧ BoxAt W4 b11 [.int .u64 q, .int .i64 yv] ∧ BoxAt W4 b13 [.int .i64 k3, .slice a3 n3 c3, .int .i64 N3] from by
    have al : Below w3.heap.size w3 W4 := by rw [← hW4]; exact (Below.refl _ _).alloc (Nat.le_refl _) _
    obtain ⟨q1, q2, q3, q4⟩ := H4.out
    exact ⟨q1.trans (al.mono q1.size), q2.below al, q3.below al, by rw [← hW4, ← q4]; exact BoxAt.new w3 _ _⟩)
  clear hW4 H4 hb13
  have x13 := (H5.out.2.2.2.get 0 _ rfl).1
  have l13 := H5.out.2.2.2.lt
  have hLg := hidq (fun w => rlegal6_any kd pa w)
  obtain ⟨r, hr⟩ : ∃ r, legal kd pa = r := ⟨_, rfl⟩
  rw [hr] at HK hLg ⊢
  clear hr
  go_cut [52] from 22 (fun s52 wx => s52 = .bool false ∧ wx = W4)
  case first =>
    rcases HK.out with ⟨h0, h1⟩ | ⟨h0, h1⟩
    · subst h0 h1
      go_wp2_with (go_at_call 10; refine (hLg.out _).mono ?_; rintro e w5 ⟨rfl, hw⟩; replace hw := hw.symm; subst hw)
      go_meet
      case rel => exact ⟨rfl, rfl⟩
    · subst h1
      have n1 : (r != 0) = true := by simpa using h0
      have n2 : (r == 0) = false := by simpa using h0
      clear h0
      go_wp2_with (go_at_call 10; refine (hLg.out _).mono ?_; rintro e w5 ⟨rfl, hw⟩; replace hw := hw.symm; subst hw)
      go_meet
      case rel => exact ⟨rfl, rfl⟩
  case rest =>
  obtain ⟨rfl, rfl⟩ := hcut
  clear x13 l13 hLg HK
  obtain ⟨b15, hb15⟩ : ∃ b, wc.heap.size = b := ⟨_, rfl⟩
  obtain ⟨W6, hW6⟩ : ∃ W6, wc.alloc (.cells #[.int .i64 kd, .slice none 0 0, .int .i64 5] 28) = W6 := ⟨_, rfl⟩
  have H6 := hidq (show Below w.heap.size w W6 ∧ BoxAt W6 b10 [.int .u64 p, .int .i64 xv] ∧ BoxAt W6 b11 [.int .u64 q, .int .i64 yv] ∧ BoxAt W6 b15 [.int .i64 kd, .slice none 0 0, .int .i64 5] from by
    have al : Below wc.heap.size wc W6 := by rw [← hW6]; exact (Below.refl _ _).alloc (Nat.le_refl _) _
    obtain ⟨q1, q2, q3, _⟩ := H5.out
    exact ⟨q1.trans (al.mono q1.size), q2.below al, q3.below al, by rw [← hW6, ← hb15]; exact BoxAt.new wc _ _⟩)
  have HW6 := hidq (And.intro hW6 hb15)
  clear hW6 hb15 H5
  go_upto_region 7 with fail
  rw [HW6.out.1, HW6.out.2]
  obtain ⟨⟨x0, y0⟩, ⟨x1, y1⟩, ⟨x2, y2⟩⟩ := three_at H6.out.2.2.2
  have l15 := H6.out.2.2.2.lt
  have hAf := hidq (after_any kd 5 o val 0 0 0 0 1 0 0 false none 0 0 [] W6 (SlAt.nil _ _) (by decide) (.inl rfl))
  clear HW6
  go_wp2_with fail
  refine hAf.out.mono ?_
  rintro e w7 ⟨a7, c7, rfl, hS7, hf7, hb7⟩
  obtain ⟨b16, hb16⟩ : ∃ b, w7.heap.size = b := ⟨_, rfl⟩
  obtain ⟨m, hm⟩ : ∃ m, (decide (chk kd o val = 0) && mayF o) = m := ⟨_, rfl⟩
  rw [hm]
  have HM := hidq hm
  have H7 := hidq (show Below w.heap.size w w7 ∧ BoxAt w7 b10 [.int .u64 p, .int .i64 xv] ∧ BoxAt w7 b11 [.int .u64 q, .int .i64 yv] ∧ BoxAt w7 b15 [.int .i64 kd, .slice none 0 0, .int .i64 5] ∧ SlAt 2 w7 a7 c7 0 [] ∧ w7.heap.size = b16 from by
    obtain ⟨q1, q2, q3, q4⟩ := H6.out
    exact ⟨q1.trans (hb7.mono q1.size), q2.below hb7, q3.below hb7, q4.below hb7, hS7, hb16⟩)
  clear hS7 hf7 hb7 hm hb16 x0 y0 x1 y1 x2 y2 l15 hAf H6
  go_upto_region 8 with fail
  try rw [H7.out.2.2.2.2.2]
  obtain ⟨W8, hW8⟩ : ∃ W8, w7.alloc (.cells #[.int .i64 kd, .slice a7 0 c7, .int .i64 5] 28) = W8 := ⟨_, rfl⟩
  rw [hW8]
  have H8 := hidq (show Below w.heap.size w W8 ∧ BoxAt W8 b10 [.int .u64 p, .int .i64 xv] ∧ BoxAt W8 b11 [.int .u64 q, .int .i64 yv] ∧ BoxAt W8 b15 [.int .i64 kd, .slice none 0 0, .int .i64 5] ∧ BoxAt W8 b16 [.int .i64 kd, .slice a7 0 c7, .int .i64 5] ∧ SlAt 2 W8 a7 c7 0 [] from by
    have al : Below w7.heap.size w7 W8 := by rw [← hW8]; exact (Below.refl _ _).alloc (Nat.le_refl _) _
    obtain ⟨q1, q2, q3, q4, q5, q6⟩ := H7.out
    exact ⟨q1.trans (al.mono q1.size), q2.below al, q3.below al, q4.below al, by rw [← hW8, ← q6]; exact BoxAt.new w7 _ _, q5.below al⟩)
  clear hW8 H7
  have hSm := hidq (wsameI_any kd kd 5 5 a7 none c7 0 0 0 [] [] W8 rfl rfl H8.out.2.2.2.2.2 (SlAt.nil _ _) (by decide) (fun k hk => absurd hk (Nat.not_lt_zero _)) (fun k hk => absurd hk (Nat.not_lt_zero _)))
  rw [show sameV12 kd kd 5 5 [] [] = true by unfold sameV12 sameI; simp] at hSm
  have hCk := hidq (fun w => rcheck_any kd o val w)
  obtain ⟨⟨x0, y0⟩, ⟨x1, y1⟩, ⟨x2, y2⟩⟩ := three_at H8.out.2.2.2.1
  obtain ⟨⟨t0, s0⟩, ⟨t1, s1⟩, ⟨t2, s2⟩⟩ := three_at H8.out.2.2.2.2.1
  have l15 := H8.out.2.2.2.1.lt
  have l16 := H8.out.2.2.2.2.1.lt
  go_cut [81] from 53 (fun s81 wx => s81 = .bool false ∧ Hid (Below W8.heap.size W8 wx))
  case first =>
    have hmF := fun h => mayF_chk (kd := kd) (o := o) (v := val) h
    have HM' := HM.out
    obtain ⟨c, hc⟩ : ∃ c, chk kd o val = c := ⟨_, rfl⟩
    rw [hc] at hCk hmF HM'
    clear hc HM
    by_cases h0 : c = 0
    · subst h0
      rw [hmF rfl] at HM'
      by_cases h5 : o < 5
      · have e : m = true := by rw [← HM']; simp [h5]
        subst e
        clear HM' hmF
        go_wp2_with (first
          | (go_at_call 12; refine hSm.out.mono ?_; rintro e w9 ⟨rfl, hb9⟩; have HB9 := hidq hb9; clear hb9)
          | (go_at_call 13; refine (hCk.out _).mono ?_; rintro e w10 ⟨rfl, hw⟩; replace hw := hw.symm; subst hw))
        go_meet
        case rel => exact ⟨rfl, HB9⟩
      · have e : m = false := by rw [← HM']; simp [h5]
        subst e
        clear HM' hmF
        have d5 : decide (o < 5) = false := decide_eq_false h5
        go_wp2_with (first
          | (go_at_call 12; refine hSm.out.mono ?_; rintro e w9 ⟨rfl, hb9⟩; have HB9 := hidq hb9; clear hb9)
          | (go_at_call 13; refine (hCk.out _).mono ?_; rintro e w10 ⟨rfl, hw⟩; replace hw := hw.symm; subst hw))
        go_meet
        case rel => exact ⟨rfl, HB9⟩
    · have e : m = false := by rw [← HM', decide_eq_false h0]; rfl
      subst e
      have n0 : (c == 0) = false := by simpa using h0
      clear HM' hmF h0
      go_wp2_with (first
        | (go_at_call 12; refine hSm.out.mono ?_; rintro e w9 ⟨rfl, hb9⟩; have HB9 := hidq hb9; clear hb9)
        | (go_at_call 13; refine (hCk.out _).mono ?_; rintro e w10 ⟨rfl, hw⟩; replace hw := hw.symm; subst hw))
      go_meet
      case rel => exact ⟨rfl, HB9⟩
  case rest =>
  obtain ⟨rfl, HB9⟩ := hcut
  clear x0 y0 x1 y1 x2 y2 t0 s0 t1 s1 t2 s2 l15 l16 hSm hCk HM
  have H10 := hidq (show Below w.heap.size w wc ∧ BoxAt wc b10 [.int .u64 p, .int .i64 xv] ∧ BoxAt wc b11 [.int .u64 q, .int .i64 yv] ∧ BoxAt wc b15 [.int .i64 kd, .slice none 0 0, .int .i64 5] from by
    obtain ⟨q1, q2, q3, q4, _⟩ := H8.out
    exact ⟨q1.trans (HB9.out.mono q1.size), q2.below HB9.out, q3.below HB9.out, q4.below HB9.out⟩)
  clear HB9 H8
  obtain ⟨W10, hW10⟩ : ∃ W10, wc = W10 := ⟨_, rfl⟩
  subst hW10
  have HO0 := hidq (fun w => own_any p xv w)
  have HO1 := hidq (fun w => own_any q yv w)
  obtain ⟨m, hm⟩ : ∃ m, nf p = m := ⟨_, rfl⟩
  obtain ⟨n, hn⟩ : ∃ n, nf q = n := ⟨_, rfl⟩
  rw [hm] at HO0
  rw [hn] at HO1
  have HMN := hidq (show m < 18446744073709551616 ∧ n < 18446744073709551616 from ⟨by rw [← hm]; exact nf_lt HPQ.out.1.2, by rw [← hn]; exact nf_lt HPQ.out.2.2⟩)
  clear hm hn HPQ HN
  go_upto_region 10 with fail
  have FC10 := hidq (fun W (hW : Below wc.heap.size wc W) => (show W.cell? ⟨b10, 0, none⟩ = some (.int .u64 p) ∧ W.cell? ⟨b10, 1, none⟩ = some (.int .i64 xv) ∧ W.cell? ⟨b11, 0, none⟩ = some (.int .u64 q) ∧ W.cell? ⟨b11, 1, none⟩ = some (.int .i64 yv) from by
    have q1 := H10.out.2.1.below hW
    have q2 := H10.out.2.2.1.below hW
    exact ⟨(q1.get 0 _ rfl).1, (q1.get 1 _ rfl).1, (q2.get 0 _ rfl).1, (q2.get 1 _ rfl).1⟩))
  refine Reg.wp_region_ghost (Reg.gofList (vk10R b10 b11 p q xv yv m n)) Bx.Pres (Bx.BI3 wc 8 10 (vkW m n xv yv)) (fun _ => none) (by kernel_rfl) (by kernel_rfl) (Reg.GAllKept.at _ (vk10R_kept b10 b11 p q xv yv m n)) (Bx.BI3.start _ _ _ _ _) ⟨?_, ?_, ?_, ?_, ?_, ?_, ?_, ?_, ?_, ?_, ?_, ?_, trivial⟩ ?_
  · refine Reg.GStepAt.plain (i := 0) rfl ?_
    intro x L ev w hI hk hp hA
    have e10 : ev (.tmp 10) = .pointer (some ⟨b10, 0, none⟩) := hA.oldNone 10 (by kernel_rfl)
    have hcc := hA.const
    clear hA hp
    obtain ⟨f0, f1, f2, f3⟩ := FC10.out w hI.bel
    refine Reg.out_value (v := .agg #[.int .u64 p, .int .i64 xv]) ?_ ⟨x, rfl, Bx.Pres.same (But.refl _ _), hI.same 0 (by decide) (by decide) (But.refl _ _)⟩
    go_simp
  · refine Reg.GStepAt.plain (i := 1) rfl ?_
    intro x L ev w hI hk hp hA
    have e82 : ev (.tmp 82) = .agg #[.int .u64 p, .int .i64 xv] := hA.val 0 _ 82 rfl (hp ⟨0, .data⟩ (by simp) rfl) rfl
    have hcc := hA.const
    have hcf := hA.func
    clear hA hp
    refine Reg.out_call (f := 14) (args := #[.agg #[.int .u64 p, .int .i64 xv]]) (w0 := w) ?_ ?_
    · go_simp
    refine (HO0.out w).mono ?_
    rintro e w' ⟨rfl, hb'⟩
    exact ⟨_, rfl, x, rfl, Bx.Pres.same (But.of_below hb'), hI.same 1 (by decide) (by decide) (But.of_below hb')⟩
  · refine Reg.GStepAt.plain (i := 2) rfl ?_
    intro x L ev w hI hk hp hA
    have e83 : ev (.tmp 83) = .agg #[.float .f64 m, .int .i64 xv] := hA.val 1 _ 83 rfl (hp ⟨1, .data⟩ (by simp) rfl) rfl
    have hcc := hA.const
    clear hA hp
    have hfl := Flat.new w [.float .f64 m, .int .i64 xv] 39 2 1 rfl (by decide) (fun u hu => by simp at hu; rcases hu with rfl | rfl <;> rfl)
    have hno : ∀ i, x i ≠ some w.heap.size := fun i e => by have := hI.lt e; omega
    refine Reg.out_new (v := .slice (some ⟨w.heap.size, 0, none⟩) 1 1) (w' := w.alloc (.cells #[.float .f64 m, .int .i64 xv] 39)) ?_ ⟨x, ⟨_, _, rfl, .inr ⟨_, rfl, hfl⟩, fun j hj i e => by obtain ⟨z, hz, rfl⟩ := hj; cases hz; exact hno i e⟩, Bx.Pres.same ((But.refl _ _).alloc _), hI.same 2 (by decide) (by decide) ((But.refl _ _).alloc _)⟩
    clear hI hk hfl hno
    go_simp
  · refine Reg.GStepAt.plain (i := 3) rfl ?_
    intro x L ev w hI hk hp hA
    have e84 : (fun v x w => Bx.Free 2 1 [.float .f64 m, .int .i64 xv] v x w) (ev (.tmp 84)) x w := hA.val 2 _ 84 rfl (hp ⟨2, .data⟩ (by simp) rfl) rfl
    have hcc := hA.const
    clear hA hp
    obtain ⟨a, c, e84, hS, hF⟩ : Bx.Free 2 1 [.float .f64 m, .int .i64 xv] (ev (.tmp 84)) x w := e84
    refine Reg.out_value (v := .agg #[.int .i64 0, .slice a 1 c, .int .i64 0]) ?_ ⟨x, ⟨_, rfl, a, c, rfl, hS, hF⟩, Bx.Pres.same (But.refl _ _), hI.same 3 (by decide) (by decide) (But.refl _ _)⟩
    clear hI hk hS hF
    go_simp
  · refine Reg.GStepAt.plain (i := 4) rfl ?_
    intro x L ev w hI hk hp hA
    have e11 : ev (.tmp 11) = .pointer (some ⟨b11, 0, none⟩) := hA.oldNone 11 (by kernel_rfl)
    have hcc := hA.const
    clear hA hp
    obtain ⟨f0, f1, f2, f3⟩ := FC10.out w hI.bel
    refine Reg.out_value (v := .agg #[.int .u64 q, .int .i64 yv]) ?_ ⟨x, rfl, Bx.Pres.same (But.refl _ _), hI.same 4 (by decide) (by decide) (But.refl _ _)⟩
    go_simp
  · refine Reg.GStepAt.plain (i := 5) rfl ?_
    intro x L ev w hI hk hp hA
    have e86 : ev (.tmp 86) = .agg #[.int .u64 q, .int .i64 yv] := hA.val 4 _ 86 rfl (hp ⟨4, .data⟩ (by simp) rfl) rfl
    have hcc := hA.const
    have hcf := hA.func
    clear hA hp
    refine Reg.out_call (f := 14) (args := #[.agg #[.int .u64 q, .int .i64 yv]]) (w0 := w) ?_ ?_
    · go_simp
    refine (HO1.out w).mono ?_
    rintro e w' ⟨rfl, hb'⟩
    exact ⟨_, rfl, x, rfl, Bx.Pres.same (But.of_below hb'), hI.same 5 (by decide) (by decide) (But.of_below hb')⟩
  · refine Reg.GStepAt.plain (i := 6) rfl ?_
    intro x L ev w hI hk hp hA
    have e87 : ev (.tmp 87) = .agg #[.float .f64 n, .int .i64 yv] := hA.val 5 _ 87 rfl (hp ⟨5, .data⟩ (by simp) rfl) rfl
    have hcc := hA.const
    clear hA hp
    have hfl := Flat.new w [.float .f64 n, .int .i64 yv] 39 2 1 rfl (by decide) (fun u hu => by simp at hu; rcases hu with rfl | rfl <;> rfl)
    have hno : ∀ i, x i ≠ some w.heap.size := fun i e => by have := hI.lt e; omega
    refine Reg.out_new (v := .slice (some ⟨w.heap.size, 0, none⟩) 1 1) (w' := w.alloc (.cells #[.float .f64 n, .int .i64 yv] 39)) ?_ ⟨x, ⟨_, _, rfl, .inr ⟨_, rfl, hfl⟩, fun j hj i e => by obtain ⟨z, hz, rfl⟩ := hj; cases hz; exact hno i e⟩, Bx.Pres.same ((But.refl _ _).alloc _), hI.same 6 (by decide) (by decide) ((But.refl _ _).alloc _)⟩
    clear hI hk hfl hno
    go_simp
  · refine Reg.GStepAt.plain (i := 7) rfl ?_
    intro x L ev w hI hk hp hA
    have e88 : (fun v x w => Bx.Free 2 1 [.float .f64 n, .int .i64 yv] v x w) (ev (.tmp 88)) x w := hA.val 6 _ 88 rfl (hp ⟨6, .data⟩ (by simp) rfl) rfl
    have hcc := hA.const
    clear hA hp
    obtain ⟨a, c, e88, hS, hF⟩ : Bx.Free 2 1 [.float .f64 n, .int .i64 yv] (ev (.tmp 88)) x w := e88
    refine Reg.out_value (v := .agg #[.int .i64 0, .slice a 1 c, .int .i64 0]) ?_ ⟨x, ⟨_, rfl, a, c, rfl, hS, hF⟩, Bx.Pres.same (But.refl _ _), hI.same 7 (by decide) (by decide) (But.refl _ _)⟩
    clear hI hk hS hF
    go_simp
  · refine Reg.GStepAt.plain (i := 8) rfl ?_
    intro x L ev w hI hk hp hA
    have hcc := hA.const
    clear hA hp
    obtain ⟨h1, h2⟩ := hI.new 0 (by decide) (by decide) hk (.int .i64 0) (.slice none 0 0) (.int .i64 0) 28
    refine Reg.out_new (v := .pointer (some ⟨w.heap.size, 0, none⟩)) (w' := w.alloc (.cells #[.int .i64 0, .slice none 0 0, .int .i64 0] 28)) ?_ ⟨_, ⟨w.heap.size, if_pos rfl, rfl⟩, h2, h1⟩
    clear h1 h2 hI hk
    go_simp
  · refine Reg.GStepAt.plain (i := 9) rfl ?_
    intro x L ev w hI hk hp hA
    have hcc := hA.const
    clear hA hp
    obtain ⟨h1, h2⟩ := hI.new 1 (by decide) (by decide) hk (.int .i64 0) (.slice none 0 0) (.int .i64 0) 28
    refine Reg.out_new (v := .pointer (some ⟨w.heap.size, 0, none⟩)) (w' := w.alloc (.cells #[.int .i64 0, .slice none 0 0, .int .i64 0] 28)) ?_ ⟨_, ⟨w.heap.size, if_pos rfl, rfl⟩, h2, h1⟩
    clear h1 h2 hI hk
    go_simp
  · refine Reg.GStepAt.plain (i := 10) rfl ?_
    intro x L ev w hI hk hp hA
    have e18 : (fun v x _ => ∃ c, x 0 = some c ∧ v = .pointer (some ⟨c, 0, none⟩)) (ev (.tmp 18)) x w := hA.val 8 _ 18 rfl (hp ⟨8, .data⟩ (by simp) rfl) rfl
    have e85 : (fun v x w => Bx.Val3 1 [.float .f64 m, .int .i64 xv] v x w) (ev (.tmp 85)) x w := hA.val 3 _ 85 rfl (hp ⟨3, .data⟩ (by simp) rfl) rfl
    have hcc := hA.const
    clear hA hp
    obtain ⟨c, hc, e18⟩ := e18
    obtain ⟨s, e85, hv⟩ := e85
    have hst := hI.store 0 c (by decide) (by decide) hc s hv
    obtain ⟨aa, cc, rfl, _, _⟩ := hv
    obtain ⟨_, u0, u1, u2, hX⟩ := hI.box _ _ hc
    obtain ⟨⟨x0, z0⟩, ⟨x1, z1⟩, ⟨x2, z2⟩⟩ := three_at hX
    have hxl := hX.lt
    have e85' : ev (.tmp 85) = .agg #[.int .i64 0, .slice aa 1 cc, .int .i64 0] := e85
    clear e85
    refine Bx.out_skip (w' := ((w.setCell ⟨c, 0, none⟩ (.int .i64 0)).setCell ⟨c, 1, none⟩ (.slice aa 1 cc)).setCell ⟨c, 2, none⟩ (.int .i64 0)) ?_ ⟨x, trivial, hst.2, hst.1⟩
    clear hst hI hk hc hX
    go_simp
  · refine Reg.GStepAt.plain (i := 11) rfl ?_
    intro x L ev w hI hk hp hA
    have e19 : (fun v x _ => ∃ c, x 1 = some c ∧ v = .pointer (some ⟨c, 0, none⟩)) (ev (.tmp 19)) x w := hA.val 9 _ 19 rfl (hp ⟨9, .data⟩ (by simp) rfl) rfl
    have e89 : (fun v x w => Bx.Val3 1 [.float .f64 n, .int .i64 yv] v x w) (ev (.tmp 89)) x w := hA.val 7 _ 89 rfl (hp ⟨7, .data⟩ (by simp) rfl) rfl
    have hcc := hA.const
    clear hA hp
    obtain ⟨c, hc, e19⟩ := e19
    obtain ⟨s, e89, hv⟩ := e89
    have hst := hI.store 1 c (by decide) (by decide) hc s hv
    obtain ⟨aa, cc, rfl, _, _⟩ := hv
    obtain ⟨_, u0, u1, u2, hX⟩ := hI.box _ _ hc
    obtain ⟨⟨x0, z0⟩, ⟨x1, z1⟩, ⟨x2, z2⟩⟩ := three_at hX
    have hxl := hX.lt
    have e89' : ev (.tmp 89) = .agg #[.int .i64 0, .slice aa 1 cc, .int .i64 0] := e89
    clear e89
    refine Bx.out_skip (w' := ((w.setCell ⟨c, 0, none⟩ (.int .i64 0)).setCell ⟨c, 1, none⟩ (.slice aa 1 cc)).setCell ⟨c, 2, none⟩ (.int .i64 0)) ?_ ⟨x, trivial, hst.2, hst.1⟩
    clear hst hI hk hc hX
    go_simp
  intro gx L act wz hall hI hF
  have g82 : act.eval (.tmp 82) = .agg #[.int .u64 p, .int .i64 xv] := hF.val 0 _ 82 rfl (hall 0 (by simp)) rfl
  have g83 : act.eval (.tmp 83) = .agg #[.float .f64 m, .int .i64 xv] := hF.val 1 _ 83 rfl (hall 1 (by simp)) rfl
  have g84 : (fun v x w => Bx.Free 2 1 [.float .f64 m, .int .i64 xv] v x w) (act.eval (.tmp 84)) gx wz := hF.val 2 _ 84 rfl (hall 2 (by simp)) rfl
  have g85 : (fun v x w => Bx.Val3 1 [.float .f64 m, .int .i64 xv] v x w) (act.eval (.tmp 85)) gx wz := hF.val 3 _ 85 rfl (hall 3 (by simp)) rfl
  have g86 : act.eval (.tmp 86) = .agg #[.int .u64 q, .int .i64 yv] := hF.val 4 _ 86 rfl (hall 4 (by simp)) rfl
  have g87 : act.eval (.tmp 87) = .agg #[.float .f64 n, .int .i64 yv] := hF.val 5 _ 87 rfl (hall 5 (by simp)) rfl
  have g88 : (fun v x w => Bx.Free 2 1 [.float .f64 n, .int .i64 yv] v x w) (act.eval (.tmp 88)) gx wz := hF.val 6 _ 88 rfl (hall 6 (by simp)) rfl
  have g89 : (fun v x w => Bx.Val3 1 [.float .f64 n, .int .i64 yv] v x w) (act.eval (.tmp 89)) gx wz := hF.val 7 _ 89 rfl (hall 7 (by simp)) rfl
  have g18 : (fun v x _ => ∃ c, x 0 = some c ∧ v = .pointer (some ⟨c, 0, none⟩)) (act.eval (.tmp 18)) gx wz := hF.val 8 _ 18 rfl (hall 8 (by simp)) rfl
  have g19 : (fun v x _ => ∃ c, x 1 = some c ∧ v = .pointer (some ⟨c, 0, none⟩)) (act.eval (.tmp 19)) gx wz := hF.val 9 _ 19 rfl (hall 9 (by simp)) rfl
  have hact := hF.act [82, 83, 84, 85, 86, 87, 88, 89, 18, 19] (by kernel_rfl)
  have hSz0 : L.getD (10 + 0) false = true := hall 10 (by simp)
  have hSz1 : L.getD (10 + 1) false = true := hall 11 (by simp)
  clear hF hall
  simp only [List.foldl_cons, List.foldl_nil] at hact
  rw [g82, g83, g86, g87] at hact
  clear g82 g83 g86 g87
  generalize act.eval (.tmp 84) = u84 at hact g84
  generalize act.eval (.tmp 85) = u85 at hact g85
  generalize act.eval (.tmp 88) = u88 at hact g88
  generalize act.eval (.tmp 89) = u89 at hact g89
  generalize act.eval (.tmp 18) = u18 at hact g18
  generalize act.eval (.tmp 19) = u19 at hact g19
  simp only [List.setIfInBounds_toArray, List.set_cons_succ, List.set_cons_zero] at hact
  subst hact
  obtain ⟨b18, s8, hx18, hX18, a8, c8, rfl, hS8, hF8⟩ := hI.put 0 (by decide) hSz0
  obtain ⟨b19, s9, hx19, hX19, a9, c9, rfl, hS9, hF9⟩ := hI.put 1 (by decide) hSz1
  obtain ⟨q18, e18, rfl⟩ := g18
  obtain ⟨q19, e19, rfl⟩ := g19
  rw [hx18] at e18
  rw [hx19] at e19
  cases e18
  cases e19
  have hIz : Below wc.heap.size wc wz := hI.bel
  have hX15 := H10.out.2.2.2.below hIz
  have H11 := hidq (show Below w.heap.size w wz ∧ BoxAt wz b18 [.int .i64 0, .slice a8 1 c8, .int .i64 0] ∧ BoxAt wz b19 [.int .i64 0, .slice a9 1 c9, .int .i64 0] ∧ BoxAt wz b15 [.int .i64 kd, .slice none 0 0, .int .i64 5] ∧ SlAt 2 wz a8 c8 1 (flatI [(m, xv)]) ∧ SlAt 2 wz a9 c9 1 (flatI [(n, yv)]) from
    ⟨H10.out.1.trans (hIz.mono H10.out.1.size), hX18, hX19, hX15, hS8, hS9⟩)
  clear hI hIz hX15 hx18 hx19 hX18 hX19 hS8 hS9 hF8 hF9 hSz0 hSz1 H10 FC10 HO0 HO1 g84 g85 g88 g89
  go_upto_region 11 with fail
  obtain ⟨s, hs⟩ : ∃ s, sameI [((m, xv) : It)] [((n, yv) : It)] = s := ⟨_, rfl⟩
  obtain ⟨K0, hK0⟩ : ∃ K, mkKI m xv = K := ⟨_, rfl⟩
  obtain ⟨K1, hK1⟩ : ∃ K, mkKI n yv = K := ⟨_, rfl⟩
  have hsr : sameK [K0] [K1] = s := by rw [← hs, ← hK0, ← hK1]; exact (same_one (a := (m, xv)) (b := (n, yv)) HMN.out.1 HMN.out.2).symm
  obtain ⟨d, hd⟩ : ∃ d, sameR12 s = d := ⟨_, rfl⟩
  have hds : (d == 0) = s := by rw [← hd]; cases s <;> rfl
  have hss : (s == s) = true := by simp
  have hb0 : ∀ k, k < 1 → ([((m, xv) : It)])[k]!.1 < 18446744073709551616 := by
    intro k hk
    have e : k = 0 := by omega
    subst e
    exact HMN.out.1
  have hb1 : ∀ k, k < 1 → ([((n, yv) : It)])[k]!.1 < 18446744073709551616 := by
    intro k hk
    have e : k = 0 := by omega
    subst e
    exact HMN.out.2
  have HS1 := hidq (fun W (hW : Below wz.heap.size wz W) => wsameI_any 0 0 0 0 a8 a9 c8 c9 1 1 [(m, xv)] [(n, yv)] W rfl rfl (H11.out.2.2.2.2.1.below hW) (H11.out.2.2.2.2.2.below hW) (by decide) hb0 hb1)
  rw [show sameV12 0 0 0 0 [((m, xv) : It)] [((n, yv) : It)] = s by unfold sameV12; rw [hs]; simp] at HS1
  have HS2 := hidq (fun W (hW : Below wz.heap.size wz W) => wsameI_any 0 0 0 0 a8 a8 c8 c8 1 1 [(m, xv)] [(m, xv)] W rfl rfl (H11.out.2.2.2.2.1.below hW) (H11.out.2.2.2.2.1.below hW) (by decide) hb0 hb0)
  rw [show sameV12 0 0 0 0 [((m, xv) : It)] [((m, xv) : It)] = true by
    unfold sameV12
    rw [same_one (a := (m, xv)) (b := (m, xv)) HMN.out.1 HMN.out.1, sameK_self]
    simp] at HS2
  have HS3 := hidq (fun W (hW : Below wz.heap.size wz W) => wsameI_any 0 kd 0 5 a8 none c8 0 1 0 [(m, xv)] [] W rfl rfl (H11.out.2.2.2.2.1.below hW) (SlAt.nil _ _) (by decide) hb0 (fun k hk => absurd hk (Nat.not_lt_zero _)))
  rw [show sameV12 0 kd 0 5 [((m, xv) : It)] [] = false by unfold sameV12; simp] at HS3
  have HT0 := hidq (fun W (hW : Below wz.heap.size wz W) => told12_any 0 0 a8 c8 1 [(m, xv)] W rfl (H11.out.2.2.2.2.1.below hW) (by decide) hb0)
  have HT1 := hidq (fun W (hW : Below wz.heap.size wz W) => told12_any 0 0 a9 c9 1 [(n, yv)] W rfl (H11.out.2.2.2.2.2.below hW) (by decide) hb1)
  unfold ToldEnd12 at HT0 HT1
  rw [show kis [((m, xv) : It)] = [K0] by rw [← hK0]; rfl] at HT0
  rw [show kis [((n, yv) : It)] = [K1] by rw [← hK1]; rfl] at HT1
  have HR := hidq (fun W a1 a2 c1 c2 (h1 : SlAt 2 W a1 c1 1 (flatR [K0])) (h2 : SlAt 2 W a2 c2 1 (flatR [K1])) => rsame12_any 0 0 0 0 a1 a2 c1 c2 1 1 [K0] [K1] W rfl rfl h1 h2 (by decide))
  rw [show sameR12 (sameW 0 0 0 0 [K0] [K1]) = d by rw [← hd]; unfold sameW; rw [hsr]; simp] at HR
  have FC11 := hidq (fun W (hW : Below wz.heap.size wz W) => (show W.cell? ⟨b18, 0, none⟩ = some (.int .i64 0) ∧ W.cell? ⟨b18, 1, none⟩ = some (.slice a8 1 c8) ∧ W.cell? ⟨b18, 2, none⟩ = some (.int .i64 0) ∧ W.cell? ⟨b19, 0, none⟩ = some (.int .i64 0) ∧ W.cell? ⟨b19, 1, none⟩ = some (.slice a9 1 c9) ∧ W.cell? ⟨b19, 2, none⟩ = some (.int .i64 0) ∧ W.cell? ⟨b15, 0, none⟩ = some (.int .i64 kd) ∧ W.cell? ⟨b15, 1, none⟩ = some (.slice none 0 0) ∧ W.cell? ⟨b15, 2, none⟩ = some (.int .i64 5) from by
    obtain ⟨_, q1, q2, q3, _⟩ := H11.out
    have q1 := q1.below hW
    have q2 := q2.below hW
    have q3 := q3.below hW
    exact ⟨(q1.get 0 _ rfl).1, (q1.get 1 _ rfl).1, (q1.get 2 _ rfl).1, (q2.get 0 _ rfl).1, (q2.get 1 _ rfl).1, (q2.get 2 _ rfl).1, (q3.get 0 _ rfl).1, (q3.get 1 _ rfl).1, (q3.get 2 _ rfl).1⟩))
  clear hs hK0 hK1 hsr hd hb0 hb1 HMN
  have hrefl : ∀ w : World, Reg.Keeps w w := Reg.Keeps.refl
  refine Reg.wp_region_props (Reg.ofList (vk11R b18 b19 b15 a8 a9 c8 c9 kd d s K0 K1)) Reg.Keeps (fun _ w => Reg.Keeps wz w) (by kernel_rfl) (by kernel_rfl) (Reg.AllKept.at _ (vk11R_kept b18 b19 b15 a8 a9 c8 c9 kd d s K0 K1)) hrefl (Reg.Keeps.drewN (Reg.Keeps.refl _) 1) ⟨?_, ?_, ?_, ?_, ?_, ?_, ?_, ?_, ?_, ?_, ?_, ?_, ?_, ?_, ?_, ?_, ?_, ?_, ?_, ?_, ?_, ?_, trivial⟩ ?_
  · refine Reg.StepAt.plain (i := 0) rfl ?_
    intro L ev w hI hk hp hA
    have e18 : ev (.tmp 18) = .pointer (some ⟨b18, 0, none⟩) := hA.oldNone 18 (by kernel_rfl)
    have hcc := hA.const
    clear hA hp
    obtain ⟨f0, f1, f2, f3, f4, f5, f6, f7, f8⟩ := FC11.out w hI
    refine Reg.out_value (v := .agg #[.int .i64 0, .slice a8 1 c8, .int .i64 0]) ?_ ⟨rfl, hrefl _, hI⟩
    go_simp
  · refine Reg.StepAt.plain (i := 1) rfl ?_
    intro L ev w hI hk hp hA
    have e19 : ev (.tmp 19) = .pointer (some ⟨b19, 0, none⟩) := hA.oldNone 19 (by kernel_rfl)
    have hcc := hA.const
    clear hA hp
    obtain ⟨f0, f1, f2, f3, f4, f5, f6, f7, f8⟩ := FC11.out w hI
    refine Reg.out_value (v := .agg #[.int .i64 0, .slice a9 1 c9, .int .i64 0]) ?_ ⟨rfl, hrefl _, hI⟩
    go_simp
  · refine Reg.StepAt.plain (i := 2) rfl ?_
    intro L ev w hI hk hp hA
    have e90 : ev (.tmp 90) = .agg #[.int .i64 0, .slice a8 1 c8, .int .i64 0] := hA.val 0 _ 90 rfl (hp ⟨0, .data⟩ (by simp) rfl) rfl
    have e91 : ev (.tmp 91) = .agg #[.int .i64 0, .slice a9 1 c9, .int .i64 0] := hA.val 1 _ 91 rfl (hp ⟨1, .data⟩ (by simp) rfl) rfl
    have hcc := hA.const
    have hcf := hA.func
    clear hA hp
    refine Reg.out_call (f := 12) (args := #[.agg #[.int .i64 0, .slice a8 1 c8, .int .i64 0], .agg #[.int .i64 0, .slice a9 1 c9, .int .i64 0]]) (w0 := w) ?_ ?_
    · go_simp
    refine (HS1.out w hI).mono ?_
    rintro e w' ⟨rfl, hb'⟩
    exact ⟨_, rfl, rfl, hb', Reg.Keeps.trans hI hb'⟩
  · refine Reg.StepAt.plain (i := 3) rfl ?_
    intro L ev w hI hk hp hA
    have e18 : ev (.tmp 18) = .pointer (some ⟨b18, 0, none⟩) := hA.oldNone 18 (by kernel_rfl)
    have hcc := hA.const
    clear hA hp
    obtain ⟨f0, f1, f2, f3, f4, f5, f6, f7, f8⟩ := FC11.out w hI
    refine Reg.out_value (v := .agg #[.int .i64 0, .slice a8 1 c8, .int .i64 0]) ?_ ⟨rfl, hrefl _, hI⟩
    go_simp
  · refine Reg.StepAt.plain (i := 4) rfl ?_
    intro L ev w hI hk hp hA
    have e93 : ev (.tmp 93) = .agg #[.int .i64 0, .slice a8 1 c8, .int .i64 0] := hA.val 3 _ 93 rfl (hp ⟨3, .data⟩ (by simp) rfl) rfl
    have hcc := hA.const
    have hcf := hA.func
    clear hA hp
    refine Reg.out_call (f := 16) (args := #[.agg #[.int .i64 0, .slice a8 1 c8, .int .i64 0]]) (w0 := w) ?_ ?_
    · go_simp
    refine (HT0.out w hI).mono ?_
    rintro e w' ⟨a', c', rfl, hS', _, hb'⟩
    exact ⟨_, rfl, ⟨a', c', rfl, hS'⟩, hb', Reg.Keeps.trans hI hb'⟩
  · refine Reg.StepAt.plain (i := 5) rfl ?_
    intro L ev w hI hk hp hA
    have e19 : ev (.tmp 19) = .pointer (some ⟨b19, 0, none⟩) := hA.oldNone 19 (by kernel_rfl)
    have hcc := hA.const
    clear hA hp
    obtain ⟨f0, f1, f2, f3, f4, f5, f6, f7, f8⟩ := FC11.out w hI
    refine Reg.out_value (v := .agg #[.int .i64 0, .slice a9 1 c9, .int .i64 0]) ?_ ⟨rfl, hrefl _, hI⟩
    go_simp
  · refine Reg.StepAt.plain (i := 6) rfl ?_
    intro L ev w hI hk hp hA
    have e95 : ev (.tmp 95) = .agg #[.int .i64 0, .slice a9 1 c9, .int .i64 0] := hA.val 5 _ 95 rfl (hp ⟨5, .data⟩ (by simp) rfl) rfl
    have hcc := hA.const
    have hcf := hA.func
    clear hA hp
    refine Reg.out_call (f := 16) (args := #[.agg #[.int .i64 0, .slice a9 1 c9, .int .i64 0]]) (w0 := w) ?_ ?_
    · go_simp
    refine (HT1.out w hI).mono ?_
    rintro e w' ⟨a', c', rfl, hS', _, hb'⟩
    exact ⟨_, rfl, ⟨a', c', rfl, hS'⟩, hb', Reg.Keeps.trans hI hb'⟩
  · refine Reg.StepAt.plain (i := 7) rfl ?_
    intro L ev w hI hk hp hA
    have e94 : (fun v w => ∃ a c, v = .agg #[.int .i64 0, .slice a 1 c, .int .i64 0] ∧ SlAt 2 w a c 1 (flatR [K0])) (ev (.tmp 94)) w := hA.val 4 _ 94 rfl (hp ⟨4, .data⟩ (by simp) rfl) rfl
    have e96 : (fun v w => ∃ a c, v = .agg #[.int .i64 0, .slice a 1 c, .int .i64 0] ∧ SlAt 2 w a c 1 (flatR [K1])) (ev (.tmp 96)) w := hA.val 6 _ 96 rfl (hp ⟨6, .data⟩ (by simp) rfl) rfl
    have hcc := hA.const
    have hcf := hA.func
    clear hA hp
    obtain ⟨a1, c1, e94, h1⟩ := e94
    obtain ⟨a2, c2, e96, h2⟩ := e96
    refine Reg.out_call (f := 15) (args := #[.agg #[.int .i64 0, .slice a1 1 c1, .int .i64 0], .agg #[.int .i64 0, .slice a2 1 c2, .int .i64 0]]) (w0 := w) ?_ ?_
    · go_simp
    refine (HR.out w a1 a2 c1 c2 h1 h2).mono ?_
    rintro e w' ⟨rfl, hb'⟩
    exact ⟨_, rfl, rfl, hb', Reg.Keeps.trans hI hb'⟩
  · refine Reg.StepAt.plain (i := 8) rfl ?_
    intro L ev w hI hk hp hA
    have e97 : ev (.tmp 97) = .int .i64 d := hA.val 7 _ 97 rfl (hp ⟨7, .data⟩ (by simp) rfl) rfl
    have hcc := hA.const
    clear hA hp
    refine Reg.out_value (v := .bool s) ?_ ⟨rfl, hrefl _, hI⟩
    go_simp
  · refine Reg.StepAt.plain (i := 9) rfl ?_
    intro L ev w hI hk hp hA
    have e92 : ev (.tmp 92) = .bool s := hA.val 2 _ 92 rfl (hp ⟨2, .data⟩ (by simp) rfl) rfl
    have e98 : ev (.tmp 98) = .bool s := hA.val 8 _ 98 rfl (hp ⟨8, .data⟩ (by simp) rfl) rfl
    have hcc := hA.const
    clear hA hp
    refine Reg.out_value (v := .bool true) ?_ ⟨rfl, hrefl _, hI⟩
    go_simp
  · refine Reg.StepAt.plain (i := 10) rfl ?_
    intro L ev w hI hk hp hA
    have e99 : ev (.tmp 99) = .bool true := hA.val 9 _ 99 rfl (hp ⟨9, .data⟩ (by simp) rfl) rfl
    have hcc := hA.const
    clear hA hp
    refine Reg.out_value (v := .bool true) ?_ ⟨rfl, hrefl _, hI⟩
    go_simp
  · refine Reg.StepAt.guarded (i := 11) rfl ?_
    intro L ev w hI hk hp hA
    have e18 : ev (.tmp 18) = .pointer (some ⟨b18, 0, none⟩) := hA.oldNone 18 (by kernel_rfl)
    have eg : ev (.tmp 100) = .bool true := hA.val 10 _ 100 rfl (hp ⟨10, .guard⟩ (by simp) rfl) rfl
    refine ⟨_, 100, true, rfl, rfl, eg, ?_⟩
    rw [if_pos rfl]
    have hcc := hA.const
    clear hA hp
    obtain ⟨f0, f1, f2, f3, f4, f5, f6, f7, f8⟩ := FC11.out w hI
    refine Reg.out_value (v := .agg #[.int .i64 0, .slice a8 1 c8, .int .i64 0]) ?_ ⟨rfl, hrefl _, hI⟩
    go_simp
  · refine Reg.StepAt.guarded (i := 12) rfl ?_
    intro L ev w hI hk hp hA
    have e18 : ev (.tmp 18) = .pointer (some ⟨b18, 0, none⟩) := hA.oldNone 18 (by kernel_rfl)
    have eg : ev (.tmp 100) = .bool true := hA.val 10 _ 100 rfl (hp ⟨10, .guard⟩ (by simp) rfl) rfl
    refine ⟨_, 100, true, rfl, rfl, eg, ?_⟩
    rw [if_pos rfl]
    have hcc := hA.const
    clear hA hp
    obtain ⟨f0, f1, f2, f3, f4, f5, f6, f7, f8⟩ := FC11.out w hI
    refine Reg.out_value (v := .agg #[.int .i64 0, .slice a8 1 c8, .int .i64 0]) ?_ ⟨rfl, hrefl _, hI⟩
    go_simp
  · refine Reg.StepAt.guarded (i := 13) rfl ?_
    intro L ev w hI hk hp hA
    have e101 : ev (.tmp 101) = .agg #[.int .i64 0, .slice a8 1 c8, .int .i64 0] := hA.val 11 _ 101 rfl (hp ⟨11, .data⟩ (by simp) rfl) rfl
    have e102 : ev (.tmp 102) = .agg #[.int .i64 0, .slice a8 1 c8, .int .i64 0] := hA.val 12 _ 102 rfl (hp ⟨12, .data⟩ (by simp) rfl) rfl
    have eg : ev (.tmp 100) = .bool true := hA.val 10 _ 100 rfl (hp ⟨10, .chain⟩ (by simp) rfl) rfl
    refine ⟨_, 100, true, rfl, rfl, eg, ?_⟩
    rw [if_pos rfl]
    have hcc := hA.const
    have hcf := hA.func
    clear hA hp
    refine Reg.out_call (f := 12) (args := #[.agg #[.int .i64 0, .slice a8 1 c8, .int .i64 0], .agg #[.int .i64 0, .slice a8 1 c8, .int .i64 0]]) (w0 := w) ?_ ?_
    · go_simp
    refine (HS2.out w hI).mono ?_
    rintro e w' ⟨rfl, hb'⟩
    exact ⟨_, rfl, rfl, hb', Reg.Keeps.trans hI hb'⟩
  · refine Reg.StepAt.plain (i := 14) rfl ?_
    intro L ev w hI hk hp hA
    have e100 : ev (.tmp 100) = .bool true := hA.val 10 _ 100 rfl (hp ⟨10, .data⟩ (by simp) rfl) rfl
    have e103 : ev (.tmp 103) = .bool true := hA.val 13 _ 103 rfl (hp ⟨13, .data⟩ (by simp) rfl) rfl
    have hcc := hA.const
    clear hA hp
    refine Reg.out_value (v := .bool true) ?_ ⟨rfl, hrefl _, hI⟩
    go_simp
  · refine Reg.StepAt.plain (i := 15) rfl ?_
    intro L ev w hI hk hp hA
    have e104 : ev (.tmp 104) = .bool true := hA.val 14 _ 104 rfl (hp ⟨14, .data⟩ (by simp) rfl) rfl
    have hcc := hA.const
    clear hA hp
    refine Reg.out_value (v := .bool true) ?_ ⟨rfl, hrefl _, hI⟩
    go_simp
  · refine Reg.StepAt.guarded (i := 16) rfl ?_
    intro L ev w hI hk hp hA
    have e18 : ev (.tmp 18) = .pointer (some ⟨b18, 0, none⟩) := hA.oldNone 18 (by kernel_rfl)
    have eg : ev (.tmp 105) = .bool true := hA.val 15 _ 105 rfl (hp ⟨15, .guard⟩ (by simp) rfl) rfl
    refine ⟨_, 105, true, rfl, rfl, eg, ?_⟩
    rw [if_pos rfl]
    have hcc := hA.const
    clear hA hp
    obtain ⟨f0, f1, f2, f3, f4, f5, f6, f7, f8⟩ := FC11.out w hI
    refine Reg.out_value (v := .agg #[.int .i64 0, .slice a8 1 c8, .int .i64 0]) ?_ ⟨rfl, hrefl _, hI⟩
    go_simp
  · refine Reg.StepAt.guarded (i := 17) rfl ?_
    intro L ev w hI hk hp hA
    have e15 : ev (.tmp 15) = .pointer (some ⟨b15, 0, none⟩) := hA.oldNone 15 (by kernel_rfl)
    have eg : ev (.tmp 105) = .bool true := hA.val 15 _ 105 rfl (hp ⟨15, .guard⟩ (by simp) rfl) rfl
    refine ⟨_, 105, true, rfl, rfl, eg, ?_⟩
    rw [if_pos rfl]
    have hcc := hA.const
    clear hA hp
    obtain ⟨f0, f1, f2, f3, f4, f5, f6, f7, f8⟩ := FC11.out w hI
    refine Reg.out_value (v := .agg #[.int .i64 kd, .slice none 0 0, .int .i64 5]) ?_ ⟨rfl, hrefl _, hI⟩
    go_simp
  · refine Reg.StepAt.guarded (i := 18) rfl ?_
    intro L ev w hI hk hp hA
    have e106 : ev (.tmp 106) = .agg #[.int .i64 0, .slice a8 1 c8, .int .i64 0] := hA.val 16 _ 106 rfl (hp ⟨16, .data⟩ (by simp) rfl) rfl
    have e107 : ev (.tmp 107) = .agg #[.int .i64 kd, .slice none 0 0, .int .i64 5] := hA.val 17 _ 107 rfl (hp ⟨17, .data⟩ (by simp) rfl) rfl
    have eg : ev (.tmp 105) = .bool true := hA.val 15 _ 105 rfl (hp ⟨15, .chain⟩ (by simp) rfl) rfl
    refine ⟨_, 105, true, rfl, rfl, eg, ?_⟩
    rw [if_pos rfl]
    have hcc := hA.const
    have hcf := hA.func
    clear hA hp
    refine Reg.out_call (f := 12) (args := #[.agg #[.int .i64 0, .slice a8 1 c8, .int .i64 0], .agg #[.int .i64 kd, .slice none 0 0, .int .i64 5]]) (w0 := w) ?_ ?_
    · go_simp
    refine (HS3.out w hI).mono ?_
    rintro e w' ⟨rfl, hb'⟩
    exact ⟨_, rfl, rfl, hb', Reg.Keeps.trans hI hb'⟩
  · refine Reg.StepAt.guarded (i := 19) rfl ?_
    intro L ev w hI hk hp hA
    have e108 : ev (.tmp 108) = .bool false := hA.val 18 _ 108 rfl (hp ⟨18, .data⟩ (by simp) rfl) rfl
    have eg : ev (.tmp 105) = .bool true := hA.val 15 _ 105 rfl (hp ⟨15, .guard⟩ (by simp) rfl) rfl
    refine ⟨_, 105, true, rfl, rfl, eg, ?_⟩
    rw [if_pos rfl]
    have hcc := hA.const
    clear hA hp
    refine Reg.out_value (v := .bool true) ?_ ⟨rfl, hrefl _, hI⟩
    go_simp
  · refine Reg.StepAt.plain (i := 20) rfl ?_
    intro L ev w hI hk hp hA
    have e105 : ev (.tmp 105) = .bool true := hA.val 15 _ 105 rfl (hp ⟨15, .data⟩ (by simp) rfl) rfl
    have e109 : ev (.tmp 109) = .bool true := hA.val 19 _ 109 rfl (hp ⟨19, .data⟩ (by simp) rfl) rfl
    have hcc := hA.const
    clear hA hp
    refine Reg.out_value (v := .bool true) ?_ ⟨rfl, hrefl _, hI⟩
    go_simp
  · refine Reg.StepAt.plain (i := 21) rfl ?_
    intro L ev w hI hk hp hA
    have e110 : ev (.tmp 110) = .bool true := hA.val 20 _ 110 rfl (hp ⟨20, .data⟩ (by simp) rfl) rfl
    have hcc := hA.const
    clear hA hp
    refine Reg.out_value (v := .bool true) ?_ ⟨rfl, hrefl _, hI⟩
    go_simp
  intro L act wy hall hI hF
  have g90 : act.eval (.tmp 90) = .agg #[.int .i64 0, .slice a8 1 c8, .int .i64 0] := hF.val 0 _ 90 rfl (hall 0 (by simp)) rfl
  have g91 : act.eval (.tmp 91) = .agg #[.int .i64 0, .slice a9 1 c9, .int .i64 0] := hF.val 1 _ 91 rfl (hall 1 (by simp)) rfl
  have g92 : act.eval (.tmp 92) = .bool s := hF.val 2 _ 92 rfl (hall 2 (by simp)) rfl
  have g93 : act.eval (.tmp 93) = .agg #[.int .i64 0, .slice a8 1 c8, .int .i64 0] := hF.val 3 _ 93 rfl (hall 3 (by simp)) rfl
  have g94 : (fun v w => ∃ a c, v = .agg #[.int .i64 0, .slice a 1 c, .int .i64 0] ∧ SlAt 2 w a c 1 (flatR [K0])) (act.eval (.tmp 94)) wy := hF.val 4 _ 94 rfl (hall 4 (by simp)) rfl
  have g95 : act.eval (.tmp 95) = .agg #[.int .i64 0, .slice a9 1 c9, .int .i64 0] := hF.val 5 _ 95 rfl (hall 5 (by simp)) rfl
  have g96 : (fun v w => ∃ a c, v = .agg #[.int .i64 0, .slice a 1 c, .int .i64 0] ∧ SlAt 2 w a c 1 (flatR [K1])) (act.eval (.tmp 96)) wy := hF.val 6 _ 96 rfl (hall 6 (by simp)) rfl
  have g97 : act.eval (.tmp 97) = .int .i64 d := hF.val 7 _ 97 rfl (hall 7 (by simp)) rfl
  have g98 : act.eval (.tmp 98) = .bool s := hF.val 8 _ 98 rfl (hall 8 (by simp)) rfl
  have g99 : act.eval (.tmp 99) = .bool true := hF.val 9 _ 99 rfl (hall 9 (by simp)) rfl
  have g100 : act.eval (.tmp 100) = .bool true := hF.val 10 _ 100 rfl (hall 10 (by simp)) rfl
  have g101 : act.eval (.tmp 101) = .agg #[.int .i64 0, .slice a8 1 c8, .int .i64 0] := hF.val 11 _ 101 rfl (hall 11 (by simp)) rfl
  have g102 : act.eval (.tmp 102) = .agg #[.int .i64 0, .slice a8 1 c8, .int .i64 0] := hF.val 12 _ 102 rfl (hall 12 (by simp)) rfl
  have g103 : act.eval (.tmp 103) = .bool true := hF.val 13 _ 103 rfl (hall 13 (by simp)) rfl
  have g104 : act.eval (.tmp 104) = .bool true := hF.val 14 _ 104 rfl (hall 14 (by simp)) rfl
  have g105 : act.eval (.tmp 105) = .bool true := hF.val 15 _ 105 rfl (hall 15 (by simp)) rfl
  have g106 : act.eval (.tmp 106) = .agg #[.int .i64 0, .slice a8 1 c8, .int .i64 0] := hF.val 16 _ 106 rfl (hall 16 (by simp)) rfl
  have g107 : act.eval (.tmp 107) = .agg #[.int .i64 kd, .slice none 0 0, .int .i64 5] := hF.val 17 _ 107 rfl (hall 17 (by simp)) rfl
  have g108 : act.eval (.tmp 108) = .bool false := hF.val 18 _ 108 rfl (hall 18 (by simp)) rfl
  have g109 : act.eval (.tmp 109) = .bool true := hF.val 19 _ 109 rfl (hall 19 (by simp)) rfl
  have g110 : act.eval (.tmp 110) = .bool true := hF.val 20 _ 110 rfl (hall 20 (by simp)) rfl
  have g12 : act.eval (.tmp 12) = .bool true := hF.val 21 _ 12 rfl (hall 21 (by simp)) rfl
  have hact := hF.act [90, 91, 92, 93, 94, 95, 96, 97, 98, 99, 100, 101, 102, 103, 104, 105, 106, 107, 108, 109, 110, 12] (by kernel_rfl)
  clear hF hall
  simp only [List.foldl_cons, List.foldl_nil] at hact
  rw [g90, g91, g92, g93, g95, g97, g98, g99, g100, g101, g102, g103, g104, g105, g106, g107, g108, g109, g110, g12] at hact
  clear g90 g91 g92 g93 g95 g97 g98 g99 g100 g101 g102 g103 g104 g105 g106 g107 g108 g109 g110 g12
  generalize act.eval (.tmp 94) = u94 at hact g94
  generalize act.eval (.tmp 96) = u96 at hact g96
  simp only [List.setIfInBounds_toArray, List.set_cons_succ, List.set_cons_zero] at hact
  subst hact
  have HE := hidq (H11.out.1.trans (Below.mono hI H11.out.1.size))
  clear hI H11 FC11 HS1 HS2 HS3 HT0 HT1 HR
  go_wp2_with fail
  go_ret
  exact ⟨rfl, HE.out⟩
end Go.Proofs.Ytbcmilfajeanbaa
