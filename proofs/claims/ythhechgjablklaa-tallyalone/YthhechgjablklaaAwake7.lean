/-
  Layer 7: the answers that the document fixes.
-/
import Derived.Test.YthhechgjablklaaTallyMath7
import Derived.Test.YthhechgjablklaaRefOp6
namespace Go.Proofs.Ythhechgjablklaa
open Go.RowKit Go.Sort

theorem run_equalIn_flt {P : Program} (d : Nat) (t : TypeId) (a b : Nat) (w : World) (h : P.underlying t = some (.float .f64)) : (Op.equalIn (d + 1) t (.float .f64 a) (.float .f64 b)).run P w = .ok (Op.floatEq .f64 a b) w := by
  simp [Op.equalIn, run_underlying h]

/-- An Add, and what it leaves. -/
theorem add_any (sh : Int) (hs : 1 ≤ sh ∧ sh ≤ 16) (b : Nat) (O : Nat → Prop) (M : Mem) (v d d1 most : Int) (k : Nat) (hk : into d sh = (k : Int)) (w : World) (h : MemAt w b O M) (hm : 2 ≤ most ∧ most ≤ 1000) (hck : M.clock < 4611686018427386000) :
    Calls Try.prog 50 #[.iface 103 (.agg #[.int .i64 sh]), .pointer (some ⟨b, 0, none⟩), .agg #[.int .i64 5, .float .f64 0, .int .i64 v, .int .i64 d, .int .i64 d1], .int .i64 most] w fun e w' =>
      e = .returned (.tuple #[.agg #[.bool true, .float .f64 0, .int .i64 0, .int .i64 0], .bool true]) ∧ ∃ O', MemAt w' b O' (M.put k (wrap64 ((M.cell k).n + v)) []) ∧ Grown O w w' O' ∧ But O w w' := by
  have := aloneT_any sh (tstep_is sh hs) (tFine sh) b O M 5 0 v d d1 most w h (.inl rfl) hm.2 hck
  rw [show most.toNat = (most.toNat - 2) + 2 by omega, alone_add sh hs M 0 _ v d d1 k hk] at this
  exact this
/-- A Sum, and what it leaves. -/
theorem sum_any (sh : Nat) (hs : 1 ≤ sh ∧ sh ≤ 16) (b : Nat) (O : Nat → Prop) (M : Mem) (d d1 most : Int) (w : World) (h : MemAt w b O M) (hm : (sh : Int) ≤ most ∧ most ≤ 1000) (hck : M.clock < 4611686018427386000) :
    Calls Try.prog 50 #[.iface 103 (.agg #[.int .i64 (sh : Int)]), .pointer (some ⟨b, 0, none⟩), .agg #[.int .i64 6, .float .f64 0, .int .i64 0, .int .i64 d, .int .i64 d1], .int .i64 most] w fun e w' =>
      e = .returned (.tuple #[.agg #[.bool true, .float .f64 0, .int .i64 0, .int .i64 (totTo M sh)], .bool true]) ∧ ∃ O', MemAt w' b O' M ∧ Grown O w w' O' ∧ But O w w' := by
  have := aloneT_any (sh : Int) (tstep_is (sh : Int) (by omega)) (tFine sh) b O M 6 0 0 d d1 most w h (.inr ⟨rfl, Int.le_refl _, by show (0 : Int) < sh; omega⟩) hm.2 hck
  rw [alone_sum sh most.toNat hs.1 (by omega) M] at this
  exact this

/-- The memory of the answers that the document fixes. -/
def M7 : Mem := (Mem.empty.put 0 5 []).put 2 6 []
theorem M7_tot : totTo M7 3 = 11 := by
  rw [totTo_eq]; show wrap64 (0 + 5 + 0 + 6) = 11; unfold wrap64; decide

set_option maxHeartbeats 4000000 in
theorem awake7_any (w : World) : Calls Try.prog 42 #[] w fun e w' => e = .returned (.bool true) ∧ Below w.heap.size w w' := by
  have hN3 := fun w => tnew_any 3 w
  have hN17 := fun w => tnew_any 17 w
  rw [show (if legal 3 3 = 0 then (3 : Int) else 0) = 3 by decide, show legal 3 3 = 0 by decide] at hN3
  rw [show (if legal 3 17 = 0 then (17 : Int) else 0) = 0 by decide, show legal 3 17 = 5 by decide] at hN17
  have hef := fun d a b w => run_equalIn_flt (P := Try.prog) d 27 a b w Try.underlying27
  have hq0 : Op.floatEq .f64 0 0 = true := by decide
  have hsf := run_store_flt (P := Try.prog)
  have hf1 := fldC_1
  have hf2 := fldV_0
  go_enter Try.func42, Try.ntmps42
  go_wp2_with fail
  refine (hN3 _).mono ?_
  rintro e w1 ⟨rfl, hb1⟩
  go_wp2_with fail
  refine (hN17 _).mono ?_
  rintro e w2 ⟨rfl, hb2⟩
  have hB1 : BoxAt (w1.alloc (.cells #[.int .i64 3] 103)) w1.heap.size [.int .i64 3] := BoxAt.new w1 [.int .i64 3] 103
  have hB2 := (hB1.below hb2).below ((Below.refl w2.heap.size w2).alloc (Nat.le_refl _) (.cells #[.int .i64 0] 103))
  go_wp2_with fail
  refine (new5_any _).mono ?_
  rintro e w3 ⟨rfl, hM3, hb3⟩
  have hB3 := hB2.below hb3
  obtain ⟨mb, hmb⟩ : ∃ mb, (w2.alloc (.cells #[.int .i64 0] 103)).heap.size = mb := ⟨_, rfl⟩
  rw [hmb] at hM3 ⊢
  have hS0 : St w w3 w1.heap.size [.int .i64 3] mb (fun k => k = mb) Mem.empty := by
    have s1 := hb1.size
    have s2 := hb2.size
    have s3 : (w1.alloc (.cells #[.int .i64 3] 103)).heap.size = w1.heap.size + 1 := by simp
    have s4 : mb = w2.heap.size + 1 := by rw [← hmb]; simp
    refine ⟨hM3, fun k e => by omega, hB3, ?_⟩
    exact ((hb1.trans ((Below.refl _ _).alloc s1 _)).trans (hb2.mono (by omega))).trans ((((Below.refl _ _).alloc (by omega) _)).trans (hb3.mono (by omega)))
  have HS0 := hidq hS0
  clear hB1 hB2 hB3 hb1 hb2 hb3 hM3 hN3 hN17 hmb
  have r0 := (hS0.box.get 0 _ rfl).1
  clear hS0
  go_wp2_with fail
  refine (add_any 3 (by decide) mb _ Mem.empty 5 0 0 9 0 (by decide) _ HS0.out.mem (by decide) (by decide)).mono ?_
  rintro e w4 ⟨rfl, O4, hM4, hG4, hB4⟩
  have HS4 := hidq (HS0.out.call hM4 hG4 hB4)
  have r4 := (HS4.out.box.get 0 _ rfl).1
  clear hM4 hG4 hB4 HS0 r0
  go_wp2_with fail
  refine (add_any 3 (by decide) mb _ _ 6 (-1) 0 9 2 (by decide) _ HS4.out.mem (by decide) (by decide)).mono ?_
  rintro e w5 ⟨rfl, O5, hM5, hG5, hB5⟩
  have HS5 := hidq (HS4.out.call hM5 hG5 hB5)
  have r5 := (HS5.out.box.get 0 _ rfl).1
  have hMM : (Mem.empty.put 0 (wrap64 ((Mem.empty.cell 0).n + 5)) []).put 2 (wrap64 (((Mem.empty.put 0 (wrap64 ((Mem.empty.cell 0).n + 5)) []).cell 2).n + 6)) [] = M7 := by
    have e1 : wrap64 ((Mem.empty.cell 0).n + 5) = 5 := by show wrap64 (0 + 5) = 5; unfold wrap64; decide
    rw [e1]
    have e2 : wrap64 (((Mem.empty.put 0 5 []).cell 2).n + 6) = 6 := by show wrap64 (0 + 6) = 6; unfold wrap64; decide
    rw [e2]; rfl
  rw [hMM] at HS5
  clear hM5 hG5 hB5 HS4 r4 hMM
  go_wp2_with fail
  refine (sum_any 3 (by decide) mb _ M7 0 0 9 _ HS5.out.mem (by decide) (by decide)).mono ?_
  rw [M7_tot]
  rintro e w6 ⟨rfl, O6, hM6, hG6, hB6⟩
  have HS6 := hidq ((HS5.out.call hM6 hG6 hB6).alloc (.cells #[.bool true, .float .f64 0, .int .i64 0, .int .i64 11] 98))
  clear hM6 hG6 hB6 HS5 r5
  go_wp2_with fail
  have hR := read5_any mb O6 M7 2 _ HS6.out.mem
  rw [show M7.look 2 = ⟨2, 6, []⟩ from rfl] at hR
  refine hR.mono ?_
  rintro e w7 ⟨a7, k7, rfl, _, _, hb7⟩
  have HB := hidq (HS6.out.below hb7).low
  clear hb7 hR HS6
  go_wp2
  go_ret
  exact ⟨rfl, HB.out⟩

theorem tallyNew_any (sh : Int) (w : World) : Calls Try.prog 11 #[.int .i64 sh] w fun e w' => e = .returned (.bool true) ∧ Below w.heap.size w w' := by
  have hA := awake7_any w
  have hN := fun w => tnew_any sh w
  have hL := fun w => rlegal_any 3 sh w (by decide)
  generalize legal 3 sh = r at *
  generalize (if r = 0 then sh else 0) = s at *
  go_enter Try.func11, Try.ntmps11
  go_wp2_with fail
  refine hA.mono ?_
  rintro e w1 ⟨rfl, hb1⟩
  go_wp2_with fail
  refine (hN _).mono ?_
  rintro e w2 ⟨rfl, hb2⟩
  go_wp2_with fail
  refine (hL _).mono ?_
  rintro e w3 ⟨rfl, hw3⟩
  replace hw3 := hw3.symm
  subst hw3
  have HB := hidq ((hb1.trans (hb2.mono hb1.size)).alloc (by have := hb1.size; have := hb2.size; omega) (.cells #[.int .i64 s] 103))
  clear hb1 hb2 hA hN hL
  go_wp2
  go_ret
  exact ⟨rfl, HB.out⟩
end Go.Proofs.Ythhechgjablklaa
