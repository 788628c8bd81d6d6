/-
  Layer 6's law of an operation that nobody disturbs: the call returns true.
-/
import Derived.Test.YtogacknpkoiokaaAlone6
import Derived.Laws.Bits128
namespace Go.Proofs.Ytogacknpkoiokaa
open Go.RowKit Go.Sort

theorem i64_and63 (n : Int) : bits .and .i64 n 63 = n % 64 := by
  have h63 : (BitVec.ofInt 64 63).toNat = 2 ^ 6 - 1 := by decide
  have key : (BitVec.ofInt 64 n &&& BitVec.ofInt 64 63).toNat = (n % ((2 ^ 64 : Nat) : Int)).toNat % 2 ^ 6 := by
    rw [BitVec.toNat_and, BitVec.toNat_ofInt, h63, Nat.and_two_pow_sub_one_eq_mod]
  show IntKind.i64.wrap ((BitVec.ofInt 64 n &&& BitVec.ofInt 64 63).toNat : Nat) = n % 64
  rw [key, IntKind.wrap_i64]
  omega
theorem run_equalIn_flt {P : Program} (d : Nat) (t : TypeId) (a b : Nat) (w : World) (h : P.underlying t = some (.float .f64)) : (Op.equalIn (d + 1) t (.float .f64 a) (.float .f64 b)).run P w = .ok (Op.floatEq .f64 a b) w := by
  simp [Op.equalIn, run_underlying h]

theorem aloneEnd_as {b : Nat} {O : Nat → Prop} {v m q z : Int} {w w' : World} {e : Ending} (h : AloneEnd b O v m w e w') (hq : max v 1 = q) (hz : max m 0 = z) :
    ∃ O' M', MemAt w' b O' M' ∧ But O w w' ∧ ((m < q ∧ e = .returned (.tuple #[.agg #[.bool false, .float .f64 0, .int .i64 0, .int .i64 0], .bool false]) ∧ M'.look 0 = ⟨(M'.cell 0).ver, z, (M'.cell 0).L⟩) ∨
        (q ≤ m ∧ e = .returned (.tuple #[.agg #[.bool true, .float .f64 0, .int .i64 0, .int .i64 q], .bool true]) ∧ M'.look 0 = ⟨(M'.cell 0).ver, q, (M'.cell 0).L⟩)) := by
  obtain ⟨O', M', h1, h2, h3⟩ := h
  subst hq hz
  have hl : M'.look 0 = M'.cell 0 := look_nat 0
  refine ⟨O', M', h1, h2, h3.imp (fun ⟨a, b, c⟩ => ⟨a, b, ?_⟩) (fun ⟨a, b, c⟩ => ⟨a, b, ?_⟩)⟩
  · rw [hl, ← c]
  · rw [hl, ← c]

set_option maxHeartbeats 4000000 in
theorem opAlone_any (x y : Int) (w : World) : Calls Try.prog 10 #[.int .i64 x, .int .i64 y] w fun e w' => e = .returned (.bool true) ∧ Below w.heap.size w w' := by
  have hA := awake6_any w
  have hx := i64_and63 x
  have hv : 0 ≤ x % 64 ∧ x % 64 ≤ 63 := by omega
  obtain ⟨v, hve⟩ : ∃ v, x % 64 = v := ⟨_, rfl⟩
  rw [hve] at hx hv
  clear hve
  obtain ⟨m, hme⟩ : ∃ m, min y 50 = m := ⟨_, rfl⟩
  have hm : m ≤ 50 := by omega
  obtain ⟨q, hqe⟩ : ∃ q, max v 1 = q := ⟨_, rfl⟩
  obtain ⟨z, hze⟩ : ∃ z, max m 0 = z := ⟨_, rfl⟩
  have hef := fun d a b w => run_equalIn_flt (P := Try.prog) d 27 a b w Try.underlying27
  have hq0 : Op.floatEq .f64 0 0 = true := by decide
  have hsf := run_store_flt (P := Try.prog)
  have hf1 := fldC_1
  have hf2 := fldV_0
  have HM := hidq hme
  have HQ := hidq hqe
  have HZ := hidq hze
  clear hme hqe hze
  have hAl := hidq (fun b w' (h : MemAt w' b (fun k => k = b) Mem.empty) => alone_any b (fun k => k = b) v m w' h hv hm)
  go_enter Try.func10, Try.ntmps10
  go_wp2_with fail
  refine hA.mono ?_
  rintro e w1 ⟨rfl, hb1⟩
  by_cases h50 : y ≤ 50
  · have hmy : m = y := by have := HM.out; omega
    subst hmy
    go_wp2_with (go_at_call 31; refine (new5_any _).mono ?_; rintro e w2 ⟨rfl, hM2, hb2⟩)
    refine (hAl.out _ _ hM2).mono ?_
    intro e w3 hE
    obtain ⟨O', M', hM3, hB3, hE⟩ := aloneEnd_as hE HQ.out HZ.out
    have hR := hidq (fun W (hW : But (fun _ => False) w3 W) => read5_any w1.heap.size O' M' 0 W (hM3.but hW (fun _ _ e => e)))
    have HB := hidq (fun (o : Obj) w4 (hb4 : Below (w3.alloc o).heap.size (w3.alloc o) w4) => (show Below w.heap.size w w4 from by
      have h12 : Below w.heap.size w w2 := hb1.trans (hb2.mono hb1.size)
      have h13 : Below w.heap.size w w3 := h12.trans (hB3.below h12.size (fun k e => by have := hb1.size; omega))
      exact (h13.trans ((Below.refl _ _).alloc h13.size _)).trans (hb4.mono (by have := h13.size; simp; omega))))
    clear hM2 hM3 hB3 hb2 hAl hA
    rcases hE with ⟨hlt, rfl, hn⟩ | ⟨hle, rfl, hn⟩
    · rw [hn] at hR
      clear hn
      by_cases hv1 : 1 ≤ v
      · have hqv : q = v := by have := HQ.out; omega
        subst hqv
        by_cases hm0 : 0 ≤ m
        · have hzm : z = m := by have := HZ.out; omega
          subst hzm
          go_wp2_with fail
          refine (hR.out _ ((But.refl _ _).alloc _)).mono ?_
          rintro e w4 ⟨a4, c4, rfl, _, _, hb4⟩
          generalize (M'.cell 0).L.length = ln at *
          generalize (M'.cell 0).ver = ve at *
          go_wp2
          go_ret
          exact ⟨rfl, HB.out _ _ hb4⟩
        · have hzm : z = 0 := by have := HZ.out; omega
          subst hzm
          have hm1 : m < 0 := by omega
          go_wp2_with fail
          refine (hR.out _ ((But.refl _ _).alloc _)).mono ?_
          rintro e w4 ⟨a4, c4, rfl, _, _, hb4⟩
          generalize (M'.cell 0).L.length = ln at *
          generalize (M'.cell 0).ver = ve at *
          go_wp2
          go_ret
          exact ⟨rfl, HB.out _ _ hb4⟩
      · have hqv : q = 1 := by have := HQ.out; omega
        subst hqv
        have hv2 : v < 1 := by omega
        by_cases hm0 : 0 ≤ m
        · have hzm : z = m := by have := HZ.out; omega
          subst hzm
          go_wp2_with fail
          refine (hR.out _ ((But.refl _ _).alloc _)).mono ?_
          rintro e w4 ⟨a4, c4, rfl, _, _, hb4⟩
          generalize (M'.cell 0).L.length = ln at *
          generalize (M'.cell 0).ver = ve at *
          go_wp2
          go_ret
          exact ⟨rfl, HB.out _ _ hb4⟩
        · have hzm : z = 0 := by have := HZ.out; omega
          subst hzm
          have hm1 : m < 0 := by omega
          go_wp2_with fail
          refine (hR.out _ ((But.refl _ _).alloc _)).mono ?_
          rintro e w4 ⟨a4, c4, rfl, _, _, hb4⟩
          generalize (M'.cell 0).L.length = ln at *
          generalize (M'.cell 0).ver = ve at *
          go_wp2
          go_ret
          exact ⟨rfl, HB.out _ _ hb4⟩
    · rw [hn] at hR
      clear hn
      have hlf : decide (m < q) = false := decide_eq_false (by omega)
      by_cases hv1 : 1 ≤ v
      · have hqv : q = v := by have := HQ.out; omega
        subst hqv
        go_wp2_with fail
        refine (hR.out _ ((But.refl _ _).alloc _)).mono ?_
        rintro e w4 ⟨a4, c4, rfl, _, _, hb4⟩
        generalize (M'.cell 0).L.length = ln at *
        generalize (M'.cell 0).ver = ve at *
        go_wp2
        go_ret
        exact ⟨rfl, HB.out _ _ hb4⟩
      · have hqv : q = 1 := by have := HQ.out; omega
        subst hqv
        have hv2 : v < 1 := by omega
        go_wp2_with fail
        refine (hR.out _ ((But.refl _ _).alloc _)).mono ?_
        rintro e w4 ⟨a4, c4, rfl, _, _, hb4⟩
        generalize (M'.cell 0).L.length = ln at *
        generalize (M'.cell 0).ver = ve at *
        go_wp2
        go_ret
        exact ⟨rfl, HB.out _ _ hb4⟩
  · have hmy : m = 50 := by have := HM.out; omega
    subst hmy
    have h50' : 50 < y := by omega
    clear h50
    go_wp2_with (go_at_call 31; refine (new5_any _).mono ?_; rintro e w2 ⟨rfl, hM2, hb2⟩)
    refine (hAl.out _ _ hM2).mono ?_
    intro e w3 hE
    obtain ⟨O', M', hM3, hB3, hE⟩ := aloneEnd_as hE HQ.out HZ.out
    have hR := hidq (fun W (hW : But (fun _ => False) w3 W) => read5_any w1.heap.size O' M' 0 W (hM3.but hW (fun _ _ e => e)))
    have HB := hidq (fun (o : Obj) w4 (hb4 : Below (w3.alloc o).heap.size (w3.alloc o) w4) => (show Below w.heap.size w w4 from by
      have h12 : Below w.heap.size w w2 := hb1.trans (hb2.mono hb1.size)
      have h13 : Below w.heap.size w w3 := h12.trans (hB3.below h12.size (fun k e => by have := hb1.size; omega))
      exact (h13.trans ((Below.refl _ _).alloc h13.size _)).trans (hb4.mono (by have := h13.size; simp; omega))))
    clear hM2 hM3 hB3 hb2 hAl hA
    rcases hE with ⟨hlt, rfl, hn⟩ | ⟨hle, rfl, hn⟩
    · rw [hn] at hR
      clear hn
      by_cases hv1 : 1 ≤ v
      · have hqv : q = v := by have := HQ.out; omega
        subst hqv
        have hzm : z = 50 := by have := HZ.out; omega
        subst hzm
        go_wp2_with fail
        refine (hR.out _ ((But.refl _ _).alloc _)).mono ?_
        rintro e w4 ⟨a4, c4, rfl, _, _, hb4⟩
        generalize (M'.cell 0).L.length = ln at *
        generalize (M'.cell 0).ver = ve at *
        go_wp2
        go_ret
        exact ⟨rfl, HB.out _ _ hb4⟩
      · have hqv : q = 1 := by have := HQ.out; omega
        omega
    · rw [hn] at hR
      clear hn
      have hlf : decide ((50 : Int) < q) = false := decide_eq_false (by omega)
      by_cases hv1 : 1 ≤ v
      · have hqv : q = v := by have := HQ.out; omega
        subst hqv
        go_wp2_with fail
        refine (hR.out _ ((But.refl _ _).alloc _)).mono ?_
        rintro e w4 ⟨a4, c4, rfl, _, _, hb4⟩
        generalize (M'.cell 0).L.length = ln at *
        generalize (M'.cell 0).ver = ve at *
        go_wp2
        go_ret
        exact ⟨rfl, HB.out _ _ hb4⟩
      · have hqv : q = 1 := by have := HQ.out; omega
        subst hqv
        have hv2 : v < 1 := by omega
        go_wp2_with fail
        refine (hR.out _ ((But.refl _ _).alloc _)).mono ?_
        rintro e w4 ⟨a4, c4, rfl, _, _, hb4⟩
        generalize (M'.cell 0).L.length = ln at *
        generalize (M'.cell 0).ver = ve at *
        go_wp2
        go_ret
        exact ⟨rfl, HB.out _ _ hb4⟩
end Go.Proofs.Ytogacknpkoiokaa
