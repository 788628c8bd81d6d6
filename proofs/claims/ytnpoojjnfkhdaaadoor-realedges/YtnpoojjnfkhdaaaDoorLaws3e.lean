/-
  Layer 3's laws: the calls return true.
-/
import Derived.Test.YtnpoojjnfkhdaaaDoorLaws3c
import Derived.BigQuiet
import Derived.Deep.QuietTactic
namespace Go.Proofs.YtnpoojjnfkhdaaaDoor
open Go.RowKit

theorem below_drewN {B : Nat} {a b : World} (h : Below B a b) (n : Nat) : Below B a (b.drewN n) := ⟨h.os, h.tape, h.output, h.size, h.block⟩
theorem copysign_one (w : World) : Calls Tryd.prog 23 #[.float .f64 0, .float .f64 13830554455654793216] w fun e w' => e = .returned (.float .f64 9223372036854775808) ∧ w' = w := by
  have h31 := run_frombits
  have h15 := run_bits
  have a1 : bits .andNot .u64 (ni 0) 9223372036854775808 = 0 := by decide
  have a2 : bits .and .u64 (ni 13830554455654793216) 9223372036854775808 = 9223372036854775808 := by decide
  have a3 : bits .or .u64 0 9223372036854775808 = 9223372036854775808 := by decide
  have a4 : nf 9223372036854775808 = 9223372036854775808 := rfl
  go_enter Tryd.func23, Tryd.ntmps23
  go_wp2
  go_ret
  exact ⟨rfl, rfl⟩
theorem nan_or {b : Int} (h0 : 0 ≤ b) (h1 : b < 18446744073709551616) : nanB (nf (bits .or .u64 b 9221120237041090560)) = true ∧ nf (bits .or .u64 b 9221120237041090560) < 18446744073709551616 := by
  rw [u64_or b _ h0 h1 (by decide) (by decide)]
  obtain ⟨n, rfl⟩ := Int.eq_ofNat_of_zero_le h0
  rw [show (9221120237041090560 : Int).toNat = 9221120237041090560 from rfl, Int.toNat_natCast]
  unfold nf; rw [Int.toNat_natCast]
  constructor
  · unfold nanB
    refine decide_eq_true ?_
    have e : (n ||| 9221120237041090560) % 2 ^ 63 = (n % 2 ^ 63) ||| (9221120237041090560 % 2 ^ 63) := Nat.or_mod_two_pow
    rw [show (2 : Nat) ^ 63 = 9223372036854775808 by decide] at e
    rw [e]
    have := Nat.right_le_or (n := n % 9223372036854775808) (m := 9221120237041090560 % 9223372036854775808)
    omega
  · have := Nat.or_lt_two_pow (x := n) (y := 9221120237041090560) (n := 64) (by rw [show (2 : Nat) ^ 64 = 18446744073709551616 by decide]; omega) (by decide)
    rwa [show (2 : Nat) ^ 64 = 18446744073709551616 by decide] at this
/-- The edges, one behind the other. -/
def lv (m k : Nat) : Nat := [18442240474082181120, 18442240474082181119, 9223372036854775809, 9223372036854775808, 0, 1, 9218868437227405311, 9218868437227405312, m].getD k 0
def Edg (m N : Nat) (wr : World) : Prop := N < wr.heap.size ∧ ∀ k, k < 9 → wr.cell? ⟨N, k, none⟩ = some (.float .f64 (lv m k))
theorem Edg.drewN {m N : Nat} {wr : World} (h : Edg m N wr) (n : Nat) : Edg m N (wr.drewN n) := h
theorem key_nan {m : Nat} (h : nanB m = true) : key m = 18444492273895866368 := by unfold key; rw [cbits_nan h]; decide
theorem lv_lt {m k : Nat} (hm : m < 18446744073709551616) : lv m k < 18446744073709551616 := by
  unfold lv
  rcases k with _ | _ | _ | _ | _ | _ | _ | _ | _ | k <;> simp <;> omega
theorem lv_step {m k : Nat} (h : nanB m = true) (hk : k < 8) : cmpI (key (lv m k)) (key (lv m (k + 1))) = -1 := by
  rcases k with _ | _ | _ | _ | _ | _ | _ | _ | k
  · exact (by decide : cmpI (key 18442240474082181120) (key 18442240474082181119) = -1)
  · exact (by decide : cmpI (key 18442240474082181119) (key 9223372036854775809) = -1)
  · exact (by decide : cmpI (key 9223372036854775809) (key 9223372036854775808) = -1)
  · exact (by decide : cmpI (key 9223372036854775808) (key 0) = -1)
  · exact (by decide : cmpI (key 0) (key 1) = -1)
  · exact (by decide : cmpI (key 1) (key 9218868437227405311) = -1)
  · exact (by decide : cmpI (key 9218868437227405311) (key 9218868437227405312) = -1)
  · show cmpI (key 9218868437227405312) (key m) = -1
    rw [key_nan h]; decide
  · omega
theorem key_top {n : Nat} (hn : n < 18446744073709551616) : 4503599627370495 ≤ key n ∧ key n ≤ 18444492273895866368 ∧ (key n = 18444492273895866368 ↔ cls n = 3) := by
  cases h : nanB n
  · have h' : ¬ 9218868437227405312 < n % 9223372036854775808 := of_decide_eq_false h
    have hc : ¬ cls n = 3 := by
      unfold cls; split
      · decide
      · split
        · decide
        · rw [if_pos (by omega)]; decide
    rw [key_num h]
    refine ⟨by split <;> omega, by split <;> omega, ?_⟩
    constructor
    · intro e; exfalso; split at e <;> omega
    · intro e; exact absurd e hc
  · have h' : 9218868437227405312 < n % 9223372036854775808 := of_decide_eq_true h
    rw [key_nan h]
    refine ⟨by decide, by decide, ?_⟩
    constructor
    · intro _; unfold cls; rw [if_neg (by omega), if_neg (by omega), if_neg (by omega)]
    · intro _; rfl

set_option maxHeartbeats 1000000 in
theorem realEdges_any (b : Int) (w : World) (hb0 : 0 ≤ b) (hb1 : b < 18446744073709551616) (ht : w.cell? ⟨6, 15, none⟩ = some (.int .u8 4)) (hN : 6 < w.heap.size) :
    Calls Tryd.prog 6 #[.int .u64 b] w fun e w' => e = .returned (.bool true) ∧ Below w.heap.size w w' := by
  have hi1 := infN_pos
  have hi2 := infN_neg
  have hnan := nan_or hb0 hb1
  have hnb := nf_lt hb1
  have htop := key_top hnb
  obtain ⟨m, hm⟩ : ∃ m, nf (bits .or .u64 b 9221120237041090560) = m := ⟨_, rfl⟩
  rw [hm] at hnan
  obtain ⟨hnm, hml⟩ := hnan
  obtain ⟨kk, hkk⟩ : ∃ k, key (nf b) = k := ⟨_, rfl⟩
  obtain ⟨cl, hcl⟩ : ∃ c, cls (nf b) = c := ⟨_, rfl⟩
  have hC : ∀ w, Calls Tryd.prog 19 #[.int .u64 b] w fun e w' => e = .returned (.int .i64 cl) ∧ w' = w := fun w => by rw [← hcl]; exact rclass_any _ w hb0 hb1
  obtain ⟨fr, hfr⟩ : ∃ c, cmpI (key 18442240474082181120) (key (nf b)) = c := ⟨_, rfl⟩
  obtain ⟨tt, hto⟩ : ∃ c, cmpI (key (nf b)) (key m) = c := ⟨_, rfl⟩
  have hfr0 : fr ≤ 0 := by rw [← hfr, show key 18442240474082181120 = 4503599627370495 by decide]; exact (cmpI_le _ _).2 htop.1
  have hto0 : tt ≤ 0 := by rw [← hto, key_nan hnm]; exact (cmpI_le _ _).2 htop.2.1
  have hte : (tt == 0) = (cl == 3) := by
    rw [Bool.eq_iff_iff, beq_iff_eq, beq_iff_eq, ← hto, ← hcl, cmpI_zero, key_nan hnm]; exact htop.2.2
  clear htop hkk
  go_enter Tryd.func6, Tryd.ntmps6
  go_wp2_with (first
    | (go_at_call 10; refine (awake3_any _ ht hN).mono ?_; rintro e w2 ⟨rfl, hb2⟩)
    | (go_at_call 22; refine (inf_any _ _).mono ?_; rintro e w1 ⟨rfl, hw1⟩; replace hw1 := hw1.symm; subst hw1)
    | (go_at_call 23; refine (copysign_one _).mono ?_; rintro e w1 ⟨rfl, hw1⟩; replace hw1 := hw1.symm; subst hw1)
    | (go_at_call 14; refine (f_any _ _).mono ?_; rintro e w1 ⟨rfl, hw1⟩; replace hw1 := hw1.symm; subst hw1))
  clear hb0 hb1 hm
  have HML : Hid (∀ _ : Unit, m < 18446744073709551616) := fun _ => hml
  have HNB : Hid (∀ _ : Unit, nf b < 18446744073709551616) := fun _ => hnb
  clear hml hnb
  go_loopw [4] (fun i wr => ∃ k : Nat, k ≤ 8 ∧ i = .int .i64 ((k : Int) + 1) ∧ Edg m w2.heap.size wr ∧ Below w.heap.size w wr) (fun i _ => 9 - (intOf i).toNat)
  case atStart =>
    refine ⟨0, by omega, rfl, ⟨by simp, fun k hk => ?_⟩, hb2.trans ((Below.refl _ _).alloc hb2.size _)⟩
    rw [World.cell?_alloc_new]
    rcases k with _ | _ | _ | _ | _ | _ | _ | _ | _ | k <;> first | rfl | omega
  case round =>
    obtain ⟨k, hk, rfl, hE, hB⟩ := hrel
    by_cases hlt : k < 8
    · have c1 := hE.2 k (by omega)
      have c2 := hE.2 (k + 1) (by omega)
      have hst := lv_step hnm hlt
      have l1 := lv_lt (k := k) (HML ())
      have l2 := lv_lt (k := k + 1) (HML ())
      generalize lv m k = p at c1 hst l1
      generalize lv m (k + 1) = q at c2 hst l2
      have HE : Hid (∀ _ : Unit, Edg m w2.heap.size wr) := fun _ => hE
      have hQ : ∀ w, Calls Tryd.prog 20 #[.float .f64 p, .float .f64 q] w fun e w' => e = .returned (.int .i64 (-1)) ∧ w' = w := fun w => by rw [← hst]; exact cmp_any _ _ _ l1 l2
      have i1 : (k : Int) < 9 := by omega
      have i2 : (k : Int) + 1 < 9 := by omega
      clear hE l1 l2 hst
      go_wp2
      go_quiet ((go_at_call 20; exact Calls.quiet_of_same (hQ _)))
      go_wp2
      go_roundw
      case rel => exact ⟨k + 1, by omega, by go_num, (HE ()).drewN _, below_drewN hB _⟩
      case measure => simp [intOf]; omega
    · have c0 : wr.cell? ⟨w2.heap.size, 0, none⟩ = some (.float .f64 18442240474082181120) := hE.2 0 (by omega)
      have c8 : wr.cell? ⟨w2.heap.size, 8, none⟩ = some (.float .f64 m) := hE.2 8 (by omega)
      have hd : decide ((k : Int) + 1 < 9) = false := decide_eq_false (by omega)
      have hz : ∀ z, (z = 18442240474082181120 ∨ z = nf b ∨ z = m) → z < 18446744073709551616 := by
        rintro z (rfl | rfl | rfl)
        · decide
        · exact HNB ()
        · exact HML ()
      clear hE hlt
      go_wp2_with (first
        | (go_at_call 14; refine (f_any _ _).mono ?_; rintro e w1 ⟨rfl, hw1⟩; replace hw1 := hw1.symm; subst hw1))
      go_quiet ((go_at_call 20; exact Calls.quiet_of_same (cmp_any _ _ _ (hz _ (by first | exact .inl rfl | exact .inr (.inl rfl) | exact .inr (.inr rfl))) (hz _ (by first | exact .inl rfl | exact .inr (.inl rfl) | exact .inr (.inr rfl))))))
      go_wp2_with (first
        | (go_at_call 19; refine (hC _).mono ?_; rintro e w1 ⟨rfl, hw1⟩; replace hw1 := hw1.symm; subst hw1))
      go_ret
      exact ⟨rfl, below_drewN hB _⟩
end Go.Proofs.YtnpoojjnfkhdaaaDoor
