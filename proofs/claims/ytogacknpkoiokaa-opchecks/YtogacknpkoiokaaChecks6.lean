/-
  Layer 6's law of checks: the call returns true.
-/
import Derived.Test.YtogacknpkoiokaaOp6b
namespace Go.Proofs.Ytogacknpkoiokaa
open Go.RowKit

set_option maxHeartbeats 2000000 in
theorem opChecks_any (kind k v : Int) (w : World) : Calls Try.prog 9 #[.int .i64 kind, .int .i64 k, .int .i64 v] w fun e w' => e = .returned (.bool true) ∧ Below w.heap.size w w' := by
  have hA := awake6_any w
  have hR := fun w => rof_any kind w
  have hO := fun w => of_any kind w
  have hC := fun w => check_any kind k v 0 0 0 w
  have hK := fun w => rcheck_any kind k v w
  obtain ⟨hl1, hl2⟩ := opl_length kind
  have hg := opl_get kind
  obtain ⟨hr1, hr2, hr3, hr4, _⟩ := op_rng kind
  generalize chk kind k v = c at *
  generalize opl kind = l at *
  generalize opFrom kind = fr at *
  generalize opTo kind = to at *
  have hneq : ((l.length : Int) != to - fr + 1) = false := by simp; omega
  have HG : Hid (∀ _ : Unit, ∀ i, i < l.length → l[i]! = fr + (i : Int)) := fun _ => hg
  obtain ⟨n, hn⟩ : ∃ n, l.length = n := ⟨_, rfl⟩
  rw [hn] at hneq hl2
  have HN : Hid (∀ _ : Unit, l.length = n) := fun _ => hn
  rw [hn] at hO
  have hl2' : (n : Int) ≤ 2 := by omega
  clear hl1 hg hn hl2
  have hsf := run_store_flt (P := Try.prog)
  go_enter Try.func9, Try.ntmps9
  go_wp2_with fail
  refine hA.mono ?_
  rintro e w1 ⟨rfl, hb1⟩
  go_wp2_with (first
    | (go_at_call 42; refine (hR _).mono ?_; rintro e w2 ⟨rfl, hw⟩; replace hw := hw.symm; subst hw)
    | (go_at_call 43; refine (hO _).mono ?_; rintro e w3 ⟨a, rfl, hi, hb3⟩))
  have z0 : w3.cell? ⟨w1.heap.size, 0, none⟩ = some (.int .i64 k) := by rw [hb3.cell (p := ⟨w1.heap.size, 0, none⟩) (by simp)]; simp
  have z1 : w3.cell? ⟨w1.heap.size, 1, none⟩ = some (.float .f64 0) := by rw [hb3.cell (p := ⟨w1.heap.size, 1, none⟩) (by simp)]; simp
  have z2 : w3.cell? ⟨w1.heap.size, 2, none⟩ = some (.int .i64 v) := by rw [hb3.cell (p := ⟨w1.heap.size, 2, none⟩) (by simp)]; simp
  have z3 : w3.cell? ⟨w1.heap.size, 3, none⟩ = some (.int .i64 0) := by rw [hb3.cell (p := ⟨w1.heap.size, 3, none⟩) (by simp)]; simp
  have z4 : w3.cell? ⟨w1.heap.size, 4, none⟩ = some (.int .i64 0) := by rw [hb3.cell (p := ⟨w1.heap.size, 4, none⟩) (by simp)]; simp
  have hB : Below w.heap.size w w3 := (hb1.trans ((Below.refl _ _).alloc hb1.size _)).trans (hb3.mono (by have := hb1.size; simp; omega))
  clear hO hR hA hb3
  go_loop [34] (fun s => ∃ i : Nat, i ≤ n ∧ s = .int .i64 (i : Int)) (fun s => n - (intOf s).toNat)
  case atStart => exact ⟨0, Nat.zero_le _, rfl⟩
  case round =>
    obtain ⟨i, hin, rfl⟩ := hrel
    by_cases hlt : i < n
    · obtain ⟨b, rfl, hb, hc⟩ := hi i (by rw [HN ()]; exact hlt)
      rw [HG () i (by rw [HN ()]; exact hlt)] at hc
      have k1 : (i : Int) < (n : Int) := by omega
      go_wp2
      go_round
      case rel => exact ⟨i + 1, by omega, by go_num⟩
      case measure => simp [intOf]; omega
    · have hd : decide ((i : Int) < (n : Int)) = false := decide_eq_false (by omega)
      go_wp2_with (first
        | (go_at_call 44; refine (hC _).mono ?_; rintro e w4 ⟨rfl, hb4⟩)
        | (go_at_call 45; refine (hK _).mono ?_; rintro e w5 ⟨rfl, hw⟩; replace hw := hw.symm; subst hw))
      go_ret
      exact ⟨rfl, hB.trans (hb4.mono hB.size)⟩
end Go.Proofs.Ytogacknpkoiokaa
