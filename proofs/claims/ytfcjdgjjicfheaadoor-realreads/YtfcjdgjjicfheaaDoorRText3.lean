/-
  Layer 3: the document's Text: contract.
-/
import Derived.Test.YtfcjdgjjicfheaaDoorParse3
namespace Go.Proofs.YtfcjdgjjicfheaaDoor
open Go.RowKit

/-- The digits, and one of them. -/
def digs16 : ByteArray := ⟨#[48, 49, 50, 51, 52, 53, 54, 55, 56, 57, 97, 98, 99, 100, 101, 102]⟩
theorem digs16_at (d : Nat) (h : d < 16) : digs16.extract d (d + 1) = ⟨#[UInt8.ofNat (hexd d)]⟩ := by
  have : ∀ d : Fin 16, (digs16.extract d.val (d.val + 1)).data = #[UInt8.ofNat (hexd d.val)] := by decide +kernel
  exact ByteArray.ext (this ⟨d, h⟩)
theorem slice_dig (y : Int) (d : Nat) (hd : y = (d : Int)) (h : d < 16) (w : World) :
    (Instr.slice 9 (.string digs16) (some (.int .u64 y)) (some (.int .u64 (y + 1))) none).run Tryd.prog w = .ok (.string ⟨#[UInt8.ofNat (hexd d)]⟩) w := by
  subst hd
  rw [run_slice_string _ _ _ _ _ _ _ Tryd.underlying9 (by omega) (by omega) (by show (d : Int) + 1 ≤ 16; omega)]
  rw [show ((d : Int) + 1).toNat = d + 1 by omega, show (d : Int).toNat = d by omega, digs16_at d h]
theorem hexS_cons (n i : Nat) : (⟨#[UInt8.ofNat (hexd (n / 16 ^ i % 16))]⟩ : ByteArray) ++ hexS n i = hexS n (i + 1) := by
  apply ByteArray.ext
  rw [ByteArray.data_append]
  show #[_] ++ (hexL n i).toArray = (hexL n (i + 1)).toArray
  rw [hexL_succ]
  simp
/-- What is left behind i digits. -/
def leftI (n i : Nat) : Int := ((n / 16 ^ i : Nat) : Int)
theorem hexS_zero (n : Nat) : hexS n 0 = ⟨#[]⟩ := rfl
set_option maxHeartbeats 1000000 in
set_option maxRecDepth 100000 in
theorem rtext_any (n : Nat) (x : Int) (w : World) (hx : Hid (x = (n : Int))) (h0 : 0 ≤ x) (h1 : x < 18446744073709551616) :
    Calls Tryd.prog 9 #[.int .u64 x] w fun e w' => e = .returned (.string (txt (cbits n))) ∧ w' = w := by
  have hB : Calls Tryd.prog 11 #[.int .u64 x] w fun e w' => e = .returned (.int .u64 (ni (cbits n))) ∧ w' = w := by
    have := rbits_any x w h0 h1
    rw [show nf x = n by rw [hx.out]; rfl] at this
    exact this
  by_cases c0 : cbits n = 0
  · rw [c0] at hB ⊢
    rw [show ni 0 = 0 by decide] at hB
    go_enter Tryd.func9, Tryd.ntmps9
    go_wp2_with (go_at_call 11; refine hB.mono ?_; rintro e w1 ⟨rfl, rfl⟩)
    go_ret
    exact ⟨rfl, rfl⟩
  by_cases c1 : cbits n = 9223372036854775808
  · rw [c1] at hB ⊢
    rw [show ni 9223372036854775808 = 9223372036854775808 by decide] at hB
    go_enter Tryd.func9, Tryd.ntmps9
    go_wp2_with (go_at_call 11; refine hB.mono ?_; rintro e w1 ⟨rfl, rfl⟩)
    go_ret
    exact ⟨rfl, rfl⟩
  by_cases c2 : cbits n = 9218868437227405312
  · rw [c2] at hB ⊢
    rw [show ni 9218868437227405312 = 9218868437227405312 by decide] at hB
    go_enter Tryd.func9, Tryd.ntmps9
    go_wp2_with (go_at_call 11; refine hB.mono ?_; rintro e w1 ⟨rfl, rfl⟩)
    go_ret
    exact ⟨rfl, rfl⟩
  by_cases c3 : cbits n = 18442240474082181120
  · rw [c3] at hB ⊢
    rw [show ni 18442240474082181120 = 18442240474082181120 by decide] at hB
    go_enter Tryd.func9, Tryd.ntmps9
    go_wp2_with (go_at_call 11; refine hB.mono ?_; rintro e w1 ⟨rfl, rfl⟩)
    go_ret
    exact ⟨rfl, rfl⟩
  by_cases c4 : cbits n = 9221120237041090560
  · rw [c4] at hB ⊢
    rw [show ni 9221120237041090560 = 9221120237041090560 by decide] at hB
    go_enter Tryd.func9, Tryd.ntmps9
    go_wp2_with (go_at_call 11; refine hB.mono ?_; rintro e w1 ⟨rfl, rfl⟩)
    go_ret
    exact ⟨rfl, rfl⟩
  have hnn : nanB n = false := by
    rcases hb : nanB n with _ | _
    · rfl
    · exact absurd (cbits_nan hb) c4
  have hT : txt (cbits n) = hexS n 16 := by
    rcases txt_cases (cbits n) with ⟨s, h2, _⟩ | ⟨_, _, _, _, _, h2⟩
    · exfalso
      rcases word_cases h2 with ⟨_, h⟩ | ⟨_, h⟩ | ⟨_, h⟩ | ⟨_, h⟩ | ⟨_, h⟩
      · exact c0 h
      · exact c1 h
      · exact c2 h
      · exact c3 h
      · exact c4 h
    · rw [h2, cbits_num hnn]
  rw [hT]
  rw [cbits_num hnn] at c0 c1 c2 c3 c4 hB
  rw [show ni n = x from hx.out.symm] at hB
  have d0 : ¬ x = 0 := by rw [hx.out]; omega
  have d1 : ¬ x = 9223372036854775808 := by rw [hx.out]; omega
  have d2 : ¬ x = 9218868437227405312 := by rw [hx.out]; omega
  have d3 : ¬ x = 18442240474082181120 := by rw [hx.out]; omega
  have d4 : ¬ x = 9221120237041090560 := by rw [hx.out]; omega
  clear c0 c1 c2 c3 c4 hnn hT
  go_enter Tryd.func9, Tryd.ntmps9
  go_wp2_with (go_at_call 11; refine hB.mono ?_; rintro e w1 ⟨rfl, rfl⟩)
  go_loop [3, 4, 0] (fun vs vi vb => ∃ (i : Nat) (y : Int), vs = .string (hexS n i) ∧ vi = .int .i64 i ∧ vb = .int .u64 y ∧ i ≤ 16 ∧ Hid (y = leftI n i) ∧ 0 ≤ y ∧ y < 18446744073709551616)
    (fun _ vi _ => 16 - (intOf vi).toNat)
  case atStart => exact ⟨0, x, rfl, rfl, rfl, by omega, by show x = leftI n 0; rw [hx.out]; simp [leftI], h0, h1⟩
  case round =>
    obtain ⟨i, y, rfl, rfl, rfl, hi, hy, hy0, hy1⟩ := hrel
    by_cases hk : i < 16
    · have q0 : 0 ≤ y % 16 := by omega
      have q1 : y % 16 < 16 := by omega
      have hyd := hy.out
      unfold leftI at hyd
      have hsl := slice_dig (y % 16) (n / 16 ^ i % 16) (by omega) (Nat.mod_lt _ (by decide))
      have hcs := hexS_cons n i
      generalize hexd (n / 16 ^ i % 16) = hd at hsl hcs
      have hY : Hid (y / 16 = leftI n (i + 1)) := by
        show _ = _
        unfold leftI
        rw [← div16_succ, hyd]; omega
      have q2 : 0 ≤ y / 16 := by omega
      have q3 : y / 16 < 18446744073709551616 := by omega
      clear hyd hy
      unfold digs16 at hsl
      have hsz : ¬ 9223372036854775807 < 1 + (hexS n i).size := by rw [hexS_size]; omega
      go_wp2
      exact ⟨⟨i + 1, y / 16, by first | rfl | (congr 1; omega), by first | rfl | (congr 1; omega), rfl, by omega, hY, q2, q3⟩, by simp [intOf]; omega⟩
    · have hk16 : i = 16 := by omega
      subst hk16
      go_wp2
      go_ret
      exact ⟨rfl, rfl⟩
end Go.Proofs.YtfcjdgjjicfheaaDoor
