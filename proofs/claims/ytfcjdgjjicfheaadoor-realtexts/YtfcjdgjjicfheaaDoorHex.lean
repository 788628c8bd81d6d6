/-
  The digits of a number in base 16, as the library writes them.
-/
import Derived.Test.YtfcjdgjjicfheaaDoorWords
namespace Go.Proofs.YtfcjdgjjicfheaaDoor
open Go.RowKit

theorem isPow_any (w : World) : Calls Tryd.prog 59 #[.int .i64 16] w fun e w' => e = .returned (.bool true) ∧ w' = w := by
  have h : bits .and .i64 16 15 = 0 := by decide
  go_enter Tryd.func59, Tryd.ntmps59
  go_wp2
  go_ret
  exact ⟨rfl, rfl⟩
theorem tz_any (w : World) (ht : w.cell? ⟨6, 15, none⟩ = some (.int .u8 4)) : Calls Tryd.prog 60 #[.int .u64 16] w fun e w' => e = .returned (.int .i64 4) ∧ w' = w := by
  have h : bits .and .u64 16 (IntKind.u64.wrap (-16)) = 16 := by decide
  have h2 : IntKind.u64.wrap 4573923408821661840 = 4573923408821661840 := by decide
  go_enter Tryd.func60, Tryd.ntmps60
  go_wp2
  go_ret
  exact ⟨rfl, rfl⟩

def digS : ByteArray := ⟨#[48, 49, 50, 51, 52, 53, 54, 55, 56, 57, 97, 98, 99, 100, 101, 102, 103, 104, 105, 106, 107, 108, 109, 110, 111, 112, 113, 114, 115, 116, 117, 118, 119, 120, 121, 122]⟩
/-- A digit's byte. -/
def hexd (d : Nat) : Nat := if d < 10 then 48 + d else 87 + d
/-- While the digits are written from the last place on: block N of 65 bytes. -/
structure Dig (w wr : World) (N u k : Nat) : Prop where
  below : Below N w wr
  size : N < wr.heap.size
  there : ∀ j, j < 65 → (wr.cell? ⟨N, j, none⟩).isSome = true ∧ wr.frozen? ⟨N, j, none⟩ = false
  digs : ∀ j, j < k → wr.cell? ⟨N, 64 - j, none⟩ = some (.int .u8 (hexd (u / 16 ^ j % 16) : Nat))

theorem Dig.step {w wr : World} {N u k : Nat} (h : Dig w wr N u k) (hk : k < 65) (v : Value) (hv : v = .int .u8 (hexd (u / 16 ^ k % 16) : Nat)) : Dig w (wr.setCell ⟨N, 64 - k, none⟩ v) N u (k + 1) := by
  have hs : (wr.cell? ⟨N, 64 - k, none⟩).isSome = true := (h.there (64 - k) (by omega)).1
  refine ⟨h.below.setCell (Nat.le_refl _) _, by rw [World.size_setCell]; exact h.size, fun j hj => ⟨?_, ?_⟩, fun j hj => ?_⟩
  · by_cases e : j = 64 - k
    · subst e; rw [World.cell?_setCell_same' _ _ _ hs]; rfl
    · rw [World.cell?_setCell_other]; · exact (h.there j hj).1
      · intro e2; injection e2; omega
  · rw [World.frozen?_setCell]; exact (h.there j hj).2
  · by_cases e : j = k
    · subst e; rw [World.cell?_setCell_same' _ _ _ hs, hv]
    · rw [World.cell?_setCell_other]; · exact h.digs j (by omega)
      · intro e2; injection e2; omega

theorem and15 (y : Int) (h0 : 0 ≤ y) (h1 : y < 18446744073709551616) : bits .and .u64 y 15 = y % 16 := by
  rw [u64_and y 15 h0 h1 (by decide) (by decide), show (15 : Int).toNat = 2 ^ 4 - 1 from rfl, Nat.and_two_pow_sub_one_eq_mod]
  omega

/-- The last L digits, the highest first. -/
def hexL (u L : Nat) : List UInt8 := (List.range L).map fun t => UInt8.ofNat (hexd (u / 16 ^ (L - 1 - t) % 16))
def hexS (u L : Nat) : ByteArray := ⟨(hexL u L).toArray⟩
theorem hexd_lt {d : Nat} (h : d < 16) : hexd d < 128 := by unfold hexd; split <;> omega
theorem hexL_length (u L : Nat) : (hexL u L).length = L := by simp [hexL]
theorem Dig.cell {w wr : World} {N u k : Nat} (h : Dig w wr N u k) (hk : k ≤ 65) (j : Nat) (hj : j < (hexL u k).length) : wr.cell? ⟨N, 65 - k + j, none⟩ = some (.int .u8 (((hexL u k)[j]).toNat : Int)) := by
  rw [hexL_length] at hj
  have hd := h.digs (k - 1 - j) (by omega)
  rw [show 64 - (k - 1 - j) = 65 - k + j by omega] at hd
  rw [hd]
  simp only [hexL, List.getElem_map, List.getElem_range, UInt8.toNat_ofNat']
  rw [Nat.mod_eq_of_lt (Nat.lt_of_lt_of_le (hexd_lt (Nat.mod_lt _ (by decide))) (by decide))]
theorem dig_at (n : Nat) (h : n < digS.size) (h16 : n < 16) : digS[n].toNat = hexd n := by
  have : ∀ n : Fin 16, ∀ h : n.val < digS.size, digS[n.val].toNat = hexd n.val := by decide
  exact this ⟨n, h16⟩ h
theorem pow16_lt {u k : Nat} (hu : u < 18446744073709551616) (h : 16 ≤ u / 16 ^ k) : k ≤ 14 := by
  rcases Nat.lt_or_ge k 15 with h1 | h1
  · omega
  · exfalso
    have h2 : 16 ^ 15 ≤ 16 ^ k := Nat.pow_le_pow_right (by decide) h1
    have h3 : u / 16 ^ k ≤ u / 16 ^ 15 := Nat.div_le_div_left h2 (by decide)
    have h4 : u / 16 ^ 15 < 16 := Nat.div_lt_of_lt_mul (by rw [show 16 ^ 15 * 16 = 18446744073709551616 by decide]; exact hu)
    omega

set_option maxHeartbeats 1000000 in
theorem fb_any (u : Nat) (x : Int) (w : World) (hx : Hid (x = (u : Int))) (h0 : 0 ≤ x) (h1 : x < 18446744073709551616) (ht : w.cell? ⟨6, 15, none⟩ = some (.int .u8 4)) (hN : 6 < w.heap.size) :
    Calls Tryd.prog 44 #[.slice none 0 0, .int .u64 x, .int .i64 16, .bool false, .bool false] w fun e w' => (∃ L, 1 ≤ L ∧ L ≤ 16 ∧ u < 16 ^ L ∧ e = .returned (.tuple #[.slice none 0 0, .string (hexS u L)])) ∧ Below w.heap.size w w' := by
  have ht1 : ∀ o, (w.alloc o).cell? ⟨6, 15, none⟩ = some (.int .u8 4) := fun o => by
    rw [World.cell?_alloc_past _ _ _ (by exact hN)]; exact ht
  have hD0 : Dig w (w.alloc (.cells Tryd.zeroCells88 88)) w.heap.size u 0 := by
    refine ⟨(Below.refl _ _).alloc (Nat.le_refl _) _, by simp, fun j hj => ⟨?_, World.frozen?_alloc_new w _ _ _⟩, fun j hj => absurd hj (Nat.not_lt_zero _)⟩
    rw [World.cell?_alloc_new]
    have hz : (Tryd.zeroCells88).size = 65 := by kernel_rfl
    rw [Array.getElem?_eq_getElem (by rw [hz]; exact hj)]; rfl
  go_enter Tryd.func44, Tryd.ntmps44
  go_wp2_with (first
    | (go_at_call 59; refine (isPow_any _).mono ?_; rintro e w' ⟨rfl, rfl⟩)
    | (go_at_call 60; refine (tz_any _ (ht1 _)).mono ?_; rintro e w' ⟨rfl, rfl⟩))
  go_loopw [1, 13] (fun a b wr => ∃ (k i : Nat) (y : Int), a = .int .u64 y ∧ b = .int .i64 ((i : Int) + 1) ∧ Hid (∀ _ : Unit, i + k = 64) ∧ i ≤ 64 ∧ Hid (y = ((u / 16 ^ k : Nat) : Int)) ∧ k ≤ 15 ∧ 0 ≤ y ∧ y < 18446744073709551616 ∧ Dig w wr w.heap.size u k) (fun a _ _ => (intOf a).toNat)
  case atStart => exact ⟨0, 64, x, rfl, rfl, fun _ => rfl, by omega, by have := hx.out; show x = _; rw [this]; simp, by omega, h0, h1, hD0⟩
  case round =>
    obtain ⟨k, i, y, rfl, rfl, hik, hi64, hy, hk, hy0, hy1, hD⟩ := hrel
    obtain ⟨hc1, hc2⟩ := hD.there i (by omega)
    obtain ⟨c0, hc0⟩ := Option.isSome_iff_exists.1 hc1
    clear hc1
    by_cases hge : 16 ≤ y
    · have ha := and15 y hy0 hy1
      obtain ⟨d, hd⟩ : ∃ d : Int, y % 16 = d := ⟨_, rfl⟩
      have hd0 : 0 ≤ d := by omega
      have hd1 : d < 36 := by omega
      have HE : Hid (∀ _ : Unit, d < 16 ∧ d.toNat = u / 16 ^ k % 16) := fun _ => by have := hy.out; omega
      have HK : Hid (∀ _ : Unit, k ≤ 14) := fun _ => by
        have e1 := hx.out; have e2 := hy.out
        exact pow16_lt (u := u) (by omega) (by omega)
      rw [hd] at ha
      have HD : Hid (∀ _ : Unit, y % 16 = d) := fun _ => hd
      clear hd
      go_wp2
      go_roundw
      case rel =>
        have hk14 := HK ()
        have hi := hik ()
        refine ⟨k + 1, i - 1, y / 16, rfl, congrArg (Value.int .i64) (by omega), fun _ => by omega, by omega, ?_, by omega, by omega, by omega, ?_⟩
        · show y / 16 = _
          have := hy.out
          rw [Nat.pow_succ, ← Nat.div_div_eq_div_mul]; omega
        · have e := HE ()
          rw [show i = 64 - k by omega]
          refine hD.step (by omega) _ ?_
          show Value.int .u8 ((digS[d.toNat]'(by show d.toNat < 36; omega)).toNat : Int) = _
          rw [dig_at d.toNat _ (by omega), e.2]
      case measure => simp [intOf]; omega
    · have hlt : decide (16 ≤ y) = false := decide_eq_false hge
      have HY : Hid (∀ _ : Unit, y < 16) := fun _ => by omega
      have hy36 : y < 36 := by omega
      have hil := hik ()
      have hb36 : y.toNat < 36 := by omega
      obtain ⟨c, hc⟩ : ∃ c : Nat, ((⟨(48 :: 49 :: 50 :: 51 :: 52 :: 53 :: 54 :: 55 :: 56 :: 57 :: 97 :: 98 :: 99 :: 100 :: 101 :: 102 :: 103 :: 104 :: 105 :: 106 :: 107 :: 108 :: 109 :: 110 :: 111 :: 112 :: 113 :: 114 :: 115 :: 116 :: 117 :: 118 :: 119 :: 120 :: 121 :: 122 :: [] : List UInt8).toArray⟩ : ByteArray)[y.toNat]'(hb36)).toNat = c := ⟨_, rfl⟩
      have hcd : c = hexd (u / 16 ^ k % 16) := by
        have e1 := hy.out
        rw [← hc]
        have := dig_at y.toNat (by show y.toNat < 36; omega) (by omega)
        rw [show u / 16 ^ k % 16 = y.toNat by omega, ← this]; rfl
      have hD2 : Dig w (wr.setCell ⟨w.heap.size, i, none⟩ (.int .u8 (c : Int))) w.heap.size u (k + 1) := by
        have := hD.step (v := .int .u8 (c : Int)) (by omega) (by rw [hcd])
        rwa [show 64 - k = i by omega] at this
      have hlen : 65 - i = (hexL u (k + 1)).length := by rw [hexL_length]; omega
      have hsl : ∀ W, (Instr.sliceAt 88 (.pointer (some ⟨w.heap.size, 0, none⟩)) (some (.int .i64 (i : Int))) none none).run Tryd.prog W = .ok (.slice (some ⟨w.heap.size, i, none⟩) (65 - i) (65 - i)) W := fun W => by
        have hal : Tryd.prog.arrayLen 88 = 65 := by kernel_rfl
        have hel : Tryd.prog.elem 88 = 5 := by kernel_rfl
        have hsz : (sizeOf 5).run Tryd.prog W = .ok 1 W := by kernel_rfl
        rw [run_sliceAt_array_l (P := Tryd.prog) W 88 ⟨w.heap.size, 0, none⟩ (by rw [hal, hel]; exact Tryd.underlying88) .i64 (i : Int) (by omega) (by rw [hal]; omega), hel, hsz]
        simp only [Result.andThen, slicedAt, hal, Int.toNat_natCast]
        rw [if_neg (by omega), Addr.add_lit]; simp
      have hcv : (convert 60 9 (.slice (some ⟨w.heap.size, i, none⟩) (65 - i) (65 - i))).run Tryd.prog (wr.setCell ⟨w.heap.size, i, none⟩ (.int .u8 (c : Int))) = .ok (.string (hexS u (k + 1))) (wr.setCell ⟨w.heap.size, i, none⟩ (.int .u8 (c : Int))) := by
        rw [hlen]
        refine run_convert_bytes_back _ _ _ 5 ⟨w.heap.size, i, none⟩ _ (hexL u (k + 1)) Tryd.underlying60 Tryd.underlying5 Tryd.underlying9 (fun j hj => ?_)
        have := hD2.cell (by omega) j hj
        rw [show 65 - (k + 1) = i by omega] at this
        rw [Addr.add_lit]; exact this
      have HF : Hid (∀ _ : Unit, u < 16 ^ (k + 1)) := fun _ => by
        have e1 := hy.out
        have e2 : u / 16 ^ k < 16 := by omega
        have := (Nat.div_lt_iff_lt_mul (Nat.pow_pos (by decide : 0 < 16))).1 e2
        rw [Nat.pow_succ, Nat.mul_comm]; exact this
      have HB : Hid (∀ _ : Unit, Below w.heap.size w (wr.setCell ⟨w.heap.size, i, none⟩ (.int .u8 (c : Int)))) := fun _ => hD2.below
      clear hy1 h0 h1 hcd hlen hil hD2
      go_wp2
      go_ret2
      exact ⟨⟨k + 1, by omega, by omega, HF (), rfl⟩, HB ()⟩
end Go.Proofs.YtfcjdgjjicfheaaDoor
