/-
  How two words of 64 bits stand to each other as floats: by their rungs with signs. Plain numbers.
-/
import Ieee.Arith
namespace Go.Proofs.YtfcjdgjjicfheaaDoor.Flt
open Ieee

/-- The rung with its sign. -/
def srung (x : Nat) : Int := if x / 9223372036854775808 % 2 = 1 then -((x % 9223372036854775808 : Nat) : Int) else ((x % 9223372036854775808 : Nat) : Int)

def mag (r : Nat) : Nat := if r < 4503599627370496 then r else 4503599627370496 + r % 4503599627370496
def ex (r : Nat) : Nat := r / 4503599627370496 - 1
def val (r : Nat) : Nat := mag r * 2 ^ ex r

theorem val_succ (r : Nat) : val r < val (r + 1) := by
  unfold val mag ex
  by_cases h1 : r + 1 < 4503599627370496
  · have h2 : r < 4503599627370496 := by omega
    have e1 : r / 4503599627370496 - 1 = 0 := by omega
    have e2 : (r + 1) / 4503599627370496 - 1 = 0 := by omega
    rw [if_pos h2, if_pos h1, e1, e2]; omega
  · rw [if_neg h1]
    by_cases h2 : r < 4503599627370496
    · have e1 : r / 4503599627370496 - 1 = 0 := by omega
      have e2 : (r + 1) / 4503599627370496 - 1 = 0 := by omega
      have e3 : (r + 1) % 4503599627370496 = 0 := by omega
      rw [if_pos h2, e1, e2, e3]; omega
    · rw [if_neg h2]
      by_cases h3 : (r + 1) % 4503599627370496 = 0
      · have e2 : (r + 1) / 4503599627370496 - 1 = (r / 4503599627370496 - 1) + 1 := by omega
        have e3 : r % 4503599627370496 = 4503599627370495 := by omega
        rw [h3, e2, e3, Nat.pow_succ]
        have : 0 < 2 ^ (r / 4503599627370496 - 1) := Nat.two_pow_pos _
        generalize 2 ^ (r / 4503599627370496 - 1) = p at *
        omega
      · have e2 : (r + 1) / 4503599627370496 - 1 = r / 4503599627370496 - 1 := by omega
        have e3 : (r + 1) % 4503599627370496 = r % 4503599627370496 + 1 := by omega
        rw [e2, e3]
        have : 0 < 2 ^ (r / 4503599627370496 - 1) := Nat.two_pow_pos _
        exact Nat.mul_lt_mul_of_pos_right (by omega) this

theorem val_mono {r s : Nat} (h : r < s) : val r < val s := by
  induction s with
  | zero => omega
  | succ s ih =>
    by_cases e : r = s
    · subst e; exact val_succ r
    · exact Nat.lt_trans (ih (by omega)) (val_succ s)
theorem val_zero : val 0 = 0 := by simp [val, mag]
theorem val_lt_iff (r s : Nat) : val r < val s ↔ r < s := by
  constructor
  · intro h
    rcases Nat.lt_trichotomy r s with h1 | h1 | h1
    · exact h1
    · subst h1; omega
    · have := val_mono h1; omega
  · exact val_mono
theorem val_pos {r : Nat} (h : 0 < r) : 0 < val r := by have := val_mono h; omega

theorem read_num (x : Nat) (h : x % 9223372036854775808 < 9218868437227405312) :
    double.read x = .number (decide (x / 9223372036854775808 % 2 = 1)) (mag (x % 9223372036854775808)) (double.leastPlace + (ex (x % 9223372036854775808) : Nat)) := by
  unfold Format.read
  have e1 : double.signWeight = 9223372036854775808 := rfl
  have e2 : double.binade = 4503599627370496 := rfl
  have e3 : double.infRung = 9218868437227405312 := rfl
  simp only [e1, e2, e3]
  generalize x % 9223372036854775808 = r at *
  by_cases h1 : r < 4503599627370496
  · have e : r / 4503599627370496 - 1 = 0 := by omega
    simp [h1, mag, ex, e, BEq.beq]
  · simp [h1, h, mag, ex]
    rfl
theorem read_inf (x : Nat) (h : x % 9223372036854775808 = 9218868437227405312) : double.read x = .infinity (decide (x / 9223372036854775808 % 2 = 1)) := by
  unfold Format.read
  have e1 : double.signWeight = 9223372036854775808 := rfl
  have e2 : double.binade = 4503599627370496 := rfl
  have e3 : double.infRung = 9218868437227405312 := rfl
  simp only [e1, e2, e3, h]
  rfl
theorem read_nan (x : Nat) (h : 9218868437227405312 < x % 9223372036854775808) : ∃ s t, double.read x = .nan s t := by
  unfold Format.read
  have e1 : double.signWeight = 9223372036854775808 := rfl
  have e2 : double.binade = 4503599627370496 := rfl
  have e3 : double.infRung = 9218868437227405312 := rfl
  simp only [e1, e2, e3]
  rw [if_neg (by omega), if_neg (by omega), if_neg (by omega)]
  exact ⟨_, _, rfl⟩

theorem compare_int (a b : Int) : compare a b = if a < b then .lt else if a = b then .eq else .gt := rfl
theorem compare_scale (a b c d : Int) (h1 : a < b ↔ c < d) (h2 : a = b ↔ c = d) : compare a b = compare c d := by
  rw [compare_int, compare_int]; simp only [h1, h2]

def sval (s : Bool) (r : Nat) : Int := if s then -(val r : Int) else val r

theorem signed_scale (s : Bool) (r k : Nat) (hk : k ≤ ex r) : signed s (mag r) (ex r - k) * (2 ^ k : Nat) = sval s r := by
  have : mag r <<< (ex r - k) * 2 ^ k = val r := by
    rw [Nat.shiftLeft_eq, Nat.mul_assoc, ← Nat.pow_add, Nat.sub_add_cancel hk]; rfl
  unfold signed sval
  cases s
  · simp only [Bool.false_eq_true, if_false]; exact_mod_cast this
  · simp only [if_true]; rw [Int.neg_mul]; congr 1; exact_mod_cast this

theorem order_val (s t : Bool) (x y : Nat) : Datum.order (.number s (mag x) (double.leastPlace + (ex x : Nat))) (.number t (mag y) (double.leastPlace + (ex y : Nat))) = some (compare (sval s x) (sval t y)) := by
  unfold Datum.order
  simp only
  have e1 : (double.leastPlace + (ex x : Nat) - min (double.leastPlace + (ex x : Nat)) (double.leastPlace + (ex y : Nat))).toNat = ex x - min (ex x) (ex y) := by omega
  have e2 : (double.leastPlace + (ex y : Nat) - min (double.leastPlace + (ex x : Nat)) (double.leastPlace + (ex y : Nat))).toNat = ex y - min (ex x) (ex y) := by omega
  rw [e1, e2]
  have h1 := signed_scale s x (min (ex x) (ex y)) (Nat.min_le_left _ _)
  have h2 := signed_scale t y (min (ex x) (ex y)) (Nat.min_le_right _ _)
  have hp : (0 : Int) < ((2 ^ min (ex x) (ex y) : Nat) : Int) := by exact_mod_cast Nat.two_pow_pos _
  rw [← h1, ← h2]
  congr 1
  refine compare_scale _ _ _ _ ?_ ?_
  · exact (Int.mul_lt_mul_right hp).symm
  · exact (Int.mul_eq_mul_right_iff (by omega)).symm

theorem compare_sval (s t : Bool) (x y : Nat) : compare (sval s x) (sval t y) = compare (if s then -(x : Int) else x) (if t then -(y : Int) else y) := by
  have h1 := val_lt_iff x y
  have h2 := val_lt_iff y x
  have h3 : 0 < val x ↔ 0 < x := by have := val_lt_iff 0 x; rw [val_zero] at this; exact this
  have h4 : 0 < val y ↔ 0 < y := by have := val_lt_iff 0 y; rw [val_zero] at this; exact this
  refine compare_scale _ _ _ _ ?_ ?_ <;> cases s <;> cases t <;> simp only [sval, if_true, Bool.false_eq_true, if_false] <;> omega

theorem lt_of_word {x : Nat} (_h : x < 18446744073709551616) : x % 9223372036854775808 < 9223372036854775808 := by omega

/-- Of two that are numbers. -/
theorem order_eq (x y : Nat) (hx : x % 9223372036854775808 ≤ 9218868437227405312) (hy : y % 9223372036854775808 ≤ 9218868437227405312) :
    double.order x y = some (compare (srung x) (srung y)) := by
  unfold Format.order
  by_cases ix : x % 9223372036854775808 = 9218868437227405312
  · rw [read_inf x ix]
    by_cases iy : y % 9223372036854775808 = 9218868437227405312
    · rw [read_inf y iy]
      unfold srung
      rw [ix, iy]
      by_cases sx : x / 9223372036854775808 % 2 = 1 <;> by_cases sy : y / 9223372036854775808 % 2 = 1 <;> simp only [sx, sy, decide_true, decide_false, Datum.order, if_true, if_false] <;> rfl
    · rw [read_num y (by omega)]
      unfold srung
      rw [ix]
      by_cases sx : x / 9223372036854775808 % 2 = 1
      · simp only [sx, decide_true, Datum.order, if_true]
        rw [compare_int, if_pos (by split <;> omega)]
      · simp only [sx, decide_false, Datum.order, if_false, Bool.false_eq_true]
        rw [compare_int, if_neg (by split <;> omega), if_neg (by split <;> omega)]
  · rw [read_num x (by omega)]
    by_cases iy : y % 9223372036854775808 = 9218868437227405312
    · rw [read_inf y iy]
      unfold srung
      rw [iy]
      by_cases sy : y / 9223372036854775808 % 2 = 1
      · simp only [sy, decide_true, Datum.order, if_true]
        rw [compare_int, if_neg (by split <;> omega), if_neg (by split <;> omega)]
      · simp only [sy, decide_false, Datum.order, if_false, Bool.false_eq_true]
        rw [compare_int, if_pos (by split <;> omega)]
    · rw [read_num y (by omega), order_val, compare_sval]
      unfold srung
      congr 2
      · by_cases sx : x / 9223372036854775808 % 2 = 1 <;> simp only [sx, decide_true, decide_false, if_true, if_false, Bool.false_eq_true]
      · by_cases sy : y / 9223372036854775808 % 2 = 1 <;> simp only [sy, decide_true, decide_false, if_true, if_false, Bool.false_eq_true]
theorem order_nan_left (x y : Nat) (h : 9218868437227405312 < x % 9223372036854775808) : double.order x y = none := by
  obtain ⟨s, t, e⟩ := read_nan x h
  unfold Format.order; rw [e]; cases double.read y <;> rfl
theorem order_nan_right (x y : Nat) (h : 9218868437227405312 < y % 9223372036854775808) : double.order x y = none := by
  obtain ⟨s, t, e⟩ := read_nan y h
  unfold Format.order; rw [e]; cases double.read x <;> rfl
end Go.Proofs.YtfcjdgjjicfheaaDoor.Flt
