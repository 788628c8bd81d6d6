/-
  The highest of 64 bits. Plain numbers.
-/
import Derived.Laws.BitsAllLaws
namespace Go.Proofs.YtfcjdgjjicfheaaDoor.Top
open Go

theorem and_top (a : Nat) (h : a < 18446744073709551616) : a &&& 9223372036854775808 = a / 9223372036854775808 * 9223372036854775808 := by
  apply Nat.eq_of_testBit_eq
  intro i
  rw [Nat.testBit_and, show (9223372036854775808 : Nat) = 2 ^ 63 by decide, Nat.testBit_two_pow]
  have hc : a / 2 ^ 63 = 0 ∨ a / 2 ^ 63 = 1 := by rw [show (2 : Nat) ^ 63 = 9223372036854775808 by decide]; omega
  have ht : a.testBit 63 = decide (a / 2 ^ 63 % 2 = 1) := Nat.testBit_eq_decide_div_mod_eq
  rcases hc with h0 | h0
  · rw [h0, Nat.zero_mul, Nat.zero_testBit]
    by_cases hi : 63 = i
    · subst hi; rw [ht, h0]; rfl
    · simp [hi]
  · rw [h0, Nat.one_mul, Nat.testBit_two_pow]
    by_cases hi : 63 = i
    · subst hi; rw [ht, h0]; rfl
    · simp [hi]
theorem or_top (a : Nat) (h : a < 9223372036854775808) : a ||| 9223372036854775808 = a + 9223372036854775808 := by
  have e := Nat.two_pow_add_eq_or_of_lt (i := 63) (b := a) (by rw [show (2 : Nat) ^ 63 = 9223372036854775808 by decide]; exact h) 1
  rw [show (2 : Nat) ^ 63 = 9223372036854775808 by decide] at e
  rw [Nat.or_comm]; simp at e; omega
theorem xor_top_lo (a : Nat) (h : a < 9223372036854775808) : a ^^^ 9223372036854775808 = a + 9223372036854775808 := by
  rw [← or_top a h]
  apply Nat.eq_of_testBit_eq
  intro i
  rw [Nat.testBit_xor, Nat.testBit_or, show (9223372036854775808 : Nat) = 2 ^ 63 by decide, Nat.testBit_two_pow]
  by_cases hi : 63 = i
  · subst hi
    rw [Nat.testBit_lt_two_pow (by rw [show (2 : Nat) ^ 63 = 9223372036854775808 by decide]; exact h)]; rfl
  · simp [hi]
theorem xor_top_hi (a : Nat) (h : 9223372036854775808 ≤ a) (h2 : a < 18446744073709551616) : a ^^^ 9223372036854775808 = a - 9223372036854775808 := by
  have e := xor_top_lo (a - 9223372036854775808) (by omega)
  rw [show a - 9223372036854775808 + 9223372036854775808 = a by omega] at e
  generalize a - 9223372036854775808 = b at *
  rw [← e, Nat.xor_assoc, Nat.xor_self, Nat.xor_zero]
theorem andNot_top (a : Nat) : a &&& (18446744073709551615 - 9223372036854775808) = a % 9223372036854775808 := by
  have e := Nat.and_two_pow_sub_one_eq_mod a 63
  rw [show (2 : Nat) ^ 63 = 9223372036854775808 by decide] at e
  exact e

theorem u64_and_top (x : Int) (h0 : 0 ≤ x) (h1 : x < 18446744073709551616) : bits .and .u64 x 9223372036854775808 = x / 9223372036854775808 * 9223372036854775808 := by
  rw [u64_and x _ h0 h1 (by decide) (by decide), show (9223372036854775808 : Int).toNat = 9223372036854775808 from rfl, and_top _ (by omega)]; omega
theorem u64_or_top (x : Int) (h0 : 0 ≤ x) (h1 : x < 9223372036854775808) : bits .or .u64 x 9223372036854775808 = x + 9223372036854775808 := by
  rw [u64_or x _ h0 (by omega) (by decide) (by decide), show (9223372036854775808 : Int).toNat = 9223372036854775808 from rfl, or_top _ (by omega)]; omega
theorem u64_xor_lo (x : Int) (h0 : 0 ≤ x) (h1 : x < 9223372036854775808) : bits .xor .u64 x 9223372036854775808 = x + 9223372036854775808 := by
  rw [u64_xor x _ h0 (by omega) (by decide) (by decide), show (9223372036854775808 : Int).toNat = 9223372036854775808 from rfl, xor_top_lo _ (by omega)]; omega
theorem u64_xor_hi (x : Int) (h0 : 9223372036854775808 ≤ x) (h1 : x < 18446744073709551616) : bits .xor .u64 x 9223372036854775808 = x - 9223372036854775808 := by
  rw [u64_xor x _ (by omega) (by omega) (by decide) (by decide), show (9223372036854775808 : Int).toNat = 9223372036854775808 from rfl, xor_top_hi _ (by omega) (by omega)]; omega
theorem u64_not_top (x : Int) (h0 : 0 ≤ x) (h1 : x < 18446744073709551616) : bits .andNot .u64 x 9223372036854775808 = x % 9223372036854775808 := by
  rw [u64_andNot x _ h0 h1 (by decide) (by decide), show (9223372036854775808 : Int).toNat = 9223372036854775808 from rfl, andNot_top]; omega
theorem u64_flip (x : Int) (h0 : 0 ≤ x) (h1 : x < 18446744073709551616) : bits .xor .u64 IntKind.u64.max x = 18446744073709551615 - x := by
  rw [u64_xor _ x (by decide) (by decide) h0 h1, show (IntKind.u64.max).toNat = 2 ^ 64 - 1 from rfl]
  obtain ⟨n, rfl⟩ := Int.eq_ofNat_of_zero_le h0
  have hn : n < 2 ^ 64 := by rw [show (2 : Nat) ^ 64 = 18446744073709551616 by decide]; omega
  have e : (2 ^ 64 - 1) ^^^ n = 2 ^ 64 - 1 - n := by
    apply Nat.eq_of_testBit_eq
    intro i
    have e1 : 2 ^ 64 - 1 - n = 2 ^ 64 - (n + 1) := by omega
    rw [e1, Nat.testBit_two_pow_sub_succ hn, Nat.testBit_xor, Nat.testBit_two_pow_sub_one]
    by_cases hi : i < 64
    · simp [hi]
    · simp [hi]
      exact Nat.testBit_lt_two_pow (Nat.lt_of_lt_of_le hn (Nat.pow_le_pow_right (by decide) (by omega)))
  rw [Int.toNat_natCast, e]
  have : (2 : Nat) ^ 64 = 18446744073709551616 := by decide
  omega
end Go.Proofs.YtfcjdgjjicfheaaDoor.Top
