/-
  Contract of the reference's sum, by dividing polynomials.
-/
import Derived.Test.YtedhecbcpcmlmaaRef2
namespace Go.Proofs.Ytedhecbcpcmlmaa
open Go.RowKit

theorem bit_val (B i : Nat) : B / 2 ^ i % 2 = (B.testBit i).toNat := (Nat.toNat_testBit B i).symm
theorem flip_bit (B j i : Nat) : (B ^^^ 2 ^ j) / 2 ^ i % 2 = if i = j then 1 - B / 2 ^ j % 2 else B / 2 ^ i % 2 := by
  rw [bit_val, bit_val, bit_val, Nat.testBit_xor, Nat.testBit_two_pow]
  split
  · rename_i h; subst h; cases B.testBit i <;> simp
  · rename_i h
    have : ¬ j = i := fun e => h e.symm
    simp [this]
theorem bit_le (B i : Nat) : B / 2 ^ i % 2 ≤ 1 := by omega

theorem Sl.Has.flip {w : World} {g cap N B j : Nat} (h : Sl.Has w g cap (bitC N B)) (hj : j < N) {x : Int} (hx : x = ((1 - B / 2 ^ j % 2 : Nat) : Int)) : Sl.Has (w.setCell ⟨g, j, none⟩ (.int .i64 x)) g cap (bitC N (B ^^^ 2 ^ j)) := by
  subst hx
  have hc := h.holds j _ (bitC_at N B j hj)
  refine ⟨by rw [World.size_setCell]; exact h.lt, by have := h.le; rw [bitC_length] at this ⊢; exact this, h.max, fun i u hu => ?_, fun i hi => ?_⟩
  · have hi : i < N := by have := (List.getElem?_eq_some_iff.1 hu).1; rwa [bitC_length] at this
    rw [bitC_at N _ i hi] at hu
    injection hu with hu
    subst hu
    rw [flip_bit]
    by_cases e : i = j
    · subst e; rw [if_pos rfl]; exact World.cell?_setCell_same _ _ _ hc
    · rw [if_neg e, World.cell?_setCell_other _ _ _ _ (by intro h; injection h with _ h2 _; exact e h2.symm)]
      exact h.holds i _ (bitC_at N B i hi)
  · refine ⟨?_, by rw [World.frozen?_setCell]; exact (h.there i hi).2⟩
    by_cases e : i = j
    · subst e; rw [World.cell?_setCell_same _ _ _ hc]; rfl
    · rw [World.cell?_setCell_other _ _ _ _ (by intro h; injection h with _ h2 _; exact e h2.symm)]; exact (h.there i hi).1

/-- The powers of the polynomial, as the reference lists them. -/
def pows : List Nat := [32, 26, 23, 22, 16, 12, 11, 10, 8, 7, 5, 4, 2, 1, 0]
/-- The first of them laid over each other. -/
def pre (j : Nat) : Nat := ((pows.take j).map fun p => 2 ^ (32 - p)).foldl (· ^^^ ·) 0
theorem pre_last : pre 15 = 7976584769 := by decide +kernel
theorem pows_le (j : Nat) (h : j < 15) : pows.getD j 0 ≤ 32 := by
  have : ∀ j : Fin 15, pows.getD j 0 ≤ 32 := by decide
  exact this ⟨j, h⟩
theorem pre_next (j : Nat) (h : j < 15) : pre (j + 1) = pre j ^^^ 2 ^ (32 - pows.getD j 0) := by
  have : ∀ j : Fin 15, pre (j + 1) = pre j ^^^ 2 ^ (32 - pows.getD j 0) := by decide +kernel
  exact this ⟨j, h⟩
theorem lay_next (B i j : Nat) (h : j < 15) : (B ^^^ 2 ^ i * pre j) ^^^ 2 ^ (i + 32 - pows.getD j 0) = B ^^^ 2 ^ i * pre (j + 1) := by
  have hp := pows_le j h
  rw [pre_next j h, Nat.xor_assoc]
  congr 1
  have e : 2 ^ (i + 32 - pows.getD j 0) = 2 ^ i * 2 ^ (32 - pows.getD j 0) := by rw [← Nat.pow_add]; congr 1; omega
  rw [e, Nat.mul_comm (2 ^ i), Nat.mul_comm (2 ^ i), Nat.mul_comm (2 ^ i), ← Nat.shiftLeft_eq, ← Nat.shiftLeft_eq, ← Nat.shiftLeft_eq, Nat.shiftLeft_xor_distrib]
theorem ones_next (B k : Nat) : (B ^^^ (2 ^ k - 1)) ^^^ 2 ^ k = B ^^^ (2 ^ (k + 1) - 1) := by
  rw [Nat.xor_assoc]
  congr 1
  apply Nat.eq_of_testBit_eq
  intro i
  rw [Nat.testBit_xor, Nat.testBit_two_pow_sub_one, Nat.testBit_two_pow_sub_one, Nat.testBit_two_pow]
  by_cases h1 : i < k
  · have h2 : ¬ k = i := by omega
    have h3 : i < k + 1 := by omega
    simp [h1, h2, h3]
  · by_cases h2 : k = i
    · subst h2; simp
    · have h3 : ¬ i < k + 1 := by omega
      simp [h1, h2, h3]
theorem shift_bit (i V : Nat) : 2 ^ i * V / 2 ^ i % 2 = V % 2 := by rw [Nat.mul_div_cancel_left _ (Nat.two_pow_pos i)]
theorem shift_bits (n k V : Nat) : 2 ^ n * V / 2 ^ (n + k) % 2 = V / 2 ^ k % 2 := by
  rw [Nat.pow_add, ← Nat.div_div_eq_div_mul, Nat.mul_div_cancel_left _ (Nat.two_pow_pos n)]
theorem not_bit (V k : Nat) (hV : V < 4294967296) (hk : k < 32) : 1 - V / 2 ^ k % 2 = (4294967295 - V) / 2 ^ k % 2 := by
  rw [Crc.not_xor hV, bit_val, bit_val, Nat.testBit_xor]
  have : Nat.testBit 4294967295 k = true := by
    have h : (4294967295 : Nat) = 2 ^ 32 - 1 := rfl
    rw [h, Nat.testBit_two_pow_sub_one]; simpa using hk
  rw [this]
  cases V.testBit k <;> rfl
theorem up_bit (C k : Nat) : C / 2 ^ (k + 1) * 2 + C / 2 ^ k % 2 = C / 2 ^ k := by
  rw [Nat.pow_succ, ← Nat.div_div_eq_div_mul]; omega
end Go.Proofs.Ytedhecbcpcmlmaa
