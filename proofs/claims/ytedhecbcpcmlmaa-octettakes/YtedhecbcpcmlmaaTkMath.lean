/-
  Layer 1: numbers by all spellings, as the document says them: mathematics.
-/
import Derived.Test.YtedhecbcpcmlmaaIn4
namespace Go.Proofs.Ytedhecbcpcmlmaa
open Go.RowKit

/-- How many bytes lead on, from k on; at most nine. -/
def lead : Nat → List UInt8 → Nat
  | k, [] => k
  | k, c :: l => if k < 9 ∧ 128 ≤ c.toNat then lead (k + 1) l else k
/-- Seven bits a byte, the lowest first. -/
def dig : List UInt8 → Nat
  | [] => 0
  | c :: l => c.toNat % 128 + 128 * dig l
theorem lead_ge : ∀ (l : List UInt8) (k : Nat), k ≤ lead k l ∧ lead k l ≤ k + l.length
  | [], k => ⟨Nat.le_refl _, Nat.le_refl _⟩
  | c :: l, k => by
    unfold lead
    split
    · have := lead_ge l (k + 1)
      simp only [List.length_cons]
      omega
    · exact ⟨Nat.le_refl _, by simp⟩
theorem lead_nine : ∀ (l : List UInt8) (k : Nat), k ≤ 9 → lead k l ≤ 9
  | [], k, h => h
  | c :: l, k, h => by
    unfold lead
    split
    · rename_i h1; exact lead_nine l (k + 1) (by omega)
    · exact h
theorem lead_stop {k : Nat} {c : UInt8} {l : List UInt8} (h : ¬ (k < 9 ∧ 128 ≤ c.toNat)) : lead k (c :: l) = k := by unfold lead; rw [if_neg h]
theorem lead_go {k : Nat} {c : UInt8} {l : List UInt8} (h : k < 9 ∧ 128 ≤ c.toNat) : lead k (c :: l) = lead (k + 1) l := by
  show (if k < 9 ∧ 128 ≤ c.toNat then lead (k + 1) l else k) = _
  rw [if_pos h]
/-- The document's number out of bytes, from k on. -/
def numK (k acc : Nat) (l : List UInt8) : Nat × Nat × Nat :=
  if lead k l = k + l.length then (0, 0, 1)
  else if lead k l = 9 ∧ 1 < (l.getD (lead k l - k) 0).toNat then (0, 0, 2)
  else if 0 < lead k l ∧ (l.getD (lead k l - k) 0).toNat = 0 then (0, 0, 2)
  else (acc + dig (l.take (lead k l - k + 1)) * 128 ^ k, lead k l + 1, 0)
theorem first_numK : ∀ (l : List UInt8) (k acc : Nat), k ≤ 9 → first k acc l = numK k acc l
  | [], k, acc, _ => by
    unfold numK
    rw [if_pos (by simp [lead])]
    rfl
  | c :: l, k, acc, hk => by
    by_cases h : k < 9 ∧ 128 ≤ c.toNat
    · rw [first_go k acc c l (by omega) (by omega) (by omega), first_numK l (k + 1) _ (by omega)]
      have hg := (lead_ge l (k + 1)).1
      unfold numK
      rw [lead_go h]
      have e : lead (k + 1) l - k = lead (k + 1) l - (k + 1) + 1 := by omega
      rw [e]
      simp only [List.length_cons, List.getD_cons_succ, List.take_succ_cons, dig]
      have e2 : k + 1 + l.length = k + (l.length + 1) := by omega
      rw [e2]
      split
      · rfl
      · split
        · rfl
        · split
          · rfl
          · congr 1
            rw [Nat.pow_succ, Nat.add_mul, Nat.add_assoc]
            congr 1
            have : c.toNat % 128 * 128 ^ k + dig (List.take (lead (k + 1) l - (k + 1) + 1) l) * (128 ^ k * 128) = c.toNat % 128 * 128 ^ k + 128 * dig (List.take (lead (k + 1) l - (k + 1) + 1) l) * 128 ^ k := by
              congr 1
              rw [Nat.mul_comm 128 (dig _), Nat.mul_assoc, Nat.mul_comm 128 (128 ^ k)]
            exact this
    · have hs := lead_stop (l := l) h
      unfold numK
      rw [hs, Nat.sub_self]
      simp only [List.length_cons, List.getD_cons_zero]
      rw [if_neg (by omega)]
      by_cases h9 : k = 9 ∧ 1 < c.toNat
      · rw [if_pos h9]
        obtain ⟨rfl, h9⟩ := h9
        exact first_hi acc c l h9
      · rw [if_neg h9]
        by_cases h0 : 0 < k ∧ c.toNat = 0
        · rw [if_pos h0, first_zero k acc c l h0.1 h0.2]
        · rw [if_neg h0, first_end k acc c l h9 h0 (by omega)]
          simp [dig]
/-- The digits from i on, up to one. -/
theorem dig_lt : ∀ l : List UInt8, dig l < 128 ^ l.length
  | [] => by simp [dig]
  | c :: l => by
    have := dig_lt l
    simp only [dig, List.length_cons, Nat.pow_succ]
    omega
end Go.Proofs.Ytedhecbcpcmlmaa
