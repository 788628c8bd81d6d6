/-
  CRC-32 tells one to three flipped bits: no Go, no program.
-/
import Derived.Test.YtedhecbcpcmlmaaCrcErr
import Derived.Test.YtedhecbcpcmlmaaCrcTab
namespace Go.Proofs.Ytedhecbcpcmlmaa.Crc

/-- The change of these bits. -/
def flips : List Nat → Nat
  | [] => 0
  | i :: is => 2 ^ i ^^^ flips is
theorem flips_append (l : List Nat) (i : Nat) : flips (l ++ [i]) = flips l ^^^ 2 ^ i := by
  induction l with
  | nil => simp [flips]
  | cons j l ih => rw [List.cons_append, flips, flips, ih, Nat.xor_assoc]

theorem moves_pow (T i : Nat) (h : i ≤ T) : moves T (2 ^ i) = moves (T - i) 1 := by
  have e : T = (T - i) + i := by omega
  conv => lhs; rw [e, moves_add]
  have := moves_shift i 1
  rw [Nat.mul_one] at this
  rw [this]
theorem one_lt : (1 : Nat) < 4294967296 := by decide
theorem xor_zero_eq {a b : Nat} (h : a ^^^ b = 0) : a = b := by
  have := congrArg (· ^^^ b) h
  simpa [Nat.xor_assoc] using this
theorem half_xor1 {a b : Nat} (h : 1 ^^^ (a ^^^ b) = 0) : a / 2 = b / 2 := by
  have e : a = b ^^^ 1 := by
    have h2 := xor_zero_eq h
    rw [h2, ← Nat.xor_assoc, Nat.xor_comm b a, Nat.xor_assoc, Nat.xor_self, Nat.xor_zero]
  rw [e]
  have := Nat.xor_div_two_pow (a := b) (b := 1) (n := 1)
  simpa using this

theorem three_min {a b c : Nat} (hab : a ≤ b) (hac : a ≤ c) (hb : b < 9632) (hc : c < 9632) (h : moves a 1 ^^^ (moves b 1 ^^^ moves c 1) = 0) : b = c := by
  have eb : moves b 1 = moves a (moves (b - a) 1) := by rw [← moves_add]; congr 1; omega
  have ec : moves c 1 = moves a (moves (c - a) 1) := by rw [← moves_add]; congr 1; omega
  rw [eb, ec, ← moves_xor, ← moves_xor] at h
  have hlt : 1 ^^^ (moves (b - a) 1 ^^^ moves (c - a) 1) < 4294967296 :=
    Nat.xor_lt_two_pow (n := 32) one_lt (Nat.xor_lt_two_pow (n := 32) (moves_lt _ one_lt) (moves_lt _ one_lt))
  by_cases h0 : 1 ^^^ (moves (b - a) 1 ^^^ moves (c - a) 1) = 0
  · have := apart (b - a) (c - a) (by omega) (by omega) (half_xor1 h0)
    omega
  · exact absurd h (moves_ne a hlt h0)

theorem flips_ne (k : Nat) (hk : k ≤ 9600) : ∀ l : List Nat, l ≠ [] → l.length ≤ 3 → l.Nodup → (∀ i ∈ l, i < k + 32) → moves k (flips l) ≠ 0 := by
  intro l hne hl hnd hlt h
  have h1 : moves (k + 31) (flips l) = 0 := by
    rw [Nat.add_comm, moves_add, h, moves_zero]
  clear h
  rcases l with _ | ⟨a, _ | ⟨b, _ | ⟨c, _ | ⟨d, l⟩⟩⟩⟩
  · exact hne rfl
  · have ha := hlt a (by simp)
    simp only [flips, Nat.xor_zero] at h1
    rw [moves_pow _ _ (by omega)] at h1
    exact moves_ne _ one_lt (by decide) h1
  · have ha := hlt a (by simp)
    have hb := hlt b (by simp)
    have hab : a ≠ b := by simpa using hnd
    simp only [flips, Nat.xor_zero] at h1
    rw [moves_xor, moves_pow _ _ (by omega), moves_pow _ _ (by omega)] at h1
    have := apart _ _ (by omega) (by omega) (congrArg (· / 2) (xor_zero_eq h1))
    omega
  · have ha := hlt a (by simp)
    have hb := hlt b (by simp)
    have hc := hlt c (by simp)
    obtain ⟨hab, hac, hbc⟩ : a ≠ b ∧ a ≠ c ∧ b ≠ c := by
      simp at hnd; exact ⟨hnd.1.1, hnd.1.2, hnd.2⟩
    simp only [flips, Nat.xor_zero] at h1
    rw [moves_xor, moves_xor, moves_pow _ _ (by omega), moves_pow _ _ (by omega), moves_pow _ _ (by omega)] at h1
    have h2 : moves (k + 31 - b) 1 ^^^ (moves (k + 31 - a) 1 ^^^ moves (k + 31 - c) 1) = 0 := by
      rw [← h1, ← Nat.xor_assoc, ← Nat.xor_assoc, Nat.xor_comm (moves (k + 31 - b) 1)]
    have h3 : moves (k + 31 - c) 1 ^^^ (moves (k + 31 - a) 1 ^^^ moves (k + 31 - b) 1) = 0 := by
      rw [← h1, Nat.xor_comm, Nat.xor_assoc]
    by_cases m1 : b ≤ a ∧ c ≤ a
    · have := three_min (by omega) (by omega) (by omega) (by omega) h1
      omega
    · by_cases m2 : a ≤ b ∧ c ≤ b
      · have := three_min (by omega) (by omega) (by omega) (by omega) h2
        omega
      · have := three_min (by omega) (by omega) (by omega) (by omega) h3
        omega
  · simp at hl
end Go.Proofs.Ytedhecbcpcmlmaa.Crc
