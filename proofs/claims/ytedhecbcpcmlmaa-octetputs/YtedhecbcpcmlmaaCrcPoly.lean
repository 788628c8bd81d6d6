/-
  CRC-32's sum as one long division: no Go, no program.
-/
import Derived.Test.YtedhecbcpcmlmaaCrcLin
import Derived.Test.YtedhecbcpcmlmaaOctMath
namespace Go.Proofs.Ytedhecbcpcmlmaa.Crc
open Oct

theorem moves_add (a b c : Nat) : moves (a + b) c = moves a (moves b c) := by
  induction a with
  | zero => simp [moves]
  | succ a ih => rw [Nat.succ_add]; show mstep _ = mstep _; rw [ih]
theorem moves_succ (k c : Nat) : moves (k + 1) c = moves k (mstep c) := moves_add k 1 c
theorem mstep_even (q : Nat) : mstep (2 * q) = q := by unfold mstep; rw [if_neg (by omega)]; omega
theorem moves_shift (k q : Nat) : moves k (2 ^ k * q) = q := by
  induction k generalizing q with
  | zero => simp [moves]
  | succ k ih => rw [moves_succ, Nat.pow_succ, Nat.mul_comm (2 ^ k) 2, Nat.mul_assoc, mstep_even, ih]
theorem moves_zero (k : Nat) : moves k 0 = 0 := by have := moves_shift k 0; simpa using this

theorem split_byte (r : Nat) : r = (r % 256) ^^^ (256 * (r / 256)) := by
  have h := Nat.two_pow_add_eq_or_of_lt (i := 8) (b := r % 256) (by omega) (r / 256)
  have h2 : (256 * (r / 256)) ||| (r % 256) = (256 * (r / 256)) ^^^ (r % 256) := by
    apply Nat.eq_of_testBit_eq
    intro i
    rw [Nat.testBit_or, Nat.testBit_xor]
    rw [show (256 : Nat) = 2 ^ 8 from rfl, Nat.testBit_two_pow_mul, Nat.testBit_mod_two_pow]
    by_cases hi : i < 8
    · have h8 : ¬ 8 ≤ i := by omega
      simp [hi, h8]
    · simp [hi]
  rw [show (2 : Nat) ^ 8 = 256 from rfl] at h
  rw [Nat.xor_comm, ← h2, ← h]; omega

theorem moves8 (r x : Nat) (_hx : x < 256) : moves 8 (r ^^^ x) = upd r x := by
  have e : r ^^^ x = ((r % 256) ^^^ x) ^^^ (2 ^ 8 * (r / 256)) := by
    conv => lhs; rw [split_byte r]
    rw [Nat.xor_assoc, Nat.xor_comm (256 * (r / 256)) x, ← Nat.xor_assoc]
  rw [e, moves_xor, moves_shift]; rfl

theorem leB_cons (c : UInt8) (l : List UInt8) : leB (c :: l) = c.toNat ^^^ (2 ^ 8 * leB l) := by
  show c.toNat + 256 * leB l = _
  have hc := c.toNat_lt
  have h := split_byte (c.toNat + 256 * leB l)
  rw [show (c.toNat + 256 * leB l) % 256 = c.toNat by omega, show (c.toNat + 256 * leB l) / 256 = leB l by omega] at h
  exact h

/-- The register behind a text: moves of the text as one number, laid over the register. -/
theorem run_moves : ∀ (l : List UInt8) (r : Nat), run r l = moves (8 * l.length) (leB l ^^^ r)
  | [], r => by simp [run, leB, moves]
  | c :: l, r => by
    have hc : c.toNat < 256 := c.toNat_lt
    show run (upd r c.toNat) l = _
    rw [run_moves l, show 8 * (c :: l).length = 8 * l.length + 8 by simp; omega, moves_add, leB_cons]
    congr 1
    rw [Nat.xor_assoc, Nat.xor_comm (2 ^ 8 * leB l) r, ← Nat.xor_assoc, Nat.xor_comm c.toNat r, moves_xor, moves_shift, moves8 r _ hc, Nat.xor_comm]

theorem more0_moves (l : List UInt8) : more 0 l = 4294967295 - moves (8 * l.length) (leB l ^^^ 4294967295) := by
  unfold more; rw [run_moves]

/-- One step of the division of a number of bits: where the bit is 1, the polynomial is laid there. -/
theorem div_step (i v : Nat) : (if v % 2 = 1 then (2 ^ i * v) ^^^ (2 ^ i * 7976584769) else 2 ^ i * v) = 2 ^ (i + 1) * mstep v := by
  have e0 : ∀ a b : Nat, (2 ^ i * a) ^^^ (2 ^ i * b) = 2 ^ i * (a ^^^ b) := fun a b => by
    rw [Nat.mul_comm (2 ^ i) a, Nat.mul_comm (2 ^ i) b, Nat.mul_comm (2 ^ i) (a ^^^ b), ← Nat.shiftLeft_eq, ← Nat.shiftLeft_eq, ← Nat.shiftLeft_eq, Nat.shiftLeft_xor_distrib]
  rw [Nat.pow_succ, Nat.mul_assoc]
  unfold mstep
  split
  · rename_i h
    rw [e0]
    congr 1
    have h1 : (v ^^^ 7976584769) / 2 = (v / 2) ^^^ 3988292384 := by rw [Nat.xor_div_two]
    have h2 : (v ^^^ 7976584769) % 2 = 0 := by rw [xor_mod2]; omega
    omega
  · congr 1; omega

theorem sum_lt (k v : Nat) (h : v < 2 ^ (k + 32)) : moves k v < 4294967296 := by
  induction k generalizing v with
  | zero => simpa [moves] using h
  | succ k ih =>
    rw [moves_succ]
    apply ih
    unfold mstep
    have hp : 2 ^ (k + 1 + 32) = 2 * 2 ^ (k + 32) := by rw [show k + 1 + 32 = (k + 32) + 1 by omega, Nat.pow_succ, Nat.mul_comm]
    split
    · refine Nat.xor_lt_two_pow (by omega) ?_
      exact Nat.lt_of_lt_of_le (by decide) (Nat.pow_le_pow_right (n := 2) (by omega) (show 32 ≤ k + 32 by omega))
    · omega
end Go.Proofs.Ytedhecbcpcmlmaa.Crc
