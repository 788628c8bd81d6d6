/-
  CRC-32 tells bursts of up to 32 bits: no Go, no program.
-/
import Derived.Test.YtedhecbcpcmlmaaCrcPoly
namespace Go.Proofs.Ytedhecbcpcmlmaa.Crc
open Oct

theorem mstep_ne {c : Nat} (h : c < 4294967296) (h0 : c ≠ 0) : mstep c ≠ 0 := by
  unfold mstep
  split
  · intro e
    have h1 : c / 2 = 3988292384 := by
      have := congrArg (· ^^^ 3988292384) e
      simpa [Nat.xor_assoc] using this
    omega
  · omega
theorem moves_ne (k : Nat) {c : Nat} (h : c < 4294967296) (h0 : c ≠ 0) : moves k c ≠ 0 := by
  induction k with
  | zero => exact h0
  | succ k ih => exact mstep_ne (moves_lt k h) ih

/-- A burst is told. -/
theorem burst_ne (k a M : Nat) (hM : M < 4294967296) (h0 : M ≠ 0) : moves k (2 ^ a * M) ≠ 0 := by
  by_cases h : a ≤ k
  · have e : k = (k - a) + a := by omega
    rw [e, moves_add, moves_shift]
    exact moves_ne _ hM h0
  · have e : 2 ^ a * M = 2 ^ k * (2 ^ (a - k) * M) := by
      rw [← Nat.mul_assoc, ← Nat.pow_add]; congr 2; omega
    rw [e, moves_shift]
    have := Nat.two_pow_pos (a - k)
    exact Nat.mul_ne_zero (by omega) h0

theorem leB_app (l m : List UInt8) : leB (l ++ m) = leB l ^^^ 2 ^ (8 * l.length) * leB m := by
  induction l with
  | nil => simp [leB]
  | cons c l ih =>
    rw [List.cons_append, leB_cons, leB_cons, ih, Nat.xor_assoc]
    congr 1
    have e : 2 ^ 8 * (2 ^ (8 * l.length) * leB m) = 2 ^ (8 * (c :: l).length) * leB m := by
      rw [← Nat.mul_assoc, ← Nat.pow_add]; congr 2; simp; omega
    rw [← e, Nat.mul_comm (2 ^ 8), Nat.mul_comm (2 ^ 8), Nat.mul_comm (2 ^ 8), ← Nat.shiftLeft_eq, ← Nat.shiftLeft_eq, ← Nat.shiftLeft_eq, Nat.shiftLeft_xor_distrib]

/-- A sealed text p ++ q that was changed into p' ++ q': it is opened just where the change, moved, is 0. -/
theorem told (p q p' q' : List UInt8) (hl : p'.length = p.length) (hq : leB q = more 0 p) : leB q' = more 0 p' ↔ moves (8 * p.length) (leB (p' ++ q') ^^^ leB (p ++ q)) = 0 := by
  have e1 : leB (p' ++ q') ^^^ leB (p ++ q) = (leB p' ^^^ leB p) ^^^ 2 ^ (8 * p.length) * (leB q' ^^^ leB q) := by
    rw [leB_app, leB_app, hl, xor4]
    congr 1
    rw [Nat.mul_comm (2 ^ _), Nat.mul_comm (2 ^ _), Nat.mul_comm (2 ^ _), ← Nat.shiftLeft_eq, ← Nat.shiftLeft_eq, ← Nat.shiftLeft_eq, Nat.shiftLeft_xor_distrib]
  rw [e1, moves_xor, moves_shift, hq, more0, more0, run_moves, run_moves, hl]
  have e2 : moves (8 * p.length) (leB p' ^^^ leB p) = moves (8 * p.length) (leB p' ^^^ 4294967295) ^^^ moves (8 * p.length) (leB p ^^^ 4294967295) := by
    rw [← moves_xor, xor4, Nat.xor_self, Nat.xor_zero]
  rw [e2]
  generalize moves (8 * p.length) (leB p' ^^^ 4294967295) = x
  generalize moves (8 * p.length) (leB p ^^^ 4294967295) = y
  generalize leB q' = z
  generalize 4294967295 = u
  have e3 : (x ^^^ y) ^^^ (z ^^^ (u ^^^ y)) = z ^^^ (u ^^^ x) := by
    rw [← Nat.xor_assoc z, xor4, Nat.xor_self, Nat.xor_zero, Nat.xor_comm x, Nat.xor_assoc]
  rw [e3]
  constructor
  · intro h; rw [h, Nat.xor_self]
  · intro h
    have := congrArg (· ^^^ (u ^^^ x)) h
    simpa [Nat.xor_assoc] using this
end Go.Proofs.Ytedhecbcpcmlmaa.Crc
